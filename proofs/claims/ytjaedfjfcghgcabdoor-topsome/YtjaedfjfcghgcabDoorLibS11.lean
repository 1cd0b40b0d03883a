/-
  Proved: what form.Holds returns, of any formula and any world; what was in memory is as it was (a contract that the statements lean on).
  Proved: what some.check and some.sought return, of any formula, any name and any world; what was in memory is as it was (contracts that the statements lean on).
  Proved: what some.Is, some.Each and some.First return, of any formula, any name and any world; what was in memory is as it was (contracts that the statements lean on).
-/
import Derived.Test.YtjaedfjfcghgcabDoorLibS8
import Derived.Test.YtjaedfjfcghgcabDoorLibS9
import Derived.Test.YtjaedfjfcghgcabDoorLibS10
import Derived.Test.YtjaedfjfcghgcabDoorLibS7
import Derived.Deep.Cut
import Derived.OwnWalk
namespace Go.Proofs.YtjaedfjfcghgcabDoor
open Go.ChangeShapes Go.WideShapes Go.ChangeAt Go.RowKit
set_option maxRecDepth 100000

theorem fholds_bad (va vc : Value) (ats : List At) (c : List Int) (u a b d : Int) (w : World) (hA : ReadsA w va ats) (hC : Reads w vc c) (hK : KindsLaid w) (hf : ¬ formFault ats c = 0) :
    Calls Tryd.prog 8 #[.agg #[va, vc], .agg #[.int .i64 u, .int .i64 a, .int .i64 b, .int .i64 d]] w fun e w' => e = .returned (.tuple #[.bool false, .iface 58 (.int .i64 (formFault ats c))]) ∧ Below w.heap.size w w' := by
  obtain ⟨ao, acap, rfl, _⟩ := hA.slice
  obtain ⟨co, ccap, rfl, _⟩ := hC.slice
  obtain ⟨w1, hw1⟩ : ∃ w1, w1 = (w.alloc (.cells #[.slice ao ats.length acap, .slice co c.length ccap] 25)).alloc (.cells #[.int .i64 u, .int .i64 a, .int .i64 b, .int .i64 d] 28) := ⟨_, rfl⟩
  have HB1 : Hid (Below w.heap.size w w1) := by unfold Hid; rw [hw1]; exact (below_alloc1 _ _).trans ((below_alloc1 _ _).mono (by simp))
  have HC : Hid (Calls Tryd.prog 17 #[.agg #[.slice ao ats.length acap, .slice co c.length ccap]] w1 fun e w' => e = .returned (.iface 58 (.int .i64 (formFault ats c))) ∧ Below w1.heap.size w1 w') := by
    have := fcheck_any _ _ ats c w1 (hA.below HB1.out) (hC.below HB1.out) (hK.below HB1.out)
    rw [errV_no hf] at this
    exact this
  clear hA hC hK
  obtain ⟨F, hF⟩ : ∃ F, F = formFault ats c := ⟨_, rfl⟩
  rw [← hF] at HC ⊢
  clear hF hf
  obtain ⟨m, hm⟩ : ∃ m, m = ats.length := ⟨_, rfl⟩
  obtain ⟨n, hn⟩ : ∃ n, n = c.length := ⟨_, rfl⟩
  rw [← hm, ← hn] at HC hw1 ⊢
  clear hm hn
  have x0 : ((w.alloc (.cells #[.slice ao m acap, .slice co n ccap] 25)).alloc (.cells #[.int .i64 u, .int .i64 a, .int .i64 b, .int .i64 d] 28)).cell? ⟨w.heap.size, 0, none⟩ = some (.slice ao m acap) := by
    rw [World.cell?_alloc_lt _ _ ⟨w.heap.size, 0, none⟩ (by simp)]; simp
  have x1 : ((w.alloc (.cells #[.slice ao m acap, .slice co n ccap] 25)).alloc (.cells #[.int .i64 u, .int .i64 a, .int .i64 b, .int .i64 d] 28)).cell? ⟨w.heap.size, 1, none⟩ = some (.slice co n ccap) := by
    rw [World.cell?_alloc_lt _ _ ⟨w.heap.size, 1, none⟩ (by simp)]; simp
  go_enter Tryd.func8, Tryd.ntmps8
  go_wp2_with fail
  rw [← hw1]
  clear hw1 x0 x1
  go_at_call 17
  refine HC.out.mono ?_
  rintro e w2 ⟨rfl, hb⟩
  have HB2 : Hid (Below w.heap.size w w2) := HB1.out.trans (hb.mono HB1.out.size)
  clear hb
  go_wp2
  go_ret2
  exact ⟨rfl, HB2.out⟩

/-- all that Holds walks over, of a right formula. -/
theorem fholds_right (ao co : Option Addr) (acap ccap : Nat) (ats : List At) (c : List Int) (u a b d : Int) (w : World) (hA : ReadsA w (.slice ao ats.length acap) ats) (hC : Reads w (.slice co c.length ccap) c) (hK : KindsLaid w) (hf : formFault ats c = 0) (ok : Bool) (hok : (Wd.mk u a b d).ok = ok) :
    Calls Tryd.prog 8 #[.agg #[.slice ao ats.length acap, .slice co c.length ccap], .agg #[.int .i64 u, .int .i64 a, .int .i64 b, .int .i64 d]] w fun e w' => (if ok = true then e = .returned (.tuple #[.bool (valF ((Wd.mk u a b d).heldL ats) c), .nilIface]) else e = .returned (.tuple #[.bool false, .iface 58 (.int .i64 1)])) ∧ Below w.heap.size w w' := by
  obtain ⟨i0, hi, hz0, hz1, hz2⟩ := info_parts infoBool
  obtain ⟨⟨m1, m6⟩, ⟨n1, n20⟩, hall, hsg, hone⟩ := formFault_zero.1 hf
  obtain ⟨w1, hw1⟩ : ∃ w1, w1 = (w.alloc (.cells #[.slice ao ats.length acap, .slice co c.length ccap] 25)).alloc (.cells #[.int .i64 u, .int .i64 a, .int .i64 b, .int .i64 d] 28) := ⟨_, rfl⟩
  have HB1 : Hid (Below w.heap.size w w1) := by unfold Hid; rw [hw1]; exact (below_alloc1 _ _).trans ((below_alloc1 _ _).mono (by simp))
  have HS1 : Hid (w1.heap.size = w.heap.size + 2) := by unfold Hid; rw [hw1]; simp
  have HCk : Hid (Calls Tryd.prog 17 #[.agg #[.slice ao ats.length acap, .slice co c.length ccap]] w1 fun e w' => e = .returned .nilIface ∧ Below w1.heap.size w1 w') := by
    have := fcheck_any _ _ ats c w1 (hA.below HB1.out) (hC.below HB1.out) (hK.below HB1.out)
    rw [hf, errV_0] at this
    exact this
  have HA : Hid (ReadsA w1 (.slice ao ats.length acap) ats) := hA.below HB1.out
  have HC : Hid (Reads w1 (.slice co c.length ccap) c) := hC.below HB1.out
  have HK : Hid (KindsLaid w1) := hK.below HB1.out
  clear hA hC hK
  have HX : Hid (∀ W, Below w1.heap.size w1 W → (W.cell? ⟨w.heap.size, 0, none⟩ = some (.slice ao ats.length acap) ∧ W.cell? ⟨w.heap.size, 1, none⟩ = some (.slice co c.length ccap)) ∧ (W.cell? ⟨w.heap.size + 1, 0, none⟩ = some (.int .i64 u) ∧ W.cell? ⟨w.heap.size + 1, 1, none⟩ = some (.int .i64 a) ∧ W.cell? ⟨w.heap.size + 1, 2, none⟩ = some (.int .i64 b) ∧ W.cell? ⟨w.heap.size + 1, 3, none⟩ = some (.int .i64 d))) := fun W hc => by
    have l0 : w.heap.size < w1.heap.size := by have := HS1.out; omega
    have l1 : w.heap.size + 1 < w1.heap.size := by have := HS1.out; omega
    have e0 : ∀ j, W.cell? ⟨w.heap.size, j, none⟩ = w1.cell? ⟨w.heap.size, j, none⟩ := fun j => hc.cell (show (⟨w.heap.size, j, none⟩ : Addr).block < _ from l0)
    have e1 : ∀ j, W.cell? ⟨w.heap.size + 1, j, none⟩ = w1.cell? ⟨w.heap.size + 1, j, none⟩ := fun j => hc.cell (show (⟨w.heap.size + 1, j, none⟩ : Addr).block < _ from l1)
    simp only [e0, e1]
    rw [hw1]
    have q : w.heap.size + 1 = (w.alloc (.cells #[.slice ao ats.length acap, .slice co c.length ccap] 25)).heap.size := by simp
    have r : ∀ o j, ((w.alloc (.cells #[.slice ao ats.length acap, .slice co c.length ccap] 25)).alloc o).cell? ⟨w.heap.size, j, none⟩ = (w.alloc (.cells #[.slice ao ats.length acap, .slice co c.length ccap] 25)).cell? ⟨w.heap.size, j, none⟩ := fun o j => World.cell?_alloc_lt _ _ ⟨w.heap.size, j, none⟩ (by simp)
    simp only [r]
    rw [q]
    simp
  have HH : Hid (∀ (x : At) vs vt W, x ∈ ats → Reads W vs x.s → Reads W vt x.t → Below w1.heap.size w1 W → Calls Tryd.prog 18 #[.agg #[.int .i64 x.k, vs, vt, .int .i64 x.n], .agg #[.int .i64 u, .int .i64 a, .int .i64 b, .int .i64 d]] W fun e w' => e = .returned (.tuple #[.bool (if ok = true then (Wd.mk u a b d).holds x.k x.s x.t x.n else false), if ok = true then .nilIface else .iface 58 (.int .i64 1)]) ∧ Below W.heap.size W w') := fun x vs vt W hx h1 h2 hW => by
    have := aholds_any x.k x.n vs vt x.s x.t u a b d W h1 h2 (HK.out.below hW)
    have hxf : atomFault x.k x.s x.t x.n = 0 := hall x hx
    have e0 : (Wd.mk u a b d).holdsFault x.k x.s x.t x.n = if ok = true then 0 else 1 := by unfold Wd.holdsFault; rw [if_pos hxf, hok]
    have e1 : (Wd.mk u a b d).holdsIs x.k x.s x.t x.n = if ok = true then (Wd.mk u a b d).holds x.k x.s x.t x.n else false := by
      unfold Wd.holdsIs; rw [e0]; cases ok <;> rfl
    rw [e0, e1] at this
    cases ok <;> exact this
  have HWk : Hid (∀ G W, ok = true → Below w1.heap.size w1 W → ReadsB W G 0 ((Wd.mk u a b d).heldL ats) → Calls Tryd.prog 19 #[.slice co c.length ccap, .slice (some ⟨G, 0, none⟩) ats.length ats.length] W fun e w' => e = .returned (.bool (valF ((Wd.mk u a b d).heldL ats) c)) ∧ Below W.heap.size W w') := fun G W _ hW hR => by
    have hlen : ((Wd.mk u a b d).heldL ats).length = ats.length := by simp [Wd.heldL]
    rcases HC.out.below hW with ⟨_, _, hv, hcn⟩ | ⟨B, off, cap, hv, hb, _, _, hc⟩
    · rw [hcn] at n1; simp at n1
    cases hv
    have := fwork_any c B off ccap ((Wd.mk u a b d).heldL ats) G 0 ats.length W (by rw [hlen]; exact hsg) hone n20 (by rw [hlen]; exact m6) hb hc hR
    rw [hlen] at this
    exact this
  clear hall hsg hone hf hok
  obtain ⟨Hd, hHd⟩ : ∃ Hd : At → Bool, Hd = fun x => (Wd.mk u a b d).holds x.k x.s x.t x.n := ⟨_, rfl⟩
  have HHd : Hid ((Wd.mk u a b d).heldL ats = ats.map Hd) := by unfold Hid; rw [hHd]; rfl
  have HH' : Hid (∀ (x : At) vs vt W, x ∈ ats → Reads W vs x.s → Reads W vt x.t → Below w1.heap.size w1 W → Calls Tryd.prog 18 #[.agg #[.int .i64 x.k, vs, vt, .int .i64 x.n], .agg #[.int .i64 u, .int .i64 a, .int .i64 b, .int .i64 d]] W fun e w' => e = .returned (.tuple #[.bool (if ok = true then Hd x else false), if ok = true then .nilIface else .iface 58 (.int .i64 1)]) ∧ Below W.heap.size W w') := by
    rw [hHd]; exact HH
  rw [HHd.out] at HWk ⊢
  obtain ⟨V, hV⟩ : ∃ V, V = valF (ats.map Hd) c := ⟨_, rfl⟩
  rw [← hV] at HWk ⊢
  clear hHd HH hV HHd
  obtain ⟨m, hm⟩ : ∃ m, m = ats.length := ⟨_, rfl⟩
  obtain ⟨n, hn⟩ : ∃ n, n = c.length := ⟨_, rfl⟩
  rw [← hm] at m1 m6 HCk HA HX HWk hw1 ⊢
  rw [← hn] at n1 n20 HCk HX HWk hw1 HC ⊢
  have HM : Hid (m = ats.length) := hm
  clear hm hn
  obtain ⟨f, hf⟩ : ∃ f : Nat → Value, f = fun j => .bool ((ats.map Hd).getD j false) := ⟨_, rfl⟩
  have HF : Hid (f = fun j => .bool ((ats.map Hd).getD j false)) := hf
  clear hf
  obtain ⟨⟨x0, x1⟩, ⟨y0, y1, y2, y3⟩⟩ := HX.out w1 (Below.refl _ _)
  rw [hw1] at x0 x1 y0 y1 y2 y3
  go_enter Tryd.func8, Tryd.ntmps8
  go_wp2_with fail
  rw [← hw1]
  clear hw1 x0 x1 y0 y1 y2 y3
  go_at_call 17
  refine HCk.out.mono ?_
  rintro e w2 ⟨rfl, hb⟩
  have HB2 : Hid (Below w1.heap.size w1 w2) := hb
  clear hb HCk
  obtain ⟨⟨x0, x1⟩, ⟨y0, y1, y2, y3⟩⟩ := HX.out w2 HB2.out
  obtain ⟨G, hG⟩ : ∃ G, G = w2.heap.size := ⟨_, rfl⟩
  have HG : Hid (G = w2.heap.size) := hG
  go_wp2_with (first | (at_make; refine wpList_make_full _ rfl _ _ 55 rfl G 4 i0 (.bool false) 1 Tryd.underlying55 hi hz0 hz1 .i64 .i64 _ _ m rfl rfl ?m0 ?m1 ?m2 ?m3 ?m4 ?_))
  case m0 => rfl
  case m1 => rfl
  case m2 => rw [hz2]; omega
  case m3 => unfold maxLen; omega
  case m4 => omega
  intro w3 hown1 hgrow1
  have HO : Hid (w3.ownsRow G 4 1 (.slice (some ⟨G, 0, none⟩) m m) m (fill f (.bool false) m 0) ∧ Below G w2 w3) := by
    refine ⟨?_, ?_⟩
    · rw [fill_zero, ← toList_madeCells_one, hG]
      simpa [Value.cells, hG] using hown1
    · exact (Below.refl _ _).grown hgrow1 (by omega) (fun k hk => by cases hk)
  rw [← hG]
  clear hown1 hgrow1 hG x0 x1 y0 y1 y2 y3
  have HB3 : Hid (∀ W, Below G w2 W → Below w1.heap.size w1 W) := fun W h => HB2.out.trans (h.mono (by rw [HG.out]; exact HB2.out.size))
  obtain ⟨⟨x0, x1⟩, ⟨y0, y1, y2, y3⟩⟩ := HX.out w3 (HB3.out _ HO.out.2)
  go_wp2
  go_loopw [24] (fun i wr => ∃ k : Nat, k ≤ m ∧ i = .int .i64 k ∧ wr.ownsRow G 4 1 (.slice (some ⟨G, 0, none⟩) m m) m (fill f (.bool false) m k) ∧ Below G w2 wr ∧ (0 < k → ok = true)) (fun i _ => m - (intOf i).toNat)
  case atStart => exact ⟨0, Nat.zero_le _, rfl, HO.out.1, HO.out.2, fun h => by omega⟩
  case round =>
    clear x0 x1 y0 y1 y2 y3
    obtain ⟨k, hk, rfl, hown, hbel, hkok⟩ := hrel
    have HB : Hid (Below G w2 wr) := hbel
    have HOW : Hid (wr.ownsRow G 4 1 (.slice (some ⟨G, 0, none⟩) m m) m (fill f (.bool false) m k)) := hown
    clear hbel hown
    obtain ⟨⟨x0, x1⟩, ⟨y0, y1, y2, y3⟩⟩ := HX.out wr (HB3.out _ HB.out)
    by_cases hlt : k < m
    · obtain ⟨x, hx⟩ : ∃ x, ats[k]? = some x := ⟨_, List.getElem?_eq_getElem (by have := HM.out; omega)⟩
      have HXm : Hid (x ∈ ats ∧ f k = .bool (Hd x)) := by
        refine ⟨List.mem_of_getElem? hx, ?_⟩
        rw [HF.out]; simp [hx]
      rcases HA.out.below (HB3.out _ HB.out) with ⟨_, _, _, hn0⟩ | ⟨B, off, cap, hv, hb, _, _, hatm⟩
      · have := HM.out; rw [hn0] at this; simp at this; omega
      obtain rfl : ao = some ⟨B, off, none⟩ := by cases hv; rfl
      obtain ⟨vs, vt, c0, c1, c2, c3, r1, r2⟩ := hatm k x hx
      obtain ⟨sao, scap, rfl, _⟩ := r1.slice
      obtain ⟨tao, tcap, rfl, _⟩ := r2.slice
      clear hv hatm
      obtain ⟨w4, hw4⟩ : ∃ w4, w4 = wr.alloc (.cells #[.int .i64 x.k, .slice sao x.s.length scap, .slice tao x.t.length tcap, .int .i64 x.n] 45) := ⟨_, rfl⟩
      have HB4 : Hid (Below wr.heap.size wr w4) := by unfold Hid; rw [hw4]; exact below_alloc1 wr _
      have HGr : Hid (G < wr.heap.size) := (ownsRow_block HOW.out).2.1
      have HBw : Hid (∀ W, Below wr.heap.size wr W → Below G w2 W) := fun W h => HB.out.trans (h.mono (by have := HGr.out; omega))
      have HCa : Hid (Calls Tryd.prog 18 #[.agg #[.int .i64 x.k, .slice sao x.s.length scap, .slice tao x.t.length tcap, .int .i64 x.n], .agg #[.int .i64 u, .int .i64 a, .int .i64 b, .int .i64 d]] w4 fun e w' => e = .returned (.tuple #[.bool (if ok = true then Hd x else false), if ok = true then .nilIface else .iface 58 (.int .i64 1)]) ∧ Below w4.heap.size w4 w') :=
        HH'.out x _ _ w4 HXm.out.1 (r1.below HB4.out) (r2.below HB4.out) (HB3.out _ (HBw.out _ HB4.out))
      clear r1 r2 x0 x1 y0 y1 y2 y3
      obtain ⟨⟨x0, x1⟩, ⟨y0, y1, y2, y3⟩⟩ := HX.out w4 (HB3.out _ (HBw.out _ HB4.out))
      rw [hw4] at x0 x1 y0 y1 y2 y3
      go_wp2_with fail
      rw [← hw4]
      clear hw4 x0 x1 y0 y1 y2 y3
      go_at_call 18
      refine HCa.out.mono ?_
      rintro e w5 ⟨rfl, hb5⟩
      have HB5 : Hid (Below wr.heap.size wr w5) := HB4.out.trans (hb5.mono HB4.out.size)
      clear hb5 HCa
      cases ok
      · simp only [Bool.false_eq_true, if_false]
        go_wp2
        go_ret2
        exact ⟨by simp, HB1.out.trans ((HB3.out _ (HBw.out _ HB5.out)).mono HB1.out.size)⟩
      · simp only [if_true]
        have hown5 := ownsRow_below HOW.out HB5.out
        have hfr : w5.frozen? ⟨G, k, none⟩ = false := hown5.frozenAt k
        have hcg : w5.cell? ⟨G, k, none⟩ = some (.bool false) := by rw [hown5.cellAt k (by omega), fill_get _ _ _ _ _ hlt, if_neg (by omega)]
        have HR : Hid ((w5.setCell ⟨G, k, none⟩ (.bool (Hd x))).ownsRow G 4 1 (.slice (some ⟨G, 0, none⟩) m m) m (fill f (.bool false) m (k + 1)) ∧ Below G w2 (w5.setCell ⟨G, k, none⟩ (.bool (Hd x)))) := by
          have := hown5.stored k (f k)
          rw [fill_set, HXm.out.2] at this
          exact ⟨this.1, (HBw.out _ HB5.out).setCell (Nat.le_refl _) _⟩
        clear hown5
        go_wp2
        go_roundw
        case rel => exact ⟨k + 1, by omega, by go_num, HR.out.1, HR.out.2, fun _ => by first | rfl | trivial⟩
        case measure => simp [intOf]; omega
    · have hok : ok = true := hkok (by omega)
      subst hok
      have HRb : Hid (ReadsB wr G 0 (ats.map Hd)) := by
        refine ⟨(ownsRow_block HOW.out).2.1, fun j hj => ?_⟩
        have hj' : j < m := by rw [HM.out]; simpa using hj
        rw [Nat.zero_add, HOW.out.cellAt j (by omega), fill_get _ _ _ _ _ hj', if_pos (by omega), HF.out]
      have HCw := HWk.out G wr rfl (HB3.out _ HB.out) HRb.out
      go_wp2_with (go_at_call 19; refine HCw.mono ?_; rintro e w' ⟨rfl, hb⟩)
      go_ret2
      exact ⟨by simp, HB1.out.trans ((HB3.out _ (HB.out.trans (hb.mono (by have := (ownsRow_block HOW.out).2.1; omega)))).mono HB1.out.size)⟩

/-- Holds, whatever the formula and the world. -/
theorem fholds_any (va vc : Value) (ats : List At) (c : List Int) (u a b d : Int) (w : World) (hA : ReadsA w va ats) (hC : Reads w vc c) (hK : KindsLaid w) :
    Calls Tryd.prog 8 #[.agg #[va, vc], .agg #[.int .i64 u, .int .i64 a, .int .i64 b, .int .i64 d]] w fun e w' => e = .returned (.tuple #[.bool ((Wd.mk u a b d).formIs ats c), errV ((Wd.mk u a b d).formFault ats c)]) ∧ Below w.heap.size w w' := by
  by_cases hf : formFault ats c = 0
  · obtain ⟨ao, acap, rfl, _⟩ := hA.slice
    obtain ⟨co, ccap, rfl, _⟩ := hC.slice
    have := fholds_right ao co acap ccap ats c u a b d w hA hC hK hf _ rfl
    by_cases ho : (Wd.mk u a b d).ok = true
    · have e0 : (Wd.mk u a b d).formFault ats c = 0 := wdForm_zero.2 ⟨hf, ho⟩
      have e1 : (Wd.mk u a b d).formIs ats c = valF ((Wd.mk u a b d).heldL ats) c := by unfold Wd.formIs; rw [if_pos e0]
      rw [e0, e1, errV_0]
      exact this.mono fun e w' h => ⟨by have := h.1; rw [if_pos ho] at this; exact this, h.2⟩
    · have e0 : (Wd.mk u a b d).formFault ats c = 1 := by unfold Wd.formFault; rw [if_pos hf, if_neg ho]
      have e1 : (Wd.mk u a b d).formIs ats c = false := by unfold Wd.formIs; rw [e0]; rfl
      rw [e0, e1]
      exact this.mono fun e w' h => ⟨by have := h.1; rw [if_neg ho] at this; exact this, h.2⟩
  · have e0 : (Wd.mk u a b d).formFault ats c = formFault ats c := by unfold Wd.formFault; rw [if_neg hf]
    have e1 : (Wd.mk u a b d).formIs ats c = false := by unfold Wd.formIs; rw [e0, if_neg hf]
    rw [e0, e1, errV_no hf]
    exact fholds_bad va vc ats c u a b d w hA hC hK hf
end Go.Proofs.YtjaedfjfcghgcabDoor

namespace Go.Proofs.YtjaedfjfcghgcabDoor
open Go.ChangeShapes Go.WideShapes Go.ChangeAt Go.RowKit
set_option maxRecDepth 100000

theorem arrW_with (D : Wd) {k : Nat} (hk : k < 3) (s : Int) : (arrW D).setIfInBounds (1 + k) (.int .i64 s) = arrW (D.put k s) := by
  rcases (by omega : k = 0 ∨ k = 1 ∨ k = 2) with rfl | rfl | rfl <;> simp [arrW, Wd.put]

theorem smcheck_form (ao : Option Addr) (al acap : Nat) (co : Option Addr) (cl ccap : Nat) (name : Int) (D : Wd) (m : Int) (w : World)
    (HF : Hid (∀ W, Below w.heap.size w W → Calls Tryd.prog 17 #[.agg #[.slice ao al acap, .slice co cl ccap]] W fun e w' => e = .returned (.iface 58 (.int .i64 m)) ∧ Below W.heap.size W w')) :
    Calls Tryd.prog 28 #[.agg #[.slice ao al acap, .slice co cl ccap], .int .i64 name, .agg #[.int .i64 D.u, .int .i64 D.a, .int .i64 D.b, .int .i64 D.c]] w fun e w' => e = .returned (.iface 58 (.int .i64 m)) ∧ Below w.heap.size w w' := by
  go_enter Tryd.func28, Tryd.ntmps28
  go_wp2_with fail
  go_at_call 17
  refine (HF.out _ ((below_alloc1 _ _).alloc (by simp) _)).mono ?_
  rintro e w2 ⟨rfl, hb⟩
  have HB : Hid (Below w.heap.size w w2) := ((below_alloc1 w _).alloc (by simp) _).trans (hb.mono (by simp; omega))
  clear hb
  go_wp2
  go_ret
  exact ⟨rfl, HB.out⟩
theorem smcheck_name (ao : Option Addr) (al acap : Nat) (co : Option Addr) (cl ccap : Nat) (name : Int) (hn : ¬ (0 ≤ name ∧ name ≤ 2)) (D : Wd) (w : World)
    (HF : Hid (∀ W, Below w.heap.size w W → Calls Tryd.prog 17 #[.agg #[.slice ao al acap, .slice co cl ccap]] W fun e w' => e = .returned .nilIface ∧ Below W.heap.size W w')) :
    Calls Tryd.prog 28 #[.agg #[.slice ao al acap, .slice co cl ccap], .int .i64 name, .agg #[.int .i64 D.u, .int .i64 D.a, .int .i64 D.b, .int .i64 D.c]] w fun e w' => e = .returned (.iface 58 (.int .i64 1)) ∧ Below w.heap.size w w' := by
  by_cases h0 : name < 0
  · clear hn
    go_enter Tryd.func28, Tryd.ntmps28
    go_wp2_with fail
    go_at_call 17
    refine (HF.out _ ((below_alloc1 _ _).alloc (by simp) _)).mono ?_
    rintro e w2 ⟨rfl, hb⟩
    have HB : Hid (Below w.heap.size w w2) := ((below_alloc1 w _).alloc (by simp) _).trans (hb.mono (by simp; omega))
    clear hb
    go_wp2
    go_ret
    exact ⟨rfl, HB.out⟩
  · have h3 : 3 ≤ name := by omega
    clear hn
    go_enter Tryd.func28, Tryd.ntmps28
    go_wp2_with fail
    go_at_call 17
    refine (HF.out _ ((below_alloc1 _ _).alloc (by simp) _)).mono ?_
    rintro e w2 ⟨rfl, hb⟩
    have HB : Hid (Below w.heap.size w w2) := ((below_alloc1 w _).alloc (by simp) _).trans (hb.mono (by simp; omega))
    clear hb
    go_wp2
    go_ret
    exact ⟨rfl, HB.out⟩
theorem smcheck_good (ao : Option Addr) (al acap : Nat) (co : Option Addr) (cl ccap : Nat) (name : Int) (hn : 0 ≤ name ∧ name ≤ 2) (D : Wd) (E : Value) (w : World)
    (HF : Hid (∀ W, Below w.heap.size w W → Calls Tryd.prog 17 #[.agg #[.slice ao al acap, .slice co cl ccap]] W fun e w' => e = .returned .nilIface ∧ Below W.heap.size W w'))
    (HW : Hid (∀ W, Calls Tryd.prog 12 #[.agg #[.int .i64 D.u, .int .i64 D.a, .int .i64 D.b, .int .i64 D.c]] W fun e w' => e = .returned E ∧ Below W.heap.size W w')) :
    Calls Tryd.prog 28 #[.agg #[.slice ao al acap, .slice co cl ccap], .int .i64 name, .agg #[.int .i64 D.u, .int .i64 D.a, .int .i64 D.b, .int .i64 D.c]] w fun e w' => e = .returned E ∧ Below w.heap.size w w' := by
  have h0 : ¬ name < 0 := by omega
  have h3 : ¬ 3 ≤ name := by omega
  clear hn
  obtain ⟨w1, hw1⟩ : ∃ w1, w1 = (w.alloc (.cells #[.slice ao al acap, .slice co cl ccap] 25)).alloc (.cells #[.int .i64 D.u, .int .i64 D.a, .int .i64 D.b, .int .i64 D.c] 28) := ⟨_, rfl⟩
  have B1 : Hid (Below w.heap.size w w1) := by unfold Hid; rw [hw1]; exact (below_alloc1 _ _).alloc (by simp) _
  have kF1 : Hid (Blk w1 w.heap.size 25 #[.slice ao al acap, .slice co cl ccap]) := by unfold Hid; rw [hw1]; exact (Blk.new _ _ _).old _
  have kW1 : Hid (Blk w1 (w.heap.size + 1) 28 (arrW D)) := by
    unfold Hid; rw [hw1]
    have := Blk.new (w.alloc (.cells #[.slice ao al acap, .slice co cl ccap] 25)) 28 (arrW D)
    simp only [World.size_alloc] at this
    exact this
  have x0 : w1.cell? ⟨w.heap.size, 0, none⟩ = some (.slice ao al acap) := kF1.out.cell 0
  have x1 : w1.cell? ⟨w.heap.size, 1, none⟩ = some (.slice co cl ccap) := kF1.out.cell 1
  go_enter Tryd.func28, Tryd.ntmps28
  go_upto_region 1 with fail
  rw [← hw1]
  clear hw1
  go_wp2_with fail
  go_at_call 17
  refine (HF.out _ B1.out).mono ?_
  rintro e w2 ⟨rfl, hb⟩
  have B2 : Hid (Below w.heap.size w w2) := B1.out.trans (hb.mono B1.out.size)
  have kW2 : Hid (Blk w2 (w.heap.size + 1) 28 (arrW D)) := kW1.out.below hb
  clear hb x0 x1
  obtain ⟨z0, z1, z2, z3⟩ := kW2.out.cells4
  go_wp2_with fail
  go_at_call 12
  refine (HW.out _).mono ?_
  rintro e w3 ⟨rfl, hb⟩
  have B3 : Hid (Below w.heap.size w w3) := B2.out.trans (hb.mono B2.out.size)
  clear hb
  go_wp2
  go_ret
  exact ⟨rfl, B3.out⟩
/-- what is wrong with a formula, a name, or a world. -/
theorem smcheck_any (va vc : Value) (ats : List At) (c : List Int) (name : Int) (D : Wd) (w : World) (hA : ReadsA w va ats) (hC : Reads w vc c) (hK : KindsLaid w) :
    Calls Tryd.prog 28 #[.agg #[va, vc], .int .i64 name, .agg #[.int .i64 D.u, .int .i64 D.a, .int .i64 D.b, .int .i64 D.c]] w fun e w' => e = .returned (errV (someFault ats c name D)) ∧ Below w.heap.size w w' := by
  have hF := fun W (hW : Below w.heap.size w W) => fcheck_any va vc ats c W (hA.below hW) (hC.below hW) (hK.below hW)
  obtain ⟨ao, acap, rfl, _⟩ := hA.slice
  obtain ⟨co, ccap, rfl, _⟩ := hC.slice
  unfold someFault
  by_cases hf : formFault ats c = 0
  · rw [if_pos hf]
    rw [hf] at hF
    by_cases hn : 0 ≤ name ∧ name ≤ 2
    · rw [if_pos hn]
      refine smcheck_good ao _ acap co _ ccap name hn D _ w hF fun W => ?_
      refine (checkWorld_any D.u D.a D.b D.c W).mono ?_
      rintro e w' ⟨rfl, hb⟩
      refine ⟨?_, hb⟩
      have eD : Wd.mk D.u D.a D.b D.c = D := rfl
      rw [eD]
      by_cases ho : D.ok = true
      · rw [if_pos ho, if_pos ho]; rfl
      · rw [if_neg ho, if_neg ho]; rfl
    · rw [if_neg hn]
      exact smcheck_name ao _ acap co _ ccap name hn D w hF
  · rw [if_neg hf, errV_no hf]
    rw [errV_no hf] at hF
    exact smcheck_form ao _ acap co _ ccap name D _ w hF

theorem sought_bad (ao : Option Addr) (al acap : Nat) (co : Option Addr) (cl ccap : Nat) (name : Int) (D : Wd) (q : Bool) (m : Int) (w : World)
    (HC : Hid (∀ W, Below w.heap.size w W → Calls Tryd.prog 28 #[.agg #[.slice ao al acap, .slice co cl ccap], .int .i64 name, .agg #[.int .i64 D.u, .int .i64 D.a, .int .i64 D.b, .int .i64 D.c]] W fun e w' => e = .returned (.iface 58 (.int .i64 m)) ∧ Below W.heap.size W w')) :
    Calls Tryd.prog 16 #[.agg #[.slice ao al acap, .slice co cl ccap], .int .i64 name, .agg #[.int .i64 D.u, .int .i64 D.a, .int .i64 D.b, .int .i64 D.c], .bool q] w fun e w' => e = .returned (.tuple #[.int .i64 0, .bool false, .iface 58 (.int .i64 m)]) ∧ Below w.heap.size w w' := by
  go_enter Tryd.func16, Tryd.ntmps16
  go_wp2_with fail
  go_at_call 28
  refine (HC.out _ ((below_alloc1 _ _).alloc (by simp) _)).mono ?_
  rintro e w2 ⟨rfl, hb⟩
  have HB : Hid (Below w.heap.size w w2) := ((below_alloc1 w _).alloc (by simp) _).trans (hb.mono (by simp; omega))
  clear hb
  go_wp2
  go_ret3
  exact ⟨rfl, HB.out⟩

theorem shl_sets : ∀ u : Nat, u ≤ 6 → wrap64 (2 ^ u) = ((setsN (u : Int) : Nat) : Int) := by decide +kernel
def SoughtE (p : Nat → Bool) (q : Bool) (N : Nat) (e : Ending) : Prop := ∃ (x : Int) (is : Bool), e = .returned (.tuple #[.int .i64 x, .bool is, .nilIface]) ∧ ((is = false ∧ x = 0 ∧ ∀ s, s < N → (p s == q) = false) ∨ (is = true ∧ ∃ m : Nat, x = m ∧ m < N ∧ (p m == q) = true ∧ ∀ j, j < m → (p j == q) = false))
set_option maxHeartbeats 8000000 in
theorem sought_good (ao : Option Addr) (al acap : Nat) (co : Option Addr) (cl ccap : Nat) (k : Nat) (hk3 : k < 3) (u : Nat) (hu : u ≤ 6) (a b c : Int) (q : Bool) (p : Nat → Bool) (N : Nat) (HN : Hid (wrap64 (2 ^ u) = (N : Int))) (hN64 : N ≤ 64) (w : World)
    (HC : Hid (∀ W, Below w.heap.size w W → Calls Tryd.prog 28 #[.agg #[.slice ao al acap, .slice co cl ccap], .int .i64 k, .agg #[.int .i64 u, .int .i64 a, .int .i64 b, .int .i64 c]] W fun e w' => e = .returned .nilIface ∧ Below W.heap.size W w'))
    (HT : Hid (∀ (s : Nat), s < N → ∀ W, Below w.heap.size w W → Calls Tryd.prog 8 #[.agg #[.slice ao al acap, .slice co cl ccap], .agg #[.int .i64 ((Wd.mk u a b c).put k s).u, .int .i64 ((Wd.mk u a b c).put k s).a, .int .i64 ((Wd.mk u a b c).put k s).b, .int .i64 ((Wd.mk u a b c).put k s).c]] W fun e w' => e = .returned (.tuple #[.bool (p s), .nilIface]) ∧ Below W.heap.size W w')) :
    Calls Tryd.prog 16 #[.agg #[.slice ao al acap, .slice co cl ccap], .int .i64 k, .agg #[.int .i64 u, .int .i64 a, .int .i64 b, .int .i64 c], .bool q] w fun e w' => SoughtE p q N e ∧ Below w.heap.size w w' := by
  obtain ⟨w0, hw0⟩ : ∃ w0, w0 = w.alloc (.cells #[.slice ao al acap, .slice co cl ccap] 25) := ⟨_, rfl⟩
  obtain ⟨G, hG⟩ : ∃ G, G = w.heap.size + 1 := ⟨_, rfl⟩
  obtain ⟨w1, hw1⟩ : ∃ w1, w1 = w0.alloc (.cells #[.int .i64 u, .int .i64 a, .int .i64 b, .int .i64 c] 28) := ⟨_, rfl⟩
  have hs0 : w0.heap.size = G := by rw [hw0, hG]; simp
  have B0 : Hid (Below w.heap.size w w0) := by unfold Hid; rw [hw0]; exact below_alloc1 _ _
  have HG : Hid (w.heap.size + 1 = G) := hG.symm
  have B1 : Hid (Below G w0 w1) := by unfold Hid; rw [hw1, ← hs0]; exact below_alloc1 _ _
  have kF0 : Hid (Blk w0 w.heap.size 25 #[.slice ao al acap, .slice co cl ccap]) := by unfold Hid; rw [hw0]; exact Blk.new _ _ _
  have kW1 : Hid (Blk w1 G 28 (arrW (Wd.mk u a b c))) := by unfold Hid; rw [hw1, ← hs0]; exact Blk.new _ _ _
  have Up : Hid (∀ W, Below G w0 W → Below w.heap.size w W ∧ W.cell? ⟨w.heap.size, 0, none⟩ = some (.slice ao al acap) ∧ W.cell? ⟨w.heap.size, 1, none⟩ = some (.slice co cl ccap)) := fun W hW => by
    refine ⟨B0.out.trans (hW.mono (by rw [← HG.out]; omega)), ?_, ?_⟩
    · exact (hW.cell (show w.heap.size < G by rw [← HG.out]; omega)).trans (kF0.out.cell 0)
    · exact (hW.cell (show w.heap.size < G by rw [← HG.out]; omega)).trans (kF0.out.cell 1)
  clear hs0
  go_enter Tryd.func16, Tryd.ntmps16
  go_upto_region 1 with fail
  rw [← hw0, ← hw1]
  rw [← hG]
  clear hw0 hw1 hG
  obtain ⟨_, x0, x1⟩ := Up.out _ B1.out
  obtain ⟨z0, z1, z2, z3⟩ := kW1.out.cells4
  go_wp2_with fail
  go_at_call 28
  refine (HC.out _ (Up.out _ B1.out).1).mono ?_
  rintro e w2 ⟨rfl, hb⟩
  have B2 : Hid (Below G w0 w2) := B1.out.trans (hb.mono (Nat.le_of_lt kW1.out.lt))
  have kW2 : Hid (Blk w2 G 28 (arrW (Wd.mk u a b c))) := kW1.out.below hb
  clear hb x0 x1 z0 z1 z2 z3
  obtain ⟨z0, z1, z2, z3⟩ := kW2.out.cells4
  go_wp2_with fail
  rw [HN.out]
  clear z0 z1 z2 z3
  go_loopw [12, 13, 14, 25] (fun _ _ _ i wr => ∃ d : Nat, d ≤ N ∧ i = .int .i64 d ∧ Below G w0 wr ∧ Hid (∀ j, j < d → (p j == q) = false) ∧ ∃ X : Wd, Blk wr G 28 (arrW X) ∧ ∀ s, X.put k s = (Wd.mk u a b c).put k s) (fun _ _ _ i _ => N - (intOf i).toNat)
  case atStart => exact ⟨0, Nat.zero_le _, rfl, B2.out, fun j hj => absurd hj (Nat.not_lt_zero _), _, kW2.out, fun _ => rfl⟩
  case round =>
    obtain ⟨d, hd, rfl, hbr, A, X, hX, hXp⟩ := hrel
    have HBr : Hid (Below G w0 wr) := hbr
    have HX : Hid (Blk wr G 28 (arrW X)) := hX
    have HXp : Hid (∀ s, X.put k s = (Wd.mk u a b c).put k s) := hXp
    clear hbr hX hXp
    by_cases hlt : d < N
    · have hltz : (d : Int) < (N : Int) := by omega
      have HTs := HT.out d hlt
      have HTd : Hid _ := HTs
      clear HTs
      have HQ : Hid (∀ b, p d = b → (p d == q) = (b == q)) := fun b h => by rw [h]
      obtain ⟨r, hr⟩ : ∃ r, r = p d := ⟨_, rfl⟩
      rw [← hr] at HTd
      have HQ' : Hid ((p d == q) = (r == q)) := by unfold Hid; rw [hr]
      clear hr HQ
      have i0 : wr.cell? ⟨G, 1 + k, none⟩ = (arrW X)[1 + k]? := HX.out.cell (1 + k)
      obtain ⟨xo, hxo⟩ : ∃ x, (arrW X)[1 + k]? = some x := by
        rcases (by omega : k = 0 ∨ k = 1 ∨ k = 2) with rfl | rfl | rfl <;> exact ⟨_, rfl⟩
      rw [hxo] at i0
      have f0 : wr.frozen? ⟨G, 1 + k, none⟩ = false := HX.out.frozen (1 + k)
      obtain ⟨w6, hw6⟩ : ∃ x, x = wr.setCell ⟨G, 1 + k, none⟩ (.int .i64 d) := ⟨_, rfl⟩
      have kX6 : Hid (Blk w6 G 28 (arrW ((Wd.mk u a b c).put k d))) := by
        unfold Hid; rw [hw6, ← HXp.out d, ← arrW_with X hk3]; exact HX.out.set (1 + k) _
      have B6 : Hid (Below G w0 w6) := by unfold Hid; rw [hw6]; exact HBr.out.setCell (Nat.le_refl _) _
      clear hxo
      go_upto_region 8 with fail
      rw [← hw6]
      clear hw6 i0 f0
      obtain ⟨_, x0, x1⟩ := Up.out _ B6.out
      obtain ⟨y0, y1, y2, y3⟩ := kX6.out.cells4
      go_wp2_with fail
      go_at_call 8
      refine (HTd.out _ (Up.out _ B6.out).1).mono ?_
      rintro e w7 ⟨rfl, hb⟩
      have B7 : Hid (Below G w0 w7) := B6.out.trans (hb.mono (Nat.le_of_lt kX6.out.lt))
      have kX7 : Hid (Blk w7 G 28 (arrW ((Wd.mk u a b c).put k d))) := kX6.out.below hb
      clear hb y0 y1 y2 y3 x0 x1
      cases r <;> cases q
      · go_wp2
        go_ret3
        exact ⟨by unfold SoughtE; exact ⟨_, _, rfl, Or.inr ⟨rfl, d, rfl, hlt, HQ'.out, A.out⟩⟩, (Up.out _ B7.out).1⟩
      · go_wp2
        go_roundw
        case rel =>
          refine ⟨d + 1, by omega, by go_num, B7.out, fun j hj => ?_, _, kX7.out, fun s => put_put _ k d s⟩
          by_cases e : j = d
          · rw [e]; exact HQ'.out
          · exact A.out j (by omega)
        case measure => simp [intOf]; omega
      · go_wp2
        go_roundw
        case rel =>
          refine ⟨d + 1, by omega, by go_num, B7.out, fun j hj => ?_, _, kX7.out, fun s => put_put _ k d s⟩
          by_cases e : j = d
          · rw [e]; exact HQ'.out
          · exact A.out j (by omega)
        case measure => simp [intOf]; omega
      · go_wp2
        go_ret3
        exact ⟨by unfold SoughtE; exact ⟨_, _, rfl, Or.inr ⟨rfl, d, rfl, hlt, HQ'.out, A.out⟩⟩, (Up.out _ B7.out).1⟩
    · have hltz : ¬ (d : Int) < (N : Int) := by omega
      obtain rfl : d = N := by omega
      go_wp2
      go_ret3
      exact ⟨by unfold SoughtE; exact ⟨_, _, rfl, Or.inl ⟨rfl, rfl, A.out⟩⟩, (Up.out _ HBr.out).1⟩

def soughtL (ats : List At) (c : List Int) (name : Int) (D : Wd) (q : Bool) : Int := if someFault ats c name D = 0 then lowD (fun s => withB ats c name.toNat D s == q) (setsN D.u) (setsN D.u) else -1
/-- the least set with which a formula holds, or does not; and whether there is one. -/
theorem sought_any (va vc : Value) (ats : List At) (c : List Int) (name : Int) (D : Wd) (q : Bool) (w : World) (hA : ReadsA w va ats) (hC : Reads w vc c) (hK : KindsLaid w) :
    Calls Tryd.prog 16 #[.agg #[va, vc], .int .i64 name, .agg #[.int .i64 D.u, .int .i64 D.a, .int .i64 D.b, .int .i64 D.c], .bool q] w fun e w' => e = .returned (.tuple #[.int .i64 (if soughtL ats c name D q < 0 then 0 else soughtL ats c name D q), .bool (decide (0 ≤ soughtL ats c name D q)), errV (someFault ats c name D)]) ∧ Below w.heap.size w w' := by
  have hF := fun W (hW : Below w.heap.size w W) => smcheck_any va vc ats c name D W (hA.below hW) (hC.below hW) (hK.below hW)
  have hH := fun (E : Wd) W (hW : Below w.heap.size w W) => fholds_any va vc ats c E.u E.a E.b E.c W (hA.below hW) (hC.below hW) (hK.below hW)
  obtain ⟨ao, acap, rfl, _⟩ := hA.slice
  obtain ⟨co, ccap, rfl, _⟩ := hC.slice
  unfold soughtL
  by_cases h0 : someFault ats c name D = 0
  · rw [if_pos h0]
    rw [h0] at hF ⊢
    obtain ⟨hf, hn, hok⟩ := some_zero.1 h0
    have hu := ok_u hok
    obtain ⟨k, rfl⟩ := Int.eq_ofNat_of_zero_le hn.1
    obtain ⟨Du, Da, Db, Dc⟩ := D
    simp only at hu hF
    obtain ⟨u, rfl⟩ := Int.eq_ofNat_of_zero_le hu.1
    have hu6 : u ≤ 6 := by omega
    have h := sought_good ao _ acap co _ ccap k (by omega) u hu6 Da Db Dc q (withB ats c k (Wd.mk u Da Db Dc)) (setsN (u : Int)) (shl_sets u hu6) (sets_le (by omega)) w hF (fun s hs W hW => by
      have hp := wput_ok hok k ((set_ok hu.1 hu.2).2 hs)
      have h := hH ((Wd.mk u Da Db Dc).put k s) W hW
      have eD : ∀ D : Wd, Wd.mk D.u D.a D.b D.c = D := fun _ => rfl
      rw [eD, wdForm_zero.2 ⟨hf, hp⟩] at h
      exact h)
    refine h.mono ?_
    rintro e w' ⟨h, hb⟩
    refine ⟨?_, hb⟩
    unfold SoughtE at h
    obtain ⟨x, is, rfl, hx⟩ := h
    rw [Int.toNat_natCast]
    rcases low_spec (fun s => withB ats c k (Wd.mk u Da Db Dc) s == q) (setsN (u : Int)) with ⟨g1, g2⟩ | ⟨m, g1, g2, g3, g4⟩
    · rcases hx with ⟨rfl, rfl, _⟩ | ⟨_, m, _, e2, e3, _⟩
      · rw [g1]; rfl
      · have := g2 m e2
        rw [e3] at this; cases this
    · rcases hx with ⟨_, _, e3⟩ | ⟨rfl, m', rfl, e2, e3, e4⟩
      · have := e3 m g2
        rw [g3] at this; cases this
      · have em : m' = m := by
          rcases Nat.lt_trichotomy m m' with h | h | h
          · have := e4 m h; rw [g3] at this; cases this
          · exact h.symm
          · have := g4 m' h; rw [e3] at this; cases this
        subst em
        rw [g1, if_neg (by omega), decide_eq_true (by omega : (0 : Int) ≤ (m' : Int))]
        rfl
  · rw [if_neg h0]
    rw [errV_no h0] at hF ⊢
    exact sought_bad ao _ acap co _ ccap name D q _ w hF
end Go.Proofs.YtjaedfjfcghgcabDoor

namespace Go.Proofs.YtjaedfjfcghgcabDoor
open Go.ChangeShapes Go.WideShapes Go.ChangeAt Go.RowKit
set_option maxRecDepth 100000

theorem sought_is (ats : List At) (c : List Int) (name : Int) (D : Wd) : soughtL ats c name D true = someLow ats c name D := by
  unfold soughtL someLow
  have e : (fun s => withB ats c name.toNat D s == true) = withB ats c name.toNat D := by funext s; cases withB ats c name.toNat D s <;> rfl
  rw [e]
theorem sought_each {ats : List At} {c : List Int} {name : Int} {D : Wd} (h : someFault ats c name D = 0) : (!decide (0 ≤ soughtL ats c name D false)) = eachW ats c name D := by
  unfold soughtL eachW
  rw [if_pos h, if_pos h]
  rw [Bool.eq_iff_iff, all_spec]
  rcases low_spec (fun s => withB ats c name.toNat D s == false) (setsN D.u) with ⟨g1, g2⟩ | ⟨m, g1, g2, g3, g4⟩
  · rw [g1]
    refine ⟨fun _ s hs => ?_, fun _ => rfl⟩
    have := g2 s hs
    cases hx : withB ats c name.toNat D s
    · rw [hx] at this; cases this
    · rfl
  · rw [g1, decide_eq_true (by omega : (0 : Int) ≤ (m : Int))]
    refine ⟨fun h => absurd h (by decide), fun h => ?_⟩
    rw [h m g2] at g3; cases g3

theorem someIs_in (ao : Option Addr) (al acap : Nat) (co : Option Addr) (cl ccap : Nat) (name : Int) (D : Wd) (x : Int) (is : Bool) (E : Value) (w : World)
    (HS : Hid (∀ W, Below w.heap.size w W → Calls Tryd.prog 16 #[.agg #[.slice ao al acap, .slice co cl ccap], .int .i64 name, .agg #[.int .i64 D.u, .int .i64 D.a, .int .i64 D.b, .int .i64 D.c], .bool true] W fun e w' => e = .returned (.tuple #[.int .i64 x, .bool is, E]) ∧ Below W.heap.size W w')) :
    Calls Tryd.prog 7 #[.agg #[.slice ao al acap, .slice co cl ccap], .int .i64 name, .agg #[.int .i64 D.u, .int .i64 D.a, .int .i64 D.b, .int .i64 D.c]] w fun e w' => e = .returned (.tuple #[.bool is, E]) ∧ Below w.heap.size w w' := by
  go_enter Tryd.func7, Tryd.ntmps7
  go_wp2_with fail
  go_at_call 16
  refine (HS.out _ ((below_alloc1 _ _).alloc (by simp) _)).mono ?_
  rintro e w2 ⟨rfl, hb⟩
  have HB : Hid (Below w.heap.size w w2) := ((below_alloc1 w _).alloc (by simp) _).trans (hb.mono (by simp; omega))
  clear hb
  go_wp2
  go_ret2
  exact ⟨rfl, HB.out⟩
/-- whether there is a set for the name with which it holds. -/
theorem someIs_any (va vc : Value) (ats : List At) (c : List Int) (name : Int) (D : Wd) (w : World) (hA : ReadsA w va ats) (hC : Reads w vc c) (hK : KindsLaid w) :
    Calls Tryd.prog 7 #[.agg #[va, vc], .int .i64 name, .agg (arrW D)] w fun e w' => e = .returned (.tuple #[.bool (someB ats c name D), errV (someFault ats c name D)]) ∧ Below w.heap.size w w' := by
  have hS := fun W (hW : Below w.heap.size w W) => sought_any va vc ats c name D true W (hA.below hW) (hC.below hW) (hK.below hW)
  obtain ⟨ao, acap, rfl, _⟩ := hA.slice
  obtain ⟨co, ccap, rfl, _⟩ := hC.slice
  have h := someIs_in ao _ acap co _ ccap name D _ _ _ w hS
  rw [sought_is] at h
  exact h
theorem someFirst_no (ao : Option Addr) (al acap : Nat) (co : Option Addr) (cl ccap : Nat) (name : Int) (D : Wd) (x : Int) (is : Bool) (m : Int) (w : World)
    (HS : Hid (∀ W, Below w.heap.size w W → Calls Tryd.prog 16 #[.agg #[.slice ao al acap, .slice co cl ccap], .int .i64 name, .agg #[.int .i64 D.u, .int .i64 D.a, .int .i64 D.b, .int .i64 D.c], .bool true] W fun e w' => e = .returned (.tuple #[.int .i64 x, .bool is, .iface 58 (.int .i64 m)]) ∧ Below W.heap.size W w')) :
    Calls Tryd.prog 9 #[.agg #[.slice ao al acap, .slice co cl ccap], .int .i64 name, .agg #[.int .i64 D.u, .int .i64 D.a, .int .i64 D.b, .int .i64 D.c]] w fun e w' => e = .returned (.tuple #[.int .i64 0, .iface 58 (.int .i64 m)]) ∧ Below w.heap.size w w' := by
  go_enter Tryd.func9, Tryd.ntmps9
  go_wp2_with fail
  go_at_call 16
  refine (HS.out _ ((below_alloc1 _ _).alloc (by simp) _)).mono ?_
  rintro e w2 ⟨rfl, hb⟩
  have HB : Hid (Below w.heap.size w w2) := ((below_alloc1 w _).alloc (by simp) _).trans (hb.mono (by simp; omega))
  clear hb
  go_wp2
  go_ret2
  exact ⟨rfl, HB.out⟩
theorem someFirst_ok (ao : Option Addr) (al acap : Nat) (co : Option Addr) (cl ccap : Nat) (name : Int) (D : Wd) (x : Int) (is : Bool) (w : World)
    (HS : Hid (∀ W, Below w.heap.size w W → Calls Tryd.prog 16 #[.agg #[.slice ao al acap, .slice co cl ccap], .int .i64 name, .agg #[.int .i64 D.u, .int .i64 D.a, .int .i64 D.b, .int .i64 D.c], .bool true] W fun e w' => e = .returned (.tuple #[.int .i64 x, .bool is, .nilIface]) ∧ Below W.heap.size W w')) :
    Calls Tryd.prog 9 #[.agg #[.slice ao al acap, .slice co cl ccap], .int .i64 name, .agg #[.int .i64 D.u, .int .i64 D.a, .int .i64 D.b, .int .i64 D.c]] w fun e w' => Hid (e = .returned (.tuple #[.int .i64 (if is then x else 0), errV (if is then 0 else 5)])) ∧ Below w.heap.size w w' := by
  cases is
  · go_enter Tryd.func9, Tryd.ntmps9
    go_wp2_with fail
    go_at_call 16
    refine (HS.out _ ((below_alloc1 _ _).alloc (by simp) _)).mono ?_
    rintro e w2 ⟨rfl, hb⟩
    have HB : Hid (Below w.heap.size w w2) := ((below_alloc1 w _).alloc (by simp) _).trans (hb.mono (by simp; omega))
    clear hb
    go_wp2
    go_ret2
    exact ⟨by unfold Hid; rfl, HB.out⟩
  · go_enter Tryd.func9, Tryd.ntmps9
    go_wp2_with fail
    go_at_call 16
    refine (HS.out _ ((below_alloc1 _ _).alloc (by simp) _)).mono ?_
    rintro e w2 ⟨rfl, hb⟩
    have HB : Hid (Below w.heap.size w w2) := ((below_alloc1 w _).alloc (by simp) _).trans (hb.mono (by simp; omega))
    clear hb
    go_wp2
    go_ret2
    exact ⟨by unfold Hid; rfl, HB.out⟩
/-- the least set for the name with which it holds. -/
theorem someFirst_any (va vc : Value) (ats : List At) (c : List Int) (name : Int) (D : Wd) (w : World) (hA : ReadsA w va ats) (hC : Reads w vc c) (hK : KindsLaid w) :
    Calls Tryd.prog 9 #[.agg #[va, vc], .int .i64 name, .agg (arrW D)] w fun e w' => e = .returned (.tuple #[.int .i64 (firstS ats c name D), errV (lowFault ats c name D)]) ∧ Below w.heap.size w w' := by
  have hS := fun W (hW : Below w.heap.size w W) => sought_any va vc ats c name D true W (hA.below hW) (hC.below hW) (hK.below hW)
  obtain ⟨ao, acap, rfl, _⟩ := hA.slice
  obtain ⟨co, ccap, rfl, _⟩ := hC.slice
  by_cases h0 : someFault ats c name D = 0
  · rw [h0] at hS
    refine (someFirst_ok ao _ acap co _ ccap name D _ _ w hS).mono ?_
    rintro e w' ⟨h, hb⟩
    refine ⟨?_, hb⟩
    rw [h.out, sought_is]
    unfold firstS lowFault
    rw [if_pos h0]
    by_cases hl : someLow ats c name D < 0
    · rw [if_pos hl, if_pos hl, decide_eq_false (by omega)]; rfl
    · rw [if_neg hl, if_neg hl, decide_eq_true (by omega)]; rfl
  · have e1 : firstS ats c name D = 0 := by unfold firstS someLow; rw [if_neg h0]; rfl
    have e2 : lowFault ats c name D = someFault ats c name D := by unfold lowFault; rw [if_neg h0]
    rw [e1, e2]
    rw [errV_no h0] at hS ⊢
    exact someFirst_no ao _ acap co _ ccap name D _ _ _ w hS
end Go.Proofs.YtjaedfjfcghgcabDoor
