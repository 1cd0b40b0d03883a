/-
  Proved: what form.Holds returns, of any formula and any world; what was in memory is as it was (a contract that the statements lean on).
  Proved: what fields.lies returns; what was in memory is as it was (a contract that the statements lean on).
  Proved: what fields.Of returns, of any world; what was in memory is as it was (a contract that the statements lean on).
  A slice of formulas, as it lies in memory (what the contracts of chapters 13 to 20 lean on).
  Proved: what vennlaw4.atomOf and vennlaw4.pow return; what was in memory is as it was (contracts that the statements lean on).
  A formula of an atom alone, and two formulas, as they are laid in memory (what the statements of chapters 14, 15 and 18 lean on).
-/
import Derived.Test.YteknlcachfhfkahDoorLibTU11
import Derived.Test.YteknlcachfhfkahDoorLibTU17
import Derived.Test.YteknlcachfhfkahDoorLibTU18
import Derived.Test.YteknlcachfhfkahDoorLibTU7
import Derived.Test.YteknlcachfhfkahDoorLibTU8
import Derived.Test.YteknlcachfhfkahDoorLibTU5
import Derived.Test.YteknlcachfhfkahDoorLibTU1
namespace Go.Proofs.YteknlcachfhfkahDoor
open Go.ChangeShapes Go.WideShapes Go.ChangeAt Go.RowKit
set_option maxRecDepth 100000

theorem fholds_bad (va vc : Value) (ats : List At) (c : List Int) (u a b d : Int) (w : World) (hA : ReadsA w va ats) (hC : Reads w vc c) (hK : KindsLaid w) (hf : ¬ formFault ats c = 0) :
    Calls Tryd.prog 21 #[.agg #[va, vc], .agg #[.int .i64 u, .int .i64 a, .int .i64 b, .int .i64 d]] w fun e w' => e = .returned (.tuple #[.bool false, .iface 67 (.int .i64 (formFault ats c))]) ∧ Below w.heap.size w w' := by
  obtain ⟨ao, acap, rfl, _⟩ := hA.slice
  obtain ⟨co, ccap, rfl, _⟩ := hC.slice
  obtain ⟨w1, hw1⟩ : ∃ w1, w1 = (w.alloc (.cells #[.slice ao ats.length acap, .slice co c.length ccap] 25)).alloc (.cells #[.int .i64 u, .int .i64 a, .int .i64 b, .int .i64 d] 38) := ⟨_, rfl⟩
  have HB1 : Hid (Below w.heap.size w w1) := by unfold Hid; rw [hw1]; exact (below_alloc1 _ _).trans ((below_alloc1 _ _).mono (by simp))
  have HC : Hid (Calls Tryd.prog 40 #[.agg #[.slice ao ats.length acap, .slice co c.length ccap]] w1 fun e w' => e = .returned (.iface 67 (.int .i64 (formFault ats c))) ∧ Below w1.heap.size w1 w') := by
    have := fcheck_any _ _ ats c w1 (hA.below HB1.out) (hC.below HB1.out) (hK.below HB1.out)
    rw [errV_no hf] at this
    exact this
  clear hA hC hK
  obtain ⟨F, hF⟩ : ∃ F, F = formFault ats c := ⟨_, rfl⟩
  rw [← hF] at HC ⊢
  clear hF hf
  obtain ⟨m, hm⟩ : ∃ m, m = ats.length := ⟨_, rfl⟩
  obtain ⟨n, hn⟩ : ∃ n, n = c.length := ⟨_, rfl⟩
  rw [← hm, ← hn] at HC hw1 ⊢
  clear hm hn
  have x0 : ((w.alloc (.cells #[.slice ao m acap, .slice co n ccap] 25)).alloc (.cells #[.int .i64 u, .int .i64 a, .int .i64 b, .int .i64 d] 38)).cell? ⟨w.heap.size, 0, none⟩ = some (.slice ao m acap) := by
    rw [World.cell?_alloc_lt _ _ ⟨w.heap.size, 0, none⟩ (by simp)]; simp
  have x1 : ((w.alloc (.cells #[.slice ao m acap, .slice co n ccap] 25)).alloc (.cells #[.int .i64 u, .int .i64 a, .int .i64 b, .int .i64 d] 38)).cell? ⟨w.heap.size, 1, none⟩ = some (.slice co n ccap) := by
    rw [World.cell?_alloc_lt _ _ ⟨w.heap.size, 1, none⟩ (by simp)]; simp
  go_enter Tryd.func21, Tryd.ntmps21
  go_wp2_with fail
  rw [← hw1]
  clear hw1 x0 x1
  go_at_call 40
  refine HC.out.mono ?_
  rintro e w2 ⟨rfl, hb⟩
  have HB2 : Hid (Below w.heap.size w w2) := HB1.out.trans (hb.mono HB1.out.size)
  clear hb
  go_wp2
  go_ret2
  exact ⟨rfl, HB2.out⟩

/-- all that Holds walks over, of a right formula. -/
theorem fholds_right (ao co : Option Addr) (acap ccap : Nat) (ats : List At) (c : List Int) (u a b d : Int) (w : World) (hA : ReadsA w (.slice ao ats.length acap) ats) (hC : Reads w (.slice co c.length ccap) c) (hK : KindsLaid w) (hf : formFault ats c = 0) (ok : Bool) (hok : (Wd.mk u a b d).ok = ok) :
    Calls Tryd.prog 21 #[.agg #[.slice ao ats.length acap, .slice co c.length ccap], .agg #[.int .i64 u, .int .i64 a, .int .i64 b, .int .i64 d]] w fun e w' => (if ok = true then e = .returned (.tuple #[.bool (valF ((Wd.mk u a b d).heldL ats) c), .nilIface]) else e = .returned (.tuple #[.bool false, .iface 67 (.int .i64 1)])) ∧ Below w.heap.size w w' := by
  obtain ⟨i0, hi, hz0, hz1, hz2⟩ := info_parts infoBool
  obtain ⟨⟨m1, m6⟩, ⟨n1, n20⟩, hall, hsg, hone⟩ := formFault_zero.1 hf
  obtain ⟨w1, hw1⟩ : ∃ w1, w1 = (w.alloc (.cells #[.slice ao ats.length acap, .slice co c.length ccap] 25)).alloc (.cells #[.int .i64 u, .int .i64 a, .int .i64 b, .int .i64 d] 38) := ⟨_, rfl⟩
  have HB1 : Hid (Below w.heap.size w w1) := by unfold Hid; rw [hw1]; exact (below_alloc1 _ _).trans ((below_alloc1 _ _).mono (by simp))
  have HS1 : Hid (w1.heap.size = w.heap.size + 2) := by unfold Hid; rw [hw1]; simp
  have HCk : Hid (Calls Tryd.prog 40 #[.agg #[.slice ao ats.length acap, .slice co c.length ccap]] w1 fun e w' => e = .returned .nilIface ∧ Below w1.heap.size w1 w') := by
    have := fcheck_any _ _ ats c w1 (hA.below HB1.out) (hC.below HB1.out) (hK.below HB1.out)
    rw [hf, errV_0] at this
    exact this
  have HA : Hid (ReadsA w1 (.slice ao ats.length acap) ats) := hA.below HB1.out
  have HC : Hid (Reads w1 (.slice co c.length ccap) c) := hC.below HB1.out
  have HK : Hid (KindsLaid w1) := hK.below HB1.out
  clear hA hC hK
  have HX : Hid (∀ W, Below w1.heap.size w1 W → (W.cell? ⟨w.heap.size, 0, none⟩ = some (.slice ao ats.length acap) ∧ W.cell? ⟨w.heap.size, 1, none⟩ = some (.slice co c.length ccap)) ∧ (W.cell? ⟨w.heap.size + 1, 0, none⟩ = some (.int .i64 u) ∧ W.cell? ⟨w.heap.size + 1, 1, none⟩ = some (.int .i64 a) ∧ W.cell? ⟨w.heap.size + 1, 2, none⟩ = some (.int .i64 b) ∧ W.cell? ⟨w.heap.size + 1, 3, none⟩ = some (.int .i64 d))) := fun W hc => by
    have l0 : w.heap.size < w1.heap.size := by have := HS1.out; omega
    have l1 : w.heap.size + 1 < w1.heap.size := by have := HS1.out; omega
    have e0 : ∀ j, W.cell? ⟨w.heap.size, j, none⟩ = w1.cell? ⟨w.heap.size, j, none⟩ := fun j => hc.cell (show (⟨w.heap.size, j, none⟩ : Addr).block < _ from l0)
    have e1 : ∀ j, W.cell? ⟨w.heap.size + 1, j, none⟩ = w1.cell? ⟨w.heap.size + 1, j, none⟩ := fun j => hc.cell (show (⟨w.heap.size + 1, j, none⟩ : Addr).block < _ from l1)
    simp only [e0, e1]
    rw [hw1]
    have q : w.heap.size + 1 = (w.alloc (.cells #[.slice ao ats.length acap, .slice co c.length ccap] 25)).heap.size := by simp
    have r : ∀ o j, ((w.alloc (.cells #[.slice ao ats.length acap, .slice co c.length ccap] 25)).alloc o).cell? ⟨w.heap.size, j, none⟩ = (w.alloc (.cells #[.slice ao ats.length acap, .slice co c.length ccap] 25)).cell? ⟨w.heap.size, j, none⟩ := fun o j => World.cell?_alloc_lt _ _ ⟨w.heap.size, j, none⟩ (by simp)
    simp only [r]
    rw [q]
    simp
  have HH : Hid (∀ (x : At) vs vt W, x ∈ ats → Reads W vs x.s → Reads W vt x.t → Below w1.heap.size w1 W → Calls Tryd.prog 44 #[.agg #[.int .i64 x.k, vs, vt, .int .i64 x.n], .agg #[.int .i64 u, .int .i64 a, .int .i64 b, .int .i64 d]] W fun e w' => e = .returned (.tuple #[.bool (if ok = true then (Wd.mk u a b d).holds x.k x.s x.t x.n else false), if ok = true then .nilIface else .iface 67 (.int .i64 1)]) ∧ Below W.heap.size W w') := fun x vs vt W hx h1 h2 hW => by
    have := aholds_any x.k x.n vs vt x.s x.t u a b d W h1 h2 (HK.out.below hW)
    have hxf : atomFault x.k x.s x.t x.n = 0 := hall x hx
    have e0 : (Wd.mk u a b d).holdsFault x.k x.s x.t x.n = if ok = true then 0 else 1 := by unfold Wd.holdsFault; rw [if_pos hxf, hok]
    have e1 : (Wd.mk u a b d).holdsIs x.k x.s x.t x.n = if ok = true then (Wd.mk u a b d).holds x.k x.s x.t x.n else false := by
      unfold Wd.holdsIs; rw [e0]; cases ok <;> rfl
    rw [e0, e1] at this
    cases ok <;> exact this
  have HWk : Hid (∀ G W, ok = true → Below w1.heap.size w1 W → ReadsB W G 0 ((Wd.mk u a b d).heldL ats) → Calls Tryd.prog 45 #[.slice co c.length ccap, .slice (some ⟨G, 0, none⟩) ats.length ats.length] W fun e w' => e = .returned (.bool (valF ((Wd.mk u a b d).heldL ats) c)) ∧ Below W.heap.size W w') := fun G W _ hW hR => by
    have hlen : ((Wd.mk u a b d).heldL ats).length = ats.length := by simp [Wd.heldL]
    rcases HC.out.below hW with ⟨_, _, hv, hcn⟩ | ⟨B, off, cap, hv, hb, _, _, hc⟩
    · rw [hcn] at n1; simp at n1
    cases hv
    have := fwork_any c B off ccap ((Wd.mk u a b d).heldL ats) G 0 ats.length W (by rw [hlen]; exact hsg) hone n20 (by rw [hlen]; exact m6) hb hc hR
    rw [hlen] at this
    exact this
  clear hall hsg hone hf hok
  obtain ⟨Hd, hHd⟩ : ∃ Hd : At → Bool, Hd = fun x => (Wd.mk u a b d).holds x.k x.s x.t x.n := ⟨_, rfl⟩
  have HHd : Hid ((Wd.mk u a b d).heldL ats = ats.map Hd) := by unfold Hid; rw [hHd]; rfl
  have HH' : Hid (∀ (x : At) vs vt W, x ∈ ats → Reads W vs x.s → Reads W vt x.t → Below w1.heap.size w1 W → Calls Tryd.prog 44 #[.agg #[.int .i64 x.k, vs, vt, .int .i64 x.n], .agg #[.int .i64 u, .int .i64 a, .int .i64 b, .int .i64 d]] W fun e w' => e = .returned (.tuple #[.bool (if ok = true then Hd x else false), if ok = true then .nilIface else .iface 67 (.int .i64 1)]) ∧ Below W.heap.size W w') := by
    rw [hHd]; exact HH
  rw [HHd.out] at HWk ⊢
  obtain ⟨V, hV⟩ : ∃ V, V = valF (ats.map Hd) c := ⟨_, rfl⟩
  rw [← hV] at HWk ⊢
  clear hHd HH hV HHd
  obtain ⟨m, hm⟩ : ∃ m, m = ats.length := ⟨_, rfl⟩
  obtain ⟨n, hn⟩ : ∃ n, n = c.length := ⟨_, rfl⟩
  rw [← hm] at m1 m6 HCk HA HX HWk hw1 ⊢
  rw [← hn] at n1 n20 HCk HX HWk hw1 HC ⊢
  have HM : Hid (m = ats.length) := hm
  clear hm hn
  obtain ⟨f, hf⟩ : ∃ f : Nat → Value, f = fun j => .bool ((ats.map Hd).getD j false) := ⟨_, rfl⟩
  have HF : Hid (f = fun j => .bool ((ats.map Hd).getD j false)) := hf
  clear hf
  obtain ⟨⟨x0, x1⟩, ⟨y0, y1, y2, y3⟩⟩ := HX.out w1 (Below.refl _ _)
  rw [hw1] at x0 x1 y0 y1 y2 y3
  go_enter Tryd.func21, Tryd.ntmps21
  go_wp2_with fail
  rw [← hw1]
  clear hw1 x0 x1 y0 y1 y2 y3
  go_at_call 40
  refine HCk.out.mono ?_
  rintro e w2 ⟨rfl, hb⟩
  have HB2 : Hid (Below w1.heap.size w1 w2) := hb
  clear hb HCk
  obtain ⟨⟨x0, x1⟩, ⟨y0, y1, y2, y3⟩⟩ := HX.out w2 HB2.out
  obtain ⟨G, hG⟩ : ∃ G, G = w2.heap.size := ⟨_, rfl⟩
  have HG : Hid (G = w2.heap.size) := hG
  go_wp2_with (first | (at_make; refine wpList_make_full _ rfl _ _ 84 rfl G 4 i0 (.bool false) 1 Tryd.underlying84 hi hz0 hz1 .i64 .i64 _ _ m rfl rfl ?m0 ?m1 ?m2 ?m3 ?m4 ?_))
  case m0 => rfl
  case m1 => rfl
  case m2 => rw [hz2]; omega
  case m3 => unfold maxLen; omega
  case m4 => omega
  intro w3 hown1 hgrow1
  have HO : Hid (w3.ownsRow G 4 1 (.slice (some ⟨G, 0, none⟩) m m) m (fill f (.bool false) m 0) ∧ Below G w2 w3) := by
    refine ⟨?_, ?_⟩
    · rw [fill_zero, ← toList_madeCells_one, hG]
      simpa [Value.cells, hG] using hown1
    · exact (Below.refl _ _).grown hgrow1 (by omega) (fun k hk => by cases hk)
  rw [← hG]
  clear hown1 hgrow1 hG x0 x1 y0 y1 y2 y3
  have HB3 : Hid (∀ W, Below G w2 W → Below w1.heap.size w1 W) := fun W h => HB2.out.trans (h.mono (by rw [HG.out]; exact HB2.out.size))
  obtain ⟨⟨x0, x1⟩, ⟨y0, y1, y2, y3⟩⟩ := HX.out w3 (HB3.out _ HO.out.2)
  go_wp2
  go_loopw [24] (fun i wr => ∃ k : Nat, k ≤ m ∧ i = .int .i64 k ∧ wr.ownsRow G 4 1 (.slice (some ⟨G, 0, none⟩) m m) m (fill f (.bool false) m k) ∧ Below G w2 wr ∧ (0 < k → ok = true)) (fun i _ => m - (intOf i).toNat)
  case atStart => exact ⟨0, Nat.zero_le _, rfl, HO.out.1, HO.out.2, fun h => by omega⟩
  case round =>
    clear x0 x1 y0 y1 y2 y3
    obtain ⟨k, hk, rfl, hown, hbel, hkok⟩ := hrel
    have HB : Hid (Below G w2 wr) := hbel
    have HOW : Hid (wr.ownsRow G 4 1 (.slice (some ⟨G, 0, none⟩) m m) m (fill f (.bool false) m k)) := hown
    clear hbel hown
    obtain ⟨⟨x0, x1⟩, ⟨y0, y1, y2, y3⟩⟩ := HX.out wr (HB3.out _ HB.out)
    by_cases hlt : k < m
    · obtain ⟨x, hx⟩ : ∃ x, ats[k]? = some x := ⟨_, List.getElem?_eq_getElem (by have := HM.out; omega)⟩
      have HXm : Hid (x ∈ ats ∧ f k = .bool (Hd x)) := by
        refine ⟨List.mem_of_getElem? hx, ?_⟩
        rw [HF.out]; simp [hx]
      rcases HA.out.below (HB3.out _ HB.out) with ⟨_, _, _, hn0⟩ | ⟨B, off, cap, hv, hb, _, _, hatm⟩
      · have := HM.out; rw [hn0] at this; simp at this; omega
      obtain rfl : ao = some ⟨B, off, none⟩ := by cases hv; rfl
      obtain ⟨vs, vt, c0, c1, c2, c3, r1, r2⟩ := hatm k x hx
      obtain ⟨sao, scap, rfl, _⟩ := r1.slice
      obtain ⟨tao, tcap, rfl, _⟩ := r2.slice
      clear hv hatm
      obtain ⟨w4, hw4⟩ : ∃ w4, w4 = wr.alloc (.cells #[.int .i64 x.k, .slice sao x.s.length scap, .slice tao x.t.length tcap, .int .i64 x.n] 49) := ⟨_, rfl⟩
      have HB4 : Hid (Below wr.heap.size wr w4) := by unfold Hid; rw [hw4]; exact below_alloc1 wr _
      have HGr : Hid (G < wr.heap.size) := (ownsRow_block HOW.out).2.1
      have HBw : Hid (∀ W, Below wr.heap.size wr W → Below G w2 W) := fun W h => HB.out.trans (h.mono (by have := HGr.out; omega))
      have HCa : Hid (Calls Tryd.prog 44 #[.agg #[.int .i64 x.k, .slice sao x.s.length scap, .slice tao x.t.length tcap, .int .i64 x.n], .agg #[.int .i64 u, .int .i64 a, .int .i64 b, .int .i64 d]] w4 fun e w' => e = .returned (.tuple #[.bool (if ok = true then Hd x else false), if ok = true then .nilIface else .iface 67 (.int .i64 1)]) ∧ Below w4.heap.size w4 w') :=
        HH'.out x _ _ w4 HXm.out.1 (r1.below HB4.out) (r2.below HB4.out) (HB3.out _ (HBw.out _ HB4.out))
      clear r1 r2 x0 x1 y0 y1 y2 y3
      obtain ⟨⟨x0, x1⟩, ⟨y0, y1, y2, y3⟩⟩ := HX.out w4 (HB3.out _ (HBw.out _ HB4.out))
      rw [hw4] at x0 x1 y0 y1 y2 y3
      go_wp2_with fail
      rw [← hw4]
      clear hw4 x0 x1 y0 y1 y2 y3
      go_at_call 44
      refine HCa.out.mono ?_
      rintro e w5 ⟨rfl, hb5⟩
      have HB5 : Hid (Below wr.heap.size wr w5) := HB4.out.trans (hb5.mono HB4.out.size)
      clear hb5 HCa
      cases ok
      · simp only [Bool.false_eq_true, if_false]
        go_wp2
        go_ret2
        exact ⟨by simp, HB1.out.trans ((HB3.out _ (HBw.out _ HB5.out)).mono HB1.out.size)⟩
      · simp only [if_true]
        have hown5 := ownsRow_below HOW.out HB5.out
        have hfr : w5.frozen? ⟨G, k, none⟩ = false := hown5.frozenAt k
        have hcg : w5.cell? ⟨G, k, none⟩ = some (.bool false) := by rw [hown5.cellAt k (by omega), fill_get _ _ _ _ _ hlt, if_neg (by omega)]
        have HR : Hid ((w5.setCell ⟨G, k, none⟩ (.bool (Hd x))).ownsRow G 4 1 (.slice (some ⟨G, 0, none⟩) m m) m (fill f (.bool false) m (k + 1)) ∧ Below G w2 (w5.setCell ⟨G, k, none⟩ (.bool (Hd x)))) := by
          have := hown5.stored k (f k)
          rw [fill_set, HXm.out.2] at this
          exact ⟨this.1, (HBw.out _ HB5.out).setCell (Nat.le_refl _) _⟩
        clear hown5
        go_wp2
        go_roundw
        case rel => exact ⟨k + 1, by omega, by go_num, HR.out.1, HR.out.2, fun _ => by first | rfl | trivial⟩
        case measure => simp [intOf]; omega
    · have hok : ok = true := hkok (by omega)
      subst hok
      have HRb : Hid (ReadsB wr G 0 (ats.map Hd)) := by
        refine ⟨(ownsRow_block HOW.out).2.1, fun j hj => ?_⟩
        have hj' : j < m := by rw [HM.out]; simpa using hj
        rw [Nat.zero_add, HOW.out.cellAt j (by omega), fill_get _ _ _ _ _ hj', if_pos (by omega), HF.out]
      have HCw := HWk.out G wr rfl (HB3.out _ HB.out) HRb.out
      go_wp2_with (go_at_call 45; refine HCw.mono ?_; rintro e w' ⟨rfl, hb⟩)
      go_ret2
      exact ⟨by simp, HB1.out.trans ((HB3.out _ (HB.out.trans (hb.mono (by have := (ownsRow_block HOW.out).2.1; omega)))).mono HB1.out.size)⟩

/-- Holds, whatever the formula and the world. -/
theorem fholds_any (va vc : Value) (ats : List At) (c : List Int) (u a b d : Int) (w : World) (hA : ReadsA w va ats) (hC : Reads w vc c) (hK : KindsLaid w) :
    Calls Tryd.prog 21 #[.agg #[va, vc], .agg #[.int .i64 u, .int .i64 a, .int .i64 b, .int .i64 d]] w fun e w' => e = .returned (.tuple #[.bool ((Wd.mk u a b d).formIs ats c), errV ((Wd.mk u a b d).formFault ats c)]) ∧ Below w.heap.size w w' := by
  by_cases hf : formFault ats c = 0
  · obtain ⟨ao, acap, rfl, _⟩ := hA.slice
    obtain ⟨co, ccap, rfl, _⟩ := hC.slice
    have := fholds_right ao co acap ccap ats c u a b d w hA hC hK hf _ rfl
    by_cases ho : (Wd.mk u a b d).ok = true
    · have e0 : (Wd.mk u a b d).formFault ats c = 0 := wdForm_zero.2 ⟨hf, ho⟩
      have e1 : (Wd.mk u a b d).formIs ats c = valF ((Wd.mk u a b d).heldL ats) c := by unfold Wd.formIs; rw [if_pos e0]
      rw [e0, e1, errV_0]
      exact this.mono fun e w' h => ⟨by have := h.1; rw [if_pos ho] at this; exact this, h.2⟩
    · have e0 : (Wd.mk u a b d).formFault ats c = 1 := by unfold Wd.formFault; rw [if_pos hf, if_neg ho]
      have e1 : (Wd.mk u a b d).formIs ats c = false := by unfold Wd.formIs; rw [e0]; rfl
      rw [e0, e1]
      exact this.mono fun e w' h => ⟨by have := h.1; rw [if_neg ho] at this; exact this, h.2⟩
  · have e0 : (Wd.mk u a b d).formFault ats c = formFault ats c := by unfold Wd.formFault; rw [if_neg hf]
    have e1 : (Wd.mk u a b d).formIs ats c = false := by unfold Wd.formIs; rw [e0, if_neg hf]
    rw [e0, e1, errV_no hf]
    exact fholds_bad va vc ats c u a b d w hA hC hK hf
end Go.Proofs.YteknlcachfhfkahDoor

namespace Go.Proofs.YteknlcachfhfkahDoor
open Go.ChangeShapes Go.WideShapes Go.ChangeAt Go.RowKit

theorem or_one (x : Bool) : bits .or .i64 0 (wrap64 (oneB x)) = oneB x := by cases x <;> decide +kernel
theorem or_two (x y : Bool) : bits .or .i64 (oneB x) (wrap64 (oneB y * 2)) = oneB x + 2 * oneB y := by cases x <;> cases y <;> decide +kernel
theorem or_three (x y z : Bool) : bits .or .i64 (oneB x + 2 * oneB y) (wrap64 (oneB z * 4)) = oneB x + 2 * oneB y + 4 * oneB z := by cases x <;> cases y <;> cases z <;> decide +kernel
theorem field_int (w : Wd) (i : Nat) : (w.field i : Int) = oneB (hasB w.a i) + 2 * oneB (hasB w.b i) + 4 * oneB (hasB w.c i) := by
  unfold Wd.field
  cases hasB w.a i <;> cases hasB w.b i <;> cases hasB w.c i <;> decide

set_option maxRecDepth 100000 in
set_option maxHeartbeats 4000000 in
theorem lies_any (u a b c : Int) (i : Nat) (hok : (Wd.mk u a b c).ok = true) (hi : (i : Int) < u) (w : World) :
    Calls Tryd.prog 53 #[.agg #[.int .i64 u, .int .i64 a, .int .i64 b, .int .i64 c], .int .i64 i] w fun e w' => e = .returned (.int .i64 ((Wd.mk u a b c).field i)) ∧ Below w.heap.size w w' := by
  obtain ⟨w1, hw1⟩ : ∃ w1, w1 = w.alloc (.cells #[.int .i64 u, .int .i64 a, .int .i64 b, .int .i64 c] 38) := ⟨_, rfl⟩
  have HW : Hid (Below w.heap.size w w1) := by unfold Hid; rw [hw1]; exact below_alloc1 _ _
  have x0 : w1.cell? ⟨w.heap.size, 0, none⟩ = some (.int .i64 u) := by rw [hw1]; simp
  have x1 : w1.cell? ⟨w.heap.size, 1, none⟩ = some (.int .i64 a) := by rw [hw1]; simp
  have x2 : w1.cell? ⟨w.heap.size, 2, none⟩ = some (.int .i64 b) := by rw [hw1]; simp
  have x3 : w1.cell? ⟨w.heap.size, 3, none⟩ = some (.int .i64 c) := by rw [hw1]; simp
  obtain ⟨h1, h2, h3⟩ := Wd.ok_iff.1 hok
  obtain ⟨u0, u6, a0, a6⟩ := okB_lt h1
  obtain ⟨_, _, b0, b6⟩ := okB_lt h2
  obtain ⟨_, _, c0, c6⟩ := okB_lt h3
  simp only at u0 u6 a0 a6 b0 b6 c0 c6
  have hi6 : i < 6 := by omega
  have HB : Hid (bits .and .i64 (a / 2 ^ i) 1 = oneB (hasB a i) ∧ bits .and .i64 (b / 2 ^ i) 1 = oneB (hasB b i) ∧ bits .and .i64 (c / 2 ^ i) 1 = oneB (hasB c i)) := ⟨bit_at a i a0 (by omega) (by omega), bit_at b i b0 (by omega) (by omega), bit_at c i c0 (by omega) (by omega)⟩
  have HF : Hid (((Wd.mk u a b c).field i : Int) = oneB (hasB a i) + 2 * oneB (hasB b i) + 4 * oneB (hasB c i)) := field_int _ _
  clear hok h1 h2 h3 hi
  go_enter Tryd.func53, Tryd.ntmps53
  go_wp2
  rw [← hw1]
  clear hw1
  go_loop [5, 7] (fun s j => (j = .int .i64 0 ∧ s = .int .i64 0) ∨ (j = .int .i64 1 ∧ s = .int .i64 (oneB (hasB a i))) ∨ (j = .int .i64 2 ∧ s = .int .i64 (oneB (hasB a i) + 2 * oneB (hasB b i))) ∨ (j = .int .i64 3 ∧ s = .int .i64 (oneB (hasB a i) + 2 * oneB (hasB b i) + 4 * oneB (hasB c i)))) (fun _ i => 3 - (intOf i).toNat)
  case atStart => exact Or.inl ⟨rfl, rfl⟩
  case round =>
    rcases hrel with ⟨rfl, rfl⟩ | ⟨rfl, rfl⟩ | ⟨rfl, rfl⟩ | ⟨rfl, rfl⟩
    · go_wp2
      go_round
      case rel => exact Or.inr (Or.inl ⟨rfl, by rw [HB.out.1, or_one]⟩)
      case measure => simp [intOf]
    · go_wp2
      go_round
      case rel => exact Or.inr (Or.inr (Or.inl ⟨rfl, by rw [HB.out.2.1, or_two]⟩))
      case measure => simp [intOf]
    · go_wp2
      go_round
      case rel => exact Or.inr (Or.inr (Or.inr ⟨rfl, by rw [HB.out.2.2, or_three]⟩))
      case measure => simp [intOf]
    · go_wp2
      go_ret
      exact ⟨back_i HF.out.symm, HW.out⟩

end Go.Proofs.YteknlcachfhfkahDoor

namespace Go.Proofs.YteknlcachfhfkahDoor
open Go.ChangeShapes Go.WideShapes Go.ChangeAt Go.RowKit

/-- how many lie in each field; none, if the world is wrong. -/
def Wd.cts (w : Wd) : Nat → Int := if w.ok = true then w.fc w.u.toNat else fun _ => 0
/-- what is wrong with a world. -/
def Wd.wrong (w : Wd) : Int := if w.ok = true then 0 else 1

set_option maxRecDepth 100000 in
set_option maxHeartbeats 4000000 in
theorem of_wrong (u a b c : Int) (w : World) (ho : (Wd.mk u a b c).ok = false) :
    Calls Tryd.prog 29 #[.agg #[.int .i64 u, .int .i64 a, .int .i64 b, .int .i64 c]] w fun e w' => e = .returned (.tuple #[.agg (arr8 fun _ => 0), .iface 67 (.int .i64 1)]) ∧ Below w.heap.size w w' := by
  obtain ⟨Z, hZ⟩ : ∃ Z : Nat → Int, Z = fun _ => 0 := ⟨_, rfl⟩
  rw [← hZ]
  obtain ⟨w1, hw1⟩ : ∃ w1, w1 = ((w.alloc (.cells #[.int .i64 u, .int .i64 a, .int .i64 b, .int .i64 c] 38)).alloc (.cells #[.int .i64 0, .int .i64 0, .int .i64 0, .int .i64 0, .int .i64 0, .int .i64 0, .int .i64 0, .int .i64 0] 63)).alloc (.cells #[.int .i64 0, .int .i64 0, .int .i64 0, .int .i64 0, .int .i64 0, .int .i64 0, .int .i64 0, .int .i64 0] 63) := ⟨_, rfl⟩
  have HW : Hid (Below w.heap.size w w1) := by unfold Hid; rw [hw1]; exact ((below_alloc1 _ _).alloc (by simp) _).alloc (by simp; omega) _
  have HK0 : Hid (Blk w1 w.heap.size 38 (arrW (Wd.mk u a b c))) := by unfold Hid; rw [hw1]; exact ((Blk.new _ _ _).old _).old _
  have HK1 : Hid (Blk w1 (w.heap.size + 1) 63 (arr8 Z)) := by
    unfold Hid; rw [hw1, hZ]
    have := Blk.new (w.alloc (.cells #[.int .i64 u, .int .i64 a, .int .i64 b, .int .i64 c] 38)) 63 (arr8 fun _ => 0)
    simp only [World.size_alloc] at this
    exact this.old _
  have HK2 : Hid (Blk w1 (w.heap.size + 1 + 1) 63 (arr8 Z)) := by
    unfold Hid; rw [hw1, hZ]
    have := Blk.new ((w.alloc (.cells #[.int .i64 u, .int .i64 a, .int .i64 b, .int .i64 c] 38)).alloc (.cells (arr8 fun _ => 0) 63)) 63 (arr8 fun _ => 0)
    simp only [World.size_alloc] at this
    exact this
  have HC : Hid (Calls Tryd.prog 51 #[.agg #[.int .i64 u, .int .i64 a, .int .i64 b, .int .i64 c]] w1 fun e w' => e = .returned (.iface 67 (.int .i64 1)) ∧ Below w1.heap.size w1 w') := by
    have := checkWorld_any u a b c w1
    rw [if_neg (by rw [ho]; decide)] at this
    exact this
  clear ho hZ
  obtain ⟨x0, x1, x2, x3⟩ := HK0.out.cells4
  go_enter Tryd.func29, Tryd.ntmps29
  go_wp2_with fail
  rw [← hw1]
  clear hw1
  go_wp2_with fail
  go_at_call 51
  refine HC.out.mono ?_
  rintro e w2 ⟨rfl, hb⟩
  have HB : Hid (Below w.heap.size w w2) := HW.out.trans (hb.mono HW.out.size)
  have HR : Hid (Blk w2 (w.heap.size + 1) 63 (arr8 Z)) := HK1.out.below hb
  have HN : Hid (Blk w2 (w.heap.size + 1 + 1) 63 (arr8 Z)) := HK2.out.below hb
  clear hb x0 x1 x2 x3
  obtain ⟨n0, n1, n2, n3, n4, n5, n6, n7⟩ := HN.out.cells8
  obtain ⟨r0, r1, r2, r3, r4, r5, r6, r7⟩ := HR.out.cells8
  obtain ⟨f0, f1, f2, f3, f4, f5, f6, f7⟩ := HR.out.frozen8
  go_wp2
  have hld := load8 (put8_blk HR.out Z)
  refine bodyPost_ret (v := .tuple #[.agg (arr8 Z), .iface 67 (.int .i64 1)]) ?_ rfl ⟨rfl, ?_⟩
  · rw [results_cell_tmp rfl]
    unfold put8 at hld
    simp [asAddr, Result.andThen, hld]
  · exact put8_below HB.out (by omega) _

set_option maxRecDepth 100000 in
set_option maxHeartbeats 4000000 in
theorem of_right (n : Nat) (a b c : Int) (w : World) (ho : (Wd.mk n a b c).ok = true) :
    Calls Tryd.prog 29 #[.agg #[.int .i64 n, .int .i64 a, .int .i64 b, .int .i64 c]] w fun e w' => e = .returned (.tuple #[.agg (arr8 ((Wd.mk n a b c).fc n)), .nilIface]) ∧ Below w.heap.size w w' := by
  obtain ⟨Z, hZ⟩ : ∃ Z : Nat → Int, Z = fun _ => 0 := ⟨_, rfl⟩
  obtain ⟨w1, hw1⟩ : ∃ w1, w1 = ((w.alloc (.cells #[.int .i64 n, .int .i64 a, .int .i64 b, .int .i64 c] 38)).alloc (.cells #[.int .i64 0, .int .i64 0, .int .i64 0, .int .i64 0, .int .i64 0, .int .i64 0, .int .i64 0, .int .i64 0] 63)).alloc (.cells #[.int .i64 0, .int .i64 0, .int .i64 0, .int .i64 0, .int .i64 0, .int .i64 0, .int .i64 0, .int .i64 0] 63) := ⟨_, rfl⟩
  have HW : Hid (Below w.heap.size w w1) := by unfold Hid; rw [hw1]; exact ((below_alloc1 _ _).alloc (by simp) _).alloc (by simp; omega) _
  have HK0 : Hid (Blk w1 w.heap.size 38 (arrW (Wd.mk n a b c))) := by unfold Hid; rw [hw1]; exact ((Blk.new _ _ _).old _).old _
  have HK1 : Hid (Blk w1 (w.heap.size + 1) 63 (arr8 Z)) := by
    unfold Hid; rw [hw1, hZ]
    have := Blk.new (w.alloc (.cells #[.int .i64 n, .int .i64 a, .int .i64 b, .int .i64 c] 38)) 63 (arr8 fun _ => 0)
    simp only [World.size_alloc] at this
    exact this.old _
  have HK2 : Hid (Blk w1 (w.heap.size + 1 + 1) 63 (arr8 Z)) := by
    unfold Hid; rw [hw1, hZ]
    have := Blk.new ((w.alloc (.cells #[.int .i64 n, .int .i64 a, .int .i64 b, .int .i64 c] 38)).alloc (.cells (arr8 fun _ => 0) 63)) 63 (arr8 fun _ => 0)
    simp only [World.size_alloc] at this
    exact this
  have HC : Hid (Calls Tryd.prog 51 #[.agg #[.int .i64 n, .int .i64 a, .int .i64 b, .int .i64 c]] w1 fun e w' => e = .returned .nilIface ∧ Below w1.heap.size w1 w') := by
    have := checkWorld_any n a b c w1
    rw [if_pos ho] at this
    exact this
  have hn6 : n ≤ 6 := by have := (ok_u ho).2; simp only at this; omega
  have HL : Hid (∀ (k : Nat) W, k < n → Calls Tryd.prog 53 #[.agg #[.int .i64 n, .int .i64 a, .int .i64 b, .int .i64 c], .int .i64 k] W fun e w' => e = .returned (.int .i64 ((Wd.mk n a b c).field k)) ∧ Below W.heap.size W w') := fun k W hk => lies_any n a b c k ho (by omega) W
  obtain ⟨D, hD⟩ : ∃ D, D = Wd.mk n a b c := ⟨_, rfl⟩
  rw [← hD] at HK0 HL ⊢
  have hDu : D.u = n := by rw [hD]
  have hDa : D.a = a := by rw [hD]
  have hDb : D.b = b := by rw [hD]
  have hDc : D.c = c := by rw [hD]
  have HDD : Hid (D.u = n ∧ D.a = a ∧ D.b = b ∧ D.c = c) := ⟨hDu, hDa, hDb, hDc⟩
  have HZ : Hid (arr8 Z = arr8 (D.fc 0)) := by unfold Hid; rw [hZ]; rfl
  clear ho hD hDu hDa hDb hDc hZ
  have HX : Hid (∀ W, Blk W w.heap.size 38 (arrW D) → W.cell? ⟨w.heap.size, 0, none⟩ = some (.int .i64 n) ∧ W.cell? ⟨w.heap.size, 1, none⟩ = some (.int .i64 a) ∧ W.cell? ⟨w.heap.size, 2, none⟩ = some (.int .i64 b) ∧ W.cell? ⟨w.heap.size, 3, none⟩ = some (.int .i64 c)) := fun W h => by
    have := h.cells4
    rw [HDD.out.1, HDD.out.2.1, HDD.out.2.2.1, HDD.out.2.2.2] at this
    exact this
  obtain ⟨x0, x1, x2, x3⟩ := HX.out _ HK0.out
  go_enter Tryd.func29, Tryd.ntmps29
  go_wp2_with fail
  rw [← hw1]
  clear hw1
  go_wp2_with fail
  go_at_call 51
  refine HC.out.mono ?_
  rintro e w2 ⟨rfl, hb⟩
  have HB : Hid (Below w.heap.size w w2) := HW.out.trans (hb.mono HW.out.size)
  have HP : Hid (Blk w2 w.heap.size 38 (arrW D)) := HK0.out.below hb
  have HR : Hid (Blk w2 (w.heap.size + 1) 63 (arr8 Z)) := HK1.out.below hb
  have HN : Hid (Blk w2 (w.heap.size + 1 + 1) 63 (arr8 Z)) := HK2.out.below hb
  clear hb x0 x1 x2 x3
  obtain ⟨x0, x1, x2, x3⟩ := HX.out _ HP.out
  go_wp2
  clear x0 x1 x2 x3
  go_loopw [15] (fun i wr => ∃ k : Nat, k ≤ n ∧ i = .int .i64 k ∧ Below w.heap.size w wr ∧ Blk wr w.heap.size 38 (arrW D) ∧ Blk wr (w.heap.size + 1) 63 (arr8 Z) ∧ Blk wr (w.heap.size + 1 + 1) 63 (arr8 (D.fc k))) (fun i _ => n - (intOf i).toNat)
  case atStart => exact ⟨0, Nat.zero_le _, rfl, HB.out, HP.out, HR.out, by rw [← HZ.out]; exact HN.out⟩
  case round =>
    obtain ⟨k, hk, rfl, hb, hp, hr, hn⟩ := hrel
    have HB1 : Hid (Below w.heap.size w wr) := hb
    have HP1 : Hid (Blk wr w.heap.size 38 (arrW D)) := hp
    have HR1 : Hid (Blk wr (w.heap.size + 1) 63 (arr8 Z)) := hr
    have HN1 : Hid (Blk wr (w.heap.size + 1 + 1) 63 (arr8 (D.fc k))) := hn
    clear hb hp hr hn
    by_cases hlt : k < n
    · obtain ⟨x0, x1, x2, x3⟩ := HX.out _ HP1.out
      have hf8 := field_lt D k
      have HLk : Hid (Calls Tryd.prog 53 #[.agg #[.int .i64 n, .int .i64 a, .int .i64 b, .int .i64 c], .int .i64 k] wr fun e w' => e = .returned (.int .i64 (D.field k)) ∧ Below wr.heap.size wr w') := HL.out k wr hlt
      obtain ⟨f, hf⟩ : ∃ f, f = D.field k := ⟨_, rfl⟩
      rw [← hf] at hf8 HLk
      have HF : Hid (f = D.field k) := hf
      clear hf
      go_wp2_with fail
      go_at_call 53
      refine HLk.out.mono ?_
      rintro e w3 ⟨rfl, hb⟩
      have HB3 : Hid (Below w.heap.size w w3) := HB1.out.trans (hb.mono HB1.out.size)
      have HP3 : Hid (Blk w3 w.heap.size 38 (arrW D)) := HP1.out.below hb
      have HR3 : Hid (Blk w3 (w.heap.size + 1) 63 (arr8 Z)) := HR1.out.below hb
      have hn3 : Blk w3 (w.heap.size + 1 + 1) 63 (arr8 (D.fc k)) := HN1.out.below hb
      clear hb x0 x1 x2 x3
      have c3 : w3.cell? ⟨w.heap.size + 1 + 1, f, none⟩ = some (.int .i64 (D.fc k f)) := by rw [hn3.cell, arr8_get _ hf8]
      have z3 := hn3.frozen f
      have p3 := fc_le D k f
      have HE : Hid (Blk (w3.setCell ⟨w.heap.size + 1 + 1, f, none⟩ (.int .i64 (D.fc k f + 1))) (w.heap.size + 1 + 1) 63 (arr8 (D.fc (k + 1)))) := by
        have := hn3.set f (.int .i64 (D.fc k f + 1))
        rw [arr8_one _ hf8] at this
        have e : (fun g => D.fc k g + if f = g then 1 else 0) = D.fc (k + 1) := by
          funext g; show _ = D.fc k g + _; rw [HF.out]
        rw [e] at this
        exact this
      clear hn3
      go_wp2
      go_roundw
      case rel => exact ⟨k + 1, by omega, by go_num, HB3.out.setCell (by simp; omega) _, HP3.out.far (by omega) _ _, HR3.out.far (by omega) _ _, HE.out⟩
      case measure => simp [intOf]; omega
    · obtain rfl : k = n := by omega
      obtain ⟨n0, n1, n2, n3, n4, n5, n6, n7⟩ := HN1.out.cells8
      obtain ⟨r0, r1, r2, r3, r4, r5, r6, r7⟩ := HR1.out.cells8
      obtain ⟨f0, f1, f2, f3, f4, f5, f6, f7⟩ := HR1.out.frozen8
      go_wp2
      have hld := load8 (put8_blk HR1.out (D.fc k))
      refine bodyPost_ret (v := .tuple #[.agg (arr8 (D.fc k)), .nilIface]) ?_ rfl ⟨rfl, ?_⟩
      · rw [results_cell_tmp rfl]
        unfold put8 at hld
        simp [asAddr, Result.andThen, hld]
      · exact put8_below HB1.out (by omega) _

/-- Of, whatever the world. -/
theorem fieldsOf_any (u a b c : Int) (w : World) :
    Calls Tryd.prog 29 #[.agg #[.int .i64 u, .int .i64 a, .int .i64 b, .int .i64 c]] w fun e w' => e = .returned (.tuple #[.agg (arr8 (Wd.mk u a b c).cts), errV (Wd.mk u a b c).wrong]) ∧ Below w.heap.size w w' := by
  rcases (Bool.eq_false_or_eq_true (Wd.mk u a b c).ok).symm with ho | ho
  · unfold Wd.cts Wd.wrong
    rw [if_neg (by rw [ho]; decide), if_neg (by rw [ho]; decide)]
    exact of_wrong u a b c w ho
  · unfold Wd.cts Wd.wrong
    rw [if_pos ho, if_pos ho]
    obtain ⟨n, rfl⟩ := Int.eq_ofNat_of_zero_le (ok_u ho).1
    exact of_right n a b c w ho
end Go.Proofs.YteknlcachfhfkahDoor

namespace Go.Proofs.YteknlcachfhfkahDoor
open Go.ChangeShapes Go.WideShapes Go.ChangeAt Go.RowKit

/-- at this place in memory lies a formula. -/
def FormAt (w : World) (b off : Nat) (f : Fm) : Prop :=
  ∃ va vc, w.cell? ⟨b, off, none⟩ = some va ∧ w.cell? ⟨b, off + 1, none⟩ = some vc ∧ ReadsA w va f.ats ∧ Reads w vc f.c
/-- the slice v reads, in the world w, as these formulas. -/
def ReadsF (w : World) (v : Value) (fs : List Fm) : Prop :=
  (∃ ao cap, v = .slice ao 0 cap ∧ fs = []) ∨ (∃ b off cap, v = .slice (some ⟨b, off, none⟩) fs.length cap ∧ b < w.heap.size ∧ 0 < fs.length ∧ (fs.length ≤ 9223372036854775807 ∧ fs.length ≤ cap) ∧ ∀ i f, fs[i]? = some f → FormAt w b (off + i * 2) f)
theorem FormAt.below {w w' : World} {b off : Nat} {f : Fm} (h : FormAt w b off f) (hB : b < w.heap.size) (hb : Below w.heap.size w w') : FormAt w' b off f := by
  obtain ⟨va, vc, h0, h1, h2, h3⟩ := h
  exact ⟨va, vc, (hb.cell hB).trans h0, (hb.cell hB).trans h1, h2.below hb, h3.below hb⟩
theorem ReadsF.below {w w' : World} {v : Value} {fs : List Fm} (h : ReadsF w v fs) (hb : Below w.heap.size w w') : ReadsF w' v fs := by
  rcases h with h | ⟨b, off, cap, h1, h2, h3, h4, h5⟩
  · exact Or.inl h
  · exact Or.inr ⟨b, off, cap, h1, Nat.lt_of_lt_of_le h2 hb.size, h3, h4, fun i f hf => (h5 i f hf).below h2 hb⟩
theorem ReadsF.slice {w : World} {v : Value} {fs : List Fm} (h : ReadsF w v fs) : ∃ ao cap, v = .slice ao fs.length cap ∧ fs.length ≤ 9223372036854775807 := by
  rcases h with ⟨ao, cap, rfl, rfl⟩ | ⟨b, off, cap, rfl, _, _, h, _⟩
  · exact ⟨ao, cap, rfl, by decide⟩
  · exact ⟨_, cap, rfl, h.1⟩
/-- the i-th of them. -/
theorem ReadsF.at {w : World} {b off n cap : Nat} {fs : List Fm} (h : ReadsF w (.slice (some ⟨b, off, none⟩) n cap) fs) {i : Nat} {f : Fm} (hf : fs[i]? = some f) : b < w.heap.size ∧ FormAt w b (off + i * 2) f := by
  rcases h with ⟨ao, cap', hv, h0⟩ | ⟨b', off', cap', hv, h2, _, _, h5⟩
  · rw [h0] at hf; simp at hf
  · obtain ⟨h1, _, _⟩ := Value.slice.inj hv
    obtain ⟨rfl, rfl, _⟩ := Addr.mk.inj (Option.some.inj h1)
    exact ⟨h2, h5 i f hf⟩
theorem ReadsF.place {w : World} {v : Value} {fs : List Fm} (h : ReadsF w v fs) (h0 : 0 < fs.length) : ∃ b off cap, v = .slice (some ⟨b, off, none⟩) fs.length cap := by
  rcases h with ⟨ao, cap', _, hz⟩ | ⟨b', off', cap', hv, _⟩
  · rw [hz] at h0; simp at h0
  · exact ⟨b', off', cap', hv⟩
end Go.Proofs.YteknlcachfhfkahDoor

namespace Go.Proofs.YteknlcachfhfkahDoor
open Go.ChangeShapes Go.WideShapes Go.ChangeAt Go.RowKit
set_option maxRecDepth 100000

theorem four_at (w : World) (o0 o1 o2 o3 : Obj) :
    ((((w.alloc o0).alloc o1).alloc o2).alloc o3).heap[w.heap.size]? = some o0 ∧
    ((((w.alloc o0).alloc o1).alloc o2).alloc o3).heap[w.heap.size + 1]? = some o1 ∧
    ((((w.alloc o0).alloc o1).alloc o2).alloc o3).heap[w.heap.size + 1 + 1]? = some o2 ∧
    ((((w.alloc o0).alloc o1).alloc o2).alloc o3).heap[w.heap.size + 1 + 1 + 1]? = some o3 ∧
    Below w.heap.size w ((((w.alloc o0).alloc o1).alloc o2).alloc o3) := by
  have s1 : (w.alloc o0).heap.size = w.heap.size + 1 := World.size_alloc _ _
  have s2 : ((w.alloc o0).alloc o1).heap.size = w.heap.size + 1 + 1 := by rw [World.size_alloc, s1]
  have s3 : (((w.alloc o0).alloc o1).alloc o2).heap.size = w.heap.size + 1 + 1 + 1 := by rw [World.size_alloc, s2]
  refine ⟨?_, ?_, ?_, ?_, ?_⟩
  · rw [Below.heap_alloc _ _ _ (by omega), Below.heap_alloc _ _ _ (by omega), Below.heap_alloc _ _ _ (by omega)]; exact heap_alloc_new _ _
  · rw [Below.heap_alloc _ _ _ (by omega), Below.heap_alloc _ _ _ (by omega), ← s1]; exact heap_alloc_new _ _
  · rw [Below.heap_alloc _ _ _ (by omega), ← s2]; exact heap_alloc_new _ _
  · rw [← s3]; exact heap_alloc_new _ _
  · exact ((((Below.refl _ w).alloc (Nat.le_refl _) _).alloc (by omega) _).alloc (by omega) _).alloc (by omega) _
theorem six_few (w : World) (o0 o1 o2 o3 o4 o5 : Obj) :
    ((((((w.alloc o0).alloc o1).alloc o2).alloc o3).alloc o4).alloc o5).heap[w.heap.size]? = some o0 ∧
    ((((((w.alloc o0).alloc o1).alloc o2).alloc o3).alloc o4).alloc o5).heap[w.heap.size + 1]? = some o1 ∧
    ((((((w.alloc o0).alloc o1).alloc o2).alloc o3).alloc o4).alloc o5).heap[w.heap.size + 1 + 1]? = some o2 ∧
    ((((((w.alloc o0).alloc o1).alloc o2).alloc o3).alloc o4).alloc o5).heap[w.heap.size + 1 + 1 + 1]? = some o3 ∧
    ((((((w.alloc o0).alloc o1).alloc o2).alloc o3).alloc o4).alloc o5).heap[w.heap.size + 1 + 1 + 1 + 1]? = some o4 ∧
    ((((((w.alloc o0).alloc o1).alloc o2).alloc o3).alloc o4).alloc o5).heap[w.heap.size + 1 + 1 + 1 + 1 + 1]? = some o5 ∧
    Below w.heap.size w ((((((w.alloc o0).alloc o1).alloc o2).alloc o3).alloc o4).alloc o5) := by
  have s1 : (w.alloc o0).heap.size = w.heap.size + 1 := World.size_alloc _ _
  have s2 : ((w.alloc o0).alloc o1).heap.size = w.heap.size + 1 + 1 := by rw [World.size_alloc, s1]
  obtain ⟨h0, h1, h2, h3, hb⟩ := four_at ((w.alloc o0).alloc o1) o2 o3 o4 o5
  have hb2 : Below w.heap.size w ((w.alloc o0).alloc o1) := (below_alloc1 _ _).alloc (by omega) _
  rw [s2] at h0 h1 h2 h3
  refine ⟨?_, ?_, h0, h1, h2, h3, hb2.trans (hb.mono (by omega))⟩
  · rw [hb.block _ (by omega), Below.heap_alloc _ _ _ (by omega)]; exact heap_alloc_new _ _
  · rw [hb.block _ (by omega), ← s1]; exact heap_alloc_new _ _

theorem infoForm : (Tryd.prog.info? 25).map (·.size) = some 2 := by kernel_rfl

set_option maxHeartbeats 4000000 in
theorem atomOf_any (name n : Int) (w : World) :
    Calls Tryd.prog 9 #[.int .i64 name, .int .i64 n] w fun e w' => ∃ b1 b2, e = .returned (.agg #[.slice (some ⟨b1, 0, none⟩) 1 1, .slice (some ⟨b2, 0, none⟩) 1 1]) ∧ ReadsA w' (.slice (some ⟨b1, 0, none⟩) 1 1) [⟨3, [name], [], n⟩] ∧ Reads w' (.slice (some ⟨b2, 0, none⟩) 1 1) [0] ∧ Below w.heap.size w w' := by
  go_enter Tryd.func9, Tryd.ntmps9
  go_wp2
  obtain ⟨b0, b1, b2, b3, hB⟩ := four_at w (.cells #[.slice (some ⟨w.heap.size + 1 + 1, 0, none⟩) 1 1, .slice (some ⟨w.heap.size + 1 + 1 + 1, 0, none⟩) 1 1] 25) (.cells #[.int .i64 name] 3) (.cells #[.int .i64 3, .slice (some ⟨w.heap.size + 1, 0, none⟩) 1 1, .slice none 0 0, .int .i64 n] 49) (.cells #[.int .i64 0] 3)
  obtain ⟨W, hW⟩ : ∃ W, W = (((w.alloc (.cells #[.slice (some ⟨w.heap.size + 1 + 1, 0, none⟩) 1 1, .slice (some ⟨w.heap.size + 1 + 1 + 1, 0, none⟩) 1 1] 25)).alloc (.cells #[.int .i64 name] 3)).alloc (.cells #[.int .i64 3, .slice (some ⟨w.heap.size + 1, 0, none⟩) 1 1, .slice none 0 0, .int .i64 n] 49)).alloc (.cells #[.int .i64 0] 3) := ⟨_, rfl⟩
  rw [← hW] at b0 b1 b2 b3 hB ⊢
  clear hW
  have k1 : Blk W (w.heap.size + 1) 3 #[.int .i64 name] := b1
  have k2 : Blk W (w.heap.size + 1 + 1) 49 #[.int .i64 3, .slice (some ⟨w.heap.size + 1, 0, none⟩) 1 1, .slice none 0 0, .int .i64 n] := b2
  have k3 : Blk W (w.heap.size + 1 + 1 + 1) 3 #[.int .i64 0] := b3
  refine bodyPost_ret (v := .agg #[.slice (some ⟨w.heap.size + 1 + 1, 0, none⟩) 1 1, .slice (some ⟨w.heap.size + 1 + 1 + 1, 0, none⟩) 1 1]) ?_ rfl ⟨_, _, rfl, ?_, ?_, hB⟩
  · exact results_cell_row rfl _ _ w.heap.size 25 _ (0, 0) _ rfl b0 Tryd.underlying25 rfl infoForm
  · refine Or.inr ⟨w.heap.size + 1 + 1, 0, 1, rfl, k2.lt, by simp, ⟨by simp, by simp⟩, fun i a ha => ?_⟩
    cases i with
    | zero =>
      obtain rfl : (⟨3, [name], [], n⟩ : At) = a := by simpa using ha
      refine ⟨_, _, k2.cell 0, k2.cell 1, k2.cell 2, k2.cell 3, Or.inr ⟨w.heap.size + 1, 0, 1, rfl, k1.lt, by simp, ⟨by simp, by simp⟩, fun j hj => ?_⟩, Or.inl ⟨none, 0, rfl, rfl⟩⟩
      obtain rfl : j = 0 := by simp at hj; exact hj
      exact k1.cell 0
    | succ i => simp at ha
  · refine Or.inr ⟨w.heap.size + 1 + 1 + 1, 0, 1, rfl, k3.lt, by simp, ⟨by simp, by simp⟩, fun j hj => ?_⟩
    obtain rfl : j = 0 := by simp at hj; exact hj
    exact k3.cell 0

end Go.Proofs.YteknlcachfhfkahDoor

namespace Go.Proofs.YteknlcachfhfkahDoor
open Go.ChangeShapes Go.WideShapes Go.ChangeAt Go.RowKit
set_option maxRecDepth 100000

theorem three_at (w : World) (o0 o1 o2 : Obj) :
    (((w.alloc o0).alloc o1).alloc o2).heap[w.heap.size]? = some o0 ∧
    (((w.alloc o0).alloc o1).alloc o2).heap[w.heap.size + 1]? = some o1 ∧
    (((w.alloc o0).alloc o1).alloc o2).heap[w.heap.size + 1 + 1]? = some o2 ∧
    Below w.heap.size w (((w.alloc o0).alloc o1).alloc o2) := by
  have s1 : (w.alloc o0).heap.size = w.heap.size + 1 := World.size_alloc _ _
  have s2 : ((w.alloc o0).alloc o1).heap.size = w.heap.size + 1 + 1 := by rw [World.size_alloc, s1]
  refine ⟨?_, ?_, ?_, ?_⟩
  · rw [Below.heap_alloc _ _ _ (by omega), Below.heap_alloc _ _ _ (by omega)]; exact heap_alloc_new _ _
  · rw [Below.heap_alloc _ _ _ (by omega), ← s1]; exact heap_alloc_new _ _
  · rw [← s2]; exact heap_alloc_new _ _
  · exact (((Below.refl _ w).alloc (Nat.le_refl _) _).alloc (by omega) _).alloc (by omega) _
/-- an atom alone, laid in two blocks. -/
theorem alone_reads {W : World} {G C : Nat} {k n : Int} {vt : Value} {t : List Int} (hA : Blk W G 49 #[.int .i64 k, vt, .slice none 0 0, .int .i64 n]) (hT : Reads W vt t) (hC : Blk W C 3 #[.int .i64 0]) :
    ReadsA W (.slice (some ⟨G, 0, none⟩) 1 1) [⟨k, t, [], n⟩] ∧ Reads W (.slice (some ⟨C, 0, none⟩) 1 1) [0] := by
  refine ⟨Or.inr ⟨G, 0, 1, rfl, hA.lt, by simp, ⟨by simp, by simp⟩, fun i a ha => ?_⟩, Or.inr ⟨C, 0, 1, rfl, hC.lt, by simp, ⟨by simp, by simp⟩, fun j hj => ?_⟩⟩
  · cases i with
    | zero =>
      obtain rfl : (⟨k, t, [], n⟩ : At) = a := by simpa using ha
      exact ⟨_, _, hA.cell 0, hA.cell 1, hA.cell 2, hA.cell 3, hT, Or.inl ⟨none, 0, rfl, rfl⟩⟩
    | succ i => simp at ha
  · obtain rfl : j = 0 := by simp at hj; exact hj
    exact hC.cell 0
/-- two formulas, laid in a block. -/
theorem two_forms {W : World} {G : Nat} {va vc va' vc' : Value} {f g : Fm} (h : Blk W G 25 #[va, vc, va', vc']) (h1 : ReadsA W va f.ats) (h2 : Reads W vc f.c) (h3 : ReadsA W va' g.ats) (h4 : Reads W vc' g.c) : ReadsF W (.slice (some ⟨G, 0, none⟩) 2 2) [f, g] := by
  refine Or.inr ⟨G, 0, 2, rfl, h.lt, by simp, ⟨by simp, by simp⟩, fun i x hx => ?_⟩
  cases i with
  | zero =>
    obtain rfl : f = x := by simpa using hx
    exact ⟨va, vc, h.cell 0, h.cell 1, h1, h2⟩
  | succ i =>
    cases i with
    | zero =>
      obtain rfl : g = x := by simpa using hx
      exact ⟨va', vc', h.cell 2, h.cell 3, h3, h4⟩
    | succ i => simp at hx
theorem errV_is (n : Int) : errV n = .nilIface ∨ ∃ m, errV n = .iface 67 (.int .i64 m) := by
  by_cases h : n = 0
  · left; rw [h]; rfl
  · right; exact ⟨n, errV_no h⟩
theorem errV_nil {n : Int} (h : errV n = .nilIface) : n = 0 := by
  by_cases h0 : n = 0
  · exact h0
  · rw [errV_no h0] at h; cases h
end Go.Proofs.YteknlcachfhfkahDoor
