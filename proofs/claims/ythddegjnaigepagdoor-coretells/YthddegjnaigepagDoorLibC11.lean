/-
  Proved: what form.Holds returns, of any formula and any world; what was in memory is as it was (a contract that the statements lean on).
  Plain facts on a block of memory, whole: what lies in it, behind a call, behind a store; eight numbers and a world as blocks. (What the contracts of package fields lean on.)
  Proved: one number more, appended to a row of one's own that may grow long (a law that the walks of chapter 13's program lean on).
  Proved: what core.bit, all, isOpen, places, check and holding return; what was in memory is as it was (contracts that the statements of chapter 13 lean on).
-/
import Derived.Test.YthddegjnaigepagDoorLibC8
import Derived.Test.YthddegjnaigepagDoorLibC10
import Derived.Test.YthddegjnaigepagDoorLibC2
import Derived.Test.YthddegjnaigepagDoorLibC6
import Derived.Handy
import Derived.Maps.AppendAt
import Derived.Deep.AppendLies
import Derived.Test.YthddegjnaigepagDoorLibC5
import Derived.Shelf.Abstract
import Derived.Deep.LoopGhost
import Derived.Deep.CutRange
import Derived.Deep.RegionWith
import Derived.OwnWalk
namespace Go.Proofs.YthddegjnaigepagDoor
open Go.ChangeShapes Go.WideShapes Go.ChangeAt Go.RowKit
set_option maxRecDepth 100000

theorem fholds_bad (va vc : Value) (ats : List At) (c : List Int) (u a b d : Int) (w : World) (hA : ReadsA w va ats) (hC : Reads w vc c) (hK : KindsLaid w) (hf : ¬ formFault ats c = 0) :
    Calls Tryd.prog 13 #[.agg #[va, vc], .agg #[.int .i64 u, .int .i64 a, .int .i64 b, .int .i64 d]] w fun e w' => e = .returned (.tuple #[.bool false, .iface 52 (.int .i64 (formFault ats c))]) ∧ Below w.heap.size w w' := by
  obtain ⟨ao, acap, rfl, _⟩ := hA.slice
  obtain ⟨co, ccap, rfl, _⟩ := hC.slice
  obtain ⟨w1, hw1⟩ : ∃ w1, w1 = (w.alloc (.cells #[.slice ao ats.length acap, .slice co c.length ccap] 42)).alloc (.cells #[.int .i64 u, .int .i64 a, .int .i64 b, .int .i64 d] 37) := ⟨_, rfl⟩
  have HB1 : Hid (Below w.heap.size w w1) := by unfold Hid; rw [hw1]; exact (below_alloc1 _ _).trans ((below_alloc1 _ _).mono (by simp))
  have HC : Hid (Calls Tryd.prog 24 #[.agg #[.slice ao ats.length acap, .slice co c.length ccap]] w1 fun e w' => e = .returned (.iface 52 (.int .i64 (formFault ats c))) ∧ Below w1.heap.size w1 w') := by
    have := fcheck_any _ _ ats c w1 (hA.below HB1.out) (hC.below HB1.out) (hK.below HB1.out)
    rw [errV_no hf] at this
    exact this
  clear hA hC hK
  obtain ⟨F, hF⟩ : ∃ F, F = formFault ats c := ⟨_, rfl⟩
  rw [← hF] at HC ⊢
  clear hF hf
  obtain ⟨m, hm⟩ : ∃ m, m = ats.length := ⟨_, rfl⟩
  obtain ⟨n, hn⟩ : ∃ n, n = c.length := ⟨_, rfl⟩
  rw [← hm, ← hn] at HC hw1 ⊢
  clear hm hn
  have x0 : ((w.alloc (.cells #[.slice ao m acap, .slice co n ccap] 42)).alloc (.cells #[.int .i64 u, .int .i64 a, .int .i64 b, .int .i64 d] 37)).cell? ⟨w.heap.size, 0, none⟩ = some (.slice ao m acap) := by
    rw [World.cell?_alloc_lt _ _ ⟨w.heap.size, 0, none⟩ (by simp)]; simp
  have x1 : ((w.alloc (.cells #[.slice ao m acap, .slice co n ccap] 42)).alloc (.cells #[.int .i64 u, .int .i64 a, .int .i64 b, .int .i64 d] 37)).cell? ⟨w.heap.size, 1, none⟩ = some (.slice co n ccap) := by
    rw [World.cell?_alloc_lt _ _ ⟨w.heap.size, 1, none⟩ (by simp)]; simp
  go_enter Tryd.func13, Tryd.ntmps13
  go_wp2_with fail
  rw [← hw1]
  clear hw1 x0 x1
  go_at_call 24
  refine HC.out.mono ?_
  rintro e w2 ⟨rfl, hb⟩
  have HB2 : Hid (Below w.heap.size w w2) := HB1.out.trans (hb.mono HB1.out.size)
  clear hb
  go_wp2
  go_ret2
  exact ⟨rfl, HB2.out⟩

/-- all that Holds walks over, of a right formula. -/
theorem fholds_right (ao co : Option Addr) (acap ccap : Nat) (ats : List At) (c : List Int) (u a b d : Int) (w : World) (hA : ReadsA w (.slice ao ats.length acap) ats) (hC : Reads w (.slice co c.length ccap) c) (hK : KindsLaid w) (hf : formFault ats c = 0) (ok : Bool) (hok : (Wd.mk u a b d).ok = ok) :
    Calls Tryd.prog 13 #[.agg #[.slice ao ats.length acap, .slice co c.length ccap], .agg #[.int .i64 u, .int .i64 a, .int .i64 b, .int .i64 d]] w fun e w' => (if ok = true then e = .returned (.tuple #[.bool (valF ((Wd.mk u a b d).heldL ats) c), .nilIface]) else e = .returned (.tuple #[.bool false, .iface 52 (.int .i64 1)])) ∧ Below w.heap.size w w' := by
  obtain ⟨i0, hi, hz0, hz1, hz2⟩ := info_parts infoBool
  obtain ⟨⟨m1, m6⟩, ⟨n1, n20⟩, hall, hsg, hone⟩ := formFault_zero.1 hf
  obtain ⟨w1, hw1⟩ : ∃ w1, w1 = (w.alloc (.cells #[.slice ao ats.length acap, .slice co c.length ccap] 42)).alloc (.cells #[.int .i64 u, .int .i64 a, .int .i64 b, .int .i64 d] 37) := ⟨_, rfl⟩
  have HB1 : Hid (Below w.heap.size w w1) := by unfold Hid; rw [hw1]; exact (below_alloc1 _ _).trans ((below_alloc1 _ _).mono (by simp))
  have HS1 : Hid (w1.heap.size = w.heap.size + 2) := by unfold Hid; rw [hw1]; simp
  have HCk : Hid (Calls Tryd.prog 24 #[.agg #[.slice ao ats.length acap, .slice co c.length ccap]] w1 fun e w' => e = .returned .nilIface ∧ Below w1.heap.size w1 w') := by
    have := fcheck_any _ _ ats c w1 (hA.below HB1.out) (hC.below HB1.out) (hK.below HB1.out)
    rw [hf, errV_0] at this
    exact this
  have HA : Hid (ReadsA w1 (.slice ao ats.length acap) ats) := hA.below HB1.out
  have HC : Hid (Reads w1 (.slice co c.length ccap) c) := hC.below HB1.out
  have HK : Hid (KindsLaid w1) := hK.below HB1.out
  clear hA hC hK
  have HX : Hid (∀ W, Below w1.heap.size w1 W → (W.cell? ⟨w.heap.size, 0, none⟩ = some (.slice ao ats.length acap) ∧ W.cell? ⟨w.heap.size, 1, none⟩ = some (.slice co c.length ccap)) ∧ (W.cell? ⟨w.heap.size + 1, 0, none⟩ = some (.int .i64 u) ∧ W.cell? ⟨w.heap.size + 1, 1, none⟩ = some (.int .i64 a) ∧ W.cell? ⟨w.heap.size + 1, 2, none⟩ = some (.int .i64 b) ∧ W.cell? ⟨w.heap.size + 1, 3, none⟩ = some (.int .i64 d))) := fun W hc => by
    have l0 : w.heap.size < w1.heap.size := by have := HS1.out; omega
    have l1 : w.heap.size + 1 < w1.heap.size := by have := HS1.out; omega
    have e0 : ∀ j, W.cell? ⟨w.heap.size, j, none⟩ = w1.cell? ⟨w.heap.size, j, none⟩ := fun j => hc.cell (show (⟨w.heap.size, j, none⟩ : Addr).block < _ from l0)
    have e1 : ∀ j, W.cell? ⟨w.heap.size + 1, j, none⟩ = w1.cell? ⟨w.heap.size + 1, j, none⟩ := fun j => hc.cell (show (⟨w.heap.size + 1, j, none⟩ : Addr).block < _ from l1)
    simp only [e0, e1]
    rw [hw1]
    have q : w.heap.size + 1 = (w.alloc (.cells #[.slice ao ats.length acap, .slice co c.length ccap] 42)).heap.size := by simp
    have r : ∀ o j, ((w.alloc (.cells #[.slice ao ats.length acap, .slice co c.length ccap] 42)).alloc o).cell? ⟨w.heap.size, j, none⟩ = (w.alloc (.cells #[.slice ao ats.length acap, .slice co c.length ccap] 42)).cell? ⟨w.heap.size, j, none⟩ := fun o j => World.cell?_alloc_lt _ _ ⟨w.heap.size, j, none⟩ (by simp)
    simp only [r]
    rw [q]
    simp
  have HH : Hid (∀ (x : At) vs vt W, x ∈ ats → Reads W vs x.s → Reads W vt x.t → Below w1.heap.size w1 W → Calls Tryd.prog 25 #[.agg #[.int .i64 x.k, vs, vt, .int .i64 x.n], .agg #[.int .i64 u, .int .i64 a, .int .i64 b, .int .i64 d]] W fun e w' => e = .returned (.tuple #[.bool (if ok = true then (Wd.mk u a b d).holds x.k x.s x.t x.n else false), if ok = true then .nilIface else .iface 52 (.int .i64 1)]) ∧ Below W.heap.size W w') := fun x vs vt W hx h1 h2 hW => by
    have := aholds_any x.k x.n vs vt x.s x.t u a b d W h1 h2 (HK.out.below hW)
    have hxf : atomFault x.k x.s x.t x.n = 0 := hall x hx
    have e0 : (Wd.mk u a b d).holdsFault x.k x.s x.t x.n = if ok = true then 0 else 1 := by unfold Wd.holdsFault; rw [if_pos hxf, hok]
    have e1 : (Wd.mk u a b d).holdsIs x.k x.s x.t x.n = if ok = true then (Wd.mk u a b d).holds x.k x.s x.t x.n else false := by
      unfold Wd.holdsIs; rw [e0]; cases ok <;> rfl
    rw [e0, e1] at this
    cases ok <;> exact this
  have HWk : Hid (∀ G W, ok = true → Below w1.heap.size w1 W → ReadsB W G 0 ((Wd.mk u a b d).heldL ats) → Calls Tryd.prog 26 #[.slice co c.length ccap, .slice (some ⟨G, 0, none⟩) ats.length ats.length] W fun e w' => e = .returned (.bool (valF ((Wd.mk u a b d).heldL ats) c)) ∧ Below W.heap.size W w') := fun G W _ hW hR => by
    have hlen : ((Wd.mk u a b d).heldL ats).length = ats.length := by simp [Wd.heldL]
    rcases HC.out.below hW with ⟨_, _, hv, hcn⟩ | ⟨B, off, cap, hv, hb, _, _, hc⟩
    · rw [hcn] at n1; simp at n1
    cases hv
    have := fwork_any c B off ccap ((Wd.mk u a b d).heldL ats) G 0 ats.length W (by rw [hlen]; exact hsg) hone n20 (by rw [hlen]; exact m6) hb hc hR
    rw [hlen] at this
    exact this
  clear hall hsg hone hf hok
  obtain ⟨Hd, hHd⟩ : ∃ Hd : At → Bool, Hd = fun x => (Wd.mk u a b d).holds x.k x.s x.t x.n := ⟨_, rfl⟩
  have HHd : Hid ((Wd.mk u a b d).heldL ats = ats.map Hd) := by unfold Hid; rw [hHd]; rfl
  have HH' : Hid (∀ (x : At) vs vt W, x ∈ ats → Reads W vs x.s → Reads W vt x.t → Below w1.heap.size w1 W → Calls Tryd.prog 25 #[.agg #[.int .i64 x.k, vs, vt, .int .i64 x.n], .agg #[.int .i64 u, .int .i64 a, .int .i64 b, .int .i64 d]] W fun e w' => e = .returned (.tuple #[.bool (if ok = true then Hd x else false), if ok = true then .nilIface else .iface 52 (.int .i64 1)]) ∧ Below W.heap.size W w') := by
    rw [hHd]; exact HH
  rw [HHd.out] at HWk ⊢
  obtain ⟨V, hV⟩ : ∃ V, V = valF (ats.map Hd) c := ⟨_, rfl⟩
  rw [← hV] at HWk ⊢
  clear hHd HH hV HHd
  obtain ⟨m, hm⟩ : ∃ m, m = ats.length := ⟨_, rfl⟩
  obtain ⟨n, hn⟩ : ∃ n, n = c.length := ⟨_, rfl⟩
  rw [← hm] at m1 m6 HCk HA HX HWk hw1 ⊢
  rw [← hn] at n1 n20 HCk HX HWk hw1 HC ⊢
  have HM : Hid (m = ats.length) := hm
  clear hm hn
  obtain ⟨f, hf⟩ : ∃ f : Nat → Value, f = fun j => .bool ((ats.map Hd).getD j false) := ⟨_, rfl⟩
  have HF : Hid (f = fun j => .bool ((ats.map Hd).getD j false)) := hf
  clear hf
  obtain ⟨⟨x0, x1⟩, ⟨y0, y1, y2, y3⟩⟩ := HX.out w1 (Below.refl _ _)
  rw [hw1] at x0 x1 y0 y1 y2 y3
  go_enter Tryd.func13, Tryd.ntmps13
  go_wp2_with fail
  rw [← hw1]
  clear hw1 x0 x1 y0 y1 y2 y3
  go_at_call 24
  refine HCk.out.mono ?_
  rintro e w2 ⟨rfl, hb⟩
  have HB2 : Hid (Below w1.heap.size w1 w2) := hb
  clear hb HCk
  obtain ⟨⟨x0, x1⟩, ⟨y0, y1, y2, y3⟩⟩ := HX.out w2 HB2.out
  obtain ⟨G, hG⟩ : ∃ G, G = w2.heap.size := ⟨_, rfl⟩
  have HG : Hid (G = w2.heap.size) := hG
  go_wp2_with (first | (at_make; refine wpList_make_full _ rfl _ _ 54 rfl G 4 i0 (.bool false) 1 Tryd.underlying54 hi hz0 hz1 .i64 .i64 _ _ m rfl rfl ?m0 ?m1 ?m2 ?m3 ?m4 ?_))
  case m0 => rfl
  case m1 => rfl
  case m2 => rw [hz2]; omega
  case m3 => unfold maxLen; omega
  case m4 => omega
  intro w3 hown1 hgrow1
  have HO : Hid (w3.ownsRow G 4 1 (.slice (some ⟨G, 0, none⟩) m m) m (fill f (.bool false) m 0) ∧ Below G w2 w3) := by
    refine ⟨?_, ?_⟩
    · rw [fill_zero, ← toList_madeCells_one, hG]
      simpa [Value.cells, hG] using hown1
    · exact (Below.refl _ _).grown hgrow1 (by omega) (fun k hk => by cases hk)
  rw [← hG]
  clear hown1 hgrow1 hG x0 x1 y0 y1 y2 y3
  have HB3 : Hid (∀ W, Below G w2 W → Below w1.heap.size w1 W) := fun W h => HB2.out.trans (h.mono (by rw [HG.out]; exact HB2.out.size))
  obtain ⟨⟨x0, x1⟩, ⟨y0, y1, y2, y3⟩⟩ := HX.out w3 (HB3.out _ HO.out.2)
  go_wp2
  go_loopw [24] (fun i wr => ∃ k : Nat, k ≤ m ∧ i = .int .i64 k ∧ wr.ownsRow G 4 1 (.slice (some ⟨G, 0, none⟩) m m) m (fill f (.bool false) m k) ∧ Below G w2 wr ∧ (0 < k → ok = true)) (fun i _ => m - (intOf i).toNat)
  case atStart => exact ⟨0, Nat.zero_le _, rfl, HO.out.1, HO.out.2, fun h => by omega⟩
  case round =>
    clear x0 x1 y0 y1 y2 y3
    obtain ⟨k, hk, rfl, hown, hbel, hkok⟩ := hrel
    have HB : Hid (Below G w2 wr) := hbel
    have HOW : Hid (wr.ownsRow G 4 1 (.slice (some ⟨G, 0, none⟩) m m) m (fill f (.bool false) m k)) := hown
    clear hbel hown
    obtain ⟨⟨x0, x1⟩, ⟨y0, y1, y2, y3⟩⟩ := HX.out wr (HB3.out _ HB.out)
    by_cases hlt : k < m
    · obtain ⟨x, hx⟩ : ∃ x, ats[k]? = some x := ⟨_, List.getElem?_eq_getElem (by have := HM.out; omega)⟩
      have HXm : Hid (x ∈ ats ∧ f k = .bool (Hd x)) := by
        refine ⟨List.mem_of_getElem? hx, ?_⟩
        rw [HF.out]; simp [hx]
      rcases HA.out.below (HB3.out _ HB.out) with ⟨_, _, _, hn0⟩ | ⟨B, off, cap, hv, hb, _, _, hatm⟩
      · have := HM.out; rw [hn0] at this; simp at this; omega
      obtain rfl : ao = some ⟨B, off, none⟩ := by cases hv; rfl
      obtain ⟨vs, vt, c0, c1, c2, c3, r1, r2⟩ := hatm k x hx
      obtain ⟨sao, scap, rfl, _⟩ := r1.slice
      obtain ⟨tao, tcap, rfl, _⟩ := r2.slice
      clear hv hatm
      obtain ⟨w4, hw4⟩ : ∃ w4, w4 = wr.alloc (.cells #[.int .i64 x.k, .slice sao x.s.length scap, .slice tao x.t.length tcap, .int .i64 x.n] 39) := ⟨_, rfl⟩
      have HB4 : Hid (Below wr.heap.size wr w4) := by unfold Hid; rw [hw4]; exact below_alloc1 wr _
      have HGr : Hid (G < wr.heap.size) := (ownsRow_block HOW.out).2.1
      have HBw : Hid (∀ W, Below wr.heap.size wr W → Below G w2 W) := fun W h => HB.out.trans (h.mono (by have := HGr.out; omega))
      have HCa : Hid (Calls Tryd.prog 25 #[.agg #[.int .i64 x.k, .slice sao x.s.length scap, .slice tao x.t.length tcap, .int .i64 x.n], .agg #[.int .i64 u, .int .i64 a, .int .i64 b, .int .i64 d]] w4 fun e w' => e = .returned (.tuple #[.bool (if ok = true then Hd x else false), if ok = true then .nilIface else .iface 52 (.int .i64 1)]) ∧ Below w4.heap.size w4 w') :=
        HH'.out x _ _ w4 HXm.out.1 (r1.below HB4.out) (r2.below HB4.out) (HB3.out _ (HBw.out _ HB4.out))
      clear r1 r2 x0 x1 y0 y1 y2 y3
      obtain ⟨⟨x0, x1⟩, ⟨y0, y1, y2, y3⟩⟩ := HX.out w4 (HB3.out _ (HBw.out _ HB4.out))
      rw [hw4] at x0 x1 y0 y1 y2 y3
      go_wp2_with fail
      rw [← hw4]
      clear hw4 x0 x1 y0 y1 y2 y3
      go_at_call 25
      refine HCa.out.mono ?_
      rintro e w5 ⟨rfl, hb5⟩
      have HB5 : Hid (Below wr.heap.size wr w5) := HB4.out.trans (hb5.mono HB4.out.size)
      clear hb5 HCa
      cases ok
      · simp only [Bool.false_eq_true, if_false]
        go_wp2
        go_ret2
        exact ⟨by simp, HB1.out.trans ((HB3.out _ (HBw.out _ HB5.out)).mono HB1.out.size)⟩
      · simp only [if_true]
        have hown5 := ownsRow_below HOW.out HB5.out
        have hfr : w5.frozen? ⟨G, k, none⟩ = false := hown5.frozenAt k
        have hcg : w5.cell? ⟨G, k, none⟩ = some (.bool false) := by rw [hown5.cellAt k (by omega), fill_get _ _ _ _ _ hlt, if_neg (by omega)]
        have HR : Hid ((w5.setCell ⟨G, k, none⟩ (.bool (Hd x))).ownsRow G 4 1 (.slice (some ⟨G, 0, none⟩) m m) m (fill f (.bool false) m (k + 1)) ∧ Below G w2 (w5.setCell ⟨G, k, none⟩ (.bool (Hd x)))) := by
          have := hown5.stored k (f k)
          rw [fill_set, HXm.out.2] at this
          exact ⟨this.1, (HBw.out _ HB5.out).setCell (Nat.le_refl _) _⟩
        clear hown5
        go_wp2
        go_roundw
        case rel => exact ⟨k + 1, by omega, by go_num, HR.out.1, HR.out.2, fun _ => by first | rfl | trivial⟩
        case measure => simp [intOf]; omega
    · have hok : ok = true := hkok (by omega)
      subst hok
      have HRb : Hid (ReadsB wr G 0 (ats.map Hd)) := by
        refine ⟨(ownsRow_block HOW.out).2.1, fun j hj => ?_⟩
        have hj' : j < m := by rw [HM.out]; simpa using hj
        rw [Nat.zero_add, HOW.out.cellAt j (by omega), fill_get _ _ _ _ _ hj', if_pos (by omega), HF.out]
      have HCw := HWk.out G wr rfl (HB3.out _ HB.out) HRb.out
      go_wp2_with (go_at_call 26; refine HCw.mono ?_; rintro e w' ⟨rfl, hb⟩)
      go_ret2
      exact ⟨by simp, HB1.out.trans ((HB3.out _ (HB.out.trans (hb.mono (by have := (ownsRow_block HOW.out).2.1; omega)))).mono HB1.out.size)⟩

/-- Holds, whatever the formula and the world. -/
theorem fholds_any (va vc : Value) (ats : List At) (c : List Int) (u a b d : Int) (w : World) (hA : ReadsA w va ats) (hC : Reads w vc c) (hK : KindsLaid w) :
    Calls Tryd.prog 13 #[.agg #[va, vc], .agg #[.int .i64 u, .int .i64 a, .int .i64 b, .int .i64 d]] w fun e w' => e = .returned (.tuple #[.bool ((Wd.mk u a b d).formIs ats c), errV ((Wd.mk u a b d).formFault ats c)]) ∧ Below w.heap.size w w' := by
  by_cases hf : formFault ats c = 0
  · obtain ⟨ao, acap, rfl, _⟩ := hA.slice
    obtain ⟨co, ccap, rfl, _⟩ := hC.slice
    have := fholds_right ao co acap ccap ats c u a b d w hA hC hK hf _ rfl
    by_cases ho : (Wd.mk u a b d).ok = true
    · have e0 : (Wd.mk u a b d).formFault ats c = 0 := wdForm_zero.2 ⟨hf, ho⟩
      have e1 : (Wd.mk u a b d).formIs ats c = valF ((Wd.mk u a b d).heldL ats) c := by unfold Wd.formIs; rw [if_pos e0]
      rw [e0, e1, errV_0]
      exact this.mono fun e w' h => ⟨by have := h.1; rw [if_pos ho] at this; exact this, h.2⟩
    · have e0 : (Wd.mk u a b d).formFault ats c = 1 := by unfold Wd.formFault; rw [if_pos hf, if_neg ho]
      have e1 : (Wd.mk u a b d).formIs ats c = false := by unfold Wd.formIs; rw [e0]; rfl
      rw [e0, e1]
      exact this.mono fun e w' h => ⟨by have := h.1; rw [if_neg ho] at this; exact this, h.2⟩
  · have e0 : (Wd.mk u a b d).formFault ats c = formFault ats c := by unfold Wd.formFault; rw [if_neg hf]
    have e1 : (Wd.mk u a b d).formIs ats c = false := by unfold Wd.formIs; rw [e0, if_neg hf]
    rw [e0, e1, errV_no hf]
    exact fholds_bad va vc ats c u a b d w hA hC hK hf
end Go.Proofs.YthddegjnaigepagDoor

namespace Go.Proofs.YthddegjnaigepagDoor
open Go.ChangeShapes Go.WideShapes Go.ChangeAt Go.RowKit

/-- block G holds the cells cs, and all of them may be written. -/
def Blk (w : World) (G : Nat) (T : TypeId) (cs : Array Value) : Prop := w.heap[G]? = some (.cells cs T (0, 0))
theorem Blk.lt {w : World} {G : Nat} {T : TypeId} {cs : Array Value} (h : Blk w G T cs) : G < w.heap.size := (Array.getElem?_eq_some_iff.1 h).1
theorem Blk.below {w w' : World} {G : Nat} {T : TypeId} {cs : Array Value} (h : Blk w G T cs) (hb : Below w.heap.size w w') : Blk w' G T cs := by
  unfold Blk; rw [hb.block G h.lt]; exact h
theorem Blk.cell {w : World} {G : Nat} {T : TypeId} {cs : Array Value} (h : Blk w G T cs) (j : Nat) : w.cell? ⟨G, j, none⟩ = cs[j]? := cell_of_row w G j cs T (0, 0) h
theorem Blk.frozen {w : World} {G : Nat} {T : TypeId} {cs : Array Value} (h : Blk w G T cs) (j : Nat) : w.frozen? ⟨G, j, none⟩ = false := frozen_of_row w G j cs T h
theorem Blk.set {w : World} {G : Nat} {T : TypeId} {cs : Array Value} (h : Blk w G T cs) (j : Nat) (u : Value) : Blk (w.setCell ⟨G, j, none⟩ u) G T (cs.setIfInBounds j u) := heap_setCell_same w G j cs T u h
theorem Blk.far {w : World} {G : Nat} {T : TypeId} {cs : Array Value} (h : Blk w G T cs) {R : Nat} (hR : G ≠ R) (j : Nat) (u : Value) : Blk (w.setCell ⟨R, j, none⟩ u) G T cs := by
  unfold Blk; rw [heap_setCell_other w ⟨R, j, none⟩ G u hR]; exact h
theorem Blk.drew {w : World} {G : Nat} {T : TypeId} {cs : Array Value} (h : Blk w G T cs) : Blk w.drew G T cs := h
theorem Blk.new (w : World) (T : TypeId) (cs : Array Value) : Blk (w.alloc (.cells cs T)) w.heap.size T cs := heap_alloc_new w _
theorem Blk.old {w : World} {G : Nat} {T : TypeId} {cs : Array Value} (h : Blk w G T cs) (o : Obj) : Blk (w.alloc o) G T cs := by
  unfold Blk; rw [heap_alloc_old w o h.lt]; exact h

/-- eight numbers. -/
def arr8 (N : Nat → Int) : Array Value := #[.int .i64 (N 0), .int .i64 (N 1), .int .i64 (N 2), .int .i64 (N 3), .int .i64 (N 4), .int .i64 (N 5), .int .i64 (N 6), .int .i64 (N 7)]
theorem arr8_get (N : Nat → Int) {f : Nat} (hf : f < 8) : (arr8 N)[f]? = some (.int .i64 (N f)) := by
  rcases eight hf with rfl | rfl | rfl | rfl | rfl | rfl | rfl | rfl <;> rfl
theorem arr8_one (N : Nat → Int) {f : Nat} (hf : f < 8) : (arr8 N).setIfInBounds f (.int .i64 (N f + 1)) = arr8 (fun g => N g + if f = g then 1 else 0) := by
  rcases eight hf with rfl | rfl | rfl | rfl | rfl | rfl | rfl | rfl <;> simp [arr8]
theorem arr8_same {N M : Nat → Int} (h : ∀ f, f < 8 → N f = M f) : arr8 N = arr8 M := by
  unfold arr8
  rw [h 0 (by omega), h 1 (by omega), h 2 (by omega), h 3 (by omega), h 4 (by omega), h 5 (by omega), h 6 (by omega), h 7 (by omega)]
theorem arr8_all (N M : Nat → Int) : ((((((((arr8 N).setIfInBounds 0 (.int .i64 (M 0))).setIfInBounds 1 (.int .i64 (M 1))).setIfInBounds 2 (.int .i64 (M 2))).setIfInBounds 3 (.int .i64 (M 3))).setIfInBounds 4 (.int .i64 (M 4))).setIfInBounds 5 (.int .i64 (M 5))).setIfInBounds 6 (.int .i64 (M 6))).setIfInBounds 7 (.int .i64 (M 7)) = arr8 M := by
  simp [arr8]
/-- a world's four numbers. -/
def arrW (w : Wd) : Array Value := #[.int .i64 w.u, .int .i64 w.a, .int .i64 w.b, .int .i64 w.c]

theorem load8 {W : World} {R : Nat} {N : Nat → Int} (h : Blk W R 67 (arr8 N)) : (loadVar 67 ⟨R, 0, none⟩).run Tryd.prog W = .ok (.agg (arr8 N)) W := by
  have hl := run_loadCells_list (P := Tryd.prog) W ⟨R, 0, none⟩ (arr8 N).toList (fun j v hj => by
    have := h.cell j
    rw [← Array.getElem?_toList] at this
    rw [hj] at this
    have ha : (⟨R, 0, none⟩ : Addr).add j = ⟨R, j, none⟩ := by unfold Addr.add; split <;> simp_all
    rw [ha]; exact this)
  simp [loadVar, Tryd.isAgg67, Tryd.sizeOf67, Result.andThen, arr8] at hl ⊢
  simp [hl]
theorem Blk.cells8 {w : World} {G : Nat} {T : TypeId} {N : Nat → Int} (h : Blk w G T (arr8 N)) : w.cell? ⟨G, 0, none⟩ = some (.int .i64 (N 0)) ∧ w.cell? ⟨G, 1, none⟩ = some (.int .i64 (N 1)) ∧ w.cell? ⟨G, 2, none⟩ = some (.int .i64 (N 2)) ∧ w.cell? ⟨G, 3, none⟩ = some (.int .i64 (N 3)) ∧ w.cell? ⟨G, 4, none⟩ = some (.int .i64 (N 4)) ∧ w.cell? ⟨G, 5, none⟩ = some (.int .i64 (N 5)) ∧ w.cell? ⟨G, 6, none⟩ = some (.int .i64 (N 6)) ∧ w.cell? ⟨G, 7, none⟩ = some (.int .i64 (N 7)) :=
  ⟨h.cell 0, h.cell 1, h.cell 2, h.cell 3, h.cell 4, h.cell 5, h.cell 6, h.cell 7⟩
theorem Blk.frozen8 {w : World} {G : Nat} {T : TypeId} {cs : Array Value} (h : Blk w G T cs) : w.frozen? ⟨G, 0, none⟩ = false ∧ w.frozen? ⟨G, 1, none⟩ = false ∧ w.frozen? ⟨G, 2, none⟩ = false ∧ w.frozen? ⟨G, 3, none⟩ = false ∧ w.frozen? ⟨G, 4, none⟩ = false ∧ w.frozen? ⟨G, 5, none⟩ = false ∧ w.frozen? ⟨G, 6, none⟩ = false ∧ w.frozen? ⟨G, 7, none⟩ = false :=
  ⟨h.frozen 0, h.frozen 1, h.frozen 2, h.frozen 3, h.frozen 4, h.frozen 5, h.frozen 6, h.frozen 7⟩
theorem Blk.cells4 {w : World} {G : Nat} {T : TypeId} {W : Wd} (h : Blk w G T (arrW W)) : w.cell? ⟨G, 0, none⟩ = some (.int .i64 W.u) ∧ w.cell? ⟨G, 1, none⟩ = some (.int .i64 W.a) ∧ w.cell? ⟨G, 2, none⟩ = some (.int .i64 W.b) ∧ w.cell? ⟨G, 3, none⟩ = some (.int .i64 W.c) :=
  ⟨h.cell 0, h.cell 1, h.cell 2, h.cell 3⟩
theorem Blk.frozen4 {w : World} {G : Nat} {T : TypeId} {cs : Array Value} (h : Blk w G T cs) : w.frozen? ⟨G, 0, none⟩ = false ∧ w.frozen? ⟨G, 1, none⟩ = false ∧ w.frozen? ⟨G, 2, none⟩ = false ∧ w.frozen? ⟨G, 3, none⟩ = false :=
  ⟨h.frozen 0, h.frozen 1, h.frozen 2, h.frozen 3⟩
/-- eight numbers, and a world, written into a block. -/
def put8 (w : World) (R : Nat) (M : Nat → Int) : World := (((((((w.setCell ⟨R, 0, none⟩ (.int .i64 (M 0))).setCell ⟨R, 1, none⟩ (.int .i64 (M 1))).setCell ⟨R, 2, none⟩ (.int .i64 (M 2))).setCell ⟨R, 3, none⟩ (.int .i64 (M 3))).setCell ⟨R, 4, none⟩ (.int .i64 (M 4))).setCell ⟨R, 5, none⟩ (.int .i64 (M 5))).setCell ⟨R, 6, none⟩ (.int .i64 (M 6))).setCell ⟨R, 7, none⟩ (.int .i64 (M 7))
def putW (w : World) (R : Nat) (M : Wd) : World := (((w.setCell ⟨R, 0, none⟩ (.int .i64 M.u)).setCell ⟨R, 1, none⟩ (.int .i64 M.a)).setCell ⟨R, 2, none⟩ (.int .i64 M.b)).setCell ⟨R, 3, none⟩ (.int .i64 M.c)
theorem put8_blk {w : World} {R : Nat} {T : TypeId} {N : Nat → Int} (h : Blk w R T (arr8 N)) (M : Nat → Int) : Blk (put8 w R M) R T (arr8 M) := by
  have := (((((((h.set 0 (.int .i64 (M 0))).set 1 (.int .i64 (M 1))).set 2 (.int .i64 (M 2))).set 3 (.int .i64 (M 3))).set 4 (.int .i64 (M 4))).set 5 (.int .i64 (M 5))).set 6 (.int .i64 (M 6))).set 7 (.int .i64 (M 7))
  rw [arr8_all] at this
  exact this
theorem put8_far {w : World} {R : Nat} {G : Nat} {T : TypeId} {cs : Array Value} (h : Blk w G T cs) (hR : G ≠ R) (M : Nat → Int) : Blk (put8 w R M) G T cs :=
  (((((((h.far hR 0 _).far hR 1 _).far hR 2 _).far hR 3 _).far hR 4 _).far hR 5 _).far hR 6 _).far hR 7 _
theorem put8_below {B : Nat} {w w' : World} {R : Nat} (h : Below B w w') (hR : B ≤ R) (M : Nat → Int) : Below B w (put8 w' R M) :=
  (((((((h.setCell hR _).setCell hR _).setCell hR _).setCell hR _).setCell hR _).setCell hR _).setCell hR _).setCell hR _
theorem putW_blk {w : World} {R : Nat} {T : TypeId} {N : Wd} (h : Blk w R T (arrW N)) (M : Wd) : Blk (putW w R M) R T (arrW M) := by
  have := (((h.set 0 (.int .i64 M.u)).set 1 (.int .i64 M.a)).set 2 (.int .i64 M.b)).set 3 (.int .i64 M.c)
  have e : ((((arrW N).setIfInBounds 0 (.int .i64 M.u)).setIfInBounds 1 (.int .i64 M.a)).setIfInBounds 2 (.int .i64 M.b)).setIfInBounds 3 (.int .i64 M.c) = arrW M := by simp [arrW]
  rw [e] at this
  exact this
theorem putW_far {w : World} {R : Nat} {G : Nat} {T : TypeId} {cs : Array Value} (h : Blk w G T cs) (hR : G ≠ R) (M : Wd) : Blk (putW w R M) G T cs :=
  (((h.far hR 0 _).far hR 1 _).far hR 2 _).far hR 3 _
theorem putW_below {B : Nat} {w w' : World} {R : Nat} (h : Below B w w') (hR : B ≤ R) (M : Wd) : Below B w (putW w' R M) :=
  (((h.setCell hR _).setCell hR _).setCell hR _).setCell hR _
theorem loadW {W : World} {R : Nat} {M : Wd} (h : Blk W R 37 (arrW M)) : (loadVar 37 ⟨R, 0, none⟩).run Tryd.prog W = .ok (.agg (arrW M)) W := by
  have hl := run_loadCells_list (P := Tryd.prog) W ⟨R, 0, none⟩ (arrW M).toList (fun j v hj => by
    have := h.cell j
    rw [← Array.getElem?_toList] at this
    rw [hj] at this
    have ha : (⟨R, 0, none⟩ : Addr).add j = ⟨R, j, none⟩ := by unfold Addr.add; split <;> simp_all
    rw [ha]; exact this)
  simp [loadVar, Tryd.isAgg37, Tryd.sizeOf37, Result.andThen, arrW] at hl ⊢
  simp [hl]
end Go.Proofs.YthddegjnaigepagDoor

namespace Go.Proofs.YthddegjnaigepagDoor
open Go.ChangeShapes Go.WideShapes Go.ChangeAt Go.RowKit
set_option maxRecDepth 100000

theorem infoH : (Tryd.prog.info? 3).isSome = true := by kernel_rfl
theorem zeroH : (Tryd.prog.info? 3).bind (·.zero) = some (.int .i64 0) := by kernel_rfl
theorem sizeH : (Tryd.prog.info? 3).map (·.size) = some 1 := by kernel_rfl
theorem bytesH : (Tryd.prog.info? 3).map (·.bytes) = some 8 := by kernel_rfl
/-- one number more, out of a block of its own. -/
theorem append_long {w : World} {ops : Array Oper} {rest : List Oper} {o : Oper} {a : Act} {Q : Exit → Act → World → Prop} (hgd : o.guard = none) (s x : Operand)
    (ho : o.op = .call { callee := .builtin .append, args := #[s, x], argTypes := #[30, 30] }) (K : Nat) (v : Value) (hs : a.eval s = v) (l : List Int) (r : Int) (B c : Nat) (hx : a.eval x = .slice (some ⟨B, 0, none⟩) 1 c)
    (hown : w.ownsRow K 3 1 v l.length (l.map (Value.int .i64))) (hB : w.heap[B]? = some (.cells #[.int .i64 r] 3 (0, 0))) (hK : K ≤ w.heap.size) (h12 : l.length ≤ 1000000)
    (h : ∀ v' w', w'.ownsRow K 3 1 v' (l.length + 1) ((l ++ [r]).map (Value.int .i64)) → w.grownBy w' v.ownBlock → (v'.ownBlock = v.ownBlock ∨ v'.ownBlock = some w.heap.size) → wpList Tryd.prog ops Q rest (a.put o.dst v') w') :
    wpList Tryd.prog ops Q (o :: rest) a w := by
  obtain ⟨i1, hi⟩ : ∃ i, Tryd.prog.info? 3 = some i := Option.isSome_iff_exists.1 infoH
  have hz0 : i1.zero = some (.int .i64 0) := by have := zeroH; rw [hi] at this; simpa using this
  have hz1 : i1.size = 1 := by have := sizeH; rw [hi] at this; simpa using this
  have hz2 : i1.bytes = 8 := by have := bytesH; rw [hi] at this; simpa using this
  refine wpList_append_own_at w hgd s x 30 ho K 3 i1 _ 1 8 Tryd.underlying30 hi hz0 hz1 hz2 rfl (by decide) v l.length (l.map (Value.int .i64)) hs hown ⟨B, 0, none⟩ 1 c [.int .i64 r] hx rfl (World.news_of_block hB) (by simp [Value.oneCell']) (by unfold maxLen; omega) (by omega) hK ?_
  intro v' w' h1 h2 _ h5
  refine h v' w' ?_ h2 h5
  rw [List.map_append]
  exact h1
theorem own_readsL {w : World} {K : Nat} {v : Value} {t : List Int} (h : w.ownsRow K 3 1 v t.length (t.map (Value.int .i64))) (hm : t.length ≤ 9223372036854775807) : Reads w v t := by
  rcases h.2 with ⟨rfl, h0⟩ | ⟨g, cap, cur, rfl, hb, hg, hc, _⟩
  · exact Or.inl ⟨none, 0, rfl, List.eq_nil_of_length_eq_zero h0⟩
  · rcases Nat.eq_zero_or_pos t.length with h0 | h0
    · have e : t = [] := List.eq_nil_of_length_eq_zero h0
      subst e
      exact Or.inl ⟨_, _, rfl, rfl⟩
    · refine Or.inr ⟨g, 0, cap, rfl, (Array.getElem?_eq_some_iff.1 hg).1, h0, ⟨hm, hc⟩, fun k hk => ?_⟩
      rw [Nat.zero_add, h.cellAt _ (by omega), List.getElem?_map, List.getElem?_eq_getElem hk, List.getD_eq_getElem?_getD, List.getElem?_eq_getElem hk]
      rfl
end Go.Proofs.YthddegjnaigepagDoor

namespace Go.Proofs.YthddegjnaigepagDoor
open Go.ChangeShapes Go.WideShapes Go.ChangeAt Go.RowKit
set_option maxRecDepth 100000

theorem shl_pw : ∀ k : Nat, k ≤ 6 → wrap64 (1 * 2 ^ k) = pw k := by decide +kernel
theorem coreBit_any (k : Nat) (hk : k ≤ 6) (w : World) : Calls Tryd.prog 22 #[.int .i64 k] w fun e w' => e = .returned (.int .i64 (pw k)) ∧ w = w' := by
  have HS : Hid (wrap64 (1 * 2 ^ k) = pw k) := shl_pw k hk
  go_enter Tryd.func22, Tryd.ntmps22
  go_wp2
  go_ret
  exact ⟨by have := HS.out; simp at this ⊢; exact this, rfl⟩
theorem coreAll_any (lo : Option Addr) (n cap : Nat) (hn : n ≤ 6) (w : World) : Calls Tryd.prog 20 #[.slice lo n cap] w fun e w' => e = .returned (.int .i64 (maskTo (fun _ => true) n)) ∧ w = w' := by
  have HS : Hid (wrap64 (pw n - 1) = maskTo (fun _ => true) n) := by
    unfold Hid
    rw [mask_all]
    obtain ⟨m, hm, h64, _⟩ := bits_at (fun _ => true) hn
    rw [hm]; unfold wrap64; omega
  go_enter Tryd.func20, Tryd.ntmps20
  go_wp2_with fail
  go_at_call 22
  refine (coreBit_any n hn _).mono ?_
  rintro e w' ⟨rfl, rfl⟩
  go_wp2
  go_ret
  exact ⟨by first | (rw [HS.out]; done) | (rw [HS.out]; rfl), rfl⟩

theorem isOpenIn_any (h s : Int) (P : Nat) (w : World) (hP : w.cell? ⟨P, 0, none⟩ = some (.int .i64 s)) :
    Calls Tryd.prog 38 #[.int .i64 h, .pointer (some ⟨P, 0, none⟩)] w fun e w' => e = .returned (.bool (decide (bits .and .i64 h s = s))) ∧ Below w.heap.size w w' := by
  go_enter Tryd.func38, Tryd.ntmps38
  go_wp2
  go_ret
  exact ⟨by first | rfl | simp, Below.refl _ _⟩

set_option maxHeartbeats 2000000 in
theorem coreIdx (n b off cap P : Nat) (us : Nat → Int) (s : Int) (w : World) (hl : n ≤ 9223372036854775807) (hB : b < w.heap.size) (hc : ∀ k, k < n → w.cell? ⟨b, off + k, none⟩ = some (.int .i64 (us k))) (hP : w.cell? ⟨P, 0, none⟩ = some (.int .i64 s)) :
    Calls Tryd.prog 48 #[.slice (some ⟨b, off, none⟩) n cap, .func (.func 38) #[] #[.pointer (some ⟨P, 0, none⟩)]] w fun e w' => (∃ r : Int, e = .returned (.int .i64 r) ∧ (0 ≤ r ↔ ∃ k, k < n ∧ decide (bits .and .i64 (us k) s = s) = true)) ∧ Below w.heap.size w w' := by
  have HC : Hid (∀ W k, Below w.heap.size w W → k < n → W.cell? ⟨b, off + k, none⟩ = some (.int .i64 (us k))) := fun W k hW hk => by rw [hW.cell (show (⟨b, off + k, none⟩ : Addr).block < w.heap.size from hB)]; exact hc k hk
  have HP : Hid (∀ W k, Below w.heap.size w W → k < n → Calls Tryd.prog 38 #[.int .i64 (us k), .pointer (some ⟨P, 0, none⟩)] W fun e w' => e = .returned (.bool (decide (bits .and .i64 (us k) s = s))) ∧ Below W.heap.size W w') := fun W k hW _ => isOpenIn_any (us k) s P W (by rw [hW.cell (World.block_lt_of_cell? _ _ hP)]; exact hP)
  obtain ⟨p, hp⟩ : ∃ p : Nat → Bool, p = fun k => decide (bits .and .i64 (us k) s = s) := ⟨_, rfl⟩
  have HP : Hid (∀ W k, Below w.heap.size w W → k < n → Calls Tryd.prog 38 #[.int .i64 (us k), .pointer (some ⟨P, 0, none⟩)] W fun e w' => e = .returned (.bool (p k)) ∧ Below W.heap.size W w') := by rw [hp]; exact HP
  have hg : ∀ k, decide (bits .and .i64 (us k) s = s) = p k := fun k => by rw [hp]
  simp only [hg]
  clear hc hB hP hp hg
  go_enter Tryd.func48, Tryd.ntmps48
  go_wp2
  go_loopw [5, 8] (fun _ i wr => ∃ k : Nat, k ≤ n ∧ i = .int .i64 k ∧ Below w.heap.size w wr ∧ Hid (∀ j, j < k → p j = false)) (fun _ i _ => n - (intOf i).toNat)
  case atStart => exact ⟨0, Nat.zero_le _, rfl, Below.refl _ _, fun j hj => absurd hj (Nat.not_lt_zero _)⟩
  case round =>
    obtain ⟨k, hk, rfl, hb0, A⟩ := hrel
    have HB : Hid (Below w.heap.size w wr) := hb0
    clear hb0
    by_cases hlt : k < n
    · have hcell := HC.out wr k HB.out hlt
      have hcall := HP.out wr k HB.out hlt
      obtain ⟨x, hx⟩ : ∃ x, x = us k := ⟨_, rfl⟩
      rw [← hx] at hcell hcall
      clear hx
      have hltz : (k : Int) < (n : Int) := by omega
      cases hq : p k with
      | true =>
        rw [hq] at hcall
        have HQ : Hid (p k = true) := hq
        have HCl : Hid (Calls Tryd.prog 38 #[.int .i64 (x), .pointer (some ⟨P, 0, none⟩)] wr fun e w' => e = .returned (.bool true) ∧ Below wr.heap.size wr w') := hcall
        clear hcall hq
        go_wp2_with fail
        go_at_call 38
        refine HCl.out.mono ?_
        rintro e w' ⟨rfl, hb'⟩
        have HB' : Hid (Below w.heap.size w w') := HB.out.trans (hb'.mono HB.out.size)
        clear hb'
        go_wp2
        go_ret
        exact ⟨⟨_, rfl, fun _ => ⟨k, hlt, HQ.out⟩, fun _ => by omega⟩, HB'.out⟩
      | false =>
        rw [hq] at hcall
        have HQ : Hid (p k = false) := hq
        have HCl : Hid (Calls Tryd.prog 38 #[.int .i64 (x), .pointer (some ⟨P, 0, none⟩)] wr fun e w' => e = .returned (.bool false) ∧ Below wr.heap.size wr w') := hcall
        clear hcall hq
        go_wp2_with fail
        go_at_call 38
        refine HCl.out.mono ?_
        rintro e w' ⟨rfl, hb'⟩
        have HB' : Hid (Below w.heap.size w w') := HB.out.trans (hb'.mono HB.out.size)
        clear hb'
        go_wp2
        go_roundw
        case rel =>
          refine ⟨k + 1, by omega, by go_num, HB'.out, fun j hj => ?_⟩
          by_cases e : j = k
          · rw [e]; exact HQ.out
          · exact A.out j (by omega)
        case measure => simp [intOf]; omega
    · have hltz : ¬ (k : Int) < (n : Int) := by omega
      go_wp2
      go_ret
      refine ⟨⟨_, rfl, fun h => absurd h (by decide), fun ⟨j, hj, hpj⟩ => ?_⟩, HB.out⟩
      rw [A.out j (by omega)] at hpj; cases hpj
theorem coreIdx_none (a : Option Addr) (cap : Nat) (fv : Value) (w : World) : Calls Tryd.prog 48 #[.slice a 0 cap, fv] w fun e w' => e = .returned (.int .i64 (-1)) ∧ w = w' := by
  go_enter Tryd.func48, Tryd.ntmps48
  go_wp2
  go_loopw [5, 8] (fun _ i wr => i = .int .i64 0 ∧ w = wr) (fun _ _ _ => 0)
  case atStart => exact ⟨rfl, rfl⟩
  case round =>
    obtain ⟨rfl, rfl⟩ := hrel
    go_wp2
    go_ret
    exact ⟨rfl, rfl⟩

set_option maxHeartbeats 2000000 in
theorem coreHas (v : Value) (t : List Int) (P : Nat) (s : Int) (w : World) (hR : Reads w v t) (hP : w.cell? ⟨P, 0, none⟩ = some (.int .i64 s)) :
    Calls Tryd.prog 28 #[v, .func (.func 38) #[] #[.pointer (some ⟨P, 0, none⟩)]] w fun e w' => e = .returned (.bool (t.any fun h => decide (bits .and .i64 h s = s))) ∧ Below w.heap.size w w' := by
  obtain ⟨ao, m, cap, rfl, c⟩ : ∃ ao m cap, v = .slice ao m cap ∧ Calls Tryd.prog 48 #[.slice ao m cap, .func (.func 38) #[] #[.pointer (some ⟨P, 0, none⟩)]] w fun e w' => (∃ r : Int, e = .returned (.int .i64 r) ∧ (0 ≤ r ↔ (t.any fun h => decide (bits .and .i64 h s = s)) = true)) ∧ Below w.heap.size w w' := by
    rcases hR with ⟨ao, cap, rfl, rfl⟩ | ⟨b, off, cap, rfl, hB, h0, ⟨hl, hcp⟩, hc⟩
    · refine ⟨_, _, _, rfl, (coreIdx_none ao cap _ w).mono ?_⟩
      rintro e w' ⟨rfl, rfl⟩
      exact ⟨⟨_, rfl, by simp⟩, Below.refl _ _⟩
    · refine ⟨_, _, _, rfl, (coreIdx t.length b off cap P (fun k => t.getD k 0) s w hl hB hc hP).mono ?_⟩
      rintro e w' ⟨⟨r, rfl, hr⟩, hb⟩
      refine ⟨⟨r, rfl, ?_⟩, hb⟩
      rw [hr, List.any_eq_true]
      constructor
      · rintro ⟨k, hk, h⟩
        refine ⟨t.getD k 0, ?_, h⟩
        rw [List.getD_eq_getElem?_getD, List.getElem?_eq_getElem hk]
        exact List.getElem_mem hk
      · rintro ⟨x, hx, h⟩
        obtain ⟨k, hk⟩ := List.mem_iff_getElem?.1 hx
        refine ⟨k, (List.getElem?_eq_some_iff.1 hk).1, ?_⟩
        rw [List.getD_eq_getElem?_getD, hk]; exact h
  obtain ⟨R, hRd⟩ : ∃ R, R = t.any fun h => decide (bits .and .i64 h s = s) := ⟨_, rfl⟩
  rw [← hRd] at c ⊢
  have HCl : Hid (Calls Tryd.prog 48 #[.slice ao m cap, .func (.func 38) #[] #[.pointer (some ⟨P, 0, none⟩)]] w fun e w' => (∃ r : Int, e = .returned (.int .i64 r) ∧ (0 ≤ r ↔ R = true)) ∧ Below w.heap.size w w') := c
  clear c hRd hR hP
  go_enter Tryd.func28, Tryd.ntmps28
  go_wp2_with fail
  go_at_call 48
  refine HCl.out.mono ?_
  rintro e w' ⟨⟨r, rfl, hr⟩, hb⟩
  have HB : Hid (Below w.heap.size w w') := hb
  have HR : Hid (R = decide (0 ≤ r)) := by
    unfold Hid
    rw [Bool.eq_iff_iff, decide_eq_true_eq, hr]
  clear hb hr
  go_wp2
  go_ret
  exact ⟨back_b HR.out.symm, HB.out⟩
theorem isOpen_any (v : Value) (t : List Int) (s : Int) (w : World) (hR : Reads w v t) :
    Calls Tryd.prog 19 #[v, .int .i64 s] w fun e w' => e = .returned (.bool (t.any fun h => decide (bits .and .i64 h s = s))) ∧ Below w.heap.size w w' := by
  have hb1 := below_alloc1 w (.cells #[.int .i64 s] 3)
  have HCl : Hid (Calls Tryd.prog 28 #[v, .func (.func 38) #[] #[.pointer (some ⟨w.heap.size, 0, none⟩)]] (w.alloc (.cells #[.int .i64 s] 3)) fun e w' => e = .returned (.bool (t.any fun h => decide (bits .and .i64 h s = s))) ∧ Below w.heap.size w w') :=
    (coreHas v t w.heap.size s _ (hR.below hb1) ((Blk.new w 3 #[.int .i64 s]).cell 0)).mono fun e w' ⟨h1, h2⟩ => ⟨h1, hb1.trans (h2.mono hb1.size)⟩
  obtain ⟨R, hRd⟩ : ∃ R, R = t.any fun h => decide (bits .and .i64 h s = s) := ⟨_, rfl⟩
  rw [← hRd] at HCl ⊢
  clear hRd hb1 hR
  go_enter Tryd.func19, Tryd.ntmps19
  go_wp2_with fail
  go_at_call 28
  refine HCl.out.mono ?_
  rintro e w' ⟨rfl, hb⟩
  have HB : Hid (Below w.heap.size w w') := hb
  clear hb
  go_wp2
  go_ret
  exact ⟨rfl, HB.out⟩

set_option maxHeartbeats 4000000 in
theorem places_any (L : Nat → Bool) (n : Nat) (hn : n ≤ 6) (w : World) :
    Calls Tryd.prog 23 #[.int .i64 (maskTo L n), .int .i64 n] w fun e w' => (∃ v, e = .returned v ∧ Reads w' v (placesTo L n)) ∧ Below w.heap.size w w' := by
  have HH : Hid (∀ i, i < n → (bits .and .i64 (maskTo L n) (pw i) = 0 ↔ L i = false)) := fun i hi => mask_has L hn hi
  obtain ⟨m, hm⟩ : ∃ m, m = maskTo L n := ⟨_, rfl⟩
  rw [← hm] at HH ⊢
  clear hm
  go_enter Tryd.func23, Tryd.ntmps23
  go_wp2
  go_loopw [5, 8] (fun r i wr => ∃ k : Nat, k ≤ n ∧ i = .int .i64 k ∧ wr.ownsRow w.heap.size 3 1 r (placesTo L k).length ((placesTo L k).map (Value.int .i64)) ∧ Below w.heap.size w wr) (fun _ i _ => n - (intOf i).toNat)
  case atStart => exact ⟨0, Nat.zero_le _, rfl, World.ownsRow_nil _ _ _ _, Below.refl _ _⟩
  case round =>
    obtain ⟨k, hk, rfl, hown, hbr⟩ := hrel
    have HO : Hid (wr.ownsRow w.heap.size 3 1 u5 (placesTo L k).length ((placesTo L k).map (Value.int .i64))) := hown
    have HB : Hid (Below w.heap.size w wr) := hbr
    clear hown hbr
    by_cases hlt : k < n
    · have hltz : (k : Int) < (n : Int) := by omega
      have hh := HH.out k hlt
      go_wp2_with fail
      go_at_call 22
      refine (coreBit_any k (by omega) _).mono ?_
      rintro e w' ⟨rfl, rfl⟩
      have HLn : Hid ((placesTo L k).length ≤ k) := placesTo_length L k
      cases hL : L k with
      | true =>
        have HS : Hid (placesTo L (k + 1) = placesTo L k ++ [(k : Int)]) := by unfold Hid; rw [placesTo, if_pos hL]
        have hz : (bits .and .i64 m (pw k) == 0) = false := by rw [hL] at hh; simp at hh; simpa using hh
        obtain ⟨l, hl⟩ : ∃ l, l = placesTo L k := ⟨_, rfl⟩
        rw [← hl] at HS HO HLn
        clear hh hL hl
        have hl12 : l.length ≤ 1000000 := by have := HLn.out; omega
        go_wp2_with (at_builtin; refine append_long rfl _ _ rfl w.heap.size u5 rfl l k wr.heap.size 1 rfl (HO.out.alloc _) (heap_alloc_new wr _) (by have := HB.out.size; simp; omega) hl12 ?_)
        intro v9 w9 hown hgrow _
        have HBa : Hid (Below w.heap.size w (wr.alloc (.cells #[.int .i64 k] 3))) := HB.out.alloc HB.out.size _
        have HB9 : Hid (Below w.heap.size w w9) := HBa.out.grown hgrow HBa.out.size (fun x hx => (HO.out.lt x hx).1)
        have HO9 : Hid (w9.ownsRow w.heap.size 3 1 v9 (placesTo L (k + 1)).length ((placesTo L (k + 1)).map (Value.int .i64))) := by
          unfold Hid
          rw [HS.out, List.length_append, List.map_append]
          exact hown
        clear hown hgrow
        go_wp2
        go_roundw
        case rel => exact ⟨k + 1, by omega, by go_num, HO9.out, HB9.out⟩
        case measure => simp [intOf]; omega
      | false =>
        have HS : Hid (placesTo L (k + 1) = placesTo L k) := by unfold Hid; rw [placesTo, if_neg (by rw [hL]; decide), List.append_nil]
        have hz : bits .and .i64 m (pw k) = 0 := hh.2 hL
        clear hh hL
        go_wp2
        go_roundw
        case rel => exact ⟨k + 1, by omega, by go_num, by rw [HS.out]; exact HO.out, HB.out⟩
        case measure => simp [intOf]; omega
    · obtain rfl : k = n := by omega
      have HR : Hid (Reads wr u5 (placesTo L k)) := own_readsL HO.out (by have := placesTo_length L k; omega)
      go_wp2
      go_ret
      exact ⟨⟨_, rfl, HR.out⟩, HB.out⟩
end Go.Proofs.YthddegjnaigepagDoor
