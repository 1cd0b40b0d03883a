/-
  Proved: what cubes.holding returns, of right atoms and any world: which of them hold, in a new row, or that the world is none; what was in memory is as it was (a contract that the statements lean on).
-/
import Derived.Test.YtenmheenieifpacDoorFormCheck2
import Derived.Test.YtenmheenieifpacDoorFormBool
import Derived.Test.YtenmheenieifpacDoorAtomHolds
import Derived.Test.YtenmheenieifpacDoorTermFill
namespace Go.Proofs.YtenmheenieifpacDoor
open Go.ChangeShapes Go.WideShapes Go.ChangeAt Go.RowKit
set_option maxRecDepth 100000

set_option maxHeartbeats 4000000 in
theorem holding_any (ao : Option Addr) (acap : Nat) (ats : List At) (u a b d : Int) (w : World) (hA : ReadsA w (.slice ao ats.length acap) ats) (hK : KindsLaid w) (m1 : 1 ≤ ats.length) (m6 : ats.length ≤ 6) (hall : ∀ x ∈ ats, x.fault = 0) (ok : Bool) (hok : (Wd.mk u a b d).ok = ok) :
    Calls Tryd.prog 41 #[.slice ao ats.length acap, .agg #[.int .i64 u, .int .i64 a, .int .i64 b, .int .i64 d]] w fun e w' => (if ok = true then ∃ G, e = .returned (.tuple #[.slice (some ⟨G, 0, none⟩) ats.length ats.length, .nilIface]) ∧ ReadsB w' G 0 ((Wd.mk u a b d).heldL ats) else e = .returned (.tuple #[.slice none 0 0, .iface 69 (.int .i64 1)])) ∧ Below w.heap.size w w' := by
  obtain ⟨i0, hi, hz0, hz1, hz2⟩ := info_parts infoBool
  obtain ⟨w1, hw1⟩ : ∃ w1, w1 = w.alloc (.cells #[.int .i64 u, .int .i64 a, .int .i64 b, .int .i64 d] 28) := ⟨_, rfl⟩
  have HB1 : Hid (Below w.heap.size w w1) := by unfold Hid; rw [hw1]; exact below_alloc1 _ _
  have HS1 : Hid (w1.heap.size = w.heap.size + 1) := by unfold Hid; rw [hw1]; simp
  have HA : Hid (ReadsA w1 (.slice ao ats.length acap) ats) := hA.below HB1.out
  have HK : Hid (KindsLaid w1) := hK.below HB1.out
  clear hA hK
  have HX : Hid (∀ W, Below w1.heap.size w1 W → W.cell? ⟨w.heap.size, 0, none⟩ = some (.int .i64 u) ∧ W.cell? ⟨w.heap.size, 1, none⟩ = some (.int .i64 a) ∧ W.cell? ⟨w.heap.size, 2, none⟩ = some (.int .i64 b) ∧ W.cell? ⟨w.heap.size, 3, none⟩ = some (.int .i64 d)) := fun W hc => by
    have e0 : ∀ j, W.cell? ⟨w.heap.size, j, none⟩ = w1.cell? ⟨w.heap.size, j, none⟩ := fun j => hc.cell (show (⟨w.heap.size, j, none⟩ : Addr).block < _ by have := HS1.out; simp; omega)
    simp only [e0]
    rw [hw1]
    simp
  have HH : Hid (∀ (x : At) vs vt W, x ∈ ats → Reads W vs x.s → Reads W vt x.t → Below w1.heap.size w1 W → Calls Tryd.prog 29 #[.agg #[.int .i64 x.k, vs, vt, .int .i64 x.n], .agg #[.int .i64 u, .int .i64 a, .int .i64 b, .int .i64 d]] W fun e w' => e = .returned (.tuple #[.bool (if ok = true then (Wd.mk u a b d).holds x.k x.s x.t x.n else false), if ok = true then .nilIface else .iface 69 (.int .i64 1)]) ∧ Below W.heap.size W w') := fun x vs vt W hx h1 h2 hW => by
    have := aholds_any x.k x.n vs vt x.s x.t u a b d W h1 h2 (HK.out.below hW)
    have hxf : atomFault x.k x.s x.t x.n = 0 := hall x hx
    have e0 : (Wd.mk u a b d).holdsFault x.k x.s x.t x.n = if ok = true then 0 else 1 := by unfold Wd.holdsFault; rw [if_pos hxf, hok]
    have e1 : (Wd.mk u a b d).holdsIs x.k x.s x.t x.n = if ok = true then (Wd.mk u a b d).holds x.k x.s x.t x.n else false := by
      unfold Wd.holdsIs; rw [e0]; cases ok <;> rfl
    rw [e0, e1] at this
    cases ok <;> exact this
  clear hall hok
  obtain ⟨Hd, hHd⟩ : ∃ Hd : At → Bool, Hd = fun x => (Wd.mk u a b d).holds x.k x.s x.t x.n := ⟨_, rfl⟩
  have HHd : Hid ((Wd.mk u a b d).heldL ats = ats.map Hd) := by unfold Hid; rw [hHd]; rfl
  have HH' : Hid (∀ (x : At) vs vt W, x ∈ ats → Reads W vs x.s → Reads W vt x.t → Below w1.heap.size w1 W → Calls Tryd.prog 29 #[.agg #[.int .i64 x.k, vs, vt, .int .i64 x.n], .agg #[.int .i64 u, .int .i64 a, .int .i64 b, .int .i64 d]] W fun e w' => e = .returned (.tuple #[.bool (if ok = true then Hd x else false), if ok = true then .nilIface else .iface 69 (.int .i64 1)]) ∧ Below W.heap.size W w') := by
    rw [hHd]; exact HH
  rw [HHd.out]
  clear hHd HH HHd
  obtain ⟨m, hm⟩ : ∃ m, m = ats.length := ⟨_, rfl⟩
  rw [← hm] at m1 m6 HA ⊢
  have HM : Hid (m = ats.length) := hm
  clear hm
  obtain ⟨f, hf⟩ : ∃ f : Nat → Value, f = fun j => .bool ((ats.map Hd).getD j false) := ⟨_, rfl⟩
  have HF : Hid (f = fun j => .bool ((ats.map Hd).getD j false)) := hf
  clear hf
  obtain ⟨G, hG⟩ : ∃ G, G = w.heap.size + 1 := ⟨_, rfl⟩
  have HG : Hid (G = w1.heap.size) := by unfold Hid; rw [hG, HS1.out]
  go_enter Tryd.func41, Tryd.ntmps41
  go_wp2_with (first | (at_make; rw [← hw1]; refine wpList_make_full _ rfl _ _ 65 rfl G 4 i0 (.bool false) 1 Tryd.underlying65 hi hz0 hz1 .i64 .i64 _ _ m rfl rfl ?m0 ?m1 ?m2 ?m3 ?m4 ?_))
  case m0 => rfl
  case m1 => rfl
  case m2 => rw [hz2]; omega
  case m3 => unfold maxLen; omega
  case m4 => rw [HG.out]; exact Nat.le_refl _
  intro w3 hown1 hgrow1
  rw [← hw1] at hgrow1
  have HO : Hid (w3.ownsRow G 4 1 (.slice (some ⟨G, 0, none⟩) m m) m (fill f (.bool false) m 0) ∧ Below G w1 w3) := by
    refine ⟨?_, ?_⟩
    · rw [fill_zero, ← toList_madeCells_one, hG]
      simpa [Value.cells] using hown1
    · exact (Below.refl _ _).grown hgrow1 (by rw [HG.out]; exact Nat.le_refl _) (fun k hk => by cases hk)
  rw [← hG]
  clear hown1 hgrow1 hG hw1
  have HB3 : Hid (∀ W, Below G w1 W → Below w1.heap.size w1 W) := fun W h => by rw [← HG.out]; exact h
  go_wp2_with fail
  go_loopw [7, 9, 10, 16] (fun _ _ _ i wr => ∃ k : Nat, k ≤ m ∧ i = .int .i64 k ∧ wr.ownsRow G 4 1 (.slice (some ⟨G, 0, none⟩) m m) m (fill f (.bool false) m k) ∧ Below G w1 wr ∧ (0 < k → ok = true)) (fun _ _ _ i _ => m - (intOf i).toNat)
  case atStart => exact ⟨0, Nat.zero_le _, rfl, HO.out.1, HO.out.2, fun h => by omega⟩
  case round =>
    obtain ⟨k, hk, rfl, hown, hbel, hkok⟩ := hrel
    have HB : Hid (Below G w1 wr) := hbel
    have HOW : Hid (wr.ownsRow G 4 1 (.slice (some ⟨G, 0, none⟩) m m) m (fill f (.bool false) m k)) := hown
    clear hbel hown
    by_cases hlt : k < m
    · obtain ⟨x, hx⟩ : ∃ x, ats[k]? = some x := ⟨_, List.getElem?_eq_getElem (by have := HM.out; omega)⟩
      have HXm : Hid (x ∈ ats ∧ f k = .bool (Hd x)) := by
        refine ⟨List.mem_of_getElem? hx, ?_⟩
        rw [HF.out]; simp [hx]
      rcases HA.out.below (HB3.out _ HB.out) with ⟨_, _, _, hn0⟩ | ⟨B, off, cap, hv, hb, _, _, hatm⟩
      · have := HM.out; rw [hn0] at this; simp at this; omega
      obtain rfl : ao = some ⟨B, off, none⟩ := by cases hv; rfl
      obtain ⟨vs, vt, c0, c1, c2, c3, r1, r2⟩ := hatm k x hx
      obtain ⟨sao, scap, rfl, _⟩ := r1.slice
      obtain ⟨tao, tcap, rfl, _⟩ := r2.slice
      clear hv hatm
      obtain ⟨w4, hw4⟩ : ∃ w4, w4 = wr.alloc (.cells #[.int .i64 x.k, .slice sao x.s.length scap, .slice tao x.t.length tcap, .int .i64 x.n] 38) := ⟨_, rfl⟩
      have HB4 : Hid (Below wr.heap.size wr w4) := by unfold Hid; rw [hw4]; exact below_alloc1 wr _
      have HGr : Hid (G < wr.heap.size) := (ownsRow_block HOW.out).2.1
      have HBw : Hid (∀ W, Below wr.heap.size wr W → Below G w1 W) := fun W h => HB.out.trans (h.mono (by have := HGr.out; omega))
      have HCa : Hid (Calls Tryd.prog 29 #[.agg #[.int .i64 x.k, .slice sao x.s.length scap, .slice tao x.t.length tcap, .int .i64 x.n], .agg #[.int .i64 u, .int .i64 a, .int .i64 b, .int .i64 d]] w4 fun e w' => e = .returned (.tuple #[.bool (if ok = true then Hd x else false), if ok = true then .nilIface else .iface 69 (.int .i64 1)]) ∧ Below w4.heap.size w4 w') :=
        HH'.out x _ _ w4 HXm.out.1 (r1.below HB4.out) (r2.below HB4.out) (HB3.out _ (HBw.out _ HB4.out))
      clear r1 r2
      obtain ⟨y0, y1, y2, y3⟩ := HX.out w4 (HB3.out _ (HBw.out _ HB4.out))
      rw [hw4] at y0 y1 y2 y3
      have hltz : (k : Int) < (m : Int) := by omega
      go_wp2_with fail
      rw [← hw4]
      clear hw4 y0 y1 y2 y3
      go_at_call 29
      refine HCa.out.mono ?_
      rintro e w5 ⟨rfl, hb5⟩
      have HB5 : Hid (Below wr.heap.size wr w5) := HB4.out.trans (hb5.mono HB4.out.size)
      clear hb5 HCa
      cases ok
      · simp only [Bool.false_eq_true, if_false]
        go_wp2
        go_ret2
        exact ⟨by simp, HB1.out.trans ((HB3.out _ (HBw.out _ HB5.out)).mono HB1.out.size)⟩
      · simp only [if_true]
        have hown5 := ownsRow_below HOW.out HB5.out
        have hfr : w5.frozen? ⟨G, k, none⟩ = false := hown5.frozenAt k
        have hcg : w5.cell? ⟨G, k, none⟩ = some (.bool false) := by rw [hown5.cellAt k (by omega), fill_get _ _ _ _ _ hlt, if_neg (by omega)]
        have HR : Hid ((w5.setCell ⟨G, k, none⟩ (.bool (Hd x))).ownsRow G 4 1 (.slice (some ⟨G, 0, none⟩) m m) m (fill f (.bool false) m (k + 1)) ∧ Below G w1 (w5.setCell ⟨G, k, none⟩ (.bool (Hd x)))) := by
          have := hown5.stored k (f k)
          rw [fill_set, HXm.out.2] at this
          exact ⟨this.1, (HBw.out _ HB5.out).setCell (Nat.le_refl _) _⟩
        clear hown5
        go_wp2
        go_roundw
        case rel => exact ⟨k + 1, by omega, by go_num, HR.out.1, HR.out.2, fun _ => by first | rfl | trivial⟩
        case measure => simp [intOf]; omega
    · have hok : ok = true := hkok (by omega)
      subst hok
      have HRb : Hid (ReadsB wr G 0 (ats.map Hd)) := by
        refine ⟨(ownsRow_block HOW.out).2.1, fun j hj => ?_⟩
        have hj' : j < m := by rw [HM.out]; simpa using hj
        rw [Nat.zero_add, HOW.out.cellAt j (by omega), fill_get _ _ _ _ _ hj', if_pos (by omega), HF.out]
      have hltz : ¬ (k : Int) < (m : Int) := by omega
      go_wp2
      go_ret2
      refine ⟨?_, HB1.out.trans ((HB3.out _ HB.out).mono HB1.out.size)⟩
      exact ⟨G, rfl, HRb.out⟩
end Go.Proofs.YtenmheenieifpacDoor
