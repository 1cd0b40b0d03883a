/-
  Proved: what the reference's is and True return, of a right formula and a right world; what was in memory is as it was (contracts that the statements lean on).
-/
import Derived.Test.YtgkgbpbohgklhafDoorFormTree
import Derived.Test.YtgkgbpbohgklhafDoorFormRef
import Derived.Test.YtgkgbpbohgklhafDoorTermIn
import Derived.Test.YtgkgbpbohgklhafDoorAtomRefHolds
import Derived.Deep.RegionWith
import Derived.Deep.Cut
import Derived.Deep.CutRange
namespace Go.Proofs.YtgkgbpbohgklhafDoor
open Go.ChangeShapes Go.WideShapes Go.ChangeAt Go.RowKit
set_option maxRecDepth 100000

set_option maxHeartbeats 4000000 in
theorem is_leaf (s : Int) (h0 : 0 ≤ s) (x : Bool) (at0 : At) (ats : List At) (ao co : Option Addr) (m n acap ccap : Nat) (hm : m = ats.length) (hsm : s < m) (hm6 : m ≤ 6) (hat : ats[s.toNat]? = some at0) (k B off cap : Nat) (u a b c : Int) (w : World) (hcap : k + 1 ≤ cap) (hk : k ≤ 20) (hB : B < w.heap.size) (hc : w.cell? ⟨B, off + k, none⟩ = some (.int .i64 s)) (hA : ReadsA w (.slice ao m acap) ats)
    (hH : ∀ W vs vt, Reads W vs at0.s → Reads W vt at0.t → Calls Tryd.prog 47 #[.agg #[.int .i64 at0.k, vs, vt, .int .i64 at0.n], .agg #[.int .i64 u, .int .i64 a, .int .i64 b, .int .i64 c]] W fun e w' => e = .returned (.bool x) ∧ Below W.heap.size W w') :
    Calls Tryd.prog 34 #[.agg #[.slice ao m acap, .slice co n ccap], .slice (some ⟨B, off, none⟩) (k + 1) cap, .agg #[.int .i64 u, .int .i64 a, .int .i64 b, .int .i64 c]] w fun e w' => e = .returned (.tuple #[.bool x, .slice (some ⟨B, off, none⟩) k cap]) ∧ Below w.heap.size w w' := by
  obtain ⟨w1, hw1⟩ : ∃ w1, w1 = (w.alloc (.cells #[.slice ao m acap, .slice co n ccap] 25)).alloc (.cells #[.int .i64 u, .int .i64 a, .int .i64 b, .int .i64 c] 28) := ⟨_, rfl⟩
  have HB1 : Hid (Below w.heap.size w w1) := by unfold Hid; rw [hw1]; exact (below_alloc1 _ _).trans ((below_alloc1 _ _).mono (by simp))
  have d0 : w1.cell? ⟨B, off + k, none⟩ = some (.int .i64 s) := (HB1.out.cell hB).trans hc
  obtain ⟨sn, rfl⟩ := Int.eq_ofNat_of_zero_le h0
  have hsn : sn < m := by omega
  rcases hA.below HB1.out with ⟨_, _, hv, hn⟩ | ⟨b1, off1, cap1, hv, hb, _, _, hall⟩
  · rw [hn] at hm; simp at hm; omega
  obtain rfl : ao = some ⟨b1, off1, none⟩ := by cases hv; rfl
  obtain ⟨vs, vt, c0, c1, c2, c3, r1, r2⟩ := hall sn at0 (by simpa using hat)
  have HH : Hid (∀ W, Below w1.heap.size w1 W → Calls Tryd.prog 47 #[.agg #[.int .i64 at0.k, vs, vt, .int .i64 at0.n], .agg #[.int .i64 u, .int .i64 a, .int .i64 b, .int .i64 c]] W fun e w' => e = .returned (.bool x) ∧ Below W.heap.size W w') := fun W h => hH W vs vt (r1.below h) (r2.below h)
  obtain ⟨sao, scap, rfl, _⟩ := r1.slice
  obtain ⟨tao, tcap, rfl, _⟩ := r2.slice
  clear hv hall hA hH r1 r2 hc hat hb hm
  have hlt10 : (sn : Int) < 10 := by omega
  have hle : (k : Int) ≤ (cap : Int) := by omega
  have hsi : (sn : Int) < (m : Int) := by omega
  have e0 : w1.cell? ⟨w.heap.size, 0, none⟩ = some (.slice (some ⟨b1, off1, none⟩) m acap) := by
    rw [hw1, World.cell?_alloc_lt _ _ ⟨w.heap.size, 0, none⟩ (by simp)]; simp
  obtain ⟨e1, e2, e3, e4⟩ : w1.cell? ⟨w.heap.size + 1, 0, none⟩ = some (.int .i64 u) ∧ w1.cell? ⟨w.heap.size + 1, 1, none⟩ = some (.int .i64 a) ∧ w1.cell? ⟨w.heap.size + 1, 2, none⟩ = some (.int .i64 b) ∧ w1.cell? ⟨w.heap.size + 1, 3, none⟩ = some (.int .i64 c) := by
    rw [hw1]
    have q : w.heap.size + 1 = (w.alloc (.cells #[.slice (some ⟨b1, off1, none⟩) m acap, .slice co n ccap] 25)).heap.size := by simp
    rw [q]
    simp
  have d1 := d0
  rw [hw1] at d1
  go_enter Tryd.func34, Tryd.ntmps34
  go_wp2_with fail
  rw [← hw1]
  clear hw1 d1
  go_region_with (go_at_call 47; refine (HH.out _ (by first | exact Below.refl _ _ | exact below_drewNs _ _)).mono ?_; rintro e w2 ⟨rfl, hb⟩)
  all_goals
    go_wp2
    go_ret2
    exact ⟨rfl, HB1.out.trans (Below.mono (Below.trans (by first | exact Below.refl _ _ | exact below_drewNs _ _) (Below.mono hb (by first | exact Nat.le_refl _ | (have := (below_drewNs w1 _).size; assumption)))) HB1.out.size)⟩

set_option maxHeartbeats 4000000 in
/-- behind one call of itself. -/
theorem is_no (x : Bool) (ao co : Option Addr) (m n acap ccap : Nat) (k p B off cap : Nat) (u a b c : Int) (w : World) (hcap : k + 1 ≤ cap) (hk : k ≤ 20) (hB : B < w.heap.size) (hc : w.cell? ⟨B, off + k, none⟩ = some (.int .i64 12))
    (ih : ∀ W, Below w.heap.size w W → Calls Tryd.prog 34 #[.agg #[.slice ao m acap, .slice co n ccap], .slice (some ⟨B, off, none⟩) k cap, .agg #[.int .i64 u, .int .i64 a, .int .i64 b, .int .i64 c]] W fun e w' => e = .returned (.tuple #[.bool x, .slice (some ⟨B, off, none⟩) p cap]) ∧ Below W.heap.size W w') :
    Calls Tryd.prog 34 #[.agg #[.slice ao m acap, .slice co n ccap], .slice (some ⟨B, off, none⟩) (k + 1) cap, .agg #[.int .i64 u, .int .i64 a, .int .i64 b, .int .i64 c]] w fun e w' => e = .returned (.tuple #[.bool (!x), .slice (some ⟨B, off, none⟩) p cap]) ∧ Below w.heap.size w w' := by
  obtain ⟨w1, hw1⟩ : ∃ w1, w1 = (w.alloc (.cells #[.slice ao m acap, .slice co n ccap] 25)).alloc (.cells #[.int .i64 u, .int .i64 a, .int .i64 b, .int .i64 c] 28) := ⟨_, rfl⟩
  have HB1 : Hid (Below w.heap.size w w1) := by unfold Hid; rw [hw1]; exact (below_alloc1 _ _).trans ((below_alloc1 _ _).mono (by simp))
  have HS1 : Hid (w1.heap.size = w.heap.size + 2) := by unfold Hid; rw [hw1]; simp
  have HX : Hid (∀ W, Below w1.heap.size w1 W → (W.cell? ⟨w.heap.size, 0, none⟩ = some (.slice ao m acap) ∧ W.cell? ⟨w.heap.size, 1, none⟩ = some (.slice co n ccap)) ∧ (W.cell? ⟨w.heap.size + 1, 0, none⟩ = some (.int .i64 u) ∧ W.cell? ⟨w.heap.size + 1, 1, none⟩ = some (.int .i64 a) ∧ W.cell? ⟨w.heap.size + 1, 2, none⟩ = some (.int .i64 b) ∧ W.cell? ⟨w.heap.size + 1, 3, none⟩ = some (.int .i64 c))) := fun W hW => by
    have l0 : w.heap.size < w1.heap.size := by have := HS1.out; omega
    have l1 : w.heap.size + 1 < w1.heap.size := by have := HS1.out; omega
    have e0 : ∀ j, W.cell? ⟨w.heap.size, j, none⟩ = w1.cell? ⟨w.heap.size, j, none⟩ := fun j => hW.cell (show (⟨w.heap.size, j, none⟩ : Addr).block < _ from l0)
    have e1 : ∀ j, W.cell? ⟨w.heap.size + 1, j, none⟩ = w1.cell? ⟨w.heap.size + 1, j, none⟩ := fun j => hW.cell (show (⟨w.heap.size + 1, j, none⟩ : Addr).block < _ from l1)
    simp only [e0, e1]
    rw [hw1]
    have q : w.heap.size + 1 = (w.alloc (.cells #[.slice ao m acap, .slice co n ccap] 25)).heap.size := by simp
    have r : ∀ o j, ((w.alloc (.cells #[.slice ao m acap, .slice co n ccap] 25)).alloc o).cell? ⟨w.heap.size, j, none⟩ = (w.alloc (.cells #[.slice ao m acap, .slice co n ccap] 25)).cell? ⟨w.heap.size, j, none⟩ := fun o j => World.cell?_alloc_lt _ _ ⟨w.heap.size, j, none⟩ (by simp)
    simp only [r]
    rw [q]
    simp
  have d0 : w1.cell? ⟨B, off + k, none⟩ = some (.int .i64 12) := (HB1.out.cell hB).trans hc
  have HI : Hid (Calls Tryd.prog 34 #[.agg #[.slice ao m acap, .slice co n ccap], .slice (some ⟨B, off, none⟩) k cap, .agg #[.int .i64 u, .int .i64 a, .int .i64 b, .int .i64 c]] w1 fun e w' => e = .returned (.tuple #[.bool x, .slice (some ⟨B, off, none⟩) p cap]) ∧ Below w1.heap.size w1 w') := ih w1 HB1.out
  have hle : (k : Int) ≤ (cap : Int) := by omega
  obtain ⟨⟨x0, x1⟩, ⟨y0, y1, y2, y3⟩⟩ := HX.out w1 (Below.refl _ _)
  clear hc hB ih
  rw [hw1] at d0 x0 x1 y0 y1 y2 y3
  go_enter Tryd.func34, Tryd.ntmps34
  go_wp2_with fail
  rw [← hw1]
  clear hw1
  go_at_call 34
  refine HI.out.mono ?_
  rintro e w2 ⟨rfl, hb⟩
  have HB2 : Hid (Below w.heap.size w w2) := HB1.out.trans (hb.mono HB1.out.size)
  clear hb d0 x0 x1 y0 y1 y2 y3
  go_wp2
  go_ret2
  exact ⟨rfl, HB2.out⟩

set_option maxHeartbeats 4000000 in
/-- behind two calls of itself. -/
theorem is_two (s : Int) (hs : s = 10 ∨ s = 11 ∨ s = 13) (x y : Bool) (ao co : Option Addr) (m n acap ccap : Nat) (k p q B off cap : Nat) (u a b c : Int) (w : World) (hcap : k + 1 ≤ cap) (hk : k ≤ 20) (hB : B < w.heap.size) (hc : w.cell? ⟨B, off + k, none⟩ = some (.int .i64 s))
    (ihy : ∀ W, Below w.heap.size w W → Calls Tryd.prog 34 #[.agg #[.slice ao m acap, .slice co n ccap], .slice (some ⟨B, off, none⟩) k cap, .agg #[.int .i64 u, .int .i64 a, .int .i64 b, .int .i64 c]] W fun e w' => e = .returned (.tuple #[.bool y, .slice (some ⟨B, off, none⟩) q cap]) ∧ Below W.heap.size W w')
    (ihx : ∀ W, Below w.heap.size w W → Calls Tryd.prog 34 #[.agg #[.slice ao m acap, .slice co n ccap], .slice (some ⟨B, off, none⟩) q cap, .agg #[.int .i64 u, .int .i64 a, .int .i64 b, .int .i64 c]] W fun e w' => e = .returned (.tuple #[.bool x, .slice (some ⟨B, off, none⟩) p cap]) ∧ Below W.heap.size W w') :
    Calls Tryd.prog 34 #[.agg #[.slice ao m acap, .slice co n ccap], .slice (some ⟨B, off, none⟩) (k + 1) cap, .agg #[.int .i64 u, .int .i64 a, .int .i64 b, .int .i64 c]] w fun e w' => e = .returned (.tuple #[.bool (boolF s x y), .slice (some ⟨B, off, none⟩) p cap]) ∧ Below w.heap.size w w' := by
  obtain ⟨w1, hw1⟩ : ∃ w1, w1 = (w.alloc (.cells #[.slice ao m acap, .slice co n ccap] 25)).alloc (.cells #[.int .i64 u, .int .i64 a, .int .i64 b, .int .i64 c] 28) := ⟨_, rfl⟩
  have HB1 : Hid (Below w.heap.size w w1) := by unfold Hid; rw [hw1]; exact (below_alloc1 _ _).trans ((below_alloc1 _ _).mono (by simp))
  have HS1 : Hid (w1.heap.size = w.heap.size + 2) := by unfold Hid; rw [hw1]; simp
  have HX : Hid (∀ W, Below w1.heap.size w1 W → (W.cell? ⟨w.heap.size, 0, none⟩ = some (.slice ao m acap) ∧ W.cell? ⟨w.heap.size, 1, none⟩ = some (.slice co n ccap)) ∧ (W.cell? ⟨w.heap.size + 1, 0, none⟩ = some (.int .i64 u) ∧ W.cell? ⟨w.heap.size + 1, 1, none⟩ = some (.int .i64 a) ∧ W.cell? ⟨w.heap.size + 1, 2, none⟩ = some (.int .i64 b) ∧ W.cell? ⟨w.heap.size + 1, 3, none⟩ = some (.int .i64 c))) := fun W hW => by
    have l0 : w.heap.size < w1.heap.size := by have := HS1.out; omega
    have l1 : w.heap.size + 1 < w1.heap.size := by have := HS1.out; omega
    have e0 : ∀ j, W.cell? ⟨w.heap.size, j, none⟩ = w1.cell? ⟨w.heap.size, j, none⟩ := fun j => hW.cell (show (⟨w.heap.size, j, none⟩ : Addr).block < _ from l0)
    have e1 : ∀ j, W.cell? ⟨w.heap.size + 1, j, none⟩ = w1.cell? ⟨w.heap.size + 1, j, none⟩ := fun j => hW.cell (show (⟨w.heap.size + 1, j, none⟩ : Addr).block < _ from l1)
    simp only [e0, e1]
    rw [hw1]
    have q : w.heap.size + 1 = (w.alloc (.cells #[.slice ao m acap, .slice co n ccap] 25)).heap.size := by simp
    have r : ∀ o j, ((w.alloc (.cells #[.slice ao m acap, .slice co n ccap] 25)).alloc o).cell? ⟨w.heap.size, j, none⟩ = (w.alloc (.cells #[.slice ao m acap, .slice co n ccap] 25)).cell? ⟨w.heap.size, j, none⟩ := fun o j => World.cell?_alloc_lt _ _ ⟨w.heap.size, j, none⟩ (by simp)
    simp only [r]
    rw [q]
    simp
  have d0 : w1.cell? ⟨B, off + k, none⟩ = some (.int .i64 s) := (HB1.out.cell hB).trans hc
  have HI : Hid (Calls Tryd.prog 34 #[.agg #[.slice ao m acap, .slice co n ccap], .slice (some ⟨B, off, none⟩) k cap, .agg #[.int .i64 u, .int .i64 a, .int .i64 b, .int .i64 c]] w1 fun e w' => e = .returned (.tuple #[.bool y, .slice (some ⟨B, off, none⟩) q cap]) ∧ Below w1.heap.size w1 w') := ihy w1 HB1.out
  have HJ : Hid (∀ W, Below w.heap.size w W → Calls Tryd.prog 34 #[.agg #[.slice ao m acap, .slice co n ccap], .slice (some ⟨B, off, none⟩) q cap, .agg #[.int .i64 u, .int .i64 a, .int .i64 b, .int .i64 c]] W fun e w' => e = .returned (.tuple #[.bool x, .slice (some ⟨B, off, none⟩) p cap]) ∧ Below W.heap.size W w') := ihx
  have hle : (k : Int) ≤ (cap : Int) := by omega
  obtain ⟨⟨x0, x1⟩, ⟨y0, y1, y2, y3⟩⟩ := HX.out w1 (Below.refl _ _)
  clear hc hB ihx ihy
  rw [hw1] at d0 x0 x1 y0 y1 y2 y3
  rcases hs with rfl | rfl | rfl
  all_goals
    go_enter Tryd.func34, Tryd.ntmps34
    go_wp2_with fail
    rw [← hw1]
    clear hw1
    go_at_call 34
    refine HI.out.mono ?_
    rintro e w2 ⟨rfl, hb⟩
    have HB2 : Hid (Below w.heap.size w w2) := HB1.out.trans (hb.mono HB1.out.size)
    clear d0 x0 x1 y0 y1 y2 y3
    obtain ⟨⟨x0, x1⟩, ⟨y0, y1, y2, y3⟩⟩ := HX.out w2 hb
    clear hb
    go_wp2_with fail
    go_at_call 34
    refine (HJ.out _ HB2.out).mono ?_
    rintro e w3 ⟨rfl, hb3⟩
    have HB3 : Hid (Below w.heap.size w w3) := HB2.out.trans (hb3.mono HB2.out.size)
    clear hb3 x0 x1 y0 y1 y2 y3
    cases x <;> cases y
    all_goals
      go_wp2
      go_ret2
      exact ⟨rfl, HB3.out⟩
end Go.Proofs.YtgkgbpbohgklhafDoor
