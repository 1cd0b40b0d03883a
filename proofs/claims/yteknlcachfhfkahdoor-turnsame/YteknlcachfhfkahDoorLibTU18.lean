/-
  Proved: what atom.says and atom.Holds return, of any atom and any world; what was in memory is as it was (contracts that the statements lean on).
  Plain facts on a row of cells that is filled one by one.
-/
import Derived.Test.YteknlcachfhfkahDoorLibTU10
import Derived.Test.YteknlcachfhfkahDoorLibTU7
import Derived.Test.YteknlcachfhfkahDoorLibTU17
import Derived.Test.YteknlcachfhfkahDoorLibTU1
namespace Go.Proofs.YteknlcachfhfkahDoor
open Go.ChangeShapes Go.WideShapes Go.ChangeAt Go.RowKit
set_option maxRecDepth 100000

theorem quiet_ones (x : Int) (h0 : 0 ≤ x) (h1 : x < 64) (W : World) : Calls Tryd.prog 92 #[.int .u64 x] W fun e w' => e = .returned (.int .i64 (pcN x)) ∧ w' = W := (ones_any x h0 h1 W).mono fun _ _ h => And.intro h.1 h.2.symm

set_option maxHeartbeats 1000000 in
theorem says_1 (n x y : Int) (sao tao : Option Addr) (sl scap tl tcap : Nat) (w : World) (x0 : 0 ≤ x) (x1 : x < 64) (y0 : 0 ≤ y) (y1 : y < 64) :
    Calls Tryd.prog 76 #[.agg #[.int .i64 1, .slice sao sl scap, .slice tao tl tcap, .int .i64 n], .int .i64 x, .int .i64 y] w fun e w' => e = .returned (.bool (saysB 1 n x y)) ∧ Below w.heap.size w w' := by
  have HB : Hid (Below w.heap.size w (w.alloc (.cells #[.int .i64 1, .slice sao sl scap, .slice tao tl tcap, .int .i64 n] 49))) := below_alloc1 w _
  have hp := pcN_le x
  have hq := pcN_le y
  have HR : Hid (saysB 1 n x y = (bits .andNot .i64 x y == 0)) := by
    unfold Hid saysB
    rw [less_bits x y x0 x1 y0 y1]; simp; rfl
  obtain ⟨R, hR⟩ : ∃ R, R = saysB 1 n x y := ⟨_, rfl⟩
  rw [← hR] at HR ⊢
  clear hR
  go_enter Tryd.func76, Tryd.ntmps76
  go_wp2_with (go_at_call 92; refine (ones_any _ ?_ ?_ _).mono ?_; omega; omega; rintro e w' ⟨rfl, rfl⟩)
  go_ret
  exact ⟨back_b HR.out.symm, HB.out⟩

set_option maxHeartbeats 1000000 in
theorem says_2 (n x y : Int) (sao tao : Option Addr) (sl scap tl tcap : Nat) (w : World) (x0 : 0 ≤ x) (x1 : x < 64) (y0 : 0 ≤ y) (y1 : y < 64) :
    Calls Tryd.prog 76 #[.agg #[.int .i64 2, .slice sao sl scap, .slice tao tl tcap, .int .i64 n], .int .i64 x, .int .i64 y] w fun e w' => e = .returned (.bool (saysB 2 n x y)) ∧ Below w.heap.size w w' := by
  have HB : Hid (Below w.heap.size w (w.alloc (.cells #[.int .i64 2, .slice sao sl scap, .slice tao tl tcap, .int .i64 n] 49))) := below_alloc1 w _
  have hp := pcN_le x
  have hq := pcN_le y
  have HR : Hid (saysB 2 n x y = (x == y)) := by
    unfold Hid saysB
    simp; rfl
  obtain ⟨R, hR⟩ : ∃ R, R = saysB 2 n x y := ⟨_, rfl⟩
  rw [← hR] at HR ⊢
  clear hR
  go_enter Tryd.func76, Tryd.ntmps76
  go_wp2_with (go_at_call 92; refine (ones_any _ ?_ ?_ _).mono ?_; omega; omega; rintro e w' ⟨rfl, rfl⟩)
  go_ret
  exact ⟨back_b HR.out.symm, HB.out⟩

set_option maxHeartbeats 1000000 in
theorem says_3 (n x y : Int) (sao tao : Option Addr) (sl scap tl tcap : Nat) (w : World) (x0 : 0 ≤ x) (x1 : x < 64) (y0 : 0 ≤ y) (y1 : y < 64) :
    Calls Tryd.prog 76 #[.agg #[.int .i64 3, .slice sao sl scap, .slice tao tl tcap, .int .i64 n], .int .i64 x, .int .i64 y] w fun e w' => e = .returned (.bool (saysB 3 n x y)) ∧ Below w.heap.size w w' := by
  have HB : Hid (Below w.heap.size w (w.alloc (.cells #[.int .i64 3, .slice sao sl scap, .slice tao tl tcap, .int .i64 n] 49))) := below_alloc1 w _
  have hp := pcN_le x
  have hq := pcN_le y
  have HR : Hid (saysB 3 n x y = decide (n ≤ pcN x)) := by
    unfold Hid saysB
    simp
  obtain ⟨R, hR⟩ : ∃ R, R = saysB 3 n x y := ⟨_, rfl⟩
  rw [← hR] at HR ⊢
  clear hR
  go_enter Tryd.func76, Tryd.ntmps76
  go_wp2_with (go_at_call 92; refine (ones_any _ ?_ ?_ _).mono ?_; omega; omega; rintro e w' ⟨rfl, rfl⟩)
  go_ret
  exact ⟨back_b HR.out.symm, HB.out⟩

set_option maxHeartbeats 1000000 in
theorem says_4 (n x y : Int) (sao tao : Option Addr) (sl scap tl tcap : Nat) (w : World) (x0 : 0 ≤ x) (x1 : x < 64) (y0 : 0 ≤ y) (y1 : y < 64) :
    Calls Tryd.prog 76 #[.agg #[.int .i64 4, .slice sao sl scap, .slice tao tl tcap, .int .i64 n], .int .i64 x, .int .i64 y] w fun e w' => e = .returned (.bool (saysB 4 n x y)) ∧ Below w.heap.size w w' := by
  have HB : Hid (Below w.heap.size w (w.alloc (.cells #[.int .i64 4, .slice sao sl scap, .slice tao tl tcap, .int .i64 n] 49))) := below_alloc1 w _
  have hp := pcN_le x
  have hq := pcN_le y
  have HR : Hid (saysB 4 n x y = decide (pcN x ≤ n)) := by
    unfold Hid saysB
    simp
  obtain ⟨R, hR⟩ : ∃ R, R = saysB 4 n x y := ⟨_, rfl⟩
  rw [← hR] at HR ⊢
  clear hR
  go_enter Tryd.func76, Tryd.ntmps76
  go_wp2_with (go_at_call 92; refine (ones_any _ ?_ ?_ _).mono ?_; omega; omega; rintro e w' ⟨rfl, rfl⟩)
  go_ret
  exact ⟨back_b HR.out.symm, HB.out⟩

set_option maxHeartbeats 1000000 in
theorem says_5 (n x y : Int) (sao tao : Option Addr) (sl scap tl tcap : Nat) (w : World) (x0 : 0 ≤ x) (x1 : x < 64) (y0 : 0 ≤ y) (y1 : y < 64) (n0 : -20 ≤ n) (n1 : n ≤ 20) :
    Calls Tryd.prog 76 #[.agg #[.int .i64 5, .slice sao sl scap, .slice tao tl tcap, .int .i64 n], .int .i64 x, .int .i64 y] w fun e w' => e = .returned (.bool (saysB 5 n x y)) ∧ Below w.heap.size w w' := by
  have HB : Hid (Below w.heap.size w (w.alloc (.cells #[.int .i64 5, .slice sao sl scap, .slice tao tl tcap, .int .i64 n] 49))) := below_alloc1 w _
  have hp := pcN_le x
  have hq := pcN_le y
  have HR : Hid (saysB 5 n x y = decide (pcN x ≤ pcN y + n)) := by
    unfold Hid saysB
    simp
  obtain ⟨R, hR⟩ : ∃ R, R = saysB 5 n x y := ⟨_, rfl⟩
  rw [← hR] at HR ⊢
  clear hR
  go_enter Tryd.func76, Tryd.ntmps76
  go_wp2_with (go_at_call 92; refine (ones_any _ ?_ ?_ _).mono ?_; omega; omega; rintro e w' ⟨rfl, rfl⟩)
  go_ret
  exact ⟨back_b HR.out.symm, HB.out⟩


theorem says_any (k n x y : Int) (sao tao : Option Addr) (sl scap tl tcap : Nat) (w : World) (hk : 1 ≤ k ∧ k ≤ 5) (x0 : 0 ≤ x) (x1 : x < 64) (y0 : 0 ≤ y) (y1 : y < 64) (n0 : -20 ≤ n) (n1 : n ≤ 20) :
    Calls Tryd.prog 76 #[.agg #[.int .i64 k, .slice sao sl scap, .slice tao tl tcap, .int .i64 n], .int .i64 x, .int .i64 y] w fun e w' => e = .returned (.bool (saysB k n x y)) ∧ Below w.heap.size w w' := by
  rcases five hk.1 hk.2 with rfl | rfl | rfl | rfl | rfl
  · exact says_1 n x y sao tao sl scap tl tcap w x0 x1 y0 y1
  · exact says_2 n x y sao tao sl scap tl tcap w x0 x1 y0 y1
  · exact says_3 n x y sao tao sl scap tl tcap w x0 x1 y0 y1
  · exact says_4 n x y sao tao sl scap tl tcap w x0 x1 y0 y1
  · exact says_5 n x y sao tao sl scap tl tcap w x0 x1 y0 y1 n0 n1

/-- the two boxes: the atom and the world. -/
def Boxes (w : World) (B : Nat) (k n : Int) (vs vt : Value) (u a b c : Int) : Prop :=
  w.cell? ⟨B, 0, none⟩ = some (.int .i64 k) ∧ w.cell? ⟨B, 1, none⟩ = some vs ∧ w.cell? ⟨B, 2, none⟩ = some vt ∧ w.cell? ⟨B, 3, none⟩ = some (.int .i64 n) ∧ w.cell? ⟨B + 1, 0, none⟩ = some (.int .i64 u) ∧ w.cell? ⟨B + 1, 1, none⟩ = some (.int .i64 a) ∧ w.cell? ⟨B + 1, 2, none⟩ = some (.int .i64 b) ∧ w.cell? ⟨B + 1, 3, none⟩ = some (.int .i64 c)
theorem Boxes.below {w w' : World} {B K : Nat} {k n : Int} {vs vt : Value} {u a b c : Int} (h : Boxes w B k n vs vt u a b c) (hb : Below K w w') (hK : B + 1 < K) : Boxes w' B k n vs vt u a b c := by
  obtain ⟨x0, x1, x2, x3, x4, x5, x6, x7⟩ := h
  have h0 : B < K := by omega
  refine ⟨?_, ?_, ?_, ?_, ?_, ?_, ?_, ?_⟩
  · rw [hb.cell h0]; exact x0
  · rw [hb.cell h0]; exact x1
  · rw [hb.cell h0]; exact x2
  · rw [hb.cell h0]; exact x3
  · rw [hb.cell hK]; exact x4
  · rw [hb.cell hK]; exact x5
  · rw [hb.cell hK]; exact x6
  · rw [hb.cell hK]; exact x7
theorem boxes_alloc (w : World) (k n : Int) (vs vt : Value) (u a b c : Int) : Boxes ((w.alloc (.cells #[.int .i64 k, vs, vt, .int .i64 n] 49)).alloc (.cells #[.int .i64 u, .int .i64 a, .int .i64 b, .int .i64 c] 38)) w.heap.size k n vs vt u a b c := by
  have h : ∀ j, ((w.alloc (.cells #[.int .i64 k, vs, vt, .int .i64 n] 49)).alloc (.cells #[.int .i64 u, .int .i64 a, .int .i64 b, .int .i64 c] 38)).cell? ⟨w.heap.size, j, none⟩ = (w.alloc (.cells #[.int .i64 k, vs, vt, .int .i64 n] 49)).cell? ⟨w.heap.size, j, none⟩ := fun j => World.cell?_alloc_lt _ _ ⟨w.heap.size, j, none⟩ (by simp)
  have e : w.heap.size + 1 = (w.alloc (.cells #[.int .i64 k, vs, vt, .int .i64 n] 49)).heap.size := by simp
  refine ⟨?_, ?_, ?_, ?_, ?_, ?_, ?_, ?_⟩
  · rw [h]; simp
  · rw [h]; simp
  · rw [h]; simp
  · rw [h]; simp
  · rw [e]; simp
  · rw [e]; simp
  · rw [e]; simp
  · rw [e]; simp


theorem holds_bad (k F : Int) (n : Int) (sao tao : Option Addr) (sl scap tl tcap : Nat) (u a b c : Int) (w : World)
    (hC : ∀ W, Below w.heap.size w W → Calls Tryd.prog 68 #[.agg #[.int .i64 k, .slice sao sl scap, .slice tao tl tcap, .int .i64 n]] W fun e w' => e = .returned (.iface 67 (.int .i64 F)) ∧ Below W.heap.size W w') :
    Calls Tryd.prog 44 #[.agg #[.int .i64 k, .slice sao sl scap, .slice tao tl tcap, .int .i64 n], .agg #[.int .i64 u, .int .i64 a, .int .i64 b, .int .i64 c]] w fun e w' => e = .returned (.tuple #[.bool false, (.iface 67 (.int .i64 F))]) ∧ Below w.heap.size w w' := by
  obtain ⟨w1, hw1⟩ : ∃ w1, w1 = (w.alloc (.cells #[.int .i64 k, .slice sao sl scap, .slice tao tl tcap, .int .i64 n] 49)).alloc (.cells #[.int .i64 u, .int .i64 a, .int .i64 b, .int .i64 c] 38) := ⟨_, rfl⟩
  have HB1 : Hid (Below w.heap.size w w1) := by unfold Hid; rw [hw1]; exact (below_alloc1 w _).trans ((below_alloc1 _ _).mono (by simp))
  have HX : Hid (Boxes w1 w.heap.size k n (.slice sao sl scap) (.slice tao tl tcap) u a b c) := by rw [hw1]; exact boxes_alloc w _ _ _ _ _ _ _ _
  have HK1 : Hid (w.heap.size + 1 < w1.heap.size) := by unfold Hid; rw [hw1]; simp
  have HC : Hid (Calls Tryd.prog 68 #[.agg #[.int .i64 k, .slice sao sl scap, .slice tao tl tcap, .int .i64 n]] w1 fun e w' => e = .returned (.iface 67 (.int .i64 F)) ∧ Below w1.heap.size w1 w') := hC w1 HB1.out
  clear hC
  obtain ⟨x0, x1, x2, x3, x4, x5, x6, x7⟩ := HX.out
  go_enter Tryd.func44, Tryd.ntmps44
  go_wp2_with fail
  rw [← hw1]
  clear hw1
  go_wp2_with (go_at_call 68; refine HC.out.mono ?_; rintro e w2 ⟨rfl, hb⟩; have HB2 : Hid (Below w.heap.size w w2) := HB1.out.trans (hb.mono (Nat.le_of_lt (Nat.lt_of_succ_lt HK1.out))); clear hb)
  go_ret2
  exact ⟨rfl, HB2.out⟩


theorem holds_world (k : Int) (n : Int) (sao tao : Option Addr) (sl scap tl tcap : Nat) (u a b c : Int) (w : World)
    (hC : ∀ W, Below w.heap.size w W → (Calls Tryd.prog 68 #[.agg #[.int .i64 k, .slice sao sl scap, .slice tao tl tcap, .int .i64 n]] W fun e w' => e = .returned .nilIface ∧ Below W.heap.size W w'))
    (hV : ∀ W, Below w.heap.size w W → Calls Tryd.prog 75 #[.slice sao sl scap, .agg #[.int .i64 u, .int .i64 a, .int .i64 b, .int .i64 c]] W fun e w' => e = .returned (.tuple #[.int .i64 0, (.iface 67 (.int .i64 1))]) ∧ Below W.heap.size W w') :
    Calls Tryd.prog 44 #[.agg #[.int .i64 k, .slice sao sl scap, .slice tao tl tcap, .int .i64 n], .agg #[.int .i64 u, .int .i64 a, .int .i64 b, .int .i64 c]] w fun e w' => e = .returned (.tuple #[.bool false, (.iface 67 (.int .i64 1))]) ∧ Below w.heap.size w w' := by
  obtain ⟨w1, hw1⟩ : ∃ w1, w1 = (w.alloc (.cells #[.int .i64 k, .slice sao sl scap, .slice tao tl tcap, .int .i64 n] 49)).alloc (.cells #[.int .i64 u, .int .i64 a, .int .i64 b, .int .i64 c] 38) := ⟨_, rfl⟩
  have HB1 : Hid (Below w.heap.size w w1) := by unfold Hid; rw [hw1]; exact (below_alloc1 w _).trans ((below_alloc1 _ _).mono (by simp))
  have HX : Hid (Boxes w1 w.heap.size k n (.slice sao sl scap) (.slice tao tl tcap) u a b c) := by rw [hw1]; exact boxes_alloc w _ _ _ _ _ _ _ _
  have HK1 : Hid (w.heap.size + 1 < w1.heap.size) := by unfold Hid; rw [hw1]; simp
  have HC : Hid (Calls Tryd.prog 68 #[.agg #[.int .i64 k, .slice sao sl scap, .slice tao tl tcap, .int .i64 n]] w1 fun e w' => e = .returned .nilIface ∧ Below w1.heap.size w1 w') := hC w1 HB1.out
  have HV : Hid (∀ W, Below w1.heap.size w1 W → Calls Tryd.prog 75 #[.slice sao sl scap, .agg #[.int .i64 u, .int .i64 a, .int .i64 b, .int .i64 c]] W fun e w' => e = .returned (.tuple #[.int .i64 0, (.iface 67 (.int .i64 1))]) ∧ Below W.heap.size W w') := fun W hW => hV W (HB1.out.trans (hW.mono (Nat.le_of_lt (Nat.lt_of_succ_lt HK1.out))))
  clear hC hV
  obtain ⟨x0, x1, x2, x3, x4, x5, x6, x7⟩ := HX.out
  go_enter Tryd.func44, Tryd.ntmps44
  go_wp2_with fail
  rw [← hw1]
  clear hw1
  go_wp2_with (first | (go_at_call 68; refine HC.out.mono ?_; rintro e w2 ⟨rfl, hb⟩; have HZ2 : Hid (Below w1.heap.size w1 w2) := hb; clear hb x0 x1 x2 x3 x4 x5 x6 x7; obtain ⟨x0, x1, x2, x3, x4, x5, x6, x7⟩ := HX.out.below HZ2.out HK1.out) | (go_at_call 75; refine (HV.out _ HZ2.out).mono ?_; rintro e w3 ⟨rfl, hb⟩; have HZ3 : Hid (Below w1.heap.size w1 w3) := HZ2.out.trans (hb.mono HZ2.out.size); clear hb))
  go_ret2
  exact ⟨rfl, HB1.out.trans (HZ3.out.mono (Nat.le_of_lt (Nat.lt_of_succ_lt HK1.out)))⟩


set_option maxHeartbeats 2000000 in
theorem holds_1 (x y : Int) (n : Int) (sao tao : Option Addr) (sl scap tl tcap : Nat) (u a b c : Int) (w : World) (hK : KindsLaid w) (x0 : 0 ≤ x) (x1 : x < 64) (y0 : 0 ≤ y) (y1 : y < 64) (n0 : -20 ≤ n) (n1 : n ≤ 20)
    (hC : ∀ W, Below w.heap.size w W → (Calls Tryd.prog 68 #[.agg #[.int .i64 1, .slice sao sl scap, .slice tao tl tcap, .int .i64 n]] W fun e w' => e = .returned .nilIface ∧ Below W.heap.size W w'))
    (hV : ∀ W, Below w.heap.size w W → Calls Tryd.prog 75 #[.slice sao sl scap, .agg #[.int .i64 u, .int .i64 a, .int .i64 b, .int .i64 c]] W fun e w' => e = .returned (.tuple #[.int .i64 x, .nilIface]) ∧ Below W.heap.size W w')
    (hV2 : ∀ W, Below w.heap.size w W → Calls Tryd.prog 75 #[.slice tao tl tcap, .agg #[.int .i64 u, .int .i64 a, .int .i64 b, .int .i64 c]] W fun e w' => e = .returned (.tuple #[.int .i64 y, .nilIface]) ∧ Below W.heap.size W w') :
    Calls Tryd.prog 44 #[.agg #[.int .i64 1, .slice sao sl scap, .slice tao tl tcap, .int .i64 n], .agg #[.int .i64 u, .int .i64 a, .int .i64 b, .int .i64 c]] w fun e w' => e = .returned (.tuple #[.bool (saysB 1 n x y), .nilIface]) ∧ Below w.heap.size w w' := by
  have HS : Hid (∀ W, Calls Tryd.prog 76 #[.agg #[.int .i64 1, .slice sao sl scap, .slice tao tl tcap, .int .i64 n], .int .i64 x, .int .i64 y] W fun e w' => e = .returned (.bool (saysB 1 n x y)) ∧ Below W.heap.size W w') := fun W => says_any 1 n x y sao tao sl scap tl tcap W (by decide) x0 x1 y0 y1 n0 n1
  clear x0 x1 y0 y1 n0 n1
  obtain ⟨R, hR⟩ : ∃ R, R = saysB 1 n x y := ⟨_, rfl⟩
  rw [← hR] at HS ⊢
  clear hR
  obtain ⟨w1, hw1⟩ : ∃ w1, w1 = (w.alloc (.cells #[.int .i64 1, .slice sao sl scap, .slice tao tl tcap, .int .i64 n] 49)).alloc (.cells #[.int .i64 u, .int .i64 a, .int .i64 b, .int .i64 c] 38) := ⟨_, rfl⟩
  have HB1 : Hid (Below w.heap.size w w1) := by unfold Hid; rw [hw1]; exact (below_alloc1 w _).trans ((below_alloc1 _ _).mono (by simp))
  have HX : Hid (Boxes w1 w.heap.size 1 n (.slice sao sl scap) (.slice tao tl tcap) u a b c) := by rw [hw1]; exact boxes_alloc w _ _ _ _ _ _ _ _
  have HK1 : Hid (w.heap.size + 1 < w1.heap.size) := by unfold Hid; rw [hw1]; simp
  have HKn : Hid (KindsLaid w1) := hK.below HB1.out
  have HC : Hid (Calls Tryd.prog 68 #[.agg #[.int .i64 1, .slice sao sl scap, .slice tao tl tcap, .int .i64 n]] w1 fun e w' => e = .returned .nilIface ∧ Below w1.heap.size w1 w') := hC w1 HB1.out
  have HV : Hid (∀ W, Below w1.heap.size w1 W → Calls Tryd.prog 75 #[.slice sao sl scap, .agg #[.int .i64 u, .int .i64 a, .int .i64 b, .int .i64 c]] W fun e w' => e = .returned (.tuple #[.int .i64 x, .nilIface]) ∧ Below W.heap.size W w') := fun W hW => hV W (HB1.out.trans (hW.mono (Nat.le_of_lt (Nat.lt_of_succ_lt HK1.out))))
  have HV2 : Hid (∀ W, Below w1.heap.size w1 W → Calls Tryd.prog 75 #[.slice tao tl tcap, .agg #[.int .i64 u, .int .i64 a, .int .i64 b, .int .i64 c]] W fun e w' => e = .returned (.tuple #[.int .i64 y, .nilIface]) ∧ Below W.heap.size W w') := fun W hW => hV2 W (HB1.out.trans (hW.mono (Nat.le_of_lt (Nat.lt_of_succ_lt HK1.out))))
  clear hC hV hK hV2
  obtain ⟨x0, x1, x2, x3, x4, x5, x6, x7⟩ := HX.out
  go_enter Tryd.func44, Tryd.ntmps44
  go_wp2_with fail
  rw [← hw1]
  clear hw1
  go_wp2_with (go_at_call 68; refine HC.out.mono ?_; rintro e w2 ⟨rfl, hb⟩; have HZ2 : Hid (Below w1.heap.size w1 w2) := hb; clear hb x0 x1 x2 x3 x4 x5 x6 x7; obtain ⟨x0, x1, x2, x3, x4, x5, x6, x7⟩ := HX.out.below HZ2.out HK1.out)
  go_wp2_with fail
  go_at_call 75
  refine (HV.out _ HZ2.out).mono ?_
  rintro e w3 ⟨rfl, hb⟩
  have HZ3 : Hid (Below w1.heap.size w1 w3) := HZ2.out.trans (hb.mono HZ2.out.size)
  have q0 : w3.cell? ⟨0, 4, none⟩ = some (.bool true) := HKn.out.below HZ3.out 4 (by decide)
  clear hb x0 x1 x2 x3 x4 x5 x6 x7
  obtain ⟨x0, x1, x2, x3, x4, x5, x6, x7⟩ := HX.out.below HZ3.out HK1.out
  go_wp2_with fail
  go_at_call 75
  refine (HV2.out _ HZ3.out).mono ?_
  rintro e w4 ⟨rfl, hb⟩
  have HZ4 : Hid (Below w1.heap.size w1 w4) := HZ3.out.trans (hb.mono HZ3.out.size)
  clear hb x0 x1 x2 x3 x4 x5 x6 x7
  obtain ⟨x0, x1, x2, x3, x4, x5, x6, x7⟩ := HX.out.below HZ4.out HK1.out
  go_wp2_with fail
  go_at_call 76
  refine (HS.out _).mono ?_
  rintro e w5 ⟨rfl, hb⟩
  have HZ5 : Hid (Below w1.heap.size w1 w5) := HZ4.out.trans (hb.mono HZ4.out.size)
  clear hb
  go_wp2
  go_ret2
  exact ⟨rfl, HB1.out.trans (HZ5.out.mono (Nat.le_of_lt (Nat.lt_of_succ_lt HK1.out)))⟩


set_option maxHeartbeats 2000000 in
theorem holds_2 (x y : Int) (n : Int) (sao tao : Option Addr) (sl scap tl tcap : Nat) (u a b c : Int) (w : World) (hK : KindsLaid w) (x0 : 0 ≤ x) (x1 : x < 64) (y0 : 0 ≤ y) (y1 : y < 64) (n0 : -20 ≤ n) (n1 : n ≤ 20)
    (hC : ∀ W, Below w.heap.size w W → (Calls Tryd.prog 68 #[.agg #[.int .i64 2, .slice sao sl scap, .slice tao tl tcap, .int .i64 n]] W fun e w' => e = .returned .nilIface ∧ Below W.heap.size W w'))
    (hV : ∀ W, Below w.heap.size w W → Calls Tryd.prog 75 #[.slice sao sl scap, .agg #[.int .i64 u, .int .i64 a, .int .i64 b, .int .i64 c]] W fun e w' => e = .returned (.tuple #[.int .i64 x, .nilIface]) ∧ Below W.heap.size W w')
    (hV2 : ∀ W, Below w.heap.size w W → Calls Tryd.prog 75 #[.slice tao tl tcap, .agg #[.int .i64 u, .int .i64 a, .int .i64 b, .int .i64 c]] W fun e w' => e = .returned (.tuple #[.int .i64 y, .nilIface]) ∧ Below W.heap.size W w') :
    Calls Tryd.prog 44 #[.agg #[.int .i64 2, .slice sao sl scap, .slice tao tl tcap, .int .i64 n], .agg #[.int .i64 u, .int .i64 a, .int .i64 b, .int .i64 c]] w fun e w' => e = .returned (.tuple #[.bool (saysB 2 n x y), .nilIface]) ∧ Below w.heap.size w w' := by
  have HS : Hid (∀ W, Calls Tryd.prog 76 #[.agg #[.int .i64 2, .slice sao sl scap, .slice tao tl tcap, .int .i64 n], .int .i64 x, .int .i64 y] W fun e w' => e = .returned (.bool (saysB 2 n x y)) ∧ Below W.heap.size W w') := fun W => says_any 2 n x y sao tao sl scap tl tcap W (by decide) x0 x1 y0 y1 n0 n1
  clear x0 x1 y0 y1 n0 n1
  obtain ⟨R, hR⟩ : ∃ R, R = saysB 2 n x y := ⟨_, rfl⟩
  rw [← hR] at HS ⊢
  clear hR
  obtain ⟨w1, hw1⟩ : ∃ w1, w1 = (w.alloc (.cells #[.int .i64 2, .slice sao sl scap, .slice tao tl tcap, .int .i64 n] 49)).alloc (.cells #[.int .i64 u, .int .i64 a, .int .i64 b, .int .i64 c] 38) := ⟨_, rfl⟩
  have HB1 : Hid (Below w.heap.size w w1) := by unfold Hid; rw [hw1]; exact (below_alloc1 w _).trans ((below_alloc1 _ _).mono (by simp))
  have HX : Hid (Boxes w1 w.heap.size 2 n (.slice sao sl scap) (.slice tao tl tcap) u a b c) := by rw [hw1]; exact boxes_alloc w _ _ _ _ _ _ _ _
  have HK1 : Hid (w.heap.size + 1 < w1.heap.size) := by unfold Hid; rw [hw1]; simp
  have HKn : Hid (KindsLaid w1) := hK.below HB1.out
  have HC : Hid (Calls Tryd.prog 68 #[.agg #[.int .i64 2, .slice sao sl scap, .slice tao tl tcap, .int .i64 n]] w1 fun e w' => e = .returned .nilIface ∧ Below w1.heap.size w1 w') := hC w1 HB1.out
  have HV : Hid (∀ W, Below w1.heap.size w1 W → Calls Tryd.prog 75 #[.slice sao sl scap, .agg #[.int .i64 u, .int .i64 a, .int .i64 b, .int .i64 c]] W fun e w' => e = .returned (.tuple #[.int .i64 x, .nilIface]) ∧ Below W.heap.size W w') := fun W hW => hV W (HB1.out.trans (hW.mono (Nat.le_of_lt (Nat.lt_of_succ_lt HK1.out))))
  have HV2 : Hid (∀ W, Below w1.heap.size w1 W → Calls Tryd.prog 75 #[.slice tao tl tcap, .agg #[.int .i64 u, .int .i64 a, .int .i64 b, .int .i64 c]] W fun e w' => e = .returned (.tuple #[.int .i64 y, .nilIface]) ∧ Below W.heap.size W w') := fun W hW => hV2 W (HB1.out.trans (hW.mono (Nat.le_of_lt (Nat.lt_of_succ_lt HK1.out))))
  clear hC hV hK hV2
  obtain ⟨x0, x1, x2, x3, x4, x5, x6, x7⟩ := HX.out
  go_enter Tryd.func44, Tryd.ntmps44
  go_wp2_with fail
  rw [← hw1]
  clear hw1
  go_wp2_with (go_at_call 68; refine HC.out.mono ?_; rintro e w2 ⟨rfl, hb⟩; have HZ2 : Hid (Below w1.heap.size w1 w2) := hb; clear hb x0 x1 x2 x3 x4 x5 x6 x7; obtain ⟨x0, x1, x2, x3, x4, x5, x6, x7⟩ := HX.out.below HZ2.out HK1.out)
  go_wp2_with fail
  go_at_call 75
  refine (HV.out _ HZ2.out).mono ?_
  rintro e w3 ⟨rfl, hb⟩
  have HZ3 : Hid (Below w1.heap.size w1 w3) := HZ2.out.trans (hb.mono HZ2.out.size)
  have q0 : w3.cell? ⟨0, 7, none⟩ = some (.bool true) := HKn.out.below HZ3.out 7 (by decide)
  clear hb x0 x1 x2 x3 x4 x5 x6 x7
  obtain ⟨x0, x1, x2, x3, x4, x5, x6, x7⟩ := HX.out.below HZ3.out HK1.out
  go_wp2_with fail
  go_at_call 75
  refine (HV2.out _ HZ3.out).mono ?_
  rintro e w4 ⟨rfl, hb⟩
  have HZ4 : Hid (Below w1.heap.size w1 w4) := HZ3.out.trans (hb.mono HZ3.out.size)
  clear hb x0 x1 x2 x3 x4 x5 x6 x7
  obtain ⟨x0, x1, x2, x3, x4, x5, x6, x7⟩ := HX.out.below HZ4.out HK1.out
  go_wp2_with fail
  go_at_call 76
  refine (HS.out _).mono ?_
  rintro e w5 ⟨rfl, hb⟩
  have HZ5 : Hid (Below w1.heap.size w1 w5) := HZ4.out.trans (hb.mono HZ4.out.size)
  clear hb
  go_wp2
  go_ret2
  exact ⟨rfl, HB1.out.trans (HZ5.out.mono (Nat.le_of_lt (Nat.lt_of_succ_lt HK1.out)))⟩


set_option maxHeartbeats 2000000 in
theorem holds_3 (x y : Int) (n : Int) (sao tao : Option Addr) (sl scap tl tcap : Nat) (u a b c : Int) (w : World) (hK : KindsLaid w) (x0 : 0 ≤ x) (x1 : x < 64) (y0 : 0 ≤ y) (y1 : y < 64) (n0 : -20 ≤ n) (n1 : n ≤ 20)
    (hC : ∀ W, Below w.heap.size w W → (Calls Tryd.prog 68 #[.agg #[.int .i64 3, .slice sao sl scap, .slice tao tl tcap, .int .i64 n]] W fun e w' => e = .returned .nilIface ∧ Below W.heap.size W w'))
    (hV : ∀ W, Below w.heap.size w W → Calls Tryd.prog 75 #[.slice sao sl scap, .agg #[.int .i64 u, .int .i64 a, .int .i64 b, .int .i64 c]] W fun e w' => e = .returned (.tuple #[.int .i64 x, .nilIface]) ∧ Below W.heap.size W w')
    (hy : y = 0) :
    Calls Tryd.prog 44 #[.agg #[.int .i64 3, .slice sao sl scap, .slice tao tl tcap, .int .i64 n], .agg #[.int .i64 u, .int .i64 a, .int .i64 b, .int .i64 c]] w fun e w' => e = .returned (.tuple #[.bool (saysB 3 n x y), .nilIface]) ∧ Below w.heap.size w w' := by
  subst hy
  have HS : Hid (∀ W, Calls Tryd.prog 76 #[.agg #[.int .i64 3, .slice sao sl scap, .slice tao tl tcap, .int .i64 n], .int .i64 x, .int .i64 0] W fun e w' => e = .returned (.bool (saysB 3 n x 0)) ∧ Below W.heap.size W w') := fun W => says_any 3 n x 0 sao tao sl scap tl tcap W (by decide) x0 x1 y0 y1 n0 n1
  clear x0 x1 y0 y1 n0 n1
  obtain ⟨R, hR⟩ : ∃ R, R = saysB 3 n x 0 := ⟨_, rfl⟩
  rw [← hR] at HS ⊢
  clear hR
  obtain ⟨w1, hw1⟩ : ∃ w1, w1 = (w.alloc (.cells #[.int .i64 3, .slice sao sl scap, .slice tao tl tcap, .int .i64 n] 49)).alloc (.cells #[.int .i64 u, .int .i64 a, .int .i64 b, .int .i64 c] 38) := ⟨_, rfl⟩
  have HB1 : Hid (Below w.heap.size w w1) := by unfold Hid; rw [hw1]; exact (below_alloc1 w _).trans ((below_alloc1 _ _).mono (by simp))
  have HX : Hid (Boxes w1 w.heap.size 3 n (.slice sao sl scap) (.slice tao tl tcap) u a b c) := by rw [hw1]; exact boxes_alloc w _ _ _ _ _ _ _ _
  have HK1 : Hid (w.heap.size + 1 < w1.heap.size) := by unfold Hid; rw [hw1]; simp
  have HKn : Hid (KindsLaid w1) := hK.below HB1.out
  have HC : Hid (Calls Tryd.prog 68 #[.agg #[.int .i64 3, .slice sao sl scap, .slice tao tl tcap, .int .i64 n]] w1 fun e w' => e = .returned .nilIface ∧ Below w1.heap.size w1 w') := hC w1 HB1.out
  have HV : Hid (∀ W, Below w1.heap.size w1 W → Calls Tryd.prog 75 #[.slice sao sl scap, .agg #[.int .i64 u, .int .i64 a, .int .i64 b, .int .i64 c]] W fun e w' => e = .returned (.tuple #[.int .i64 x, .nilIface]) ∧ Below W.heap.size W w') := fun W hW => hV W (HB1.out.trans (hW.mono (Nat.le_of_lt (Nat.lt_of_succ_lt HK1.out))))
  clear hC hV hK
  obtain ⟨x0, x1, x2, x3, x4, x5, x6, x7⟩ := HX.out
  go_enter Tryd.func44, Tryd.ntmps44
  go_wp2_with fail
  rw [← hw1]
  clear hw1
  go_wp2_with (go_at_call 68; refine HC.out.mono ?_; rintro e w2 ⟨rfl, hb⟩; have HZ2 : Hid (Below w1.heap.size w1 w2) := hb; clear hb x0 x1 x2 x3 x4 x5 x6 x7; obtain ⟨x0, x1, x2, x3, x4, x5, x6, x7⟩ := HX.out.below HZ2.out HK1.out)
  go_wp2_with fail
  go_at_call 75
  refine (HV.out _ HZ2.out).mono ?_
  rintro e w3 ⟨rfl, hb⟩
  have HZ3 : Hid (Below w1.heap.size w1 w3) := HZ2.out.trans (hb.mono HZ2.out.size)
  have q0 : w3.cell? ⟨0, 10, none⟩ = some (.bool false) := HKn.out.below HZ3.out 10 (by decide)
  clear hb x0 x1 x2 x3 x4 x5 x6 x7
  obtain ⟨x0, x1, x2, x3, x4, x5, x6, x7⟩ := HX.out.below HZ3.out HK1.out
  go_wp2_with fail
  go_at_call 76
  refine (HS.out _).mono ?_
  rintro e w5 ⟨rfl, hb⟩
  have HZ5 : Hid (Below w1.heap.size w1 w5) := HZ3.out.trans (hb.mono HZ3.out.size)
  clear hb
  go_wp2
  go_ret2
  exact ⟨rfl, HB1.out.trans (HZ5.out.mono (Nat.le_of_lt (Nat.lt_of_succ_lt HK1.out)))⟩


set_option maxHeartbeats 2000000 in
theorem holds_4 (x y : Int) (n : Int) (sao tao : Option Addr) (sl scap tl tcap : Nat) (u a b c : Int) (w : World) (hK : KindsLaid w) (x0 : 0 ≤ x) (x1 : x < 64) (y0 : 0 ≤ y) (y1 : y < 64) (n0 : -20 ≤ n) (n1 : n ≤ 20)
    (hC : ∀ W, Below w.heap.size w W → (Calls Tryd.prog 68 #[.agg #[.int .i64 4, .slice sao sl scap, .slice tao tl tcap, .int .i64 n]] W fun e w' => e = .returned .nilIface ∧ Below W.heap.size W w'))
    (hV : ∀ W, Below w.heap.size w W → Calls Tryd.prog 75 #[.slice sao sl scap, .agg #[.int .i64 u, .int .i64 a, .int .i64 b, .int .i64 c]] W fun e w' => e = .returned (.tuple #[.int .i64 x, .nilIface]) ∧ Below W.heap.size W w')
    (hy : y = 0) :
    Calls Tryd.prog 44 #[.agg #[.int .i64 4, .slice sao sl scap, .slice tao tl tcap, .int .i64 n], .agg #[.int .i64 u, .int .i64 a, .int .i64 b, .int .i64 c]] w fun e w' => e = .returned (.tuple #[.bool (saysB 4 n x y), .nilIface]) ∧ Below w.heap.size w w' := by
  subst hy
  have HS : Hid (∀ W, Calls Tryd.prog 76 #[.agg #[.int .i64 4, .slice sao sl scap, .slice tao tl tcap, .int .i64 n], .int .i64 x, .int .i64 0] W fun e w' => e = .returned (.bool (saysB 4 n x 0)) ∧ Below W.heap.size W w') := fun W => says_any 4 n x 0 sao tao sl scap tl tcap W (by decide) x0 x1 y0 y1 n0 n1
  clear x0 x1 y0 y1 n0 n1
  obtain ⟨R, hR⟩ : ∃ R, R = saysB 4 n x 0 := ⟨_, rfl⟩
  rw [← hR] at HS ⊢
  clear hR
  obtain ⟨w1, hw1⟩ : ∃ w1, w1 = (w.alloc (.cells #[.int .i64 4, .slice sao sl scap, .slice tao tl tcap, .int .i64 n] 49)).alloc (.cells #[.int .i64 u, .int .i64 a, .int .i64 b, .int .i64 c] 38) := ⟨_, rfl⟩
  have HB1 : Hid (Below w.heap.size w w1) := by unfold Hid; rw [hw1]; exact (below_alloc1 w _).trans ((below_alloc1 _ _).mono (by simp))
  have HX : Hid (Boxes w1 w.heap.size 4 n (.slice sao sl scap) (.slice tao tl tcap) u a b c) := by rw [hw1]; exact boxes_alloc w _ _ _ _ _ _ _ _
  have HK1 : Hid (w.heap.size + 1 < w1.heap.size) := by unfold Hid; rw [hw1]; simp
  have HKn : Hid (KindsLaid w1) := hK.below HB1.out
  have HC : Hid (Calls Tryd.prog 68 #[.agg #[.int .i64 4, .slice sao sl scap, .slice tao tl tcap, .int .i64 n]] w1 fun e w' => e = .returned .nilIface ∧ Below w1.heap.size w1 w') := hC w1 HB1.out
  have HV : Hid (∀ W, Below w1.heap.size w1 W → Calls Tryd.prog 75 #[.slice sao sl scap, .agg #[.int .i64 u, .int .i64 a, .int .i64 b, .int .i64 c]] W fun e w' => e = .returned (.tuple #[.int .i64 x, .nilIface]) ∧ Below W.heap.size W w') := fun W hW => hV W (HB1.out.trans (hW.mono (Nat.le_of_lt (Nat.lt_of_succ_lt HK1.out))))
  clear hC hV hK
  obtain ⟨x0, x1, x2, x3, x4, x5, x6, x7⟩ := HX.out
  go_enter Tryd.func44, Tryd.ntmps44
  go_wp2_with fail
  rw [← hw1]
  clear hw1
  go_wp2_with (go_at_call 68; refine HC.out.mono ?_; rintro e w2 ⟨rfl, hb⟩; have HZ2 : Hid (Below w1.heap.size w1 w2) := hb; clear hb x0 x1 x2 x3 x4 x5 x6 x7; obtain ⟨x0, x1, x2, x3, x4, x5, x6, x7⟩ := HX.out.below HZ2.out HK1.out)
  go_wp2_with fail
  go_at_call 75
  refine (HV.out _ HZ2.out).mono ?_
  rintro e w3 ⟨rfl, hb⟩
  have HZ3 : Hid (Below w1.heap.size w1 w3) := HZ2.out.trans (hb.mono HZ2.out.size)
  have q0 : w3.cell? ⟨0, 13, none⟩ = some (.bool false) := HKn.out.below HZ3.out 13 (by decide)
  clear hb x0 x1 x2 x3 x4 x5 x6 x7
  obtain ⟨x0, x1, x2, x3, x4, x5, x6, x7⟩ := HX.out.below HZ3.out HK1.out
  go_wp2_with fail
  go_at_call 76
  refine (HS.out _).mono ?_
  rintro e w5 ⟨rfl, hb⟩
  have HZ5 : Hid (Below w1.heap.size w1 w5) := HZ3.out.trans (hb.mono HZ3.out.size)
  clear hb
  go_wp2
  go_ret2
  exact ⟨rfl, HB1.out.trans (HZ5.out.mono (Nat.le_of_lt (Nat.lt_of_succ_lt HK1.out)))⟩


set_option maxHeartbeats 2000000 in
theorem holds_5 (x y : Int) (n : Int) (sao tao : Option Addr) (sl scap tl tcap : Nat) (u a b c : Int) (w : World) (hK : KindsLaid w) (x0 : 0 ≤ x) (x1 : x < 64) (y0 : 0 ≤ y) (y1 : y < 64) (n0 : -20 ≤ n) (n1 : n ≤ 20)
    (hC : ∀ W, Below w.heap.size w W → (Calls Tryd.prog 68 #[.agg #[.int .i64 5, .slice sao sl scap, .slice tao tl tcap, .int .i64 n]] W fun e w' => e = .returned .nilIface ∧ Below W.heap.size W w'))
    (hV : ∀ W, Below w.heap.size w W → Calls Tryd.prog 75 #[.slice sao sl scap, .agg #[.int .i64 u, .int .i64 a, .int .i64 b, .int .i64 c]] W fun e w' => e = .returned (.tuple #[.int .i64 x, .nilIface]) ∧ Below W.heap.size W w')
    (hV2 : ∀ W, Below w.heap.size w W → Calls Tryd.prog 75 #[.slice tao tl tcap, .agg #[.int .i64 u, .int .i64 a, .int .i64 b, .int .i64 c]] W fun e w' => e = .returned (.tuple #[.int .i64 y, .nilIface]) ∧ Below W.heap.size W w') :
    Calls Tryd.prog 44 #[.agg #[.int .i64 5, .slice sao sl scap, .slice tao tl tcap, .int .i64 n], .agg #[.int .i64 u, .int .i64 a, .int .i64 b, .int .i64 c]] w fun e w' => e = .returned (.tuple #[.bool (saysB 5 n x y), .nilIface]) ∧ Below w.heap.size w w' := by
  have HS : Hid (∀ W, Calls Tryd.prog 76 #[.agg #[.int .i64 5, .slice sao sl scap, .slice tao tl tcap, .int .i64 n], .int .i64 x, .int .i64 y] W fun e w' => e = .returned (.bool (saysB 5 n x y)) ∧ Below W.heap.size W w') := fun W => says_any 5 n x y sao tao sl scap tl tcap W (by decide) x0 x1 y0 y1 n0 n1
  clear x0 x1 y0 y1 n0 n1
  obtain ⟨R, hR⟩ : ∃ R, R = saysB 5 n x y := ⟨_, rfl⟩
  rw [← hR] at HS ⊢
  clear hR
  obtain ⟨w1, hw1⟩ : ∃ w1, w1 = (w.alloc (.cells #[.int .i64 5, .slice sao sl scap, .slice tao tl tcap, .int .i64 n] 49)).alloc (.cells #[.int .i64 u, .int .i64 a, .int .i64 b, .int .i64 c] 38) := ⟨_, rfl⟩
  have HB1 : Hid (Below w.heap.size w w1) := by unfold Hid; rw [hw1]; exact (below_alloc1 w _).trans ((below_alloc1 _ _).mono (by simp))
  have HX : Hid (Boxes w1 w.heap.size 5 n (.slice sao sl scap) (.slice tao tl tcap) u a b c) := by rw [hw1]; exact boxes_alloc w _ _ _ _ _ _ _ _
  have HK1 : Hid (w.heap.size + 1 < w1.heap.size) := by unfold Hid; rw [hw1]; simp
  have HKn : Hid (KindsLaid w1) := hK.below HB1.out
  have HC : Hid (Calls Tryd.prog 68 #[.agg #[.int .i64 5, .slice sao sl scap, .slice tao tl tcap, .int .i64 n]] w1 fun e w' => e = .returned .nilIface ∧ Below w1.heap.size w1 w') := hC w1 HB1.out
  have HV : Hid (∀ W, Below w1.heap.size w1 W → Calls Tryd.prog 75 #[.slice sao sl scap, .agg #[.int .i64 u, .int .i64 a, .int .i64 b, .int .i64 c]] W fun e w' => e = .returned (.tuple #[.int .i64 x, .nilIface]) ∧ Below W.heap.size W w') := fun W hW => hV W (HB1.out.trans (hW.mono (Nat.le_of_lt (Nat.lt_of_succ_lt HK1.out))))
  have HV2 : Hid (∀ W, Below w1.heap.size w1 W → Calls Tryd.prog 75 #[.slice tao tl tcap, .agg #[.int .i64 u, .int .i64 a, .int .i64 b, .int .i64 c]] W fun e w' => e = .returned (.tuple #[.int .i64 y, .nilIface]) ∧ Below W.heap.size W w') := fun W hW => hV2 W (HB1.out.trans (hW.mono (Nat.le_of_lt (Nat.lt_of_succ_lt HK1.out))))
  clear hC hV hK hV2
  obtain ⟨x0, x1, x2, x3, x4, x5, x6, x7⟩ := HX.out
  go_enter Tryd.func44, Tryd.ntmps44
  go_wp2_with fail
  rw [← hw1]
  clear hw1
  go_wp2_with (go_at_call 68; refine HC.out.mono ?_; rintro e w2 ⟨rfl, hb⟩; have HZ2 : Hid (Below w1.heap.size w1 w2) := hb; clear hb x0 x1 x2 x3 x4 x5 x6 x7; obtain ⟨x0, x1, x2, x3, x4, x5, x6, x7⟩ := HX.out.below HZ2.out HK1.out)
  go_wp2_with fail
  go_at_call 75
  refine (HV.out _ HZ2.out).mono ?_
  rintro e w3 ⟨rfl, hb⟩
  have HZ3 : Hid (Below w1.heap.size w1 w3) := HZ2.out.trans (hb.mono HZ2.out.size)
  have q0 : w3.cell? ⟨0, 16, none⟩ = some (.bool true) := HKn.out.below HZ3.out 16 (by decide)
  clear hb x0 x1 x2 x3 x4 x5 x6 x7
  obtain ⟨x0, x1, x2, x3, x4, x5, x6, x7⟩ := HX.out.below HZ3.out HK1.out
  go_wp2_with fail
  go_at_call 75
  refine (HV2.out _ HZ3.out).mono ?_
  rintro e w4 ⟨rfl, hb⟩
  have HZ4 : Hid (Below w1.heap.size w1 w4) := HZ3.out.trans (hb.mono HZ3.out.size)
  clear hb x0 x1 x2 x3 x4 x5 x6 x7
  obtain ⟨x0, x1, x2, x3, x4, x5, x6, x7⟩ := HX.out.below HZ4.out HK1.out
  go_wp2_with fail
  go_at_call 76
  refine (HS.out _).mono ?_
  rintro e w5 ⟨rfl, hb⟩
  have HZ5 : Hid (Below w1.heap.size w1 w5) := HZ4.out.trans (hb.mono HZ4.out.size)
  clear hb
  go_wp2
  go_ret2
  exact ⟨rfl, HB1.out.trans (HZ5.out.mono (Nat.le_of_lt (Nat.lt_of_succ_lt HK1.out)))⟩


theorem back_bool {a b : Bool} {x y : Value} (h : a = b) (h' : x = y) : Ending.returned (.tuple #[.bool a, x]) = .returned (.tuple #[.bool b, y]) := by rw [h, h']

/-- Holds, whatever the atom and the world. -/
theorem aholds_any (k n : Int) (vs vt : Value) (s t : List Int) (u a b c : Int) (w : World) (hS : Reads w vs s) (hT : Reads w vt t) (hK : KindsLaid w) :
    Calls Tryd.prog 44 #[.agg #[.int .i64 k, vs, vt, .int .i64 n], .agg #[.int .i64 u, .int .i64 a, .int .i64 b, .int .i64 c]] w fun e w' => e = .returned (.tuple #[.bool ((Wd.mk u a b c).holdsIs k s t n), errV ((Wd.mk u a b c).holdsFault k s t n)]) ∧ Below w.heap.size w w' := by
  have hC : ∀ W, Below w.heap.size w W → _ := fun W hW => acheck_any k n vs vt s t W (hS.below hW) (hT.below hW) (hK.below hW)
  have hV : ∀ W, Below w.heap.size w W → _ := fun W hW => value_any s vs u a b c W (hS.below hW)
  have hV2 : ∀ W, Below w.heap.size w W → _ := fun W hW => value_any t vt u a b c W (hT.below hW)
  obtain ⟨sao, scap, rfl, _⟩ := hS.slice
  obtain ⟨tao, tcap, rfl, _⟩ := hT.slice
  by_cases hf : atomFault k s t n = 0
  · obtain ⟨hk, hs, ht, n0, n1⟩ := atomFault_zero.1 hf
    rw [hf, errV_0] at hC
    have hm : mostN k ≤ 20 := by unfold mostN; split <;> omega
    by_cases hw : (Wd.mk u a b c).ok = true
    · have e1 : (Wd.mk u a b c).holdsFault k s t n = 0 := by unfold Wd.holdsFault; rw [if_pos hf, if_pos hw]
      have e2 : (Wd.mk u a b c).holdsIs k s t n = saysB k n ((Wd.mk u a b c).val s) ((Wd.mk u a b c).snd k t) := by unfold Wd.holdsIs; rw [if_pos e1]; rfl
      have e3 : (Wd.mk u a b c).answer s = (Wd.mk u a b c).val s := by unfold Wd.answer; rw [if_pos hs, if_pos hw]
      have e4 : (Wd.mk u a b c).fault s = 0 := by unfold Wd.fault; rw [if_pos hs, if_pos hw]
      rw [e1, e2, errV_0]
      rw [e3, e4, errV_0] at hV
      have ox := okB_lt (ok_val hw s)
      have oy := okB_lt (ok_val hw t)
      have hsec : secondB k = true → (Wd.mk u a b c).answer t = (Wd.mk u a b c).val t ∧ (Wd.mk u a b c).fault t = 0 ∧ (Wd.mk u a b c).snd k t = (Wd.mk u a b c).val t := by
        intro h
        have h0 := second_reads ht h
        refine ⟨?_, ?_, ?_⟩
        · unfold Wd.answer; rw [if_pos h0, if_pos hw]
        · unfold Wd.fault; rw [if_pos h0, if_pos hw]
        · unfold Wd.snd; rw [if_pos h]
      rcases five hk.1 hk.2 with rfl | rfl | rfl | rfl | rfl
      · obtain ⟨g1, g2, g3⟩ := hsec (by decide)
        rw [g1, g2, errV_0] at hV2; rw [g3]
        exact holds_1 _ _ n sao tao _ scap _ tcap u a b c w hK ox.2.2.1 ox.2.2.2 oy.2.2.1 oy.2.2.2 (by omega) (by omega) hC hV hV2
      · obtain ⟨g1, g2, g3⟩ := hsec (by decide)
        rw [g1, g2, errV_0] at hV2; rw [g3]
        exact holds_2 _ _ n sao tao _ scap _ tcap u a b c w hK ox.2.2.1 ox.2.2.2 oy.2.2.1 oy.2.2.2 (by omega) (by omega) hC hV hV2
      · exact holds_3 _ 0 n sao tao _ scap _ tcap u a b c w hK ox.2.2.1 ox.2.2.2 (Int.le_refl 0) (by decide) (by omega) (by omega) hC hV rfl
      · exact holds_4 _ 0 n sao tao _ scap _ tcap u a b c w hK ox.2.2.1 ox.2.2.2 (Int.le_refl 0) (by decide) (by omega) (by omega) hC hV rfl
      · obtain ⟨g1, g2, g3⟩ := hsec (by decide)
        rw [g1, g2, errV_0] at hV2; rw [g3]
        exact holds_5 _ _ n sao tao _ scap _ tcap u a b c w hK ox.2.2.1 ox.2.2.2 oy.2.2.1 oy.2.2.2 (by omega) (by omega) hC hV hV2
    · have e1 : (Wd.mk u a b c).holdsFault k s t n = 1 := by unfold Wd.holdsFault; rw [if_pos hf, if_neg hw]
      have e2 : (Wd.mk u a b c).holdsIs k s t n = false := by unfold Wd.holdsIs; rw [if_neg (by rw [e1]; decide)]
      have e3 : (Wd.mk u a b c).answer s = 0 := by unfold Wd.answer; rw [if_pos hs, if_neg hw]
      have e4 : (Wd.mk u a b c).fault s = 1 := by unfold Wd.fault; rw [if_pos hs, if_neg hw]
      rw [e1, e2, errV_no (by decide)]
      rw [e3, e4, errV_no (by decide)] at hV
      exact holds_world k n sao tao _ scap _ tcap u a b c w hC hV
  · have e1 : (Wd.mk u a b c).holdsFault k s t n = atomFault k s t n := by unfold Wd.holdsFault; rw [if_neg hf]
    have e2 : (Wd.mk u a b c).holdsIs k s t n = false := by unfold Wd.holdsIs; rw [if_neg (by rw [e1]; exact hf)]
    rw [e1, e2, errV_no hf]
    rw [errV_no hf] at hC
    exact holds_bad k _ n sao tao _ scap _ tcap u a b c w hC

end Go.Proofs.YteknlcachfhfkahDoor

namespace Go.Proofs.YteknlcachfhfkahDoor
open Go.ChangeShapes Go.WideShapes Go.ChangeAt Go.RowKit

/-- a row of n cells of which the first k are filled. -/
def fill (f : Nat → Value) (z : Value) (n k : Nat) : List Value := (List.range n).map fun j => if j < k then f j else z
theorem fill_zero (f : Nat → Value) (z : Value) (n : Nat) : fill f z n 0 = List.replicate n z := by
  apply List.ext_getElem
  · simp [fill]
  · intro j h1 h2; simp [fill]
theorem fill_set (f : Nat → Value) (z : Value) (n k : Nat) : (fill f z n k).set k (f k) = fill f z n (k + 1) := by
  apply List.ext_getElem
  · simp [fill]
  · intro j h1 h2
    simp only [fill, List.getElem_set, List.getElem_map, List.getElem_range]
    by_cases h : k = j
    · subst h; simp
    · rw [if_neg h]
      by_cases h' : j < k
      · rw [if_pos h', if_pos (by omega)]
      · rw [if_neg h', if_neg (by omega)]
theorem fill_get (f : Nat → Value) (z : Value) (n k j : Nat) (hj : j < n) : (fill f z n k)[j]? = some (if j < k then f j else z) := by
  simp [fill, hj]

end Go.Proofs.YteknlcachfhfkahDoor
