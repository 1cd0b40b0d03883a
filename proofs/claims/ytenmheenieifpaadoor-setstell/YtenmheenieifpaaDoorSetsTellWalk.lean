/-
  Proved: whatever the five numbers, vennlaw1.SetsTell returns true, and what was in memory is as it was.
-/
import Derived.Test.YtenmheenieifpaaDoorSame
import Derived.Test.YtenmheenieifpaaDoorHas
import Derived.Test.YtenmheenieifpaaDoorRef
namespace Go.Proofs.YtenmheenieifpaaDoor
open Go.ChangeShapes Go.WideShapes Go.ChangeAt Go.RowKit

set_option maxRecDepth 100000 in
set_option maxHeartbeats 4000000 in
theorem setsTell_no (what u a b i : Int) (ha : okB u a = false) (w : World) (hL : Laid w) :
    Calls Tryd.prog 3 #[.int .i64 what, .int .i64 u, .int .i64 a, .int .i64 b, .int .i64 i] w fun e w' => e = .returned (.bool true) ∧ Below w.heap.size w w' := by
  have HA : Hid (Acc w w) := Acc.start hL
  clear hL
  go_enter Tryd.func3, Tryd.ntmps3
  go_wp2_with (first | (go_at_call 6; (first | (refine (refSet_ok _ _ ?_ _).mono ?_; assumption) | (refine (refSet_no _ _ ?_ _).mono ?_; assumption)); rintro e w' ⟨rfl, rfl⟩) | (go_at_call 8; refine (check_no _ _ ha _).mono ?_; rintro e w' ⟨rfl, rfl⟩) | (go_at_call 11; refine (size_no _ _ ha _).mono ?_; rintro e w' ⟨rfl, rfl⟩) | (go_at_call 12; refine (has_no _ _ _ (Or.inl ha) _).mono ?_; rintro e w' ⟨rfl, rfl⟩) | (go_at_call 14; refine (do_no _ _ _ _ (Or.inl ha) _).mono ?_; rintro e w' ⟨rfl, rfl⟩) | (go_at_call 7; refine (same_err _ _ _ HA.out.1).mono ?_; rintro e w' ⟨rfl, hq⟩; have HA : Hid (Acc _ _) := HA.out.step hq; clear hq))
  go_ret
  exact ⟨rfl, HA.out.2⟩

set_option maxRecDepth 100000 in
set_option maxHeartbeats 4000000 in
theorem setsTell_in_b (what u a b : Int) (j : Nat) (ha : okB u a = true) (hj : (j : Int) < u) (hb : okB u b = false) (w : World) (hL : Laid w) :
    Calls Tryd.prog 3 #[.int .i64 what, .int .i64 u, .int .i64 a, .int .i64 b, .int .i64 j] w fun e w' => e = .returned (.bool true) ∧ Below w.heap.size w w' := by
  have HA : Hid (Acc w w) := Acc.start hL
  clear hL
  obtain ⟨u0, u1, a0, a1⟩ := okB_lt ha
  have HN : Hid (okB u a = false ∨ okB u b = false ∨ what < 5 ∨ 8 < what) := Or.inr (Or.inl hb)
  go_enter Tryd.func3, Tryd.ntmps3
  go_wp2_with (first | (go_at_call 6; (first | (refine (refSet_ok _ _ ?_ _).mono ?_; assumption) | (refine (refSet_no _ _ ?_ _).mono ?_; assumption)); rintro e w' ⟨rfl, rfl⟩) | (go_at_call 8; refine (check_ok _ _ ha _).mono ?_; rintro e w' ⟨rfl, rfl⟩) | (go_at_call 11; refine (size_ok _ _ ha _).mono ?_; rintro e w' ⟨rfl, rfl⟩) | (go_at_call 9; refine (refSize_any _ a0 a1 _).mono ?_; rintro e w' ⟨rfl, rfl⟩) | (go_at_call 12; refine (has_ok _ _ _ ha ?_ hj _).mono ?_; omega; rintro e w' ⟨rfl, rfl⟩) | (go_at_call 10; refine (refHas_any _ _ a0 ?_ ?_ _).mono ?_; omega; omega; rintro e w' ⟨rfl, rfl⟩) | (go_at_call 14; refine (do_no _ _ _ _ HN.out _).mono ?_; rintro e w' ⟨rfl, rfl⟩) | (go_at_call 7; first | (with_reducible (refine (same_nil _ _).mono ?_); rintro e w' ⟨rfl, rfl⟩) | (refine (same_err _ _ _ HA.out.1).mono ?_; rintro e w' ⟨rfl, hq⟩; have HA : Hid (Acc _ _) := HA.out.step hq; clear hq)))
  go_ret
  exact ⟨rfl, HA.out.2⟩

set_option maxRecDepth 100000 in
set_option maxHeartbeats 4000000 in
theorem setsTell_in_l (what u a b : Int) (j : Nat) (ha : okB u a = true) (hj : (j : Int) < u) (hb : okB u b = true) (hw : what < 5) (w : World) (hL : Laid w) :
    Calls Tryd.prog 3 #[.int .i64 what, .int .i64 u, .int .i64 a, .int .i64 b, .int .i64 j] w fun e w' => e = .returned (.bool true) ∧ Below w.heap.size w w' := by
  have HA : Hid (Acc w w) := Acc.start hL
  clear hL
  obtain ⟨u0, u1, a0, a1⟩ := okB_lt ha
  have HN : Hid (okB u a = false ∨ okB u b = false ∨ what < 5 ∨ 8 < what) := Or.inr (Or.inr (Or.inl hw))
  go_enter Tryd.func3, Tryd.ntmps3
  go_wp2_with (first | (go_at_call 6; (first | (refine (refSet_ok _ _ ?_ _).mono ?_; assumption) | (refine (refSet_no _ _ ?_ _).mono ?_; assumption)); rintro e w' ⟨rfl, rfl⟩) | (go_at_call 8; refine (check_ok _ _ ha _).mono ?_; rintro e w' ⟨rfl, rfl⟩) | (go_at_call 11; refine (size_ok _ _ ha _).mono ?_; rintro e w' ⟨rfl, rfl⟩) | (go_at_call 9; refine (refSize_any _ a0 a1 _).mono ?_; rintro e w' ⟨rfl, rfl⟩) | (go_at_call 12; refine (has_ok _ _ _ ha ?_ hj _).mono ?_; omega; rintro e w' ⟨rfl, rfl⟩) | (go_at_call 10; refine (refHas_any _ _ a0 ?_ ?_ _).mono ?_; omega; omega; rintro e w' ⟨rfl, rfl⟩) | (go_at_call 14; refine (do_no _ _ _ _ HN.out _).mono ?_; rintro e w' ⟨rfl, rfl⟩) | (go_at_call 7; first | (with_reducible (refine (same_nil _ _).mono ?_); rintro e w' ⟨rfl, rfl⟩) | (refine (same_err _ _ _ HA.out.1).mono ?_; rintro e w' ⟨rfl, hq⟩; have HA : Hid (Acc _ _) := HA.out.step hq; clear hq)))
  go_ret
  exact ⟨rfl, HA.out.2⟩

set_option maxRecDepth 100000 in
set_option maxHeartbeats 4000000 in
theorem setsTell_in_m (what u a b : Int) (j : Nat) (ha : okB u a = true) (hj : (j : Int) < u) (hb : okB u b = true) (hw : 8 < what) (w : World) (hL : Laid w) :
    Calls Tryd.prog 3 #[.int .i64 what, .int .i64 u, .int .i64 a, .int .i64 b, .int .i64 j] w fun e w' => e = .returned (.bool true) ∧ Below w.heap.size w w' := by
  have HA : Hid (Acc w w) := Acc.start hL
  clear hL
  obtain ⟨u0, u1, a0, a1⟩ := okB_lt ha
  have HN : Hid (okB u a = false ∨ okB u b = false ∨ what < 5 ∨ 8 < what) := Or.inr (Or.inr (Or.inr hw))
  go_enter Tryd.func3, Tryd.ntmps3
  go_wp2_with (first | (go_at_call 6; (first | (refine (refSet_ok _ _ ?_ _).mono ?_; assumption) | (refine (refSet_no _ _ ?_ _).mono ?_; assumption)); rintro e w' ⟨rfl, rfl⟩) | (go_at_call 8; refine (check_ok _ _ ha _).mono ?_; rintro e w' ⟨rfl, rfl⟩) | (go_at_call 11; refine (size_ok _ _ ha _).mono ?_; rintro e w' ⟨rfl, rfl⟩) | (go_at_call 9; refine (refSize_any _ a0 a1 _).mono ?_; rintro e w' ⟨rfl, rfl⟩) | (go_at_call 12; refine (has_ok _ _ _ ha ?_ hj _).mono ?_; omega; rintro e w' ⟨rfl, rfl⟩) | (go_at_call 10; refine (refHas_any _ _ a0 ?_ ?_ _).mono ?_; omega; omega; rintro e w' ⟨rfl, rfl⟩) | (go_at_call 14; refine (do_no _ _ _ _ HN.out _).mono ?_; rintro e w' ⟨rfl, rfl⟩) | (go_at_call 7; first | (with_reducible (refine (same_nil _ _).mono ?_); rintro e w' ⟨rfl, rfl⟩) | (refine (same_err _ _ _ HA.out.1).mono ?_; rintro e w' ⟨rfl, hq⟩; have HA : Hid (Acc _ _) := HA.out.step hq; clear hq)))
  go_ret
  exact ⟨rfl, HA.out.2⟩

set_option maxRecDepth 100000 in
set_option maxHeartbeats 4000000 in
theorem setsTell_in_y (what u a b : Int) (j : Nat) (ha : okB u a = true) (hj : (j : Int) < u) (hb : okB u b = true) (hl : 5 ≤ what) (hm : what ≤ 8) (w : World) (hL : Laid w) :
    Calls Tryd.prog 3 #[.int .i64 what, .int .i64 u, .int .i64 a, .int .i64 b, .int .i64 j] w fun e w' => e = .returned (.bool true) ∧ Below w.heap.size w w' := by
  have HA : Hid (Acc w w) := Acc.start hL
  clear hL
  obtain ⟨u0, u1, a0, a1⟩ := okB_lt ha
  go_enter Tryd.func3, Tryd.ntmps3
  go_wp2_with (first | (go_at_call 6; (first | (refine (refSet_ok _ _ ?_ _).mono ?_; assumption) | (refine (refSet_no _ _ ?_ _).mono ?_; assumption)); rintro e w' ⟨rfl, rfl⟩) | (go_at_call 8; refine (check_ok _ _ ha _).mono ?_; rintro e w' ⟨rfl, rfl⟩) | (go_at_call 11; refine (size_ok _ _ ha _).mono ?_; rintro e w' ⟨rfl, rfl⟩) | (go_at_call 9; refine (refSize_any _ a0 a1 _).mono ?_; rintro e w' ⟨rfl, rfl⟩) | (go_at_call 12; refine (has_ok _ _ _ ha ?_ hj _).mono ?_; omega; rintro e w' ⟨rfl, rfl⟩) | (go_at_call 10; refine (refHas_any _ _ a0 ?_ ?_ _).mono ?_; omega; omega; rintro e w' ⟨rfl, rfl⟩) | (go_at_call 14; refine (do_ok _ _ _ _ hl hm ha hb _).mono ?_; rintro e w' ⟨rfl, rfl⟩) | (go_at_call 13; refine (refDo_any _ _ _ _ hl hm ha hb _).mono ?_; rintro e w' ⟨rfl, rfl⟩) | (go_at_call 7; first | (with_reducible (refine (same_nil _ _).mono ?_); rintro e w' ⟨rfl, rfl⟩) | (refine (same_err _ _ _ HA.out.1).mono ?_; rintro e w' ⟨rfl, hq⟩; have HA : Hid (Acc _ _) := HA.out.step hq; clear hq)))
  go_ret
  exact ⟨rfl, HA.out.2⟩

set_option maxRecDepth 100000 in
set_option maxHeartbeats 4000000 in
theorem setsTell_below_b (what u a b i : Int) (ha : okB u a = true) (hi : i < 0) (hb : okB u b = false) (w : World) (hL : Laid w) :
    Calls Tryd.prog 3 #[.int .i64 what, .int .i64 u, .int .i64 a, .int .i64 b, .int .i64 i] w fun e w' => e = .returned (.bool true) ∧ Below w.heap.size w w' := by
  have HA : Hid (Acc w w) := Acc.start hL
  clear hL
  obtain ⟨u0, u1, a0, a1⟩ := okB_lt ha
  have HI : Hid (okB u a = false ∨ i < 0 ∨ u ≤ i) := Or.inr (Or.inl hi)
  have HN : Hid (okB u a = false ∨ okB u b = false ∨ what < 5 ∨ 8 < what) := Or.inr (Or.inl hb)
  go_enter Tryd.func3, Tryd.ntmps3
  go_wp2_with (first | (go_at_call 6; (first | (refine (refSet_ok _ _ ?_ _).mono ?_; assumption) | (refine (refSet_no _ _ ?_ _).mono ?_; assumption)); rintro e w' ⟨rfl, rfl⟩) | (go_at_call 8; refine (check_ok _ _ ha _).mono ?_; rintro e w' ⟨rfl, rfl⟩) | (go_at_call 11; refine (size_ok _ _ ha _).mono ?_; rintro e w' ⟨rfl, rfl⟩) | (go_at_call 9; refine (refSize_any _ a0 a1 _).mono ?_; rintro e w' ⟨rfl, rfl⟩) | (go_at_call 12; refine (has_no _ _ _ HI.out _).mono ?_; rintro e w' ⟨rfl, rfl⟩) | (go_at_call 14; refine (do_no _ _ _ _ HN.out _).mono ?_; rintro e w' ⟨rfl, rfl⟩) | (go_at_call 7; first | (with_reducible (refine (same_nil _ _).mono ?_); rintro e w' ⟨rfl, rfl⟩) | (refine (same_err _ _ _ HA.out.1).mono ?_; rintro e w' ⟨rfl, hq⟩; have HA : Hid (Acc _ _) := HA.out.step hq; clear hq)))
  go_ret
  exact ⟨rfl, HA.out.2⟩

set_option maxRecDepth 100000 in
set_option maxHeartbeats 4000000 in
theorem setsTell_below_l (what u a b i : Int) (ha : okB u a = true) (hi : i < 0) (hb : okB u b = true) (hw : what < 5) (w : World) (hL : Laid w) :
    Calls Tryd.prog 3 #[.int .i64 what, .int .i64 u, .int .i64 a, .int .i64 b, .int .i64 i] w fun e w' => e = .returned (.bool true) ∧ Below w.heap.size w w' := by
  have HA : Hid (Acc w w) := Acc.start hL
  clear hL
  obtain ⟨u0, u1, a0, a1⟩ := okB_lt ha
  have HI : Hid (okB u a = false ∨ i < 0 ∨ u ≤ i) := Or.inr (Or.inl hi)
  have HN : Hid (okB u a = false ∨ okB u b = false ∨ what < 5 ∨ 8 < what) := Or.inr (Or.inr (Or.inl hw))
  go_enter Tryd.func3, Tryd.ntmps3
  go_wp2_with (first | (go_at_call 6; (first | (refine (refSet_ok _ _ ?_ _).mono ?_; assumption) | (refine (refSet_no _ _ ?_ _).mono ?_; assumption)); rintro e w' ⟨rfl, rfl⟩) | (go_at_call 8; refine (check_ok _ _ ha _).mono ?_; rintro e w' ⟨rfl, rfl⟩) | (go_at_call 11; refine (size_ok _ _ ha _).mono ?_; rintro e w' ⟨rfl, rfl⟩) | (go_at_call 9; refine (refSize_any _ a0 a1 _).mono ?_; rintro e w' ⟨rfl, rfl⟩) | (go_at_call 12; refine (has_no _ _ _ HI.out _).mono ?_; rintro e w' ⟨rfl, rfl⟩) | (go_at_call 14; refine (do_no _ _ _ _ HN.out _).mono ?_; rintro e w' ⟨rfl, rfl⟩) | (go_at_call 7; first | (with_reducible (refine (same_nil _ _).mono ?_); rintro e w' ⟨rfl, rfl⟩) | (refine (same_err _ _ _ HA.out.1).mono ?_; rintro e w' ⟨rfl, hq⟩; have HA : Hid (Acc _ _) := HA.out.step hq; clear hq)))
  go_ret
  exact ⟨rfl, HA.out.2⟩

set_option maxRecDepth 100000 in
set_option maxHeartbeats 4000000 in
theorem setsTell_below_m (what u a b i : Int) (ha : okB u a = true) (hi : i < 0) (hb : okB u b = true) (hw : 8 < what) (w : World) (hL : Laid w) :
    Calls Tryd.prog 3 #[.int .i64 what, .int .i64 u, .int .i64 a, .int .i64 b, .int .i64 i] w fun e w' => e = .returned (.bool true) ∧ Below w.heap.size w w' := by
  have HA : Hid (Acc w w) := Acc.start hL
  clear hL
  obtain ⟨u0, u1, a0, a1⟩ := okB_lt ha
  have HI : Hid (okB u a = false ∨ i < 0 ∨ u ≤ i) := Or.inr (Or.inl hi)
  have HN : Hid (okB u a = false ∨ okB u b = false ∨ what < 5 ∨ 8 < what) := Or.inr (Or.inr (Or.inr hw))
  go_enter Tryd.func3, Tryd.ntmps3
  go_wp2_with (first | (go_at_call 6; (first | (refine (refSet_ok _ _ ?_ _).mono ?_; assumption) | (refine (refSet_no _ _ ?_ _).mono ?_; assumption)); rintro e w' ⟨rfl, rfl⟩) | (go_at_call 8; refine (check_ok _ _ ha _).mono ?_; rintro e w' ⟨rfl, rfl⟩) | (go_at_call 11; refine (size_ok _ _ ha _).mono ?_; rintro e w' ⟨rfl, rfl⟩) | (go_at_call 9; refine (refSize_any _ a0 a1 _).mono ?_; rintro e w' ⟨rfl, rfl⟩) | (go_at_call 12; refine (has_no _ _ _ HI.out _).mono ?_; rintro e w' ⟨rfl, rfl⟩) | (go_at_call 14; refine (do_no _ _ _ _ HN.out _).mono ?_; rintro e w' ⟨rfl, rfl⟩) | (go_at_call 7; first | (with_reducible (refine (same_nil _ _).mono ?_); rintro e w' ⟨rfl, rfl⟩) | (refine (same_err _ _ _ HA.out.1).mono ?_; rintro e w' ⟨rfl, hq⟩; have HA : Hid (Acc _ _) := HA.out.step hq; clear hq)))
  go_ret
  exact ⟨rfl, HA.out.2⟩

set_option maxRecDepth 100000 in
set_option maxHeartbeats 4000000 in
theorem setsTell_below_y (what u a b i : Int) (ha : okB u a = true) (hi : i < 0) (hb : okB u b = true) (hl : 5 ≤ what) (hm : what ≤ 8) (w : World) (hL : Laid w) :
    Calls Tryd.prog 3 #[.int .i64 what, .int .i64 u, .int .i64 a, .int .i64 b, .int .i64 i] w fun e w' => e = .returned (.bool true) ∧ Below w.heap.size w w' := by
  have HA : Hid (Acc w w) := Acc.start hL
  clear hL
  obtain ⟨u0, u1, a0, a1⟩ := okB_lt ha
  have HI : Hid (okB u a = false ∨ i < 0 ∨ u ≤ i) := Or.inr (Or.inl hi)
  go_enter Tryd.func3, Tryd.ntmps3
  go_wp2_with (first | (go_at_call 6; (first | (refine (refSet_ok _ _ ?_ _).mono ?_; assumption) | (refine (refSet_no _ _ ?_ _).mono ?_; assumption)); rintro e w' ⟨rfl, rfl⟩) | (go_at_call 8; refine (check_ok _ _ ha _).mono ?_; rintro e w' ⟨rfl, rfl⟩) | (go_at_call 11; refine (size_ok _ _ ha _).mono ?_; rintro e w' ⟨rfl, rfl⟩) | (go_at_call 9; refine (refSize_any _ a0 a1 _).mono ?_; rintro e w' ⟨rfl, rfl⟩) | (go_at_call 12; refine (has_no _ _ _ HI.out _).mono ?_; rintro e w' ⟨rfl, rfl⟩) | (go_at_call 14; refine (do_ok _ _ _ _ hl hm ha hb _).mono ?_; rintro e w' ⟨rfl, rfl⟩) | (go_at_call 13; refine (refDo_any _ _ _ _ hl hm ha hb _).mono ?_; rintro e w' ⟨rfl, rfl⟩) | (go_at_call 7; first | (with_reducible (refine (same_nil _ _).mono ?_); rintro e w' ⟨rfl, rfl⟩) | (refine (same_err _ _ _ HA.out.1).mono ?_; rintro e w' ⟨rfl, hq⟩; have HA : Hid (Acc _ _) := HA.out.step hq; clear hq)))
  go_ret
  exact ⟨rfl, HA.out.2⟩

set_option maxRecDepth 100000 in
set_option maxHeartbeats 4000000 in
theorem setsTell_above_b (what u a b i : Int) (ha : okB u a = true) (hi : u ≤ i) (hb : okB u b = false) (w : World) (hL : Laid w) :
    Calls Tryd.prog 3 #[.int .i64 what, .int .i64 u, .int .i64 a, .int .i64 b, .int .i64 i] w fun e w' => e = .returned (.bool true) ∧ Below w.heap.size w w' := by
  have HA : Hid (Acc w w) := Acc.start hL
  clear hL
  obtain ⟨u0, u1, a0, a1⟩ := okB_lt ha
  have HI : Hid (okB u a = false ∨ i < 0 ∨ u ≤ i) := Or.inr (Or.inr hi)
  have HN : Hid (okB u a = false ∨ okB u b = false ∨ what < 5 ∨ 8 < what) := Or.inr (Or.inl hb)
  go_enter Tryd.func3, Tryd.ntmps3
  go_wp2_with (first | (go_at_call 6; (first | (refine (refSet_ok _ _ ?_ _).mono ?_; assumption) | (refine (refSet_no _ _ ?_ _).mono ?_; assumption)); rintro e w' ⟨rfl, rfl⟩) | (go_at_call 8; refine (check_ok _ _ ha _).mono ?_; rintro e w' ⟨rfl, rfl⟩) | (go_at_call 11; refine (size_ok _ _ ha _).mono ?_; rintro e w' ⟨rfl, rfl⟩) | (go_at_call 9; refine (refSize_any _ a0 a1 _).mono ?_; rintro e w' ⟨rfl, rfl⟩) | (go_at_call 12; refine (has_no _ _ _ HI.out _).mono ?_; rintro e w' ⟨rfl, rfl⟩) | (go_at_call 14; refine (do_no _ _ _ _ HN.out _).mono ?_; rintro e w' ⟨rfl, rfl⟩) | (go_at_call 7; first | (with_reducible (refine (same_nil _ _).mono ?_); rintro e w' ⟨rfl, rfl⟩) | (refine (same_err _ _ _ HA.out.1).mono ?_; rintro e w' ⟨rfl, hq⟩; have HA : Hid (Acc _ _) := HA.out.step hq; clear hq)))
  go_ret
  exact ⟨rfl, HA.out.2⟩

set_option maxRecDepth 100000 in
set_option maxHeartbeats 4000000 in
theorem setsTell_above_l (what u a b i : Int) (ha : okB u a = true) (hi : u ≤ i) (hb : okB u b = true) (hw : what < 5) (w : World) (hL : Laid w) :
    Calls Tryd.prog 3 #[.int .i64 what, .int .i64 u, .int .i64 a, .int .i64 b, .int .i64 i] w fun e w' => e = .returned (.bool true) ∧ Below w.heap.size w w' := by
  have HA : Hid (Acc w w) := Acc.start hL
  clear hL
  obtain ⟨u0, u1, a0, a1⟩ := okB_lt ha
  have HI : Hid (okB u a = false ∨ i < 0 ∨ u ≤ i) := Or.inr (Or.inr hi)
  have HN : Hid (okB u a = false ∨ okB u b = false ∨ what < 5 ∨ 8 < what) := Or.inr (Or.inr (Or.inl hw))
  go_enter Tryd.func3, Tryd.ntmps3
  go_wp2_with (first | (go_at_call 6; (first | (refine (refSet_ok _ _ ?_ _).mono ?_; assumption) | (refine (refSet_no _ _ ?_ _).mono ?_; assumption)); rintro e w' ⟨rfl, rfl⟩) | (go_at_call 8; refine (check_ok _ _ ha _).mono ?_; rintro e w' ⟨rfl, rfl⟩) | (go_at_call 11; refine (size_ok _ _ ha _).mono ?_; rintro e w' ⟨rfl, rfl⟩) | (go_at_call 9; refine (refSize_any _ a0 a1 _).mono ?_; rintro e w' ⟨rfl, rfl⟩) | (go_at_call 12; refine (has_no _ _ _ HI.out _).mono ?_; rintro e w' ⟨rfl, rfl⟩) | (go_at_call 14; refine (do_no _ _ _ _ HN.out _).mono ?_; rintro e w' ⟨rfl, rfl⟩) | (go_at_call 7; first | (with_reducible (refine (same_nil _ _).mono ?_); rintro e w' ⟨rfl, rfl⟩) | (refine (same_err _ _ _ HA.out.1).mono ?_; rintro e w' ⟨rfl, hq⟩; have HA : Hid (Acc _ _) := HA.out.step hq; clear hq)))
  go_ret
  exact ⟨rfl, HA.out.2⟩

set_option maxRecDepth 100000 in
set_option maxHeartbeats 4000000 in
theorem setsTell_above_m (what u a b i : Int) (ha : okB u a = true) (hi : u ≤ i) (hb : okB u b = true) (hw : 8 < what) (w : World) (hL : Laid w) :
    Calls Tryd.prog 3 #[.int .i64 what, .int .i64 u, .int .i64 a, .int .i64 b, .int .i64 i] w fun e w' => e = .returned (.bool true) ∧ Below w.heap.size w w' := by
  have HA : Hid (Acc w w) := Acc.start hL
  clear hL
  obtain ⟨u0, u1, a0, a1⟩ := okB_lt ha
  have HI : Hid (okB u a = false ∨ i < 0 ∨ u ≤ i) := Or.inr (Or.inr hi)
  have HN : Hid (okB u a = false ∨ okB u b = false ∨ what < 5 ∨ 8 < what) := Or.inr (Or.inr (Or.inr hw))
  go_enter Tryd.func3, Tryd.ntmps3
  go_wp2_with (first | (go_at_call 6; (first | (refine (refSet_ok _ _ ?_ _).mono ?_; assumption) | (refine (refSet_no _ _ ?_ _).mono ?_; assumption)); rintro e w' ⟨rfl, rfl⟩) | (go_at_call 8; refine (check_ok _ _ ha _).mono ?_; rintro e w' ⟨rfl, rfl⟩) | (go_at_call 11; refine (size_ok _ _ ha _).mono ?_; rintro e w' ⟨rfl, rfl⟩) | (go_at_call 9; refine (refSize_any _ a0 a1 _).mono ?_; rintro e w' ⟨rfl, rfl⟩) | (go_at_call 12; refine (has_no _ _ _ HI.out _).mono ?_; rintro e w' ⟨rfl, rfl⟩) | (go_at_call 14; refine (do_no _ _ _ _ HN.out _).mono ?_; rintro e w' ⟨rfl, rfl⟩) | (go_at_call 7; first | (with_reducible (refine (same_nil _ _).mono ?_); rintro e w' ⟨rfl, rfl⟩) | (refine (same_err _ _ _ HA.out.1).mono ?_; rintro e w' ⟨rfl, hq⟩; have HA : Hid (Acc _ _) := HA.out.step hq; clear hq)))
  go_ret
  exact ⟨rfl, HA.out.2⟩

set_option maxRecDepth 100000 in
set_option maxHeartbeats 4000000 in
theorem setsTell_above_y (what u a b i : Int) (ha : okB u a = true) (hi : u ≤ i) (hb : okB u b = true) (hl : 5 ≤ what) (hm : what ≤ 8) (w : World) (hL : Laid w) :
    Calls Tryd.prog 3 #[.int .i64 what, .int .i64 u, .int .i64 a, .int .i64 b, .int .i64 i] w fun e w' => e = .returned (.bool true) ∧ Below w.heap.size w w' := by
  have HA : Hid (Acc w w) := Acc.start hL
  clear hL
  obtain ⟨u0, u1, a0, a1⟩ := okB_lt ha
  have HI : Hid (okB u a = false ∨ i < 0 ∨ u ≤ i) := Or.inr (Or.inr hi)
  go_enter Tryd.func3, Tryd.ntmps3
  go_wp2_with (first | (go_at_call 6; (first | (refine (refSet_ok _ _ ?_ _).mono ?_; assumption) | (refine (refSet_no _ _ ?_ _).mono ?_; assumption)); rintro e w' ⟨rfl, rfl⟩) | (go_at_call 8; refine (check_ok _ _ ha _).mono ?_; rintro e w' ⟨rfl, rfl⟩) | (go_at_call 11; refine (size_ok _ _ ha _).mono ?_; rintro e w' ⟨rfl, rfl⟩) | (go_at_call 9; refine (refSize_any _ a0 a1 _).mono ?_; rintro e w' ⟨rfl, rfl⟩) | (go_at_call 12; refine (has_no _ _ _ HI.out _).mono ?_; rintro e w' ⟨rfl, rfl⟩) | (go_at_call 14; refine (do_ok _ _ _ _ hl hm ha hb _).mono ?_; rintro e w' ⟨rfl, rfl⟩) | (go_at_call 13; refine (refDo_any _ _ _ _ hl hm ha hb _).mono ?_; rintro e w' ⟨rfl, rfl⟩) | (go_at_call 7; first | (with_reducible (refine (same_nil _ _).mono ?_); rintro e w' ⟨rfl, rfl⟩) | (refine (same_err _ _ _ HA.out.1).mono ?_; rintro e w' ⟨rfl, hq⟩; have HA : Hid (Acc _ _) := HA.out.step hq; clear hq)))
  go_ret
  exact ⟨rfl, HA.out.2⟩

set_option linter.unusedVariables false in
theorem setsTell_walk (what u a b i : Int) (w0 : (Lit.int .i64 what).wf = true) (w1 : (Lit.int .i64 u).wf = true) (w2 : (Lit.int .i64 a).wf = true) (w3 : (Lit.int .i64 b).wf = true) (w4 : (Lit.int .i64 i).wf = true) (w : World) (hL : Laid w) :
    Calls Tryd.prog 3 #[.int .i64 what, .int .i64 u, .int .i64 a, .int .i64 b, .int .i64 i] w fun e w' => e = .returned (.bool true) ∧ Below w.heap.size w w' := by
  cases ha : okB u a
  · exact setsTell_no what u a b i ha w hL
  by_cases hi : i < 0
  · cases hb : okB u b
    · exact setsTell_below_b what u a b i ha hi hb w hL
    by_cases h1 : what < 5
    · exact setsTell_below_l what u a b i ha hi hb h1 w hL
    by_cases h2 : 8 < what
    · exact setsTell_below_m what u a b i ha hi hb h2 w hL
    exact setsTell_below_y what u a b i ha hi hb (by omega) (by omega) w hL
  by_cases hi2 : u ≤ i
  · cases hb : okB u b
    · exact setsTell_above_b what u a b i ha hi2 hb w hL
    by_cases h1 : what < 5
    · exact setsTell_above_l what u a b i ha hi2 hb h1 w hL
    by_cases h2 : 8 < what
    · exact setsTell_above_m what u a b i ha hi2 hb h2 w hL
    exact setsTell_above_y what u a b i ha hi2 hb (by omega) (by omega) w hL
  obtain ⟨j, rfl⟩ := Int.eq_ofNat_of_zero_le (show 0 ≤ i by omega)
  have hj : (j : Int) < u := by omega
  cases hb : okB u b
  · exact setsTell_in_b what u a b j ha hj hb w hL
  by_cases h1 : what < 5
  · exact setsTell_in_l what u a b j ha hj hb h1 w hL
  by_cases h2 : 8 < what
  · exact setsTell_in_m what u a b j ha hj hb h2 w hL
  exact setsTell_in_y what u a b j ha hj hb (by omega) (by omega) w hL
end Go.Proofs.YtenmheenieifpaaDoor
