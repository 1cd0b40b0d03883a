/-
  Proved: what sets.Has returns, of any numbers, and that it leaves memory as it was.
-/
import Derived.Test.YtenmheenieifpaaDoorSets
namespace Go.Proofs.YtenmheenieifpaaDoor
open Go.ChangeShapes Go.WideShapes Go.ChangeAt Go.RowKit

theorem ret_bool {a b : Bool} {v : Value} (h : a = b) : Ending.returned (.tuple #[.bool a, v]) = .returned (.tuple #[.bool b, v]) := by rw [h]

theorem has_ok (u s i : Int) (h : okB u s = true) (i0 : 0 ≤ i) (i1 : i < u) (w : World) :
    Calls Tryd.prog 12 #[.int .i64 u, .int .i64 s, .int .i64 i] w fun e w' => e = .returned (.tuple #[.bool (hasB s i), .nilIface]) ∧ w = w' := by
  obtain ⟨u0, u1, s0, s1⟩ := okB_lt h
  have hi : i = 0 ∨ i = 1 ∨ i = 2 ∨ i = 3 ∨ i = 4 ∨ i = 5 := by omega
  rcases hi with rfl | rfl | rfl | rfl | rfl | rfl
  all_goals
    go_enter Tryd.func12, Tryd.ntmps12
    go_wp2_with (go_at_call 8; refine (check_ok _ _ h _).mono ?_; rintro e w' ⟨rfl, rfl⟩)
    go_ret2
    refine ⟨ret_bool ?_, rfl⟩
    clear h u0 u1 i0 i1
    obtain ⟨n, rfl⟩ := Int.eq_ofNat_of_zero_le s0
    have hn : n < 64 := by omega
    clear s0 s1
    revert n
    decide +kernel

theorem has_no (u s i : Int) (h : okB u s = false ∨ i < 0 ∨ u ≤ i) (w : World) :
    Calls Tryd.prog 12 #[.int .i64 u, .int .i64 s, .int .i64 i] w fun e w' => e = .returned (.tuple #[.bool false, .iface 54 (.int .i64 1)]) ∧ w = w' := by
  by_cases hs : okB u s = false
  · clear h
    go_enter Tryd.func12, Tryd.ntmps12
    go_wp2_with (go_at_call 8; refine (check_no _ _ hs _).mono ?_; rintro e w' ⟨rfl, rfl⟩)
    go_ret2
    exact ⟨rfl, rfl⟩
  have hs' : okB u s = true := by simpa using hs
  have hi : i < 0 ∨ u ≤ i := by simpa [hs'] using h
  clear hs h
  by_cases h0 : i < 0
  · clear hi
    go_enter Tryd.func12, Tryd.ntmps12
    go_wp2_with (go_at_call 8; refine (check_ok _ _ hs' _).mono ?_; rintro e w' ⟨rfl, rfl⟩)
    go_ret2
    exact ⟨rfl, rfl⟩
  · have h1 : u ≤ i := by omega
    clear hi
    go_enter Tryd.func12, Tryd.ntmps12
    go_wp2_with (go_at_call 8; refine (check_ok _ _ hs' _).mono ?_; rintro e w' ⟨rfl, rfl⟩)
    go_ret2
    exact ⟨rfl, rfl⟩
end Go.Proofs.YtenmheenieifpaaDoor
