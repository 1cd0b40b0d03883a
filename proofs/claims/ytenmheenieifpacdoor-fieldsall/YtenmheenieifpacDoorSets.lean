/-
  Proved: what sets.Size returns, of any numbers, and that it leaves memory as it was (a contract that the statements lean on).
-/
import Derived.Test.YtenmheenieifpacDoorOnes
namespace Go.Proofs.YtenmheenieifpacDoor
open Go.ChangeShapes Go.WideShapes Go.ChangeAt Go.RowKit

theorem size_ok (u s : Int) (h : okB u s = true) (w : World) :
    Calls Tryd.prog 27 #[.int .i64 u, .int .i64 s] w fun e w' => e = .returned (.tuple #[.int .i64 (pcN s), .nilIface]) ∧ w = w' := by
  obtain ⟨u0, u1, s0, s1⟩ := okB_lt h
  go_enter Tryd.func27, Tryd.ntmps27
  go_wp2_with (first | (go_at_call 53; refine (check_ok _ _ h _).mono ?_; rintro e w' ⟨rfl, rfl⟩) | (go_at_call 54; refine (ones_any _ ?_ ?_ _).mono ?_; omega; omega; rintro e w' ⟨rfl, rfl⟩))
  go_ret2
  exact ⟨rfl, rfl⟩

theorem size_no (u s : Int) (h : okB u s = false) (w : World) :
    Calls Tryd.prog 27 #[.int .i64 u, .int .i64 s] w fun e w' => e = .returned (.tuple #[.int .i64 0, .iface 69 (.int .i64 1)]) ∧ w = w' := by
  go_enter Tryd.func27, Tryd.ntmps27
  go_wp2_with (go_at_call 53; refine (check_no _ _ h _).mono ?_; rintro e w' ⟨rfl, rfl⟩)
  go_ret2
  exact ⟨rfl, rfl⟩
end Go.Proofs.YtenmheenieifpacDoor
