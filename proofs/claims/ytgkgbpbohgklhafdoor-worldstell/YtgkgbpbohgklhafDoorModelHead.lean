/-
  Proved: what vennsame.Error returns of an error and its number (what the statements of chapter 9 lean on).
-/
import Derived.Test.YtgkgbpbohgklhafDoorModelFacts
import Derived.Test.YtgkgbpbohgklhafDoorSame
import Derived.Test.YtgkgbpbohgklhafDoorTermCheck
namespace Go.Proofs.YtgkgbpbohgklhafDoor
open Go.ChangeShapes Go.WideShapes Go.ChangeAt Go.RowKit

theorem merr_any (n : Int) (w : World) (hg : Laid w) : Calls Tryd.prog 7 #[errV n, .int .i64 n] w fun e w' => e = .returned (.bool true) ∧ Below w.heap.size w w' := by
  by_cases h : n = 0
  · subst h
    exact (same_nil 0 w).mono fun _ _ h => ⟨h.1, by rw [← h.2]; exact Below.refl _ _⟩
  · rw [errV_no h]
    have := same_err n n w hg
    rw [beq_self_eq_true] at this; exact this
end Go.Proofs.YtgkgbpbohgklhafDoor
