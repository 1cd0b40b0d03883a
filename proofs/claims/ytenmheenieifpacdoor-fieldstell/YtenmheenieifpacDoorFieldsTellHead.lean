/-
  Proved: what the calls of vennlaw1.FieldsTell return (contracts that its walk leans on). Written by program.
-/
import Derived.Test.YtenmheenieifpacDoorFieldsRefLies
import Derived.Test.YtenmheenieifpacDoorFieldsEq
import Derived.Test.YtenmheenieifpacDoorFieldsOf
import Derived.Test.YtenmheenieifpacDoorFieldsWorld
import Derived.Test.YtenmheenieifpacDoorFieldsCount
import Derived.Test.YtenmheenieifpacDoorSame
import Derived.Deep.Cut
namespace Go.Proofs.YtenmheenieifpacDoor
open Go.ChangeShapes Go.WideShapes Go.ChangeAt Go.RowKit
set_option maxRecDepth 100000

theorem ferror_nil (w : World) : Calls Tryd.prog 10 #[.nilIface, .int .i64 0] w fun e w' => e = .returned (.bool true) ∧ Below w.heap.size w w' :=
  (same_nil 0 w).mono fun _ _ h => ⟨h.1, by rw [← h.2]; exact Below.refl _ _⟩
theorem ferror_no (n : Int) (w : World) (hg : Laid w) : Calls Tryd.prog 10 #[.iface 69 (.int .i64 n), .int .i64 n] w fun e w' => e = .returned (.bool true) ∧ Below w.heap.size w w' := by
  have := same_err n n w hg
  rw [beq_self_eq_true] at this; exact this
/-- the two boxes that hold the world and the counts. -/
def BoxF (W : World) (S : Nat) (u a b c : Int) (N : Nat → Int) : Prop :=
  (W.cell? ⟨S, 0, none⟩ = some (.int .i64 u) ∧ W.cell? ⟨S, 1, none⟩ = some (.int .i64 a) ∧ W.cell? ⟨S, 2, none⟩ = some (.int .i64 b) ∧ W.cell? ⟨S, 3, none⟩ = some (.int .i64 c)) ∧
  (W.cell? ⟨S + 1, 0, none⟩ = some (.int .i64 (N 0)) ∧ W.cell? ⟨S + 1, 1, none⟩ = some (.int .i64 (N 1)) ∧ W.cell? ⟨S + 1, 2, none⟩ = some (.int .i64 (N 2)) ∧ W.cell? ⟨S + 1, 3, none⟩ = some (.int .i64 (N 3)) ∧ W.cell? ⟨S + 1, 4, none⟩ = some (.int .i64 (N 4)) ∧ W.cell? ⟨S + 1, 5, none⟩ = some (.int .i64 (N 5)) ∧ W.cell? ⟨S + 1, 6, none⟩ = some (.int .i64 (N 6)) ∧ W.cell? ⟨S + 1, 7, none⟩ = some (.int .i64 (N 7)))
theorem boxF_of {W : World} {S : Nat} {u a b c : Int} {N : Nat → Int} (h1 : Blk W S 28 (arrW ⟨u, a, b, c⟩)) (h2 : Blk W (S + 1) 46 (arr8 N)) : BoxF W S u a b c N := ⟨h1.cells4, h2.cells8⟩
end Go.Proofs.YtenmheenieifpacDoor
