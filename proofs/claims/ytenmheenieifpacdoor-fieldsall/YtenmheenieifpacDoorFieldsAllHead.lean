/-
  Proved: what the calls of vennlaw1.FieldsAll return (contracts that its walk leans on). Written by program.
-/
import Derived.Test.YtenmheenieifpacDoorFieldsAllMath
import Derived.Test.YtenmheenieifpacDoorFieldsEq
import Derived.Test.YtenmheenieifpacDoorFieldsOf
import Derived.Test.YtenmheenieifpacDoorFieldsWorld
import Derived.Test.YtenmheenieifpacDoorFieldsCount
import Derived.Test.YtenmheenieifpacDoorFormHolds
import Derived.Test.YtenmheenieifpacDoorSets
import Derived.Deep.Cut
namespace Go.Proofs.YtenmheenieifpacDoor
open Go.ChangeShapes Go.WideShapes Go.ChangeAt Go.RowKit
set_option maxRecDepth 100000

theorem fact_ok : (Wd.mk 2 1 3 0).ok = true := by decide
theorem fact_fc : (Wd.mk 2 1 3 0).fc 2 0 = 0 ∧ (Wd.mk 2 1 3 0).fc 2 1 = 0 ∧ (Wd.mk 2 1 3 0).fc 2 2 = 1 ∧ (Wd.mk 2 1 3 0).fc 2 3 = 1 ∧ (Wd.mk 2 1 3 0).fc 2 4 = 0 ∧ (Wd.mk 2 1 3 0).fc 2 5 = 0 ∧ (Wd.mk 2 1 3 0).fc 2 6 = 0 ∧ (Wd.mk 2 1 3 0).fc 2 7 = 0 := by decide +kernel
/-- two things: one in A and B, one in B alone. -/
theorem of_fact (w : World) : Calls Tryd.prog 17 #[.agg #[.int .i64 2, .int .i64 1, .int .i64 3, .int .i64 0]] w fun e w' => e = .returned (.tuple #[.agg #[.int .i64 0, .int .i64 0, .int .i64 1, .int .i64 1, .int .i64 0, .int .i64 0, .int .i64 0, .int .i64 0], .nilIface]) ∧ Below w.heap.size w w' := by
  have := of_right 2 1 3 0 w fact_ok
  have e : arr8 ((Wd.mk ((2 : Nat) : Int) 1 3 0).fc 2) = #[.int .i64 0, .int .i64 0, .int .i64 1, .int .i64 1, .int .i64 0, .int .i64 0, .int .i64 0, .int .i64 0] := by
    obtain ⟨e0, e1, e2, e3, e4, e5, e6, e7⟩ := fact_fc
    show arr8 ((Wd.mk 2 1 3 0).fc 2) = _
    unfold arr8; rw [e0, e1, e2, e3, e4, e5, e6, e7]
  rw [e] at this
  exact this
/-- Of the world of right counts: these. -/
theorem of_made (N : Nat → Int) (hc : countsFault N = 0) (w : World) : Calls Tryd.prog 17 #[.agg #[.int .i64 (madeN N 8).u, .int .i64 (madeN N 8).a, .int .i64 (madeN N 8).b, .int .i64 (madeN N 8).c]] w fun e w' => e = .returned (.tuple #[.agg #[.int .i64 (N 0), .int .i64 (N 1), .int .i64 (N 2), .int .i64 (N 3), .int .i64 (N 4), .int .i64 (N 5), .int .i64 (N 6), .int .i64 (N 7)], .nilIface]) ∧ Below w.heap.size w w' := by
  have := fieldsOf_any (madeN N 8).u (madeN N 8).a (madeN N 8).b (madeN N 8).c w
  have ho := made_ok hc
  have e0 : Wd.mk (madeN N 8).u (madeN N 8).a (madeN N 8).b (madeN N 8).c = madeN N 8 := rfl
  rw [e0] at this
  have e1 : (madeN N 8).wrong = 0 := by unfold Wd.wrong; rw [if_pos ho]
  have e2 : arr8 (madeN N 8).cts = arr8 N := arr8_same fun f hf => by unfold Wd.cts; rw [if_pos ho]; exact made_fc hc hf
  rw [e1, e2] at this
  exact this
/-- the three boxes that hold the world, the counts and the formula. -/
def BoxA (W : World) (S : Nat) (u a b c : Int) (N : Nat → Int) (va vc : Value) : Prop :=
  (W.cell? ⟨S, 0, none⟩ = some (.int .i64 u) ∧ W.cell? ⟨S, 1, none⟩ = some (.int .i64 a) ∧ W.cell? ⟨S, 2, none⟩ = some (.int .i64 b) ∧ W.cell? ⟨S, 3, none⟩ = some (.int .i64 c)) ∧
  (W.cell? ⟨S + 1, 0, none⟩ = some (.int .i64 (N 0)) ∧ W.cell? ⟨S + 1, 1, none⟩ = some (.int .i64 (N 1)) ∧ W.cell? ⟨S + 1, 2, none⟩ = some (.int .i64 (N 2)) ∧ W.cell? ⟨S + 1, 3, none⟩ = some (.int .i64 (N 3)) ∧ W.cell? ⟨S + 1, 4, none⟩ = some (.int .i64 (N 4)) ∧ W.cell? ⟨S + 1, 5, none⟩ = some (.int .i64 (N 5)) ∧ W.cell? ⟨S + 1, 6, none⟩ = some (.int .i64 (N 6)) ∧ W.cell? ⟨S + 1, 7, none⟩ = some (.int .i64 (N 7))) ∧
  (W.cell? ⟨S + 1 + 1, 0, none⟩ = some va ∧ W.cell? ⟨S + 1 + 1, 1, none⟩ = some vc)
theorem boxA_of {W : World} {S : Nat} {u a b c : Int} {N : Nat → Int} {va vc : Value} (h1 : Blk W S 28 (arrW ⟨u, a, b, c⟩)) (h2 : Blk W (S + 1) 46 (arr8 N)) (h3 : Blk W (S + 1 + 1) 25 #[va, vc]) : BoxA W S u a b c N va vc := ⟨h1.cells4, h2.cells8, h3.cell 0, h3.cell 1⟩
end Go.Proofs.YtenmheenieifpacDoor
