/-
  Proved: what fit.Many returns, of any number of things and any rows; what was in memory is as it was (a contract that the statements lean on).
-/
import Derived.Test.YtedgbohobgnedaeDoorFitSeq
import Derived.Test.YtedgbohobgnedaeDoorRowsFits
namespace Go.Proofs.YtedgbohobgnedaeDoor
open Go.ChangeShapes Go.WideShapes Go.ChangeAt Go.RowKit
set_option maxRecDepth 100000
attribute [local go_sem] Oper.semAt_some

/-- how many of the first k fit. -/
def manyT (A : List (Nat → Int)) (p : (Nat → Int) → Bool) (k : Nat) : Nat := ((A.take k).filter p).length
theorem manyT_zero (A : List (Nat → Int)) (p : (Nat → Int) → Bool) : manyT A p 0 = 0 := by unfold manyT; simp
theorem manyT_step {A : List (Nat → Int)} {p : (Nat → Int) → Bool} {k : Nat} {M : Nat → Int} (h : A[k]? = some M) : manyT A p (k + 1) = manyT A p k + (if p M = true then 1 else 0) := by
  obtain ⟨hk, rfl⟩ := List.getElem?_eq_some_iff.1 h
  unfold manyT
  rw [List.take_succ_eq_append_getElem hk, List.filter_append, List.length_append, List.filter_cons]
  split <;> rfl
theorem manyT_all (A : List (Nat → Int)) (p : (Nat → Int) → Bool) : manyT A p A.length = manyD A p 0 := by unfold manyT manyD; simp
theorem manyT_le (A : List (Nat → Int)) (p : (Nat → Int) → Bool) (k : Nat) : manyT A p k ≤ A.length := by
  unfold manyT
  have h1 := List.length_filter_le p (A.take k)
  have h2 := List.length_take_le k A
  have h3 : (A.take k).length ≤ A.length := by rw [List.length_take]; omega
  omega
end Go.Proofs.YtedgbohobgnedaeDoor
