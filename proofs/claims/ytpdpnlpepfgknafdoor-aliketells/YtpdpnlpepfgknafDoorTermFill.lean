/-
  Plain facts on a row of cells that is filled one by one.
-/
import Derived.Test.YtpdpnlpepfgknafDoorTermValue
import Derived.Test.YtpdpnlpepfgknafDoorTermRefMath
namespace Go.Proofs.YtpdpnlpepfgknafDoor
open Go.ChangeShapes Go.WideShapes Go.ChangeAt Go.RowKit

/-- a row of n cells of which the first k are filled. -/
def fill (f : Nat → Value) (z : Value) (n k : Nat) : List Value := (List.range n).map fun j => if j < k then f j else z
theorem fill_zero (f : Nat → Value) (z : Value) (n : Nat) : fill f z n 0 = List.replicate n z := by
  apply List.ext_getElem
  · simp [fill]
  · intro j h1 h2; simp [fill]
theorem fill_set (f : Nat → Value) (z : Value) (n k : Nat) : (fill f z n k).set k (f k) = fill f z n (k + 1) := by
  apply List.ext_getElem
  · simp [fill]
  · intro j h1 h2
    simp only [fill, List.getElem_set, List.getElem_map, List.getElem_range]
    by_cases h : k = j
    · subst h; simp
    · rw [if_neg h]
      by_cases h' : j < k
      · rw [if_pos h', if_pos (by omega)]
      · rw [if_neg h', if_neg (by omega)]
theorem fill_get (f : Nat → Value) (z : Value) (n k j : Nat) (hj : j < n) : (fill f z n k)[j]? = some (if j < k then f j else z) := by
  simp [fill, hj]

end Go.Proofs.YtpdpnlpepfgknafDoor
