/-
  Plain facts on words (chapter 3): words joined by blanks are the text that they were cut from, and words without blanks are cut as they were. No program is read here.
-/
import Derived.Test.YtenmheenieifpabGreatDoorAtomKindMath
import Derived.Lib.IndexLaws
namespace Go.Proofs.YtenmheenieifpabGreatDoor
open Go.RowKit
set_option maxRecDepth 100000

/-- words with a blank between. -/
def joinL : List (List UInt8) → List UInt8
  | [] => []
  | [x] => x
  | x :: y :: r => x ++ 32 :: joinL (y :: r)
theorem joinL_cons (x : List UInt8) {r : List (List UInt8)} (h : 0 < r.length) : joinL (x :: r) = x ++ 32 :: joinL r := by
  cases r with
  | nil => simp at h
  | cons y r => rfl
theorem splitL_some (k : Nat) (l : List UInt8) : 0 < (splitL k l).length := by
  cases k with
  | zero => simp [splitL]
  | succ k => unfold splitL; split <;> simp
theorem blank_part {l : List UInt8} {j : Nat} (h : blankAt l = j) : l.take j ++ 32 :: l.drop (j + 1) = l := by
  have hs := (Lib.indexByte_some (l := l) (c := 32) (o := j) h).1
  obtain ⟨hj, he⟩ := List.getElem?_eq_some_iff.1 hs
  rw [← he, ← List.drop_eq_getElem_cons hj, List.take_append_drop]
/-- words joined are the text. -/
theorem join_split (k : Nat) : ∀ l, joinL (splitL k l) = l := by
  induction k with
  | zero => intro l; rfl
  | succ k ih =>
    intro l
    by_cases h : blankAt l < 0
    · rw [splitL_miss h]; rfl
    · obtain ⟨j, hj⟩ := Int.eq_ofNat_of_zero_le (show 0 ≤ blankAt l by omega)
      rw [splitL_hit hj, joinL_cons _ (splitL_some _ _), ih, blank_part hj]
/-- a word without a blank. -/
def plainB (l : List UInt8) : Bool := l.all fun b => b != 32
theorem blankAt_plain {x : List UInt8} (h : plainB x = true) (r : List UInt8) : blankAt (x ++ 32 :: r) = x.length := by
  induction x with
  | nil => rfl
  | cons b x ih =>
    simp [plainB] at h
    have hi : Lib.indexByte (x ++ 32 :: r) 32 = (x.length : Int) := ih (by simp [plainB]; exact h.2)
    show Lib.indexByte (b :: (x ++ 32 :: r)) 32 = _
    rw [Lib.indexByte, if_neg (by simpa using h.1), hi, if_neg (by simp)]
    simp
theorem blankAt_none {x : List UInt8} (h : plainB x = true) : blankAt x < 0 := by
  induction x with
  | nil => decide
  | cons b x ih =>
    simp [plainB] at h
    have hi : Lib.indexByte x 32 < 0 := ih (by simp [plainB]; exact h.2)
    show Lib.indexByte (b :: x) 32 < 0
    have hg := Lib.indexByte_ge x 32
    rw [Lib.indexByte, if_neg (by simpa using h.1), if_pos (by simp; omega)]
    decide
/-- one word off. -/
theorem split_word {k : Nat} {x : List UInt8} (h : plainB x = true) (r : List UInt8) : splitL (k + 1) (x ++ 32 :: r) = x :: splitL k r := by
  rw [splitL_hit (blankAt_plain h r)]
  simp
theorem split_last {k : Nat} {x : List UInt8} (h : plainB x = true) : splitL k x = [x] := splitL_miss (blankAt_none h)
end Go.Proofs.YtenmheenieifpabGreatDoor
