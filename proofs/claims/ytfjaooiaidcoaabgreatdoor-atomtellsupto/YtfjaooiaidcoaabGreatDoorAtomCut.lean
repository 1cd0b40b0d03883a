/-
  Proved: what vennref1.Cut returns at a blank, of any text of at most 1048576 bytes: the words that it is cut into; what was in memory is as it was (a contract that the statements lean on).
-/
import Derived.Test.YtfjaooiaidcoaabGreatDoorAtomBackMath
import Derived.Test.YtfjaooiaidcoaabGreatDoorAtomParse
import Derived.OwnWalk
import Derived.Laws.OwnMore
import Derived.Laws.AppendOwn
namespace Go.Proofs.YtfjaooiaidcoaabGreatDoor
open Go.ChangeShapes Go.WideShapes Go.ChangeAt Go.RowKit
set_option maxRecDepth 100000

/-- more cuts than there may be blanks change nothing. -/
theorem split_more : ∀ (n m : Nat) (l : List UInt8), l.length ≤ n → l.length ≤ m → splitL n l = splitL m l := by
  intro n
  induction n with
  | zero =>
    intro m l h _
    have hl : l = [] := List.eq_nil_of_length_eq_zero (by omega)
    subst hl
    rw [splitL_miss (by decide), splitL_miss (by decide)]
  | succ n ih =>
    intro m l h hm
    by_cases hb : blankAt l < 0
    · rw [splitL_miss hb, splitL_miss hb]
    · obtain ⟨j, hj⟩ := Int.eq_ofNat_of_zero_le (show 0 ≤ blankAt l by omega)
      have hr := blankAt_range l
      rw [hj] at hr
      obtain ⟨k, rfl⟩ : ∃ k, m = k + 1 := ⟨m - 1, by omega⟩
      rw [splitL_hit hj, splitL_hit hj, ih k _ (by simp; omega) (by simp; omega)]
/-- a text cut at every blank. -/
def cutL (l : List UInt8) : List (List UInt8) := splitL l.length l
theorem cutL_miss {l : List UInt8} (h : blankAt l < 0) : cutL l = [l] := splitL_miss h
theorem cutL_hit {l : List UInt8} {j : Nat} (h : blankAt l = j) : cutL l = l.take j :: cutL (l.drop (j + 1)) := by
  have hr := blankAt_range l
  rw [h] at hr
  obtain ⟨k, hk⟩ : ∃ k, l.length = k + 1 := ⟨l.length - 1, by omega⟩
  rw [cutL, hk, splitL_hit h, cutL, split_more k (l.drop (j + 1)).length _ (by simp; omega) (Nat.le_refl _)]
/-- cut at most k times: all words, or k + 1 of them. -/
theorem split_cut : ∀ (k : Nat) (l : List UInt8), splitL k l = cutL l ∨ (k + 1 < (cutL l).length ∧ (splitL k l).length = k + 1) := by
  intro k
  induction k with
  | zero =>
    intro l
    by_cases hb : blankAt l < 0
    · left; rw [cutL_miss hb]; rfl
    · obtain ⟨j, hj⟩ := Int.eq_ofNat_of_zero_le (show 0 ≤ blankAt l by omega)
      right
      rw [cutL_hit hj]
      have := splitL_pos (l.drop (j + 1)).length (l.drop (j + 1))
      exact ⟨by simp only [List.length_cons]; unfold cutL; omega, rfl⟩
  | succ k ih =>
    intro l
    by_cases hb : blankAt l < 0
    · left; rw [cutL_miss hb, splitL_miss hb]
    · obtain ⟨j, hj⟩ := Int.eq_ofNat_of_zero_le (show 0 ≤ blankAt l by omega)
      rw [cutL_hit hj, splitL_hit hj]
      rcases ih (l.drop (j + 1)) with h | ⟨h1, h2⟩
      · left; rw [h]
      · right; simp only [List.length_cons]; omega
theorem wordsFault_long {ws : List (List UInt8)} (h : 4 < ws.length) : wordsKind ws = 0 ∧ wordsFault ws = 2 := by
  have e : wordsKind ws = 0 := by
    unfold wordsKind
    rw [if_neg]
    unfold manyN
    split <;> omega
  exact ⟨e, by unfold wordsFault; rw [if_pos e]⟩
/-- what Parse sees is read as the whole cut. -/
theorem seen_cut (s : ByteArray) : seen s = cutL s.data.toList ∨ (wordsFault (seen s) = 2 ∧ wordsFault (cutL s.data.toList) = 2) := by
  have hl : s.data.toList.length = s.size := Array.length_toList
  unfold seen
  by_cases h : 4 ≤ s.size
  · rw [if_pos h]
    rcases split_cut 4 s.data.toList with e | ⟨h1, h2⟩
    · exact Or.inl e
    · exact Or.inr ⟨(wordsFault_long (by omega)).2, (wordsFault_long (by omega)).2⟩
  · rw [if_neg h]
    left
    rw [← hl]
    rfl
end Go.Proofs.YtfjaooiaidcoaabGreatDoor
