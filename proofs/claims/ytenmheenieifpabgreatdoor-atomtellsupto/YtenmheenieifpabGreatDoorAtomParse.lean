/-
  Proved: what atom.Parse returns, of any text; what was in memory is as it was (a contract that the statements lean on).
-/
import Derived.Test.YtenmheenieifpabGreatDoorAtomParseZero
import Derived.Test.YtenmheenieifpabGreatDoorAtomParseA
import Derived.Test.YtenmheenieifpabGreatDoorAtomParseB
import Derived.Test.YtenmheenieifpabGreatDoorAtomParseC
import Derived.Test.YtenmheenieifpabGreatDoorAtomKindAny
namespace Go.Proofs.YtenmheenieifpabGreatDoor
open Go.ChangeShapes Go.WideShapes Go.ChangeAt Go.RowKit
set_option maxRecDepth 100000

theorem splitL_pos (k : Nat) (l : List UInt8) : 0 < (splitL k l).length := by
  cases k with
  | zero => simp [splitL]
  | succ k => unfold splitL; split <;> simp
theorem splitL_len {k : Nat} : ∀ {l x : List UInt8}, x ∈ splitL k l → x.length ≤ l.length := by
  induction k with
  | zero => intro l x h; simp [splitL] at h; rw [h]; exact Nat.le_refl _
  | succ k ih =>
    intro l x h
    unfold splitL at h
    split at h
    · simp at h; rw [h]; exact Nat.le_refl _
    · rcases List.mem_cons.1 h with h | h
      · rw [h, List.length_take]; exact Nat.min_le_right _ _
      · have := ih h; rw [List.length_drop] at this; omega
/-- the words that Parse sees. -/
def seen (s : ByteArray) : List (List UInt8) := splitL (if 4 ≤ s.size then 4 else s.size) s.data.toList
/-- what Parse answers of words: the fault by its parts. -/
def partFaults (k : Int) (ws : List (List UInt8)) : Int := toldN (textFault (ws.getD 1 [])) (if secondB k = true then textFault (ws.getD 2 []) else 0) (if numberB k = true then numFault (ws.getD (ws.length - 1) []) else 0)
theorem textFault_two {l : List UInt8} : textFault l = 2 ↔ lettersB l = false := by
  unfold textFault
  by_cases h : lettersB l = true
  · rw [if_pos h, h]
    have : ¬ faultN (readN l) = 2 := by unfold faultN; repeat' split <;> omega
    exact ⟨fun h' => absurd h' this, fun h' => by cases h'⟩
  · rw [if_neg h]
    exact ⟨fun _ => by simpa using h, fun _ => rfl⟩
theorem textFault_ok {l : List UInt8} (h : ¬ textFault l = 2) : textFault l = faultN (readN l) := by
  have h' : lettersB l = true := by
    rcases Bool.eq_false_or_eq_true (lettersB l) with e | e
    · exact e
    · exact absurd (textFault_two.2 e) h
  unfold textFault; rw [if_pos h']
theorem numFault_two {l : List UInt8} : (numFault l = 2 ↔ (numOf l).isNone = true) ∧ (numFault l = 0 ∨ numFault l = 2) := by
  unfold numFault
  cases numOf l <;> simp
/-- the parts' faults, told as Parse tells them, are the words' fault; where there is none, it is Check's. -/
theorem told_words {k : Int} (hk : 1 ≤ k ∧ k ≤ 5) (ws : List (List UInt8)) (hw : wordsKind ws = k) :
    (¬ partFaults k ws = 0 → wordsFault ws = partFaults k ws) ∧ (partFaults k ws = 0 → wordsFault ws = atomFault k (wordsS ws) (wordsT k ws) (wordsN k ws)) := by
  have hF : wordsFault ws = if partsBad k ws = true then 2 else atomFault k (wordsS ws) (wordsT k ws) (wordsN k ws) := by
    unfold wordsFault; rw [hw, if_neg (by omega)]
  rw [hF]
  have hb : partsBad k ws = true ↔ (textFault (ws.getD 1 []) = 2 ∨ (if secondB k = true then textFault (ws.getD 2 []) else 0) = 2 ∨ (if numberB k = true then numFault (ws.getD (ws.length - 1) []) else 0) = 2) := by
    unfold partsBad
    rw [textFault_two]
    cases secondB k <;> cases numberB k <;> simp [textFault_two, numFault_two.1, or_assoc]
  by_cases h2 : partsBad k ws = true
  · rw [if_pos h2]
    have e : partFaults k ws = 2 := by unfold partFaults toldN; rw [if_pos (hb.1 h2)]
    rw [e]
    exact ⟨fun _ => rfl, fun h => by cases h⟩
  · rw [if_neg h2]
    have hn := fun h => h2 (hb.2 h)
    have e : partFaults k ws = if textFault (ws.getD 1 []) = 0 then (if (if secondB k = true then textFault (ws.getD 2 []) else 0) = 0 then (if numberB k = true then numFault (ws.getD (ws.length - 1) []) else 0) else (if secondB k = true then textFault (ws.getD 2 []) else 0)) else textFault (ws.getD 1 []) := by
      unfold partFaults toldN; rw [if_neg hn]
    refine ⟨fun h => ?_, fun _ => rfl⟩
    rw [e] at h ⊢
    have hS : textFault (ws.getD 1 []) = faultN (wordsS ws) := textFault_ok (fun h' => hn (Or.inl h'))
    by_cases hs : textFault (ws.getD 1 []) = 0
    · rw [if_pos hs] at h ⊢
      by_cases hc : secondB k = true
      · rw [if_pos hc] at h ⊢
        have hT : textFault (ws.getD 2 []) = faultN (wordsT k ws) := by
          unfold wordsT; rw [if_pos hc]
          exact textFault_ok (fun h' => hn (Or.inr (Or.inl (by rw [if_pos hc]; exact h'))))
        have hsf : secondFault k (wordsT k ws) = textFault (ws.getD 2 []) := by unfold secondFault; rw [if_pos hc, hT]
        by_cases ht : textFault (ws.getD 2 []) = 0
        · rw [if_pos ht] at h
          exfalso
          rcases (numFault_two (l := ws.getD (ws.length - 1) [])).2 with e0 | e0
          · rw [e0] at h; simp at h
          · by_cases hm : numberB k = true
            · exact hn (Or.inr (Or.inr (by rw [if_pos hm]; exact e0)))
            · rw [if_neg hm] at h; exact h rfl
        · rw [if_neg ht]
          rw [atomFault_second hk (by rw [← hS]; exact hs) (by rw [hsf]; exact ht), hsf]
      · rw [if_neg hc] at h
        exfalso
        rw [if_pos rfl] at h
        rcases (numFault_two (l := ws.getD (ws.length - 1) [])).2 with e0 | e0
        · rw [e0] at h; simp at h
        · by_cases hm : numberB k = true
          · exact hn (Or.inr (Or.inr (by rw [if_pos hm]; exact e0)))
          · rw [if_neg hm] at h; exact h rfl
    · rw [if_neg hs]
      rw [atomFault_first hk (by rw [← hS]; exact hs), hS]
end Go.Proofs.YtenmheenieifpabGreatDoor
