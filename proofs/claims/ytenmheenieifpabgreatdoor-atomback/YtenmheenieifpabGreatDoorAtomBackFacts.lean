/-
  Plain facts on atoms as texts (chapter 3): a text that reads as an atom is the text of it; the text of an atom reads as it was; what is the same is part both ways. No program is read here.
-/
import Derived.Test.YtenmheenieifpabGreatDoorAtomBackMath
import Derived.Test.YtenmheenieifpabGreatDoorAtomParse
namespace Go.Proofs.YtenmheenieifpabGreatDoor
open Go.RowKit
set_option maxRecDepth 100000

theorem kind_word {l : List UInt8} {k : Int} (h : kindOfN l = k) (hk : 1 ≤ k ∧ k ≤ 5) : l = kindWord k := by
  subst h
  unfold kindOfN at hk ⊢
  by_cases h1 : l = [115, 117, 98]
  · subst h1; rfl
  rw [if_neg h1] at hk ⊢
  by_cases h2 : l = [115, 97, 109, 101]
  · subst h2; rfl
  rw [if_neg h2] at hk ⊢
  by_cases h3 : l = [108, 101, 97, 115, 116]
  · subst h3; rfl
  rw [if_neg h3] at hk ⊢
  by_cases h4 : l = [109, 111, 115, 116]
  · subst h4; rfl
  rw [if_neg h4] at hk ⊢
  by_cases h5 : l = [110, 111, 109, 111, 114, 101]
  · subst h5; rfl
  rw [if_neg h5] at hk
  omega
theorem numOf_back {l : List UInt8} (h : (numOf l).isNone = false) : numText ((numOf l).getD 0) = l := by
  cases hn : numOf l with
  | none => rw [hn] at h; cases h
  | some n => exact (numOf_some.1 hn).2
theorem three_of {α : Type} {l : List α} (h : l.length = 3) : ∃ a b c, l = [a, b, c] := by
  match l, h with
  | [a, b, c], _ => exact ⟨a, b, c, rfl⟩
theorem four_of {α : Type} {l : List α} (h : l.length = 4) : ∃ a b c d, l = [a, b, c, d] := by
  match l, h with
  | [a, b, c, d], _ => exact ⟨a, b, c, d, rfl⟩
theorem words_kind {ws : List (List UInt8)} {k : Int} (h : wordsKind ws = k) (hk : 1 ≤ k ∧ k ≤ 5) : ws.length = manyN k ∧ ws.getD 0 [] = kindWord k := by
  unfold wordsKind at h
  by_cases hl : ws.length = manyN (kindOfN (ws.getD 0 []))
  · rw [if_pos hl] at h
    rw [h] at hl
    exact ⟨hl, kind_word h hk⟩
  · rw [if_neg hl] at h; omega
theorem words_ok {ws : List (List UInt8)} (h : wordsFault ws = 0) : (1 ≤ wordsKind ws ∧ wordsKind ws ≤ 5) ∧ partsBad (wordsKind ws) ws = false ∧ atomFault (wordsKind ws) (wordsS ws) (wordsT (wordsKind ws) ws) (wordsN (wordsKind ws) ws) = 0 := by
  unfold wordsFault at h
  by_cases h0 : wordsKind ws = 0
  · rw [if_pos h0] at h; cases h
  rw [if_neg h0] at h
  by_cases h1 : partsBad (wordsKind ws) ws = true
  · rw [if_pos h1] at h; cases h
  rw [if_neg h1] at h
  exact ⟨(atomFault_zero.1 h).1, by simpa using h1, h⟩
/-- words that read as an atom, joined, are its text. -/
theorem words_text {ws : List (List UInt8)} (h : wordsFault ws = 0) : atomText (wordsKind ws) (wordsS ws) (wordsT (wordsKind ws) ws) (wordsN (wordsKind ws) ws) = joinL ws := by
  obtain ⟨hk, hp, _⟩ := words_ok h
  obtain ⟨hl, h0⟩ := words_kind rfl hk
  generalize wordsKind ws = k at *
  rcases five hk.1 hk.2 with rfl | rfl | rfl | rfl | rfl
  · obtain ⟨a, b, c, rfl⟩ := three_of hl
    simp [partsBad, secondB, numberB] at hp h0
    subst h0
    simp [atomText, wordsS, wordsT, secondB, numberB, text_read hp.1, text_read hp.2, joinL]
  · obtain ⟨a, b, c, rfl⟩ := three_of hl
    simp [partsBad, secondB, numberB] at hp h0
    subst h0
    simp [atomText, wordsS, wordsT, secondB, numberB, text_read hp.1, text_read hp.2, joinL]
  · obtain ⟨a, b, c, rfl⟩ := three_of hl
    simp [partsBad, secondB, numberB] at hp h0
    subst h0
    have hn := numOf_back (l := c) (by rw [Option.isNone_eq_false_iff]; exact hp.2)
    simp [atomText, wordsS, wordsN, secondB, numberB, text_read hp.1, hn, joinL]
  · obtain ⟨a, b, c, rfl⟩ := three_of hl
    simp [partsBad, secondB, numberB] at hp h0
    subst h0
    have hn := numOf_back (l := c) (by rw [Option.isNone_eq_false_iff]; exact hp.2)
    simp [atomText, wordsS, wordsN, secondB, numberB, text_read hp.1, hn, joinL]
  · obtain ⟨a, b, c, d, rfl⟩ := four_of hl
    simp [partsBad, secondB, numberB] at hp h0
    subst h0
    have hn := numOf_back (l := d) (by rw [Option.isNone_eq_false_iff]; exact hp.2)
    simp [atomText, wordsS, wordsT, wordsN, secondB, numberB, text_read hp.1.1, text_read hp.1.2, hn, joinL]
/-- a text that Parse takes is the text of what it read. -/
theorem seen_text {s : ByteArray} (h : wordsFault (seen s) = 0) : strOf (atomText (wordsKind (seen s)) (wordsS (seen s)) (wordsT (wordsKind (seen s)) (seen s)) (wordsN (wordsKind (seen s)) (seen s))) = s := by
  rw [words_text h, seen, join_split, strOf_data]

theorem plain_kind (k : Int) : plainB (kindWord k) = true := by unfold kindWord; (repeat' split) <;> rfl
theorem plain_byte (s : Int) : (byteOf s != 32) = true := by unfold byteOf; (repeat' split) <;> rfl
theorem plain_text (t : List Int) : plainB (textN t) = true := by
  unfold plainB textN
  rw [List.all_map, List.all_eq_true]
  intro x _
  exact plain_byte x
theorem nums_plain : nums.all (fun n => plainB (numText n)) = true := by decide +kernel
theorem plain_num {n : Int} (h : -99 ≤ n ∧ n ≤ 99) : plainB (numText n) = true := List.all_eq_true.1 nums_plain n (mem_nums.2 h)
theorem kind_of_word {k : Int} (hk : 1 ≤ k ∧ k ≤ 5) : kindOfN (kindWord k) = k := by
  rcases five hk.1 hk.2 with rfl | rfl | rfl | rfl | rfl <;> rfl
/-- the words of an atom. -/
def atomWords (k : Int) (s t : List Int) (n : Int) : List (List UInt8) := kindWord k :: textN s :: ((if secondB k = true then [textN t] else []) ++ (if numberB k = true then [numText n] else []))
/-- an atom's text is cut into its words. -/
theorem seen_words {k n : Int} {s t : List Int} (h : atomFault k s t n = 0) : seen (strOf (atomText k s t n)) = atomWords k s t n := by
  obtain ⟨hk, hs, ht, n0, n1⟩ := atomFault_zero.1 h
  have hm : mostN k ≤ 20 := by unfold mostN; split <;> omega
  have pn := plain_num (n := n) ⟨by omega, by omega⟩
  have pk := plain_kind k
  have ps := plain_text s
  have pt := plain_text t
  have hz : 4 ≤ (strOf (atomText k s t n)).size := by
    rw [strOf_size]
    have : 3 ≤ (kindWord k).length := by unfold kindWord; (repeat' split) <;> simp
    unfold atomText
    simp
    omega
  unfold seen
  rw [if_pos hz, strOf_list]
  unfold atomText atomWords
  rcases five hk.1 hk.2 with rfl | rfl | rfl | rfl | rfl
  · simp only [show secondB 1 = true from rfl, show numberB 1 = false from rfl, if_true, Bool.false_eq_true, if_false, List.append_nil, List.append_assoc, List.cons_append]
    rw [split_word pk, split_word ps, split_last pt]
  · simp only [show secondB 2 = true from rfl, show numberB 2 = false from rfl, if_true, Bool.false_eq_true, if_false, List.append_nil, List.append_assoc, List.cons_append]
    rw [split_word pk, split_word ps, split_last pt]
  · simp only [show secondB 3 = false from rfl, show numberB 3 = true from rfl, if_true, Bool.false_eq_true, if_false, List.nil_append, List.append_assoc, List.cons_append]
    rw [split_word pk, split_word ps, split_last pn]
  · simp only [show secondB 4 = false from rfl, show numberB 4 = true from rfl, if_true, Bool.false_eq_true, if_false, List.nil_append, List.append_assoc, List.cons_append]
    rw [split_word pk, split_word ps, split_last pn]
  · simp only [show secondB 5 = true from rfl, show numberB 5 = true from rfl, if_true, List.nil_append, List.append_assoc, List.cons_append]
    rw [split_word pk, split_word ps, split_word pt, split_last pn]
/-- the words of an atom read as it was. -/
theorem words_back {k n : Int} {s t : List Int} (h : atomFault k s t n = 0) : wordsFault (atomWords k s t n) = 0 ∧ wordsKind (atomWords k s t n) = k ∧ wordsS (atomWords k s t n) = s ∧ wordsT k (atomWords k s t n) = t ∧ wordsN k (atomWords k s t n) = n := by
  obtain ⟨hk, hs, ht, n0, n1⟩ := atomFault_zero.1 h
  have ss := (fault_zero.1 hs).2.2.1
  have es := read_text ss
  have ls := letters_text ss
  have hm : mostN k ≤ 20 := by unfold mostN; split <;> omega
  have en := numOf_text (n := n) ⟨by omega, by omega⟩
  have ek : wordsKind (atomWords k s t n) = k := by
    have e0 : (atomWords k s t n).getD 0 [] = kindWord k := rfl
    unfold wordsKind
    rw [e0, kind_of_word hk, if_pos]
    rcases five hk.1 hk.2 with rfl | rfl | rfl | rfl | rfl <;> rfl
  have eS : wordsS (atomWords k s t n) = s := es
  have eT : wordsT k (atomWords k s t n) = t := by
    unfold wordsT
    by_cases h2 : secondB k = true
    · have h0 := second_reads ht h2
      rw [if_pos h2]
      have : (atomWords k s t n).getD 2 [] = textN t := by unfold atomWords; rw [if_pos h2]; rfl
      rw [this, read_text (fault_zero.1 h0).2.2.1]
    · rw [if_neg h2]
      unfold secondFault at ht
      rw [if_neg h2] at ht
      by_cases hl : 0 < t.length
      · rw [if_pos hl] at ht; cases ht
      · exact (List.length_eq_zero_iff.1 (by omega)).symm
  have eN : wordsN k (atomWords k s t n) = n := by
    unfold wordsN
    by_cases h2 : numberB k = true
    · rw [if_pos h2]
      have : (atomWords k s t n).getD ((atomWords k s t n).length - 1) [] = numText n := by
        rcases five hk.1 hk.2 with rfl | rfl | rfl | rfl | rfl
        · cases h2
        · cases h2
        all_goals rfl
      rw [this, en]; rfl
    · rw [if_neg h2]
      unfold mostN at n0 n1
      rw [if_neg h2] at n0 n1
      omega
  have eP : partsBad k (atomWords k s t n) = false := by
    have l1 : lettersB ((atomWords k s t n).getD 1 []) = true := ls
    unfold partsBad
    rw [l1]
    by_cases h2 : secondB k = true
    · have h0 := second_reads ht h2
      have l2 : lettersB ((atomWords k s t n).getD 2 []) = true := by
        have : (atomWords k s t n).getD 2 [] = textN t := by unfold atomWords; rw [if_pos h2]; rfl
        rw [this]; exact letters_text (fault_zero.1 h0).2.2.1
      rw [l2]
      by_cases h3 : numberB k = true
      · have : (atomWords k s t n).getD ((atomWords k s t n).length - 1) [] = numText n := by
          rcases five hk.1 hk.2 with rfl | rfl | rfl | rfl | rfl
          · cases h3
          · cases h3
          all_goals rfl
        rw [this, en]; simp
      · simp [h3]
    · by_cases h3 : numberB k = true
      · have : (atomWords k s t n).getD ((atomWords k s t n).length - 1) [] = numText n := by
          rcases five hk.1 hk.2 with rfl | rfl | rfl | rfl | rfl
          · cases h3
          · cases h3
          all_goals rfl
        rw [this, en]; simp [h2]
      · simp [h2, h3]
  refine ⟨?_, ek, eS, eT, eN⟩
  unfold wordsFault
  rw [ek, if_neg (by omega), eP, eS, eT, eN]
  simpa using h
theorem atomText_size {k n : Int} {s t : List Int} (h : atomFault k s t n = 0) : (atomText k s t n).length ≤ 100 := by
  obtain ⟨hk, hs, ht, n0, n1⟩ := atomFault_zero.1 h
  have l1 : (textN s).length ≤ 12 := by have := (fault_zero.1 hs).2.1; simp [textN]; omega
  have l2 : secondB k = true → (textN t).length ≤ 12 := fun h2 => by have := (fault_zero.1 (second_reads ht h2)).2.1; simp [textN]; omega
  have l3 : (numText n).length ≤ 3 := by
    unfold numText digitsN
    (repeat' split) <;> simp
  have l0 : (kindWord k).length ≤ 6 := by unfold kindWord; (repeat' split) <;> simp
  unfold atomText
  by_cases h2 : secondB k = true
  · have := l2 h2
    by_cases h3 : numberB k = true <;> simp [h2, h3] <;> omega
  · by_cases h3 : numberB k = true <;> simp [h2, h3] <;> omega

/-! ### what is the same is part both ways -/
theorem same_subs {u x y : Int} (hx : okB u x = true) (hy : okB u y = true) : decide (x = y) = (decide (lessN x y = 0) && decide (lessN y x = 0)) :=
  uptoSets (P := fun _ x y => decide (x = y) = (decide (lessN x y = 0) && decide (lessN y x = 0))) (by decide +kernel) u x y hx hy
theorem words_fact : wordsFault (seen ⟨#[110, 111, 109, 111, 114, 101, 32, 65, 32, 66, 32, 45, 51]⟩) = 0 ∧ wordsKind (seen ⟨#[110, 111, 109, 111, 114, 101, 32, 65, 32, 66, 32, 45, 51]⟩) = 5 ∧ wordsT 5 (seen ⟨#[110, 111, 109, 111, 114, 101, 32, 65, 32, 66, 32, 45, 51]⟩) = [1] ∧ wordsN 5 (seen ⟨#[110, 111, 109, 111, 114, 101, 32, 65, 32, 66, 32, 45, 51]⟩) = -3 := by decide +kernel
end Go.Proofs.YtenmheenieifpabGreatDoor
