/-
  Proved: what atom.Parse returns, of any text, as one contract; what was in memory is as it was.
-/
import Derived.Test.YtenmheenieifpabGreatDoorAtomParse
namespace Go.Proofs.YtenmheenieifpabGreatDoor
open Go.ChangeShapes Go.WideShapes Go.ChangeAt Go.RowKit
set_option maxRecDepth 100000

theorem wordsKind_range (ws : List (List UInt8)) : wordsKind ws = 0 ∨ ((1 ≤ wordsKind ws ∧ wordsKind ws ≤ 5) ∧ ws.length = manyN (wordsKind ws)) := by
  unfold wordsKind
  have h : 0 ≤ kindOfN (ws.getD 0 []) ∧ kindOfN (ws.getD 0 []) ≤ 5 := by unfold kindOfN; repeat' split <;> omega
  by_cases hl : ws.length = manyN (kindOfN (ws.getD 0 []))
  · rw [if_pos hl]
    by_cases h0 : kindOfN (ws.getD 0 []) = 0
    · exact Or.inl h0
    · exact Or.inr ⟨by omega, hl⟩
  · rw [if_neg hl]; exact Or.inl rfl

/-- what Parse answers, of the words that it sees. -/
def Answers (ws : List (List UInt8)) (w : World) (e : Ending) (w' : World) : Prop :=
  ∃ a, e = .returned (.tuple #[a, errV (wordsFault ws)]) ∧ (wordsFault ws = 0 → ∃ v0 v1, a = .agg #[.int .i64 (wordsKind ws), v0, v1, .int .i64 (wordsN (wordsKind ws) ws)] ∧ Reads w' v0 (wordsS ws) ∧ Reads w' v1 (wordsT (wordsKind ws) ws)) ∧ (¬ wordsFault ws = 0 → a = .agg #[.int .i64 0, .slice none 0 0, .slice none 0 0, .int .i64 0]) ∧ Below w.heap.size w w'
theorem answers_bad {ws : List (List UInt8)} {w : World} {e : Ending} {w' : World} {F : Int} (hF : wordsFault ws = F) (h0 : ¬ F = 0) (h : e = .returned (.tuple #[.agg #[.int .i64 0, .slice none 0 0, .slice none 0 0, .int .i64 0], errV F]) ∧ Below w.heap.size w w') : Answers ws w e w' :=
  ⟨_, by rw [hF]; exact h.1, fun h' => absurd (hF.symm.trans h') h0, fun _ => rfl, h.2⟩


theorem aparse_k1 (s : ByteArray) (l0 l1 l2 : List UInt8) (hw : wordsKind [l0, l1, l2] = 1) (w : World) (hK : KindsLaid w) (hL : LibLaid w) (z1 : l1.length ≤ 9223372036854775807) (z2 : l2.length ≤ 9223372036854775807)
    (hSp : ∀ W, Below w.heap.size w W → Calls Tryz.prog 34 #[.string s, .string ⟨#[32]⟩, .int .i64 5] W fun e w' => ∃ v, e = .returned v ∧ ReadsS w' v [l0, l1, l2] ∧ Below W.heap.size W w')
    (hKo : ∀ W v, Below w.heap.size w W → ReadsS W v [l0, l1, l2] → Calls Tryz.prog 35 #[v] W fun e w' => e = .returned (.int .i64 1) ∧ Below W.heap.size W w') :
    Calls Tryz.prog 14 #[.string s] w (Answers [l0, l1, l2] w) := by
  obtain ⟨h1, h2⟩ := told_words (by decide : (1 : Int) ≤ 1 ∧ (1 : Int) ≤ 5) [l0, l1, l2] hw
  have e1 : partFaults 1 [l0, l1, l2] = toldN (textFault l1) (textFault l2) 0 := rfl
  rw [e1] at h1 h2
  have e2 : atomFault 1 (wordsS [l0, l1, l2]) (wordsT 1 [l0, l1, l2]) (wordsN 1 [l0, l1, l2]) = atomFault 1 (readN l1) (readN l2) 0 := rfl
  rw [e2] at h2
  by_cases f0 : textFault l1 = 0
  · by_cases f1 : textFault l2 = 0
    · have hz : toldN (textFault l1) (textFault l2) 0 = 0 := by unfold toldN; rw [if_neg (by omega), if_pos (by omega), if_pos (by omega)]; try omega
      have hF := h2 hz
      by_cases hA : atomFault 1 (readN l1) (readN l2) 0 = 0
      · refine (aparse_1_nnG s l0 l1 l2 w hK hL z1 z2 hSp hKo f0 f1 hA).mono ?_
        rintro e w' ⟨v0, v1, he, r0, r1, hb⟩
        exact ⟨_, by rw [hF, hA]; exact he, fun _ => ⟨v0, v1, by rw [hw]; rfl, r0, by rw [hw]; exact r1⟩, fun h' => absurd (hF.trans hA) h', hb⟩
      · exact (aparse_1_nnF s l0 l1 l2 w hK hL z1 z2 hSp hKo f0 f1 hA).mono fun e w' h => answers_bad hF hA (by rw [errV_no hA]; exact h)
    · have hne : ¬ toldN (textFault l1) (textFault l2) 0 = 0 := by unfold toldN; split <;> (try split) <;> (try split) <;> omega
      exact (aparse_1_ne s l0 l1 l2 w hK hL z1 z2 hSp hKo f0 f1).mono fun e w' h => answers_bad (h1 hne) hne h
  · by_cases f1 : textFault l2 = 0
    · have hne : ¬ toldN (textFault l1) (textFault l2) 0 = 0 := by unfold toldN; split <;> (try split) <;> (try split) <;> omega
      exact (aparse_1_en s l0 l1 l2 w hK hL z1 z2 hSp hKo f0 f1).mono fun e w' h => answers_bad (h1 hne) hne h
    · have hne : ¬ toldN (textFault l1) (textFault l2) 0 = 0 := by unfold toldN; split <;> (try split) <;> (try split) <;> omega
      exact (aparse_1_ee s l0 l1 l2 w hK hL z1 z2 hSp hKo f0 f1).mono fun e w' h => answers_bad (h1 hne) hne h

theorem aparse_k2 (s : ByteArray) (l0 l1 l2 : List UInt8) (hw : wordsKind [l0, l1, l2] = 2) (w : World) (hK : KindsLaid w) (hL : LibLaid w) (z1 : l1.length ≤ 9223372036854775807) (z2 : l2.length ≤ 9223372036854775807)
    (hSp : ∀ W, Below w.heap.size w W → Calls Tryz.prog 34 #[.string s, .string ⟨#[32]⟩, .int .i64 5] W fun e w' => ∃ v, e = .returned v ∧ ReadsS w' v [l0, l1, l2] ∧ Below W.heap.size W w')
    (hKo : ∀ W v, Below w.heap.size w W → ReadsS W v [l0, l1, l2] → Calls Tryz.prog 35 #[v] W fun e w' => e = .returned (.int .i64 2) ∧ Below W.heap.size W w') :
    Calls Tryz.prog 14 #[.string s] w (Answers [l0, l1, l2] w) := by
  obtain ⟨h1, h2⟩ := told_words (by decide : (1 : Int) ≤ 2 ∧ (2 : Int) ≤ 5) [l0, l1, l2] hw
  have e1 : partFaults 2 [l0, l1, l2] = toldN (textFault l1) (textFault l2) 0 := rfl
  rw [e1] at h1 h2
  have e2 : atomFault 2 (wordsS [l0, l1, l2]) (wordsT 2 [l0, l1, l2]) (wordsN 2 [l0, l1, l2]) = atomFault 2 (readN l1) (readN l2) 0 := rfl
  rw [e2] at h2
  by_cases f0 : textFault l1 = 0
  · by_cases f1 : textFault l2 = 0
    · have hz : toldN (textFault l1) (textFault l2) 0 = 0 := by unfold toldN; rw [if_neg (by omega), if_pos (by omega), if_pos (by omega)]; try omega
      have hF := h2 hz
      by_cases hA : atomFault 2 (readN l1) (readN l2) 0 = 0
      · refine (aparse_2_nnG s l0 l1 l2 w hK hL z1 z2 hSp hKo f0 f1 hA).mono ?_
        rintro e w' ⟨v0, v1, he, r0, r1, hb⟩
        exact ⟨_, by rw [hF, hA]; exact he, fun _ => ⟨v0, v1, by rw [hw]; rfl, r0, by rw [hw]; exact r1⟩, fun h' => absurd (hF.trans hA) h', hb⟩
      · exact (aparse_2_nnF s l0 l1 l2 w hK hL z1 z2 hSp hKo f0 f1 hA).mono fun e w' h => answers_bad hF hA (by rw [errV_no hA]; exact h)
    · have hne : ¬ toldN (textFault l1) (textFault l2) 0 = 0 := by unfold toldN; split <;> (try split) <;> (try split) <;> omega
      exact (aparse_2_ne s l0 l1 l2 w hK hL z1 z2 hSp hKo f0 f1).mono fun e w' h => answers_bad (h1 hne) hne h
  · by_cases f1 : textFault l2 = 0
    · have hne : ¬ toldN (textFault l1) (textFault l2) 0 = 0 := by unfold toldN; split <;> (try split) <;> (try split) <;> omega
      exact (aparse_2_en s l0 l1 l2 w hK hL z1 z2 hSp hKo f0 f1).mono fun e w' h => answers_bad (h1 hne) hne h
    · have hne : ¬ toldN (textFault l1) (textFault l2) 0 = 0 := by unfold toldN; split <;> (try split) <;> (try split) <;> omega
      exact (aparse_2_ee s l0 l1 l2 w hK hL z1 z2 hSp hKo f0 f1).mono fun e w' h => answers_bad (h1 hne) hne h

theorem aparse_k3 (s : ByteArray) (l0 l1 l2 : List UInt8) (hw : wordsKind [l0, l1, l2] = 3) (w : World) (hK : KindsLaid w) (hL : LibLaid w) (z1 : l1.length ≤ 9223372036854775807) (z2 : l2.length ≤ 9223372036854775807)
    (hSp : ∀ W, Below w.heap.size w W → Calls Tryz.prog 34 #[.string s, .string ⟨#[32]⟩, .int .i64 5] W fun e w' => ∃ v, e = .returned v ∧ ReadsS w' v [l0, l1, l2] ∧ Below W.heap.size W w')
    (hKo : ∀ W v, Below w.heap.size w W → ReadsS W v [l0, l1, l2] → Calls Tryz.prog 35 #[v] W fun e w' => e = .returned (.int .i64 3) ∧ Below W.heap.size W w') :
    Calls Tryz.prog 14 #[.string s] w (Answers [l0, l1, l2] w) := by
  obtain ⟨h1, h2⟩ := told_words (by decide : (1 : Int) ≤ 3 ∧ (3 : Int) ≤ 5) [l0, l1, l2] hw
  have e1 : partFaults 3 [l0, l1, l2] = toldN (textFault l1) 0 (numFault l2) := rfl
  rw [e1] at h1 h2
  have e2 : atomFault 3 (wordsS [l0, l1, l2]) (wordsT 3 [l0, l1, l2]) (wordsN 3 [l0, l1, l2]) = atomFault 3 (readN l1) [] (numIs l2) := rfl
  rw [e2] at h2
  by_cases f0 : textFault l1 = 0
  · by_cases f1 : numFault l2 = 0
    · have hz : toldN (textFault l1) 0 (numFault l2) = 0 := by unfold toldN; rw [if_neg (by omega), if_pos (by omega), if_pos (by omega)]; try omega
      have hF := h2 hz
      by_cases hA : atomFault 3 (readN l1) [] (numIs l2) = 0
      · refine (aparse_3_nnG s l0 l1 l2 w hK hL z1 z2 hSp hKo f0 f1 hA).mono ?_
        rintro e w' ⟨v0, v1, he, r0, r1, hb⟩
        exact ⟨_, by rw [hF, hA]; exact he, fun _ => ⟨v0, v1, by rw [hw]; rfl, r0, by rw [hw]; exact r1⟩, fun h' => absurd (hF.trans hA) h', hb⟩
      · exact (aparse_3_nnF s l0 l1 l2 w hK hL z1 z2 hSp hKo f0 f1 hA).mono fun e w' h => answers_bad hF hA (by rw [errV_no hA]; exact h)
    · have hne : ¬ toldN (textFault l1) 0 (numFault l2) = 0 := by unfold toldN; split <;> (try split) <;> (try split) <;> omega
      exact (aparse_3_ne s l0 l1 l2 w hK hL z1 z2 hSp hKo f0 f1).mono fun e w' h => answers_bad (h1 hne) hne h
  · by_cases f1 : numFault l2 = 0
    · have hne : ¬ toldN (textFault l1) 0 (numFault l2) = 0 := by unfold toldN; split <;> (try split) <;> (try split) <;> omega
      exact (aparse_3_en s l0 l1 l2 w hK hL z1 z2 hSp hKo f0 f1).mono fun e w' h => answers_bad (h1 hne) hne h
    · have hne : ¬ toldN (textFault l1) 0 (numFault l2) = 0 := by unfold toldN; split <;> (try split) <;> (try split) <;> omega
      exact (aparse_3_ee s l0 l1 l2 w hK hL z1 z2 hSp hKo f0 f1).mono fun e w' h => answers_bad (h1 hne) hne h

theorem aparse_k4 (s : ByteArray) (l0 l1 l2 : List UInt8) (hw : wordsKind [l0, l1, l2] = 4) (w : World) (hK : KindsLaid w) (hL : LibLaid w) (z1 : l1.length ≤ 9223372036854775807) (z2 : l2.length ≤ 9223372036854775807)
    (hSp : ∀ W, Below w.heap.size w W → Calls Tryz.prog 34 #[.string s, .string ⟨#[32]⟩, .int .i64 5] W fun e w' => ∃ v, e = .returned v ∧ ReadsS w' v [l0, l1, l2] ∧ Below W.heap.size W w')
    (hKo : ∀ W v, Below w.heap.size w W → ReadsS W v [l0, l1, l2] → Calls Tryz.prog 35 #[v] W fun e w' => e = .returned (.int .i64 4) ∧ Below W.heap.size W w') :
    Calls Tryz.prog 14 #[.string s] w (Answers [l0, l1, l2] w) := by
  obtain ⟨h1, h2⟩ := told_words (by decide : (1 : Int) ≤ 4 ∧ (4 : Int) ≤ 5) [l0, l1, l2] hw
  have e1 : partFaults 4 [l0, l1, l2] = toldN (textFault l1) 0 (numFault l2) := rfl
  rw [e1] at h1 h2
  have e2 : atomFault 4 (wordsS [l0, l1, l2]) (wordsT 4 [l0, l1, l2]) (wordsN 4 [l0, l1, l2]) = atomFault 4 (readN l1) [] (numIs l2) := rfl
  rw [e2] at h2
  by_cases f0 : textFault l1 = 0
  · by_cases f1 : numFault l2 = 0
    · have hz : toldN (textFault l1) 0 (numFault l2) = 0 := by unfold toldN; rw [if_neg (by omega), if_pos (by omega), if_pos (by omega)]; try omega
      have hF := h2 hz
      by_cases hA : atomFault 4 (readN l1) [] (numIs l2) = 0
      · refine (aparse_4_nnG s l0 l1 l2 w hK hL z1 z2 hSp hKo f0 f1 hA).mono ?_
        rintro e w' ⟨v0, v1, he, r0, r1, hb⟩
        exact ⟨_, by rw [hF, hA]; exact he, fun _ => ⟨v0, v1, by rw [hw]; rfl, r0, by rw [hw]; exact r1⟩, fun h' => absurd (hF.trans hA) h', hb⟩
      · exact (aparse_4_nnF s l0 l1 l2 w hK hL z1 z2 hSp hKo f0 f1 hA).mono fun e w' h => answers_bad hF hA (by rw [errV_no hA]; exact h)
    · have hne : ¬ toldN (textFault l1) 0 (numFault l2) = 0 := by unfold toldN; split <;> (try split) <;> (try split) <;> omega
      exact (aparse_4_ne s l0 l1 l2 w hK hL z1 z2 hSp hKo f0 f1).mono fun e w' h => answers_bad (h1 hne) hne h
  · by_cases f1 : numFault l2 = 0
    · have hne : ¬ toldN (textFault l1) 0 (numFault l2) = 0 := by unfold toldN; split <;> (try split) <;> (try split) <;> omega
      exact (aparse_4_en s l0 l1 l2 w hK hL z1 z2 hSp hKo f0 f1).mono fun e w' h => answers_bad (h1 hne) hne h
    · have hne : ¬ toldN (textFault l1) 0 (numFault l2) = 0 := by unfold toldN; split <;> (try split) <;> (try split) <;> omega
      exact (aparse_4_ee s l0 l1 l2 w hK hL z1 z2 hSp hKo f0 f1).mono fun e w' h => answers_bad (h1 hne) hne h

theorem aparse_k5 (s : ByteArray) (l0 l1 l2 l3 : List UInt8) (hw : wordsKind [l0, l1, l2, l3] = 5) (w : World) (hK : KindsLaid w) (hL : LibLaid w) (z1 : l1.length ≤ 9223372036854775807) (z2 : l2.length ≤ 9223372036854775807) (z3 : l3.length ≤ 9223372036854775807)
    (hSp : ∀ W, Below w.heap.size w W → Calls Tryz.prog 34 #[.string s, .string ⟨#[32]⟩, .int .i64 5] W fun e w' => ∃ v, e = .returned v ∧ ReadsS w' v [l0, l1, l2, l3] ∧ Below W.heap.size W w')
    (hKo : ∀ W v, Below w.heap.size w W → ReadsS W v [l0, l1, l2, l3] → Calls Tryz.prog 35 #[v] W fun e w' => e = .returned (.int .i64 5) ∧ Below W.heap.size W w') :
    Calls Tryz.prog 14 #[.string s] w (Answers [l0, l1, l2, l3] w) := by
  obtain ⟨h1, h2⟩ := told_words (by decide : (1 : Int) ≤ 5 ∧ (5 : Int) ≤ 5) [l0, l1, l2, l3] hw
  have e1 : partFaults 5 [l0, l1, l2, l3] = toldN (textFault l1) (textFault l2) (numFault l3) := rfl
  rw [e1] at h1 h2
  have e2 : atomFault 5 (wordsS [l0, l1, l2, l3]) (wordsT 5 [l0, l1, l2, l3]) (wordsN 5 [l0, l1, l2, l3]) = atomFault 5 (readN l1) (readN l2) (numIs l3) := rfl
  rw [e2] at h2
  by_cases f0 : textFault l1 = 0
  · by_cases f1 : textFault l2 = 0
    · by_cases f2 : numFault l3 = 0
      · have hz : toldN (textFault l1) (textFault l2) (numFault l3) = 0 := by unfold toldN; rw [if_neg (by omega), if_pos (by omega), if_pos (by omega)]; try omega
        have hF := h2 hz
        by_cases hA : atomFault 5 (readN l1) (readN l2) (numIs l3) = 0
        · refine (aparse_5_nnnG s l0 l1 l2 l3 w hK hL z1 z2 z3 hSp hKo f0 f1 f2 hA).mono ?_
          rintro e w' ⟨v0, v1, he, r0, r1, hb⟩
          exact ⟨_, by rw [hF, hA]; exact he, fun _ => ⟨v0, v1, by rw [hw]; rfl, r0, by rw [hw]; exact r1⟩, fun h' => absurd (hF.trans hA) h', hb⟩
        · exact (aparse_5_nnnF s l0 l1 l2 l3 w hK hL z1 z2 z3 hSp hKo f0 f1 f2 hA).mono fun e w' h => answers_bad hF hA (by rw [errV_no hA]; exact h)
      · have hne : ¬ toldN (textFault l1) (textFault l2) (numFault l3) = 0 := by unfold toldN; split <;> (try split) <;> (try split) <;> omega
        exact (aparse_5_nne s l0 l1 l2 l3 w hK hL z1 z2 z3 hSp hKo f0 f1 f2).mono fun e w' h => answers_bad (h1 hne) hne h
    · by_cases f2 : numFault l3 = 0
      · have hne : ¬ toldN (textFault l1) (textFault l2) (numFault l3) = 0 := by unfold toldN; split <;> (try split) <;> (try split) <;> omega
        exact (aparse_5_nen s l0 l1 l2 l3 w hK hL z1 z2 z3 hSp hKo f0 f1 f2).mono fun e w' h => answers_bad (h1 hne) hne h
      · have hne : ¬ toldN (textFault l1) (textFault l2) (numFault l3) = 0 := by unfold toldN; split <;> (try split) <;> (try split) <;> omega
        exact (aparse_5_nee s l0 l1 l2 l3 w hK hL z1 z2 z3 hSp hKo f0 f1 f2).mono fun e w' h => answers_bad (h1 hne) hne h
  · by_cases f1 : textFault l2 = 0
    · by_cases f2 : numFault l3 = 0
      · have hne : ¬ toldN (textFault l1) (textFault l2) (numFault l3) = 0 := by unfold toldN; split <;> (try split) <;> (try split) <;> omega
        exact (aparse_5_enn s l0 l1 l2 l3 w hK hL z1 z2 z3 hSp hKo f0 f1 f2).mono fun e w' h => answers_bad (h1 hne) hne h
      · have hne : ¬ toldN (textFault l1) (textFault l2) (numFault l3) = 0 := by unfold toldN; split <;> (try split) <;> (try split) <;> omega
        exact (aparse_5_ene s l0 l1 l2 l3 w hK hL z1 z2 z3 hSp hKo f0 f1 f2).mono fun e w' h => answers_bad (h1 hne) hne h
    · by_cases f2 : numFault l3 = 0
      · have hne : ¬ toldN (textFault l1) (textFault l2) (numFault l3) = 0 := by unfold toldN; split <;> (try split) <;> (try split) <;> omega
        exact (aparse_5_een s l0 l1 l2 l3 w hK hL z1 z2 z3 hSp hKo f0 f1 f2).mono fun e w' h => answers_bad (h1 hne) hne h
      · have hne : ¬ toldN (textFault l1) (textFault l2) (numFault l3) = 0 := by unfold toldN; split <;> (try split) <;> (try split) <;> omega
        exact (aparse_5_eee s l0 l1 l2 l3 w hK hL z1 z2 z3 hSp hKo f0 f1 f2).mono fun e w' h => answers_bad (h1 hne) hne h

/-- Parse, whatever the text. -/
theorem aparse_any (s : ByteArray) (hz : s.size ≤ 9223372036854775806) (w : World) (hK : KindsLaid w) (hL : LibLaid w) :
    Calls Tryz.prog 14 #[.string s] w (Answers (seen s) w) := by
  have hSp := fun (W : World) (_ : Below w.heap.size w W) => split_any s hz W
  have hKo := fun (W : World) (v : Value) (h : Below w.heap.size w W) (hR : ReadsS W v (seen s)) => kindOf_any (seen s) v W (hK.below h) hR (splitL_pos _ _)
  have hlen : ∀ x, x ∈ seen s → x.length ≤ 9223372036854775807 := fun x hx => by
    have h1 := splitL_len hx
    have h2 : s.data.toList.length = s.size := Array.length_toList
    omega
  have hSp' : ∀ W, Below w.heap.size w W → Calls Tryz.prog 34 #[.string s, .string ⟨#[32]⟩, .int .i64 5] W fun e w' => ∃ v, e = .returned v ∧ ReadsS w' v (seen s) ∧ Below W.heap.size W w' := hSp
  clear hSp
  obtain ⟨ws, hws⟩ : ∃ ws, ws = seen s := ⟨_, rfl⟩
  rw [← hws] at hSp' hKo hlen ⊢
  clear hws
  rcases wordsKind_range ws with h0 | ⟨hk, hl⟩
  · rw [h0] at hKo
    have hF : wordsFault ws = 2 := by unfold wordsFault; rw [if_pos h0]
    exact (aparse_zero s ws w hSp' hKo).mono fun e w' h => answers_bad hF (by decide) h
  · obtain ⟨k, hkk⟩ : ∃ k, k = wordsKind ws := ⟨_, rfl⟩
    rw [← hkk] at hKo hk hl
    rcases five hk.1 hk.2 with rfl | rfl | rfl | rfl | rfl
    · obtain ⟨l0, l1, l2, rfl⟩ : ∃ l0 l1 l2, ws = [l0, l1, l2] := by
        match ws, hl with
        | [a, b, c], _ => exact ⟨a, b, c, rfl⟩
      exact aparse_k1 s l0 l1 l2 hkk.symm w hK hL (hlen l1 (by simp)) (hlen l2 (by simp)) hSp' hKo
    · obtain ⟨l0, l1, l2, rfl⟩ : ∃ l0 l1 l2, ws = [l0, l1, l2] := by
        match ws, hl with
        | [a, b, c], _ => exact ⟨a, b, c, rfl⟩
      exact aparse_k2 s l0 l1 l2 hkk.symm w hK hL (hlen l1 (by simp)) (hlen l2 (by simp)) hSp' hKo
    · obtain ⟨l0, l1, l2, rfl⟩ : ∃ l0 l1 l2, ws = [l0, l1, l2] := by
        match ws, hl with
        | [a, b, c], _ => exact ⟨a, b, c, rfl⟩
      exact aparse_k3 s l0 l1 l2 hkk.symm w hK hL (hlen l1 (by simp)) (hlen l2 (by simp)) hSp' hKo
    · obtain ⟨l0, l1, l2, rfl⟩ : ∃ l0 l1 l2, ws = [l0, l1, l2] := by
        match ws, hl with
        | [a, b, c], _ => exact ⟨a, b, c, rfl⟩
      exact aparse_k4 s l0 l1 l2 hkk.symm w hK hL (hlen l1 (by simp)) (hlen l2 (by simp)) hSp' hKo
    · obtain ⟨l0, l1, l2, l3, rfl⟩ : ∃ l0 l1 l2 l3, ws = [l0, l1, l2, l3] := by
        match ws, hl with
        | [a, b, c, d], _ => exact ⟨a, b, c, d, rfl⟩
      exact aparse_k5 s l0 l1 l2 l3 hkk.symm w hK hL (hlen l1 (by simp)) (hlen l2 (by simp)) (hlen l3 (by simp)) hSp' hKo
end Go.Proofs.YtenmheenieifpabGreatDoor
