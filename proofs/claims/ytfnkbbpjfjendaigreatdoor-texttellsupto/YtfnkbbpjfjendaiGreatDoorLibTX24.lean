/-
  Proved: what atom.Parse returns, of any text, as one contract; what was in memory is as it was.
  Proved: what vennref1.ReadAtom returns, of any text of at most 1048576 bytes; what was in memory is as it was (a contract that the statements lean on).
  Rows of atoms in memory: the values that lie there, and what they read as (facts that the contracts lean on).
  A formula that is being made in memory: its place, and the rows that it holds (facts that the contracts lean on).
-/
import Derived.Test.YtfnkbbpjfjendaiGreatDoorLibTX23
import Derived.Test.YtfnkbbpjfjendaiGreatDoorLibTX18
import Derived.Test.YtfnkbbpjfjendaiGreatDoorLibTX19
import Derived.Test.YtfnkbbpjfjendaiGreatDoorLibTX20
import Derived.Test.YtfnkbbpjfjendaiGreatDoorLibTX21
import Derived.Test.YtfnkbbpjfjendaiGreatDoorLibTX22
import Derived.Test.YtfnkbbpjfjendaiGreatDoorLibTX11
import Derived.OwnWalk
import Derived.Laws.OwnMore
import Derived.Laws.AppendOwn
import Derived.Test.YtfnkbbpjfjendaiGreatDoorLibTX10
import Derived.Maps.AppendAt
namespace Go.Proofs.YtfnkbbpjfjendaiGreatDoor
open Go.ChangeShapes Go.WideShapes Go.ChangeAt Go.RowKit
set_option maxRecDepth 100000

theorem wordsKind_range (ws : List (List UInt8)) : wordsKind ws = 0 ∨ ((1 ≤ wordsKind ws ∧ wordsKind ws ≤ 5) ∧ ws.length = manyN (wordsKind ws)) := by
  unfold wordsKind
  have h : 0 ≤ kindOfN (ws.getD 0 []) ∧ kindOfN (ws.getD 0 []) ≤ 5 := by unfold kindOfN; repeat' split <;> omega
  by_cases hl : ws.length = manyN (kindOfN (ws.getD 0 []))
  · rw [if_pos hl]
    by_cases h0 : kindOfN (ws.getD 0 []) = 0
    · exact Or.inl h0
    · exact Or.inr ⟨by omega, hl⟩
  · rw [if_neg hl]; exact Or.inl rfl

theorem aparse_new (s : ByteArray) (hz : s.size ≤ 9223372036854775806) (w : World) (hK : KindsLaid w) (hL : LibLaid w) :
    Calls Tryz.prog 50 #[.string s] w (AnswersW (seen s) w) := by
  have hSp := fun (W : World) (_ : Below w.heap.size w W) => split_any s hz W
  have hKo := fun (W : World) (v : Value) (h : Below w.heap.size w W) (hR : ReadsS W v (seen s)) => kindOf_any (seen s) v W (hK.below h) hR (splitL_pos _ _)
  have hlen : ∀ x, x ∈ seen s → x.length ≤ 9223372036854775807 := fun x hx => by
    have h1 := splitL_len hx
    have h2 : s.data.toList.length = s.size := Array.length_toList
    omega
  have hSp' : ∀ W, Below w.heap.size w W → Calls Tryz.prog 66 #[.string s, .string ⟨#[32]⟩, .int .i64 5] W fun e w' => ∃ v, e = .returned v ∧ ReadsS w' v (seen s) ∧ Below W.heap.size W w' := hSp
  clear hSp
  obtain ⟨ws, hws⟩ : ∃ ws, ws = seen s := ⟨_, rfl⟩
  rw [← hws] at hSp' hKo hlen ⊢
  clear hws
  rcases wordsKind_range ws with h0 | ⟨hk, hl⟩
  · rw [h0] at hKo
    have hF : wordsFault ws = 2 := by unfold wordsFault; rw [if_pos h0]
    exact (aparse_zero s ws w hSp' hKo).mono fun e w' h => answers_bad hF (by decide) h
  · obtain ⟨k, hkk⟩ : ∃ k, k = wordsKind ws := ⟨_, rfl⟩
    rw [← hkk] at hKo hk hl
    rcases five hk.1 hk.2 with rfl | rfl | rfl | rfl | rfl
    · obtain ⟨l0, l1, l2, rfl⟩ : ∃ l0 l1 l2, ws = [l0, l1, l2] := by
        match ws, hl with
        | [a, b, c], _ => exact ⟨a, b, c, rfl⟩
      exact aparse_two 1 (by omega) s l0 l1 l2 hkk.symm w hK hL (hlen l1 (by simp)) (hlen l2 (by simp)) hSp' hKo
    · obtain ⟨l0, l1, l2, rfl⟩ : ∃ l0 l1 l2, ws = [l0, l1, l2] := by
        match ws, hl with
        | [a, b, c], _ => exact ⟨a, b, c, rfl⟩
      exact aparse_two 2 (by omega) s l0 l1 l2 hkk.symm w hK hL (hlen l1 (by simp)) (hlen l2 (by simp)) hSp' hKo
    · obtain ⟨l0, l1, l2, rfl⟩ : ∃ l0 l1 l2, ws = [l0, l1, l2] := by
        match ws, hl with
        | [a, b, c], _ => exact ⟨a, b, c, rfl⟩
      exact aparse_num 3 (by omega) s l0 l1 l2 hkk.symm w hK hL (hlen l1 (by simp)) (hlen l2 (by simp)) hSp' hKo
    · obtain ⟨l0, l1, l2, rfl⟩ : ∃ l0 l1 l2, ws = [l0, l1, l2] := by
        match ws, hl with
        | [a, b, c], _ => exact ⟨a, b, c, rfl⟩
      exact aparse_num 4 (by omega) s l0 l1 l2 hkk.symm w hK hL (hlen l1 (by simp)) (hlen l2 (by simp)) hSp' hKo
    · obtain ⟨l0, l1, l2, l3, rfl⟩ : ∃ l0 l1 l2 l3, ws = [l0, l1, l2, l3] := by
        match ws, hl with
        | [a, b, c, d], _ => exact ⟨a, b, c, d, rfl⟩
      exact aparse_all 5 rfl s l0 l1 l2 l3 hkk.symm w hK hL (hlen l1 (by simp)) (hlen l2 (by simp)) (hlen l3 (by simp)) hSp' hKo
theorem aparse_any (s : ByteArray) (hz : s.size ≤ 9223372036854775806) (w : World) (hK : KindsLaid w) (hL : LibLaid w) :
    Calls Tryz.prog 50 #[.string s] w (Answers (seen s) w) := (aparse_new s hz w hK hL).mono fun _ _ h => h.to
end Go.Proofs.YtfnkbbpjfjendaiGreatDoor

namespace Go.Proofs.YtfnkbbpjfjendaiGreatDoor
open Go.ChangeShapes Go.WideShapes Go.ChangeAt Go.RowKit
set_option maxRecDepth 100000

/-- what the reference answers of words. -/
def AnswersR (ws : List (List UInt8)) (w : World) (e : Ending) (w' : World) : Prop :=
  ∃ a, e = .returned (.tuple #[a, .int .i64 (wordsFault ws)]) ∧ (wordsFault ws = 0 → ∃ v0 v1, a = .agg #[.int .i64 (wordsKind ws), v0, v1, .int .i64 (wordsN (wordsKind ws) ws)] ∧ Reads w' v0 (wordsS ws) ∧ Reads w' v1 (wordsT (wordsKind ws) ws)) ∧ (¬ wordsFault ws = 0 → a = .agg #[.int .i64 0, .slice none 0 0, .slice none 0 0, .int .i64 0]) ∧ Below w.heap.size w w'
/-- the same, and that what is new lies in new blocks. -/
def AnswersN (ws : List (List UInt8)) (w : World) (e : Ending) (w' : World) : Prop :=
  ∃ a, e = .returned (.tuple #[a, .int .i64 (wordsFault ws)]) ∧ (wordsFault ws = 0 → ∃ v0 v1, a = .agg #[.int .i64 (wordsKind ws), v0, v1, .int .i64 (wordsN (wordsKind ws) ws)] ∧ Reads w' v0 (wordsS ws) ∧ Reads w' v1 (wordsT (wordsKind ws) ws) ∧ NewV w.heap.size v0 ∧ NewV w.heap.size v1) ∧ (¬ wordsFault ws = 0 → a = .agg #[.int .i64 0, .slice none 0 0, .slice none 0 0, .int .i64 0]) ∧ Below w.heap.size w w'
theorem AnswersN.to {ws : List (List UInt8)} {w : World} {e : Ending} {w' : World} (h : AnswersN ws w e w') : AnswersR ws w e w' := by
  obtain ⟨a, h1, h2, h3, h4⟩ := h
  refine ⟨a, h1, fun h0 => ?_, h3, h4⟩
  obtain ⟨v0, v1, g1, g2, g3, _⟩ := h2 h0
  exact ⟨v0, v1, g1, g2, g3⟩
theorem answersR_bad {ws : List (List UInt8)} {w : World} {e : Ending} {w' : World} {F : Int} (hF : wordsFault ws = F) (h0 : ¬ F = 0) (h : e = .returned (.tuple #[.agg #[.int .i64 0, .slice none 0 0, .slice none 0 0, .int .i64 0], .int .i64 F]) ∧ Below w.heap.size w w') : AnswersN ws w e w' :=
  ⟨_, by rw [hF]; exact h.1, fun h' => absurd (hF.symm.trans h') h0, fun _ => rfl, h.2⟩
theorem q_no {l m : List UInt8} (h : ¬ l = m) : ((strOf l).toList == m) = false := by
  rw [Lib.toList_data, strOf_list]
  simpa using h
theorem q_yes (l : List UInt8) : ((strOf l).toList == l) = true := by
  rw [Lib.toList_data, strOf_list]
  simp

theorem readAtom_k1 (s : ByteArray) (l1 l2 : List UInt8) (w : World) (z1 : l1.length ≤ 1048576) (z2 : l2.length ≤ 1048576)
    (hC : ∀ W, Below w.heap.size w W → Calls Tryz.prog 21 #[.string s, .int .u8 32] W fun e w' => ∃ v, e = .returned v ∧ ReadsS w' v [[115, 117, 98], l1, l2] ∧ Below W.heap.size W w') :
    Calls Tryz.prog 22 #[.string s] w (AnswersN [[115, 117, 98], l1, l2] w) := by
  have hw : wordsKind [[115, 117, 98], l1, l2] = 1 := rfl
  have hF : wordsFault [[115, 117, 98], l1, l2] = if partsBad 1 [[115, 117, 98], l1, l2] = true then 2 else atomFault 1 (readN l1) (readN l2) 0 := by
    unfold wordsFault; rw [hw, if_neg (by decide)]; rfl
  have hP : partsBad 1 [[115, 117, 98], l1, l2] = (!lettersB l1 || !lettersB l2 || false) := rfl
  cases b1 : lettersB l1 with
  | false => exact (readAtom_1_s s _ [115, 117, 98] l1 l2 w rfl  (q_yes _) z1 z2 b1 hC).mono fun e w' h => answersR_bad (by rw [hF, if_pos]; rw [hP, b1]; simp) (by decide) h
  | true =>
    cases b2 : lettersB l2 with
    | false => exact (readAtom_1_t s _ [115, 117, 98] l1 l2 w rfl  (q_yes _) z1 z2 b1 b2 hC).mono fun e w' h => answersR_bad (by rw [hF, if_pos]; rw [hP, b1, b2]; simp) (by decide) h
    | true =>
      have hp : ¬ partsBad 1 [[115, 117, 98], l1, l2] = true := by rw [hP, b1, b2]; simp
      rw [if_neg hp] at hF
      by_cases hA : atomFault 1 (readN l1) (readN l2) 0 = 0
      · refine (readAtom_1_g s _ [115, 117, 98] l1 l2 w rfl  (q_yes _) z1 z2 b1 b2 hA hC).mono ?_
        rintro e w' ⟨⟨v0, v1, he, r0, r1, n0, n1⟩, hb⟩
        exact ⟨_, by rw [hF, hA]; exact he, fun _ => ⟨v0, v1, by rw [hw]; rfl, r0, by rw [hw]; exact r1, n0, n1⟩, fun h' => absurd (hF.trans hA) h', hb⟩
      · exact (readAtom_1_f s _ [115, 117, 98] l1 l2 w rfl  (q_yes _) z1 z2 b1 b2 hA hC).mono fun e w' h => answersR_bad hF hA h

theorem readAtom_k2 (s : ByteArray) (l1 l2 : List UInt8) (w : World) (z1 : l1.length ≤ 1048576) (z2 : l2.length ≤ 1048576)
    (hC : ∀ W, Below w.heap.size w W → Calls Tryz.prog 21 #[.string s, .int .u8 32] W fun e w' => ∃ v, e = .returned v ∧ ReadsS w' v [[115, 97, 109, 101], l1, l2] ∧ Below W.heap.size W w') :
    Calls Tryz.prog 22 #[.string s] w (AnswersN [[115, 97, 109, 101], l1, l2] w) := by
  have hw : wordsKind [[115, 97, 109, 101], l1, l2] = 2 := rfl
  have hF : wordsFault [[115, 97, 109, 101], l1, l2] = if partsBad 2 [[115, 97, 109, 101], l1, l2] = true then 2 else atomFault 2 (readN l1) (readN l2) 0 := by
    unfold wordsFault; rw [hw, if_neg (by decide)]; rfl
  have hP : partsBad 2 [[115, 97, 109, 101], l1, l2] = (!lettersB l1 || !lettersB l2 || false) := rfl
  cases b1 : lettersB l1 with
  | false => exact (readAtom_2_s s _ [115, 97, 109, 101] l1 l2 w rfl (q_no (by decide)) (q_yes _) z1 z2 b1 hC).mono fun e w' h => answersR_bad (by rw [hF, if_pos]; rw [hP, b1]; simp) (by decide) h
  | true =>
    cases b2 : lettersB l2 with
    | false => exact (readAtom_2_t s _ [115, 97, 109, 101] l1 l2 w rfl (q_no (by decide)) (q_yes _) z1 z2 b1 b2 hC).mono fun e w' h => answersR_bad (by rw [hF, if_pos]; rw [hP, b1, b2]; simp) (by decide) h
    | true =>
      have hp : ¬ partsBad 2 [[115, 97, 109, 101], l1, l2] = true := by rw [hP, b1, b2]; simp
      rw [if_neg hp] at hF
      by_cases hA : atomFault 2 (readN l1) (readN l2) 0 = 0
      · refine (readAtom_2_g s _ [115, 97, 109, 101] l1 l2 w rfl (q_no (by decide)) (q_yes _) z1 z2 b1 b2 hA hC).mono ?_
        rintro e w' ⟨⟨v0, v1, he, r0, r1, n0, n1⟩, hb⟩
        exact ⟨_, by rw [hF, hA]; exact he, fun _ => ⟨v0, v1, by rw [hw]; rfl, r0, by rw [hw]; exact r1, n0, n1⟩, fun h' => absurd (hF.trans hA) h', hb⟩
      · exact (readAtom_2_f s _ [115, 97, 109, 101] l1 l2 w rfl (q_no (by decide)) (q_yes _) z1 z2 b1 b2 hA hC).mono fun e w' h => answersR_bad hF hA h

theorem readAtom_k3 (s : ByteArray) (l1 l2 : List UInt8) (w : World) (z1 : l1.length ≤ 1048576) (z2 : l2.length ≤ 1048576)
    (hC : ∀ W, Below w.heap.size w W → Calls Tryz.prog 21 #[.string s, .int .u8 32] W fun e w' => ∃ v, e = .returned v ∧ ReadsS w' v [[108, 101, 97, 115, 116], l1, l2] ∧ Below W.heap.size W w') :
    Calls Tryz.prog 22 #[.string s] w (AnswersN [[108, 101, 97, 115, 116], l1, l2] w) := by
  have hw : wordsKind [[108, 101, 97, 115, 116], l1, l2] = 3 := rfl
  have hF : wordsFault [[108, 101, 97, 115, 116], l1, l2] = if partsBad 3 [[108, 101, 97, 115, 116], l1, l2] = true then 2 else atomFault 3 (readN l1) [] ((numOf l2).getD 0) := by
    unfold wordsFault; rw [hw, if_neg (by decide)]; rfl
  have hP : partsBad 3 [[108, 101, 97, 115, 116], l1, l2] = (!lettersB l1 || false || (numOf l2).isNone) := rfl
  cases b1 : lettersB l1 with
  | false => exact (readAtom_3_s s _ [108, 101, 97, 115, 116] l1 l2 w rfl (q_no (by decide)) (q_no (by decide)) (q_yes _) z1 z2 b1 hC).mono fun e w' h => answersR_bad (by rw [hF, if_pos]; rw [hP, b1]; simp) (by decide) h
  | true =>
    cases bn : (numOf l2).isSome with
    | false => exact (readAtom_3_n s _ [108, 101, 97, 115, 116] l1 l2 w rfl (q_no (by decide)) (q_no (by decide)) (q_yes _) z1 z2 b1 bn hC).mono fun e w' h => answersR_bad (by rw [hF, if_pos]; rw [hP]; have hn : (numOf l2).isNone = true := (by cases h : numOf l2 <;> simp_all); rw [hn]; simp) (by decide) h
    | true =>
      have hp : ¬ partsBad 3 [[108, 101, 97, 115, 116], l1, l2] = true := by have hn : (numOf l2).isNone = false := (by cases h : numOf l2 <;> simp_all); rw [hP, b1, hn]; simp
      rw [if_neg hp] at hF
      by_cases hA : atomFault 3 (readN l1) [] ((numOf l2).getD 0) = 0
      · refine (readAtom_3_g s _ [108, 101, 97, 115, 116] l1 l2 w rfl (q_no (by decide)) (q_no (by decide)) (q_yes _) z1 z2 b1 bn hA hC).mono ?_
        rintro e w' ⟨⟨v0, v1, he, r0, r1, n0, n1⟩, hb⟩
        exact ⟨_, by rw [hF, hA]; exact he, fun _ => ⟨v0, v1, by rw [hw]; rfl, r0, by rw [hw]; exact r1, n0, n1⟩, fun h' => absurd (hF.trans hA) h', hb⟩
      · exact (readAtom_3_f s _ [108, 101, 97, 115, 116] l1 l2 w rfl (q_no (by decide)) (q_no (by decide)) (q_yes _) z1 z2 b1 bn hA hC).mono fun e w' h => answersR_bad hF hA h

theorem readAtom_k4 (s : ByteArray) (l1 l2 : List UInt8) (w : World) (z1 : l1.length ≤ 1048576) (z2 : l2.length ≤ 1048576)
    (hC : ∀ W, Below w.heap.size w W → Calls Tryz.prog 21 #[.string s, .int .u8 32] W fun e w' => ∃ v, e = .returned v ∧ ReadsS w' v [[109, 111, 115, 116], l1, l2] ∧ Below W.heap.size W w') :
    Calls Tryz.prog 22 #[.string s] w (AnswersN [[109, 111, 115, 116], l1, l2] w) := by
  have hw : wordsKind [[109, 111, 115, 116], l1, l2] = 4 := rfl
  have hF : wordsFault [[109, 111, 115, 116], l1, l2] = if partsBad 4 [[109, 111, 115, 116], l1, l2] = true then 2 else atomFault 4 (readN l1) [] ((numOf l2).getD 0) := by
    unfold wordsFault; rw [hw, if_neg (by decide)]; rfl
  have hP : partsBad 4 [[109, 111, 115, 116], l1, l2] = (!lettersB l1 || false || (numOf l2).isNone) := rfl
  cases b1 : lettersB l1 with
  | false => exact (readAtom_4_s s _ [109, 111, 115, 116] l1 l2 w rfl (q_no (by decide)) (q_no (by decide)) (q_no (by decide)) (q_yes _) z1 z2 b1 hC).mono fun e w' h => answersR_bad (by rw [hF, if_pos]; rw [hP, b1]; simp) (by decide) h
  | true =>
    cases bn : (numOf l2).isSome with
    | false => exact (readAtom_4_n s _ [109, 111, 115, 116] l1 l2 w rfl (q_no (by decide)) (q_no (by decide)) (q_no (by decide)) (q_yes _) z1 z2 b1 bn hC).mono fun e w' h => answersR_bad (by rw [hF, if_pos]; rw [hP]; have hn : (numOf l2).isNone = true := (by cases h : numOf l2 <;> simp_all); rw [hn]; simp) (by decide) h
    | true =>
      have hp : ¬ partsBad 4 [[109, 111, 115, 116], l1, l2] = true := by have hn : (numOf l2).isNone = false := (by cases h : numOf l2 <;> simp_all); rw [hP, b1, hn]; simp
      rw [if_neg hp] at hF
      by_cases hA : atomFault 4 (readN l1) [] ((numOf l2).getD 0) = 0
      · refine (readAtom_4_g s _ [109, 111, 115, 116] l1 l2 w rfl (q_no (by decide)) (q_no (by decide)) (q_no (by decide)) (q_yes _) z1 z2 b1 bn hA hC).mono ?_
        rintro e w' ⟨⟨v0, v1, he, r0, r1, n0, n1⟩, hb⟩
        exact ⟨_, by rw [hF, hA]; exact he, fun _ => ⟨v0, v1, by rw [hw]; rfl, r0, by rw [hw]; exact r1, n0, n1⟩, fun h' => absurd (hF.trans hA) h', hb⟩
      · exact (readAtom_4_f s _ [109, 111, 115, 116] l1 l2 w rfl (q_no (by decide)) (q_no (by decide)) (q_no (by decide)) (q_yes _) z1 z2 b1 bn hA hC).mono fun e w' h => answersR_bad hF hA h

theorem readAtom_k5 (s : ByteArray) (l1 l2 l3 : List UInt8) (w : World) (z1 : l1.length ≤ 1048576) (z2 : l2.length ≤ 1048576) (z3 : l3.length ≤ 1048576)
    (hC : ∀ W, Below w.heap.size w W → Calls Tryz.prog 21 #[.string s, .int .u8 32] W fun e w' => ∃ v, e = .returned v ∧ ReadsS w' v [[110, 111, 109, 111, 114, 101], l1, l2, l3] ∧ Below W.heap.size W w') :
    Calls Tryz.prog 22 #[.string s] w (AnswersN [[110, 111, 109, 111, 114, 101], l1, l2, l3] w) := by
  have hw : wordsKind [[110, 111, 109, 111, 114, 101], l1, l2, l3] = 5 := rfl
  have hF : wordsFault [[110, 111, 109, 111, 114, 101], l1, l2, l3] = if partsBad 5 [[110, 111, 109, 111, 114, 101], l1, l2, l3] = true then 2 else atomFault 5 (readN l1) (readN l2) ((numOf l3).getD 0) := by
    unfold wordsFault; rw [hw, if_neg (by decide)]; rfl
  have hP : partsBad 5 [[110, 111, 109, 111, 114, 101], l1, l2, l3] = (!lettersB l1 || !lettersB l2 || (numOf l3).isNone) := rfl
  cases b1 : lettersB l1 with
  | false => exact (readAtom_5_s s _ [110, 111, 109, 111, 114, 101] l1 l2 l3 w rfl (q_no (by decide)) (q_no (by decide)) (q_no (by decide)) (q_no (by decide)) (q_yes _) z1 z2 z3 b1 hC).mono fun e w' h => answersR_bad (by rw [hF, if_pos]; rw [hP, b1]; simp) (by decide) h
  | true =>
    cases b2 : lettersB l2 with
    | false => exact (readAtom_5_t s _ [110, 111, 109, 111, 114, 101] l1 l2 l3 w rfl (q_no (by decide)) (q_no (by decide)) (q_no (by decide)) (q_no (by decide)) (q_yes _) z1 z2 z3 b1 b2 hC).mono fun e w' h => answersR_bad (by rw [hF, if_pos]; rw [hP, b1, b2]; simp) (by decide) h
    | true =>
      cases bn : (numOf l3).isSome with
      | false => exact (readAtom_5_n s _ [110, 111, 109, 111, 114, 101] l1 l2 l3 w rfl (q_no (by decide)) (q_no (by decide)) (q_no (by decide)) (q_no (by decide)) (q_yes _) z1 z2 z3 b1 b2 bn hC).mono fun e w' h => answersR_bad (by rw [hF, if_pos]; rw [hP]; have hn : (numOf l3).isNone = true := (by cases h : numOf l3 <;> simp_all); rw [hn]; simp) (by decide) h
      | true =>
        have hp : ¬ partsBad 5 [[110, 111, 109, 111, 114, 101], l1, l2, l3] = true := by have hn : (numOf l3).isNone = false := (by cases h : numOf l3 <;> simp_all); rw [hP, b1, b2, hn]; simp
        rw [if_neg hp] at hF
        by_cases hA : atomFault 5 (readN l1) (readN l2) ((numOf l3).getD 0) = 0
        · refine (readAtom_5_g s _ [110, 111, 109, 111, 114, 101] l1 l2 l3 w rfl (q_no (by decide)) (q_no (by decide)) (q_no (by decide)) (q_no (by decide)) (q_yes _) z1 z2 z3 b1 b2 bn hA hC).mono ?_
          rintro e w' ⟨⟨v0, v1, he, r0, r1, n0, n1⟩, hb⟩
          exact ⟨_, by rw [hF, hA]; exact he, fun _ => ⟨v0, v1, by rw [hw]; rfl, r0, by rw [hw]; exact r1, n0, n1⟩, fun h' => absurd (hF.trans hA) h', hb⟩
        · exact (readAtom_5_f s _ [110, 111, 109, 111, 114, 101] l1 l2 l3 w rfl (q_no (by decide)) (q_no (by decide)) (q_no (by decide)) (q_no (by decide)) (q_yes _) z1 z2 z3 b1 b2 bn hA hC).mono fun e w' h => answersR_bad hF hA h

theorem readAtom_words (s : ByteArray) (ws : List (List UInt8)) (w : World) (h0 : 0 < ws.length) (hlen : ∀ x, x ∈ ws → x.length ≤ 1048576)
    (hC : ∀ W, Below w.heap.size w W → Calls Tryz.prog 21 #[.string s, .int .u8 32] W fun e w' => ∃ v, e = .returned v ∧ ReadsS w' v ws ∧ Below W.heap.size W w') :
    Calls Tryz.prog 22 #[.string s] w (AnswersN ws w) := by
  have hk : ∀ x, ws.getD 0 [] = x → wordsKind ws = if ws.length = manyN (kindOfN x) then kindOfN x else 0 := by
    intro x hx; unfold wordsKind; rw [hx]
  have hzero : wordsKind ws = 0 → wordsFault ws = 2 := fun h => by unfold wordsFault; rw [if_pos h]
  by_cases x1 : ws.getD 0 [] = [115, 117, 98]
  · have e := hk _ x1
    rw [show manyN (kindOfN [115, 117, 98]) = 3 by decide, show kindOfN [115, 117, 98] = 1 by decide] at e
    by_cases hl : ws.length = 3
    · obtain ⟨l1, l2, rfl⟩ : ∃ l1 l2, ws = [[115, 117, 98], l1, l2] := by
        match ws, hl, x1 with
        | [a, b, c], _, h => exact ⟨b, c, by rw [← (show a = [115, 117, 98] from h)]⟩
      exact readAtom_k1 s l1 l2 w (hlen l1 (by simp)) (hlen l2 (by simp)) hC
    · rw [if_neg hl] at e
      exact (readAtom_1_c s _ ws w h0 rfl  (by rw [x1]; exact q_yes _) hl hC).mono fun _ _ h => answersR_bad (hzero e) (by decide) h
  by_cases x2 : ws.getD 0 [] = [115, 97, 109, 101]
  · have e := hk _ x2
    rw [show manyN (kindOfN [115, 97, 109, 101]) = 3 by decide, show kindOfN [115, 97, 109, 101] = 2 by decide] at e
    by_cases hl : ws.length = 3
    · obtain ⟨l1, l2, rfl⟩ : ∃ l1 l2, ws = [[115, 97, 109, 101], l1, l2] := by
        match ws, hl, x2 with
        | [a, b, c], _, h => exact ⟨b, c, by rw [← (show a = [115, 97, 109, 101] from h)]⟩
      exact readAtom_k2 s l1 l2 w (hlen l1 (by simp)) (hlen l2 (by simp)) hC
    · rw [if_neg hl] at e
      exact (readAtom_2_c s _ ws w h0 rfl (by rw [x2]; exact q_no (by decide)) (by rw [x2]; exact q_yes _) hl hC).mono fun _ _ h => answersR_bad (hzero e) (by decide) h
  by_cases x3 : ws.getD 0 [] = [108, 101, 97, 115, 116]
  · have e := hk _ x3
    rw [show manyN (kindOfN [108, 101, 97, 115, 116]) = 3 by decide, show kindOfN [108, 101, 97, 115, 116] = 3 by decide] at e
    by_cases hl : ws.length = 3
    · obtain ⟨l1, l2, rfl⟩ : ∃ l1 l2, ws = [[108, 101, 97, 115, 116], l1, l2] := by
        match ws, hl, x3 with
        | [a, b, c], _, h => exact ⟨b, c, by rw [← (show a = [108, 101, 97, 115, 116] from h)]⟩
      exact readAtom_k3 s l1 l2 w (hlen l1 (by simp)) (hlen l2 (by simp)) hC
    · rw [if_neg hl] at e
      exact (readAtom_3_c s _ ws w h0 rfl (by rw [x3]; exact q_no (by decide)) (by rw [x3]; exact q_no (by decide)) (by rw [x3]; exact q_yes _) hl hC).mono fun _ _ h => answersR_bad (hzero e) (by decide) h
  by_cases x4 : ws.getD 0 [] = [109, 111, 115, 116]
  · have e := hk _ x4
    rw [show manyN (kindOfN [109, 111, 115, 116]) = 3 by decide, show kindOfN [109, 111, 115, 116] = 4 by decide] at e
    by_cases hl : ws.length = 3
    · obtain ⟨l1, l2, rfl⟩ : ∃ l1 l2, ws = [[109, 111, 115, 116], l1, l2] := by
        match ws, hl, x4 with
        | [a, b, c], _, h => exact ⟨b, c, by rw [← (show a = [109, 111, 115, 116] from h)]⟩
      exact readAtom_k4 s l1 l2 w (hlen l1 (by simp)) (hlen l2 (by simp)) hC
    · rw [if_neg hl] at e
      exact (readAtom_4_c s _ ws w h0 rfl (by rw [x4]; exact q_no (by decide)) (by rw [x4]; exact q_no (by decide)) (by rw [x4]; exact q_no (by decide)) (by rw [x4]; exact q_yes _) hl hC).mono fun _ _ h => answersR_bad (hzero e) (by decide) h
  by_cases x5 : ws.getD 0 [] = [110, 111, 109, 111, 114, 101]
  · have e := hk _ x5
    rw [show manyN (kindOfN [110, 111, 109, 111, 114, 101]) = 4 by decide, show kindOfN [110, 111, 109, 111, 114, 101] = 5 by decide] at e
    by_cases hl : ws.length = 4
    · obtain ⟨l1, l2, l3, rfl⟩ : ∃ l1 l2 l3, ws = [[110, 111, 109, 111, 114, 101], l1, l2, l3] := by
        match ws, hl, x5 with
        | [a, b, c, d], _, h => exact ⟨b, c, d, by rw [← (show a = [110, 111, 109, 111, 114, 101] from h)]⟩
      exact readAtom_k5 s l1 l2 l3 w (hlen l1 (by simp)) (hlen l2 (by simp)) (hlen l3 (by simp)) hC
    · rw [if_neg hl] at e
      exact (readAtom_5_c s _ ws w h0 rfl (by rw [x5]; exact q_no (by decide)) (by rw [x5]; exact q_no (by decide)) (by rw [x5]; exact q_no (by decide)) (by rw [x5]; exact q_no (by decide)) (by rw [x5]; exact q_yes _) hl hC).mono fun _ _ h => answersR_bad (hzero e) (by decide) h
  have e : wordsKind ws = 0 := by
    have e0 : kindOfN (ws.getD 0 []) = 0 := by unfold kindOfN; rw [if_neg x1, if_neg x2, if_neg x3, if_neg x4, if_neg x5]
    unfold wordsKind
    rw [e0]
    split <;> rfl
  exact (readAtom_none s _ ws w h0 rfl (q_no x1) (q_no x2) (q_no x3) (q_no x4) (q_no x5) hC).mono fun _ _ h => answersR_bad (hzero e) (by decide) h

/-- ReadAtom, of any text. -/
theorem readAtom_new (s : ByteArray) (hz : s.size ≤ 1048576) (w : World) :
    Calls Tryz.prog 22 #[.string s] w (AnswersN (cutL s.data.toList) w) := by
  refine readAtom_words s _ w (splitL_pos _ _) (fun x hx => ?_) (fun W _ => refCut_any s hz W)
  have h1 := splitL_len hx
  have h2 : s.data.toList.length = s.size := Array.length_toList
  omega
theorem readAtom_any (s : ByteArray) (hz : s.size ≤ 1048576) (w : World) :
    Calls Tryz.prog 22 #[.string s] w (AnswersR (cutL s.data.toList) w) :=
  (readAtom_new s hz w).mono fun _ _ h => h.to
end Go.Proofs.YtfnkbbpjfjendaiGreatDoor

namespace Go.Proofs.YtfnkbbpjfjendaiGreatDoor
open Go.ChangeShapes Go.WideShapes Go.ChangeAt Go.RowKit
set_option maxRecDepth 100000

/-- the four values from 4 i on are those of an atom. -/
def AtomV (w : World) (xs : List Value) (i : Nat) (a : At) : Prop :=
  ∃ vs vt, xs[i * 4]? = some (.int .i64 a.k) ∧ xs[i * 4 + 1]? = some vs ∧ xs[i * 4 + 2]? = some vt ∧ xs[i * 4 + 3]? = some (.int .i64 a.n) ∧ Reads w vs a.s ∧ Reads w vt a.t
theorem reads_one {w : World} {v : Value} {t : List Int} (h : Reads w v t) : v.oneCell' = true := by
  rcases h with ⟨_, _, rfl, _⟩ | ⟨_, _, _, rfl, _⟩ <;> rfl
theorem AtomV.to {w w' : World} {xs : List Value} {i : Nat} {a : At} (h : AtomV w xs i a) (hr : ∀ v t, Reads w v t → Reads w' v t) : AtomV w' xs i a := by
  obtain ⟨vs, vt, e1, e2, e3, e4, f1, f2⟩ := h
  exact ⟨vs, vt, e1, e2, e3, e4, hr _ _ f1, hr _ _ f2⟩
theorem cell_atoms {w : World} {b off : Nat} {ats : List At} (h : ∀ i a, ats[i]? = some a → AtomAt w b (off + i * 4) a) {j : Nat} (hj : j < ats.length * 4) : ∃ u, w.cell? ⟨b, off + j, none⟩ = some u ∧ u.oneCell' = true := by
  have hj4 : j / 4 < ats.length := by omega
  obtain ⟨vs, vt, e1, e2, e3, e4, f1, f2⟩ := h (j / 4) ats[j / 4] (List.getElem?_eq_getElem hj4)
  have hr : j % 4 = 0 ∨ j % 4 = 1 ∨ j % 4 = 2 ∨ j % 4 = 3 := by omega
  rcases hr with r | r | r | r
  · rw [show off + j / 4 * 4 = off + j by omega] at e1; exact ⟨_, e1, rfl⟩
  · rw [show off + j / 4 * 4 + 1 = off + j by omega] at e2; exact ⟨_, e2, reads_one f1⟩
  · rw [show off + j / 4 * 4 + 2 = off + j by omega] at e3; exact ⟨_, e3, reads_one f2⟩
  · rw [show off + j / 4 * 4 + 3 = off + j by omega] at e4; exact ⟨_, e4, rfl⟩
/-- the values of a row of atoms. -/
theorem atoms_row {w : World} {b off : Nat} {ats : List At} (h : ∀ i a, ats[i]? = some a → AtomAt w b (off + i * 4) a) :
    ∃ xs : List Value, xs.length = ats.length * 4 ∧ (∀ j u, xs[j]? = some u → w.cell? ⟨b, off + j, none⟩ = some u) ∧ (∀ u ∈ xs, u.oneCell' = true) ∧ ∀ i a, ats[i]? = some a → AtomV w xs i a := by
  refine ⟨(List.range (ats.length * 4)).map (fun j => (w.cell? ⟨b, off + j, none⟩).getD (.int .i64 0)), by simp, ?_, ?_, ?_⟩
  · intro j u hu
    rw [List.getElem?_map] at hu
    cases hr : (List.range (ats.length * 4))[j]? with
    | none => rw [hr] at hu; cases hu
    | some k =>
      rw [hr] at hu
      obtain ⟨hk, e⟩ := List.getElem?_eq_some_iff.1 hr
      have e' : k = j := by simpa using e.symm
      subst e'
      obtain ⟨x, hx, _⟩ := cell_atoms h (by simpa using hk)
      simp only [Option.map_some, hx, Option.getD_some, Option.some.injEq] at hu
      rw [hx, hu]
  · intro u hu
    obtain ⟨k, hk, rfl⟩ := List.mem_map.1 hu
    obtain ⟨x, hx, h1⟩ := cell_atoms h (List.mem_range.1 hk)
    rw [hx]; exact h1
  · intro i a ha
    have hi := (List.getElem?_eq_some_iff.1 ha).1
    obtain ⟨vs, vt, e1, e2, e3, e4, f1, f2⟩ := h i a ha
    have g : ∀ (j : Nat) (u : Value), j < ats.length * 4 → w.cell? ⟨b, off + j, none⟩ = some u → ((List.range (ats.length * 4)).map (fun j => (w.cell? ⟨b, off + j, none⟩).getD (.int .i64 0)))[j]? = some u := by
      intro j u hj hu
      rw [List.getElem?_map, List.getElem?_range hj]
      simp [hu]
    exact ⟨vs, vt, g _ _ (by omega) e1, g _ _ (by omega) (by rw [← Nat.add_assoc]; exact e2), g _ _ (by omega) (by rw [← Nat.add_assoc]; exact e3), g _ _ (by omega) (by rw [← Nat.add_assoc]; exact e4), f1, f2⟩
theorem atomV_append {w : World} {xs ys : List Value} {ats bts : List At} (hl : xs.length = ats.length * 4) (h1 : ∀ i a, ats[i]? = some a → AtomV w xs i a) (h2 : ∀ i a, bts[i]? = some a → AtomV w ys i a) : ∀ i a, (ats ++ bts)[i]? = some a → AtomV w (xs ++ ys) i a := by
  intro i a ha
  by_cases hi : i < ats.length
  · rw [List.getElem?_append_left hi] at ha
    obtain ⟨vs, vt, e1, e2, e3, e4, f1, f2⟩ := h1 i a ha
    exact ⟨vs, vt, by rw [List.getElem?_append_left (by omega)]; exact e1, by rw [List.getElem?_append_left (by omega)]; exact e2, by rw [List.getElem?_append_left (by omega)]; exact e3, by rw [List.getElem?_append_left (by omega)]; exact e4, f1, f2⟩
  · rw [List.getElem?_append_right (by omega)] at ha
    obtain ⟨vs, vt, e1, e2, e3, e4, f1, f2⟩ := h2 _ a ha
    exact ⟨vs, vt, by rw [List.getElem?_append_right (by omega), show i * 4 - xs.length = (i - ats.length) * 4 by omega]; exact e1, by rw [List.getElem?_append_right (by omega), show i * 4 + 1 - xs.length = (i - ats.length) * 4 + 1 by omega]; exact e2, by rw [List.getElem?_append_right (by omega), show i * 4 + 2 - xs.length = (i - ats.length) * 4 + 2 by omega]; exact e3, by rw [List.getElem?_append_right (by omega), show i * 4 + 3 - xs.length = (i - ats.length) * 4 + 3 by omega]; exact e4, f1, f2⟩
/-- a new row of such values reads as the atoms. -/
theorem own_readsA {w : World} {base : Nat} {v : Value} {n : Nat} {xs : List Value} {ats : List At} (h : w.ownsRow base 40 4 v n xs) (hn : n = ats.length) (hx : ∀ i a, ats[i]? = some a → AtomV w xs i a) (hm : n ≤ 9223372036854775807) : ReadsA w v ats := by
  rcases h.2 with ⟨rfl, h0⟩ | ⟨g, cap, cur, rfl, hg, hh, hc, _⟩
  · exact Or.inl ⟨_, _, rfl, List.eq_nil_of_length_eq_zero (by omega)⟩
  · rcases Nat.eq_zero_or_pos n with h0 | h0
    · exact Or.inl ⟨_, cap, by rw [h0], List.eq_nil_of_length_eq_zero (by omega)⟩
    · refine Or.inr ⟨g, 0, cap, by rw [hn], (Array.getElem?_eq_some_iff.1 hh).1, by omega, ⟨by omega, by omega⟩, fun i a ha => ?_⟩
      have hi := (List.getElem?_eq_some_iff.1 ha).1
      obtain ⟨vs, vt, e1, e2, e3, e4, f1, f2⟩ := hx i a ha
      rw [Nat.zero_add]
      exact ⟨vs, vt, by rw [h.cellAt _ (by omega)]; exact e1, by rw [h.cellAt _ (by omega)]; exact e2, by rw [h.cellAt _ (by omega)]; exact e3, by rw [h.cellAt _ (by omega)]; exact e4, f1, f2⟩
end Go.Proofs.YtfnkbbpjfjendaiGreatDoor

namespace Go.Proofs.YtfnkbbpjfjendaiGreatDoor
open Go.ChangeShapes Go.WideShapes Go.ChangeAt Go.RowKit
set_option maxRecDepth 100000

theorem infoAt : (Tryz.prog.info? 40).map (fun i => (i.zero, i.size, i.bytes)) = some (some (.agg #[.int .i64 0, .slice none 0 0, .slice none 0 0, .int .i64 0]), 4, 64) := by kernel_rfl
/-- the place of the formula that is being made, and what stood ahead of it. -/
def InT (G : Nat) (w3 W : World) (va vq : Value) : Prop := Blk W G 25 #[va, vq] ∧ Below G w3 W ∧ G < W.heap.size
theorem InT.alloc {G : Nat} {w3 W : World} {va vq : Value} (h : InT G w3 W va vq) (o : Obj) : InT G w3 (W.alloc o) va vq :=
  ⟨h.1.old _, h.2.1.alloc (Nat.le_of_lt h.2.2) _, by have := h.2.2; simp; omega⟩
theorem InT.below {G : Nat} {w3 W W' : World} {va vq : Value} (h : InT G w3 W va vq) (hb : Below W.heap.size W W') : InT G w3 W' va vq :=
  ⟨h.1.below hb, h.2.1.trans (hb.mono (Nat.le_of_lt h.2.2)), Nat.lt_of_lt_of_le h.2.2 hb.size⟩
theorem InT.drewT {G : Nat} {w3 W : World} {va vq : Value} (h : InT G w3 W va vq) : InT G w3 W.drew va vq := ⟨h.1.drew, h.2.1.drew, h.2.2⟩
theorem InT.grown {G : Nat} {w3 W W' : World} {va vq : Value} {row : Option Nat} (h : InT G w3 W va vq) (hg : W.grownBy W' row) (hr : ∀ k, row = some k → G < k) : InT G w3 W' va vq := by
  obtain ⟨h1, hb, hG⟩ := h
  have e : W'.heap[G]? = W.heap[G]? := hg.block G hG (fun e => by have := hr G e.symm; omega)
  exact ⟨by unfold Blk; rw [e]; exact h1, hb.grown hg (by omega) (fun k hk => by have := hr k hk; omega), by have := hg.size; omega⟩
theorem InT.set0 {G : Nat} {w3 W : World} {va vq : Value} (h : InT G w3 W va vq) (u : Value) : InT G w3 (W.setCell ⟨G, 0, none⟩ u) u vq :=
  ⟨by have := h.1.set 0 u; simpa using this, h.2.1.setCell (Nat.le_refl _) _, by simpa using h.2.2⟩
theorem InT.set1 {G : Nat} {w3 W : World} {va vq : Value} (h : InT G w3 W va vq) (u : Value) : InT G w3 (W.setCell ⟨G, 1, none⟩ u) va u :=
  ⟨by have := h.1.set 1 u; simpa using this, h.2.1.setCell (Nat.le_refl _) _, by simpa using h.2.2⟩
theorem ownsRow_setT {W : World} {base : Nat} {e : TypeId} {size : Nat} {v : Value} {n : Nat} {xs : List Value} {B j : Nat} {u : Value} (h : W.ownsRow base e size v n xs) (hB : B < base) : (W.setCell ⟨B, j, none⟩ u).ownsRow base e size v n xs := by
  obtain ⟨h1, h2⟩ := h
  refine ⟨h1, ?_⟩
  rcases h2 with h2 | ⟨g, cap, cur, hv, hg, hh, r⟩
  · exact .inl h2
  · refine .inr ⟨g, cap, cur, hv, hg, ?_, r⟩
    rw [Below.heap_setCell _ _ _ _ (show g ≠ B by omega)]; exact hh
theorem ownsRow_belowT {W W' : World} {base : Nat} {e : TypeId} {size : Nat} {v : Value} {n : Nat} {xs : List Value} (h : W.ownsRow base e size v n xs) (hb : Below W.heap.size W W') : W'.ownsRow base e size v n xs := by
  obtain ⟨h1, h2⟩ := h
  refine ⟨h1, ?_⟩
  rcases h2 with h2 | ⟨g, cap, cur, hv, hg, hh, r⟩
  · exact .inl h2
  · refine .inr ⟨g, cap, cur, hv, hg, ?_, r⟩
    rw [hb.block g (Array.getElem?_eq_some_iff.1 hh).1]; exact hh
theorem own_readsI {w : World} {base : Nat} {v : Value} {t : List Int} (h : w.ownsRow base 3 1 v t.length (t.map (Value.int .i64))) (hm : t.length ≤ 9223372036854775807) : Reads w v t := by
  rcases h.2 with ⟨rfl, h0⟩ | ⟨g, cap, cur, rfl, hg, hh, hc, _⟩
  · exact Or.inl ⟨_, _, rfl, List.eq_nil_of_length_eq_zero h0⟩
  · rcases Nat.eq_zero_or_pos t.length with h0 | h0
    · exact Or.inl ⟨_, cap, by rw [h0], List.eq_nil_of_length_eq_zero h0⟩
    · refine Or.inr ⟨g, 0, cap, rfl, (Array.getElem?_eq_some_iff.1 hh).1, h0, ⟨hm, hc⟩, fun k hk => ?_⟩
      rw [Nat.zero_add, h.cellAt k (by omega)]
      simp [List.getElem?_eq_getElem hk]
theorem row_at {w : World} {base : Nat} {e : TypeId} {size : Nat} {v : Value} {n : Nat} {xs : List Value} (h : w.ownsRow base e size v n xs) : ∀ k, v.ownBlock = some k → base ≤ k ∧ k < w.heap.size := by
  intro k hk
  rcases h.2 with ⟨rfl, _⟩ | ⟨g, cap, cur, rfl, hg, hh, _⟩
  · cases hk
  · have e : g = k := Option.some.inj hk
    exact ⟨by omega, by have := (Array.getElem?_eq_some_iff.1 hh).1; omega⟩
/-- what reads from a place behind K is as it was where nothing but a row and a place before K have turned. -/
theorem Reads.grownN {W W' : World} {K : Nat} {v : Value} {t : List Int} {row : Option Nat} (h : Reads W v t) (hn : NewV K v) (hg : W.grownBy W' row) (hr : ∀ k, row = some k → ∀ ao n c p, v = .slice ao n c → ao = some p → p.block ≠ k) : Reads W' v t := by
  obtain ⟨ao, n, c, rfl, _⟩ := hn
  rcases h with h | ⟨b, off, cap, hv, h2, h3, h4, h5⟩
  · exact Or.inl h
  · obtain ⟨h1, _, _⟩ := Value.slice.inj hv
    have e : W'.heap[b]? = W.heap[b]? := hg.block b h2 fun e => hr b e.symm ao n c ⟨b, off, none⟩ rfl h1 rfl
    exact Or.inr ⟨b, off, cap, hv, Nat.lt_of_lt_of_le h2 hg.size, h3, h4, fun k hk => by rw [World.cell?_of_block (w := W) (a := ⟨b, off + k, none⟩) e]; exact h5 k hk⟩
theorem own_slice {w : World} {base : Nat} {e : TypeId} {size : Nat} {v : Value} {n : Nat} {xs : List Value} (h : w.ownsRow base e size v n xs) : ∃ ao m c, v = .slice ao m c := by
  rcases h.2 with ⟨rfl, _⟩ | ⟨g, cap, cur, rfl, _⟩
  · exact ⟨_, _, _, rfl⟩
  · exact ⟨_, _, _, rfl⟩
/-- a row lies elsewhere than another one. -/
def Apart (v : Value) (t : List Int) (va : Value) : Prop := ∀ k, va.ownBlock = some k → 0 < t.length → ∀ b off n c, v = .slice (some ⟨b, off, none⟩) n c → b ≠ k
theorem Reads.keptT {W W' : World} {v va : Value} {t : List Int} (h : Reads W v t) (hg : W.grownBy W' va.ownBlock) (hr : Apart v t va) : Reads W' v t := by
  rcases h with h | ⟨b, off, cap, rfl, h2, h3, h4, h5⟩
  · exact Or.inl h
  · have e : W'.heap[b]? = W.heap[b]? := hg.block b h2 fun e => hr b e.symm h3 b off _ _ rfl rfl
    exact Or.inr ⟨b, off, cap, rfl, Nat.lt_of_lt_of_le h2 hg.size, h3, h4, fun k hk => by rw [World.cell?_of_block (w := W) (a := ⟨b, off + k, none⟩) e]; exact h5 k hk⟩
theorem Reads.lt {W : World} {v : Value} {t : List Int} (h : Reads W v t) (h0 : 0 < t.length) : ∀ b off n c, v = .slice (some ⟨b, off, none⟩) n c → b < W.heap.size := by
  intro b off n c hv
  rcases h with ⟨_, _, _, rfl⟩ | ⟨b', off', cap, hv', h2, _⟩
  · simp at h0
  · rw [hv] at hv'
    obtain ⟨h1, _, _⟩ := Value.slice.inj hv'
    obtain ⟨rfl, _, _⟩ := Addr.mk.inj (Option.some.inj h1)
    exact h2
theorem Apart.more {W : World} {v va va' : Value} {t : List Int} {H : Nat} (h : Apart v t va) (hR : Reads W v t) (hH : W.heap.size ≤ H) (hat : va'.ownBlock = va.ownBlock ∨ va'.ownBlock = some H) : Apart v t va' := by
  intro k hk h0 b off n c hv
  rcases hat with e | e
  · exact h k (by rw [← e]; exact hk) h0 b off n c hv
  · have := hR.lt h0 b off n c hv
    have e2 : H = k := Option.some.inj (e.symm.trans hk)
    omega
theorem Apart.new {v va : Value} {t : List Int} {K : Nat} (hn : NewV K v) (hk : ∀ k, va.ownBlock = some k → k < K) : Apart v t va := by
  intro k h1 _ b off n c hv
  obtain ⟨ao, m, d, rfl, h⟩ := hn
  obtain ⟨e, _, _⟩ := Value.slice.inj hv
  have := h _ e
  have := hk k h1
  have : K ≤ b := by assumption
  omega
theorem apart_nil (v : Value) : v.ownBlock = none ∨ v.ownBlock ≠ (Value.slice none 0 0).ownBlock := by
  cases v.ownBlock with
  | none => exact Or.inl rfl
  | some b => exact Or.inr (by simp [Value.ownBlock])
/-- the four values of an atom in a row, and where its terms lie. -/
def AtT (K : Nat) (w : World) (xs : List Value) (i : Nat) (a : At) (va : Value) : Prop :=
  ∃ vs vt, (xs[i * 4]? = some (.int .i64 a.k) ∧ xs[i * 4 + 1]? = some vs ∧ xs[i * 4 + 2]? = some vt ∧ xs[i * 4 + 3]? = some (.int .i64 a.n)) ∧ (Reads w vs a.s ∧ NewV K vs ∧ Apart vs a.s va) ∧ (Reads w vt a.t ∧ NewV K vt ∧ Apart vt a.t va)
theorem AtT.to {K : Nat} {w : World} {xs : List Value} {i : Nat} {a : At} {va : Value} (h : AtT K w xs i a va) : AtomV w xs i a := by
  obtain ⟨vs, vt, ⟨e1, e2, e3, e4⟩, ⟨f1, _⟩, f2, _⟩ := h
  exact ⟨vs, vt, e1, e2, e3, e4, f1, f2⟩
theorem AtT.below {K : Nat} {w w' : World} {xs : List Value} {i : Nat} {a : At} {va : Value} (h : AtT K w xs i a va) (hb : Below w.heap.size w w') : AtT K w' xs i a va := by
  obtain ⟨vs, vt, e, ⟨f1, f2, f3⟩, g1, g2, g3⟩ := h
  exact ⟨vs, vt, e, ⟨f1.below hb, f2, f3⟩, g1.below hb, g2, g3⟩
/-! signs, one by one -/
theorem signs_more {L : List (List UInt8)} {c : List Int} {l : List UInt8} {s : Int} (h : signsN L = some c) (hs : signN l = some s) : signsN (L ++ [l]) = some (c ++ [s]) := by
  induction L generalizing c with
  | nil => cases h; simp [signsN, hs]
  | cons x L ih =>
    unfold signsN at h
    cases h1 : signN x with
    | none => rw [h1] at h; cases h
    | some a =>
      cases h2 : signsN L with
      | none => rw [h1, h2] at h; cases h
      | some t =>
        rw [h1, h2] at h
        cases h
        rw [List.cons_append]
        unfold signsN
        rw [h1, ih h2]
        rfl
theorem signs_stop {L : List (List UInt8)} {l : List UInt8} (hm : l ∈ L) (hs : signN l = none) : signsN L = none := by
  induction L with
  | nil => cases hm
  | cons x L ih =>
    unfold signsN
    rcases List.mem_cons.1 hm with rfl | hm
    · rw [hs]
    · rw [ih hm]; cases signN x <;> rfl
theorem words_more {W : List (List UInt8)} {j : Nat} (h1 : 1 ≤ j) (h2 : j < W.length) : (W.take (j + 1)).drop 1 = (W.take j).drop 1 ++ [W.getD j []] := by
  rw [List.take_succ_eq_append_getElem h2, List.drop_append_of_le_length (by rw [List.length_take]; omega), List.getD_eq_getElem?_getD, List.getElem?_eq_getElem h2]
  rfl
theorem linesFault_cons (l : List UInt8) (r : List (List UInt8)) : linesFault (l :: r) = if lineFault l = 0 then linesFault r else lineFault l := rfl
theorem lines_more {L : List (List UInt8)} {l : List UInt8} (h : linesFault L = 0) : linesFault (L ++ [l]) = lineFault l := by
  induction L with
  | nil => show (if lineFault l = 0 then 0 else lineFault l) = lineFault l; split <;> simp_all
  | cons x L ih =>
    unfold linesFault at h
    by_cases hx : lineFault x = 0
    · rw [if_pos hx] at h
      rw [List.cons_append]
      unfold linesFault
      rw [if_pos hx, ih h]
    · rw [if_neg hx] at h; exact absurd h hx
theorem lines_stop {L : List (List UInt8)} {k : Nat} (hk : k < L.length) (h : linesFault (L.take k) = 0) (hl : ¬ lineFault (L.getD k []) = 0) : linesFault L = lineFault (L.getD k []) := by
  induction L generalizing k with
  | nil => simp at hk
  | cons x L ih =>
    cases k with
    | zero => show (if lineFault x = 0 then _ else lineFault x) = lineFault x; exact if_neg hl
    | succ k =>
      rw [List.take_succ_cons, linesFault_cons] at h
      rw [linesFault_cons]
      by_cases hx : lineFault x = 0
      · rw [if_pos hx] at h ⊢
        exact ih (by simpa using hk) h hl
      · rw [if_neg hx] at h; exact absurd h hx
end Go.Proofs.YtfnkbbpjfjendaiGreatDoor
