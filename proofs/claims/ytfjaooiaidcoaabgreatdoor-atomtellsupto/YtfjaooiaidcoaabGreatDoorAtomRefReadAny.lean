/-
  Proved: what vennref1.ReadAtom returns, of any text of at most 1048576 bytes; what was in memory is as it was (a contract that the statements lean on).
-/
import Derived.Test.YtfjaooiaidcoaabGreatDoorAtomRefRead1
import Derived.Test.YtfjaooiaidcoaabGreatDoorAtomRefRead2
import Derived.Test.YtfjaooiaidcoaabGreatDoorAtomRefRead3
import Derived.Test.YtfjaooiaidcoaabGreatDoorAtomRefRead4
import Derived.Test.YtfjaooiaidcoaabGreatDoorAtomRefRead5
import Derived.Test.YtfjaooiaidcoaabGreatDoorAtomParseAny
namespace Go.Proofs.YtfjaooiaidcoaabGreatDoor
open Go.ChangeShapes Go.WideShapes Go.ChangeAt Go.RowKit
set_option maxRecDepth 100000

/-- what the reference answers of words. -/
def AnswersR (ws : List (List UInt8)) (w : World) (e : Ending) (w' : World) : Prop :=
  ∃ a, e = .returned (.tuple #[a, .int .i64 (wordsFault ws)]) ∧ (wordsFault ws = 0 → ∃ v0 v1, a = .agg #[.int .i64 (wordsKind ws), v0, v1, .int .i64 (wordsN (wordsKind ws) ws)] ∧ Reads w' v0 (wordsS ws) ∧ Reads w' v1 (wordsT (wordsKind ws) ws)) ∧ (¬ wordsFault ws = 0 → a = .agg #[.int .i64 0, .slice none 0 0, .slice none 0 0, .int .i64 0]) ∧ Below w.heap.size w w'
theorem answersR_bad {ws : List (List UInt8)} {w : World} {e : Ending} {w' : World} {F : Int} (hF : wordsFault ws = F) (h0 : ¬ F = 0) (h : e = .returned (.tuple #[.agg #[.int .i64 0, .slice none 0 0, .slice none 0 0, .int .i64 0], .int .i64 F]) ∧ Below w.heap.size w w') : AnswersR ws w e w' :=
  ⟨_, by rw [hF]; exact h.1, fun h' => absurd (hF.symm.trans h') h0, fun _ => rfl, h.2⟩
theorem q_no {l m : List UInt8} (h : ¬ l = m) : ((strOf l).toList == m) = false := by
  rw [Lib.toList_data, strOf_list]
  simpa using h
theorem q_yes (l : List UInt8) : ((strOf l).toList == l) = true := by
  rw [Lib.toList_data, strOf_list]
  simp

theorem readAtom_k1 (s : ByteArray) (l1 l2 : List UInt8) (w : World) (z1 : l1.length ≤ 1048576) (z2 : l2.length ≤ 1048576)
    (hC : ∀ W, Below w.heap.size w W → Calls Tryz.prog 31 #[.string s, .int .u8 32] W fun e w' => ∃ v, e = .returned v ∧ ReadsS w' v [[115, 117, 98], l1, l2] ∧ Below W.heap.size W w') :
    Calls Tryz.prog 13 #[.string s] w (AnswersR [[115, 117, 98], l1, l2] w) := by
  have hw : wordsKind [[115, 117, 98], l1, l2] = 1 := rfl
  have hF : wordsFault [[115, 117, 98], l1, l2] = if partsBad 1 [[115, 117, 98], l1, l2] = true then 2 else atomFault 1 (readN l1) (readN l2) 0 := by
    unfold wordsFault; rw [hw, if_neg (by decide)]; rfl
  have hP : partsBad 1 [[115, 117, 98], l1, l2] = (!lettersB l1 || !lettersB l2 || false) := rfl
  cases b1 : lettersB l1 with
  | false => exact (readAtom_1_s s _ [115, 117, 98] l1 l2 w rfl  (q_yes _) z1 z2 b1 hC).mono fun e w' h => answersR_bad (by rw [hF, if_pos]; rw [hP, b1]; simp) (by decide) h
  | true =>
    cases b2 : lettersB l2 with
    | false => exact (readAtom_1_t s _ [115, 117, 98] l1 l2 w rfl  (q_yes _) z1 z2 b1 b2 hC).mono fun e w' h => answersR_bad (by rw [hF, if_pos]; rw [hP, b1, b2]; simp) (by decide) h
    | true =>
      have hp : ¬ partsBad 1 [[115, 117, 98], l1, l2] = true := by rw [hP, b1, b2]; simp
      rw [if_neg hp] at hF
      by_cases hA : atomFault 1 (readN l1) (readN l2) 0 = 0
      · refine (readAtom_1_g s _ [115, 117, 98] l1 l2 w rfl  (q_yes _) z1 z2 b1 b2 hA hC).mono ?_
        rintro e w' ⟨⟨v0, v1, he, r0, r1⟩, hb⟩
        exact ⟨_, by rw [hF, hA]; exact he, fun _ => ⟨v0, v1, by rw [hw]; rfl, r0, by rw [hw]; exact r1⟩, fun h' => absurd (hF.trans hA) h', hb⟩
      · exact (readAtom_1_f s _ [115, 117, 98] l1 l2 w rfl  (q_yes _) z1 z2 b1 b2 hA hC).mono fun e w' h => answersR_bad hF hA h

theorem readAtom_k2 (s : ByteArray) (l1 l2 : List UInt8) (w : World) (z1 : l1.length ≤ 1048576) (z2 : l2.length ≤ 1048576)
    (hC : ∀ W, Below w.heap.size w W → Calls Tryz.prog 31 #[.string s, .int .u8 32] W fun e w' => ∃ v, e = .returned v ∧ ReadsS w' v [[115, 97, 109, 101], l1, l2] ∧ Below W.heap.size W w') :
    Calls Tryz.prog 13 #[.string s] w (AnswersR [[115, 97, 109, 101], l1, l2] w) := by
  have hw : wordsKind [[115, 97, 109, 101], l1, l2] = 2 := rfl
  have hF : wordsFault [[115, 97, 109, 101], l1, l2] = if partsBad 2 [[115, 97, 109, 101], l1, l2] = true then 2 else atomFault 2 (readN l1) (readN l2) 0 := by
    unfold wordsFault; rw [hw, if_neg (by decide)]; rfl
  have hP : partsBad 2 [[115, 97, 109, 101], l1, l2] = (!lettersB l1 || !lettersB l2 || false) := rfl
  cases b1 : lettersB l1 with
  | false => exact (readAtom_2_s s _ [115, 97, 109, 101] l1 l2 w rfl (q_no (by decide)) (q_yes _) z1 z2 b1 hC).mono fun e w' h => answersR_bad (by rw [hF, if_pos]; rw [hP, b1]; simp) (by decide) h
  | true =>
    cases b2 : lettersB l2 with
    | false => exact (readAtom_2_t s _ [115, 97, 109, 101] l1 l2 w rfl (q_no (by decide)) (q_yes _) z1 z2 b1 b2 hC).mono fun e w' h => answersR_bad (by rw [hF, if_pos]; rw [hP, b1, b2]; simp) (by decide) h
    | true =>
      have hp : ¬ partsBad 2 [[115, 97, 109, 101], l1, l2] = true := by rw [hP, b1, b2]; simp
      rw [if_neg hp] at hF
      by_cases hA : atomFault 2 (readN l1) (readN l2) 0 = 0
      · refine (readAtom_2_g s _ [115, 97, 109, 101] l1 l2 w rfl (q_no (by decide)) (q_yes _) z1 z2 b1 b2 hA hC).mono ?_
        rintro e w' ⟨⟨v0, v1, he, r0, r1⟩, hb⟩
        exact ⟨_, by rw [hF, hA]; exact he, fun _ => ⟨v0, v1, by rw [hw]; rfl, r0, by rw [hw]; exact r1⟩, fun h' => absurd (hF.trans hA) h', hb⟩
      · exact (readAtom_2_f s _ [115, 97, 109, 101] l1 l2 w rfl (q_no (by decide)) (q_yes _) z1 z2 b1 b2 hA hC).mono fun e w' h => answersR_bad hF hA h

theorem readAtom_k3 (s : ByteArray) (l1 l2 : List UInt8) (w : World) (z1 : l1.length ≤ 1048576) (z2 : l2.length ≤ 1048576)
    (hC : ∀ W, Below w.heap.size w W → Calls Tryz.prog 31 #[.string s, .int .u8 32] W fun e w' => ∃ v, e = .returned v ∧ ReadsS w' v [[108, 101, 97, 115, 116], l1, l2] ∧ Below W.heap.size W w') :
    Calls Tryz.prog 13 #[.string s] w (AnswersR [[108, 101, 97, 115, 116], l1, l2] w) := by
  have hw : wordsKind [[108, 101, 97, 115, 116], l1, l2] = 3 := rfl
  have hF : wordsFault [[108, 101, 97, 115, 116], l1, l2] = if partsBad 3 [[108, 101, 97, 115, 116], l1, l2] = true then 2 else atomFault 3 (readN l1) [] ((numOf l2).getD 0) := by
    unfold wordsFault; rw [hw, if_neg (by decide)]; rfl
  have hP : partsBad 3 [[108, 101, 97, 115, 116], l1, l2] = (!lettersB l1 || false || (numOf l2).isNone) := rfl
  cases b1 : lettersB l1 with
  | false => exact (readAtom_3_s s _ [108, 101, 97, 115, 116] l1 l2 w rfl (q_no (by decide)) (q_no (by decide)) (q_yes _) z1 z2 b1 hC).mono fun e w' h => answersR_bad (by rw [hF, if_pos]; rw [hP, b1]; simp) (by decide) h
  | true =>
    cases bn : (numOf l2).isSome with
    | false => exact (readAtom_3_n s _ [108, 101, 97, 115, 116] l1 l2 w rfl (q_no (by decide)) (q_no (by decide)) (q_yes _) z1 z2 b1 bn hC).mono fun e w' h => answersR_bad (by rw [hF, if_pos]; rw [hP]; have hn : (numOf l2).isNone = true := (by cases h : numOf l2 <;> simp_all); rw [hn]; simp) (by decide) h
    | true =>
      have hp : ¬ partsBad 3 [[108, 101, 97, 115, 116], l1, l2] = true := by have hn : (numOf l2).isNone = false := (by cases h : numOf l2 <;> simp_all); rw [hP, b1, hn]; simp
      rw [if_neg hp] at hF
      by_cases hA : atomFault 3 (readN l1) [] ((numOf l2).getD 0) = 0
      · refine (readAtom_3_g s _ [108, 101, 97, 115, 116] l1 l2 w rfl (q_no (by decide)) (q_no (by decide)) (q_yes _) z1 z2 b1 bn hA hC).mono ?_
        rintro e w' ⟨⟨v0, v1, he, r0, r1⟩, hb⟩
        exact ⟨_, by rw [hF, hA]; exact he, fun _ => ⟨v0, v1, by rw [hw]; rfl, r0, by rw [hw]; exact r1⟩, fun h' => absurd (hF.trans hA) h', hb⟩
      · exact (readAtom_3_f s _ [108, 101, 97, 115, 116] l1 l2 w rfl (q_no (by decide)) (q_no (by decide)) (q_yes _) z1 z2 b1 bn hA hC).mono fun e w' h => answersR_bad hF hA h

theorem readAtom_k4 (s : ByteArray) (l1 l2 : List UInt8) (w : World) (z1 : l1.length ≤ 1048576) (z2 : l2.length ≤ 1048576)
    (hC : ∀ W, Below w.heap.size w W → Calls Tryz.prog 31 #[.string s, .int .u8 32] W fun e w' => ∃ v, e = .returned v ∧ ReadsS w' v [[109, 111, 115, 116], l1, l2] ∧ Below W.heap.size W w') :
    Calls Tryz.prog 13 #[.string s] w (AnswersR [[109, 111, 115, 116], l1, l2] w) := by
  have hw : wordsKind [[109, 111, 115, 116], l1, l2] = 4 := rfl
  have hF : wordsFault [[109, 111, 115, 116], l1, l2] = if partsBad 4 [[109, 111, 115, 116], l1, l2] = true then 2 else atomFault 4 (readN l1) [] ((numOf l2).getD 0) := by
    unfold wordsFault; rw [hw, if_neg (by decide)]; rfl
  have hP : partsBad 4 [[109, 111, 115, 116], l1, l2] = (!lettersB l1 || false || (numOf l2).isNone) := rfl
  cases b1 : lettersB l1 with
  | false => exact (readAtom_4_s s _ [109, 111, 115, 116] l1 l2 w rfl (q_no (by decide)) (q_no (by decide)) (q_no (by decide)) (q_yes _) z1 z2 b1 hC).mono fun e w' h => answersR_bad (by rw [hF, if_pos]; rw [hP, b1]; simp) (by decide) h
  | true =>
    cases bn : (numOf l2).isSome with
    | false => exact (readAtom_4_n s _ [109, 111, 115, 116] l1 l2 w rfl (q_no (by decide)) (q_no (by decide)) (q_no (by decide)) (q_yes _) z1 z2 b1 bn hC).mono fun e w' h => answersR_bad (by rw [hF, if_pos]; rw [hP]; have hn : (numOf l2).isNone = true := (by cases h : numOf l2 <;> simp_all); rw [hn]; simp) (by decide) h
    | true =>
      have hp : ¬ partsBad 4 [[109, 111, 115, 116], l1, l2] = true := by have hn : (numOf l2).isNone = false := (by cases h : numOf l2 <;> simp_all); rw [hP, b1, hn]; simp
      rw [if_neg hp] at hF
      by_cases hA : atomFault 4 (readN l1) [] ((numOf l2).getD 0) = 0
      · refine (readAtom_4_g s _ [109, 111, 115, 116] l1 l2 w rfl (q_no (by decide)) (q_no (by decide)) (q_no (by decide)) (q_yes _) z1 z2 b1 bn hA hC).mono ?_
        rintro e w' ⟨⟨v0, v1, he, r0, r1⟩, hb⟩
        exact ⟨_, by rw [hF, hA]; exact he, fun _ => ⟨v0, v1, by rw [hw]; rfl, r0, by rw [hw]; exact r1⟩, fun h' => absurd (hF.trans hA) h', hb⟩
      · exact (readAtom_4_f s _ [109, 111, 115, 116] l1 l2 w rfl (q_no (by decide)) (q_no (by decide)) (q_no (by decide)) (q_yes _) z1 z2 b1 bn hA hC).mono fun e w' h => answersR_bad hF hA h

theorem readAtom_k5 (s : ByteArray) (l1 l2 l3 : List UInt8) (w : World) (z1 : l1.length ≤ 1048576) (z2 : l2.length ≤ 1048576) (z3 : l3.length ≤ 1048576)
    (hC : ∀ W, Below w.heap.size w W → Calls Tryz.prog 31 #[.string s, .int .u8 32] W fun e w' => ∃ v, e = .returned v ∧ ReadsS w' v [[110, 111, 109, 111, 114, 101], l1, l2, l3] ∧ Below W.heap.size W w') :
    Calls Tryz.prog 13 #[.string s] w (AnswersR [[110, 111, 109, 111, 114, 101], l1, l2, l3] w) := by
  have hw : wordsKind [[110, 111, 109, 111, 114, 101], l1, l2, l3] = 5 := rfl
  have hF : wordsFault [[110, 111, 109, 111, 114, 101], l1, l2, l3] = if partsBad 5 [[110, 111, 109, 111, 114, 101], l1, l2, l3] = true then 2 else atomFault 5 (readN l1) (readN l2) ((numOf l3).getD 0) := by
    unfold wordsFault; rw [hw, if_neg (by decide)]; rfl
  have hP : partsBad 5 [[110, 111, 109, 111, 114, 101], l1, l2, l3] = (!lettersB l1 || !lettersB l2 || (numOf l3).isNone) := rfl
  cases b1 : lettersB l1 with
  | false => exact (readAtom_5_s s _ [110, 111, 109, 111, 114, 101] l1 l2 l3 w rfl (q_no (by decide)) (q_no (by decide)) (q_no (by decide)) (q_no (by decide)) (q_yes _) z1 z2 z3 b1 hC).mono fun e w' h => answersR_bad (by rw [hF, if_pos]; rw [hP, b1]; simp) (by decide) h
  | true =>
    cases b2 : lettersB l2 with
    | false => exact (readAtom_5_t s _ [110, 111, 109, 111, 114, 101] l1 l2 l3 w rfl (q_no (by decide)) (q_no (by decide)) (q_no (by decide)) (q_no (by decide)) (q_yes _) z1 z2 z3 b1 b2 hC).mono fun e w' h => answersR_bad (by rw [hF, if_pos]; rw [hP, b1, b2]; simp) (by decide) h
    | true =>
      cases bn : (numOf l3).isSome with
      | false => exact (readAtom_5_n s _ [110, 111, 109, 111, 114, 101] l1 l2 l3 w rfl (q_no (by decide)) (q_no (by decide)) (q_no (by decide)) (q_no (by decide)) (q_yes _) z1 z2 z3 b1 b2 bn hC).mono fun e w' h => answersR_bad (by rw [hF, if_pos]; rw [hP]; have hn : (numOf l3).isNone = true := (by cases h : numOf l3 <;> simp_all); rw [hn]; simp) (by decide) h
      | true =>
        have hp : ¬ partsBad 5 [[110, 111, 109, 111, 114, 101], l1, l2, l3] = true := by have hn : (numOf l3).isNone = false := (by cases h : numOf l3 <;> simp_all); rw [hP, b1, b2, hn]; simp
        rw [if_neg hp] at hF
        by_cases hA : atomFault 5 (readN l1) (readN l2) ((numOf l3).getD 0) = 0
        · refine (readAtom_5_g s _ [110, 111, 109, 111, 114, 101] l1 l2 l3 w rfl (q_no (by decide)) (q_no (by decide)) (q_no (by decide)) (q_no (by decide)) (q_yes _) z1 z2 z3 b1 b2 bn hA hC).mono ?_
          rintro e w' ⟨⟨v0, v1, he, r0, r1⟩, hb⟩
          exact ⟨_, by rw [hF, hA]; exact he, fun _ => ⟨v0, v1, by rw [hw]; rfl, r0, by rw [hw]; exact r1⟩, fun h' => absurd (hF.trans hA) h', hb⟩
        · exact (readAtom_5_f s _ [110, 111, 109, 111, 114, 101] l1 l2 l3 w rfl (q_no (by decide)) (q_no (by decide)) (q_no (by decide)) (q_no (by decide)) (q_yes _) z1 z2 z3 b1 b2 bn hA hC).mono fun e w' h => answersR_bad hF hA h

theorem readAtom_words (s : ByteArray) (ws : List (List UInt8)) (w : World) (h0 : 0 < ws.length) (hlen : ∀ x, x ∈ ws → x.length ≤ 1048576)
    (hC : ∀ W, Below w.heap.size w W → Calls Tryz.prog 31 #[.string s, .int .u8 32] W fun e w' => ∃ v, e = .returned v ∧ ReadsS w' v ws ∧ Below W.heap.size W w') :
    Calls Tryz.prog 13 #[.string s] w (AnswersR ws w) := by
  have hk : ∀ x, ws.getD 0 [] = x → wordsKind ws = if ws.length = manyN (kindOfN x) then kindOfN x else 0 := by
    intro x hx; unfold wordsKind; rw [hx]
  have hzero : wordsKind ws = 0 → wordsFault ws = 2 := fun h => by unfold wordsFault; rw [if_pos h]
  by_cases x1 : ws.getD 0 [] = [115, 117, 98]
  · have e := hk _ x1
    rw [show manyN (kindOfN [115, 117, 98]) = 3 by decide, show kindOfN [115, 117, 98] = 1 by decide] at e
    by_cases hl : ws.length = 3
    · obtain ⟨l1, l2, rfl⟩ : ∃ l1 l2, ws = [[115, 117, 98], l1, l2] := by
        match ws, hl, x1 with
        | [a, b, c], _, h => exact ⟨b, c, by rw [← (show a = [115, 117, 98] from h)]⟩
      exact readAtom_k1 s l1 l2 w (hlen l1 (by simp)) (hlen l2 (by simp)) hC
    · rw [if_neg hl] at e
      exact (readAtom_1_c s _ ws w h0 rfl  (by rw [x1]; exact q_yes _) hl hC).mono fun _ _ h => answersR_bad (hzero e) (by decide) h
  by_cases x2 : ws.getD 0 [] = [115, 97, 109, 101]
  · have e := hk _ x2
    rw [show manyN (kindOfN [115, 97, 109, 101]) = 3 by decide, show kindOfN [115, 97, 109, 101] = 2 by decide] at e
    by_cases hl : ws.length = 3
    · obtain ⟨l1, l2, rfl⟩ : ∃ l1 l2, ws = [[115, 97, 109, 101], l1, l2] := by
        match ws, hl, x2 with
        | [a, b, c], _, h => exact ⟨b, c, by rw [← (show a = [115, 97, 109, 101] from h)]⟩
      exact readAtom_k2 s l1 l2 w (hlen l1 (by simp)) (hlen l2 (by simp)) hC
    · rw [if_neg hl] at e
      exact (readAtom_2_c s _ ws w h0 rfl (by rw [x2]; exact q_no (by decide)) (by rw [x2]; exact q_yes _) hl hC).mono fun _ _ h => answersR_bad (hzero e) (by decide) h
  by_cases x3 : ws.getD 0 [] = [108, 101, 97, 115, 116]
  · have e := hk _ x3
    rw [show manyN (kindOfN [108, 101, 97, 115, 116]) = 3 by decide, show kindOfN [108, 101, 97, 115, 116] = 3 by decide] at e
    by_cases hl : ws.length = 3
    · obtain ⟨l1, l2, rfl⟩ : ∃ l1 l2, ws = [[108, 101, 97, 115, 116], l1, l2] := by
        match ws, hl, x3 with
        | [a, b, c], _, h => exact ⟨b, c, by rw [← (show a = [108, 101, 97, 115, 116] from h)]⟩
      exact readAtom_k3 s l1 l2 w (hlen l1 (by simp)) (hlen l2 (by simp)) hC
    · rw [if_neg hl] at e
      exact (readAtom_3_c s _ ws w h0 rfl (by rw [x3]; exact q_no (by decide)) (by rw [x3]; exact q_no (by decide)) (by rw [x3]; exact q_yes _) hl hC).mono fun _ _ h => answersR_bad (hzero e) (by decide) h
  by_cases x4 : ws.getD 0 [] = [109, 111, 115, 116]
  · have e := hk _ x4
    rw [show manyN (kindOfN [109, 111, 115, 116]) = 3 by decide, show kindOfN [109, 111, 115, 116] = 4 by decide] at e
    by_cases hl : ws.length = 3
    · obtain ⟨l1, l2, rfl⟩ : ∃ l1 l2, ws = [[109, 111, 115, 116], l1, l2] := by
        match ws, hl, x4 with
        | [a, b, c], _, h => exact ⟨b, c, by rw [← (show a = [109, 111, 115, 116] from h)]⟩
      exact readAtom_k4 s l1 l2 w (hlen l1 (by simp)) (hlen l2 (by simp)) hC
    · rw [if_neg hl] at e
      exact (readAtom_4_c s _ ws w h0 rfl (by rw [x4]; exact q_no (by decide)) (by rw [x4]; exact q_no (by decide)) (by rw [x4]; exact q_no (by decide)) (by rw [x4]; exact q_yes _) hl hC).mono fun _ _ h => answersR_bad (hzero e) (by decide) h
  by_cases x5 : ws.getD 0 [] = [110, 111, 109, 111, 114, 101]
  · have e := hk _ x5
    rw [show manyN (kindOfN [110, 111, 109, 111, 114, 101]) = 4 by decide, show kindOfN [110, 111, 109, 111, 114, 101] = 5 by decide] at e
    by_cases hl : ws.length = 4
    · obtain ⟨l1, l2, l3, rfl⟩ : ∃ l1 l2 l3, ws = [[110, 111, 109, 111, 114, 101], l1, l2, l3] := by
        match ws, hl, x5 with
        | [a, b, c, d], _, h => exact ⟨b, c, d, by rw [← (show a = [110, 111, 109, 111, 114, 101] from h)]⟩
      exact readAtom_k5 s l1 l2 l3 w (hlen l1 (by simp)) (hlen l2 (by simp)) (hlen l3 (by simp)) hC
    · rw [if_neg hl] at e
      exact (readAtom_5_c s _ ws w h0 rfl (by rw [x5]; exact q_no (by decide)) (by rw [x5]; exact q_no (by decide)) (by rw [x5]; exact q_no (by decide)) (by rw [x5]; exact q_no (by decide)) (by rw [x5]; exact q_yes _) hl hC).mono fun _ _ h => answersR_bad (hzero e) (by decide) h
  have e : wordsKind ws = 0 := by
    have e0 : kindOfN (ws.getD 0 []) = 0 := by unfold kindOfN; rw [if_neg x1, if_neg x2, if_neg x3, if_neg x4, if_neg x5]
    unfold wordsKind
    rw [e0]
    split <;> rfl
  exact (readAtom_none s _ ws w h0 rfl (q_no x1) (q_no x2) (q_no x3) (q_no x4) (q_no x5) hC).mono fun _ _ h => answersR_bad (hzero e) (by decide) h

/-- ReadAtom, of any text. -/
theorem readAtom_any (s : ByteArray) (hz : s.size ≤ 1048576) (w : World) :
    Calls Tryz.prog 13 #[.string s] w (AnswersR (cutL s.data.toList) w) := by
  refine readAtom_words s _ w (splitL_pos _ _) (fun x hx => ?_) (fun W _ => refCut_any s hz W)
  have h1 := splitL_len hx
  have h2 : s.data.toList.length = s.size := Array.length_toList
  omega
end Go.Proofs.YtfjaooiaidcoaabGreatDoor
