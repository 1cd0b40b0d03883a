/-
  Facts and contracts that the statement leans on.
-/
import Derived.Test.YtnoohlibgaeklaaGreatDoorLibQ15
import Derived.Deep.CutBlock
import Derived.Test.YtnoohlibgaeklaaGreatDoorLibQ9
import Derived.Test.YtnoohlibgaeklaaGreatDoorLibQ13
namespace Go.Proofs.YtnoohlibgaeklaaGreatDoor
open Go.ChangeShapes Go.WideShapes Go.ChangeAt Go.RowKit
set_option maxRecDepth 100000
set_option maxHeartbeats 16000000
theorem wordsKind_range (ws : List (List UInt8)) : wordsKind ws = 0 ∨ ((1 ≤ wordsKind ws ∧ wordsKind ws ≤ 5) ∧ ws.length = manyN (wordsKind ws)) := by
 unfold wordsKind
 have h : 0 ≤ kindOfN (ws.getD 0 []) ∧ kindOfN (ws.getD 0 []) ≤ 5 := by unfold kindOfN; repeat' split <;> omega
 by_cases hl : ws.length = manyN (kindOfN (ws.getD 0 []))
 ·rw [if_pos hl]
  by_cases h0 : kindOfN (ws.getD 0 []) = 0
  ·exact Or.inl h0
  ·exact Or.inr ⟨by omega, hl⟩
 ·rw [if_neg hl]; exact Or.inl rfl
theorem aparse_new (s : ByteArray) (hz : s.size ≤ 9223372036854775806) (w : World) (hK : KindsLaid w) (hL : LibLaid w) :
    Calls Tryz.prog 61 #[.string s] w (AnswersW (seen s) w) := by
 have hSp := fun (W : World) (_ : Bw w W) => split_any s hz W
 have hKo := fun (W : World) (v : Value) (h : Bw w W) (hR : ReadsS W v (seen s)) => kindOf_any (seen s) v W (hK.below h) hR (splitL_pos _ _)
 have hlen : ∀ x, x ∈ seen s → x.length ≤ 9223372036854775807 := fun x hx => by
  have h1 := splitL_len hx
  have h2 : s.data.toList.length = s.size := Array.length_toList
  omega
 have hSp' : ∀ W, Bw w W → Calls Tryz.prog 88 #[.string s, .string ⟨#[32]⟩, .int .i64 5] W fun e w' => ∃ v, e = .returned v ∧ ReadsS w' v (seen s) ∧ Bw W w' := hSp
 clear hSp
 obtain ⟨ws, hws⟩ := nm (seen s)
 rw [← hws] at hSp' hKo hlen ⊢
 clear hws
 rcases wordsKind_range ws with h0 | ⟨hk, hl⟩
 ·rw [h0] at hKo
  have hF : wordsFault ws = 2 := by unfold wordsFault; rw [if_pos h0]
  exact (aparse_zero s ws w hSp' hKo).mono fun e w' h => answers_bad hF (by decide) h
 ·obtain ⟨k, hkk⟩ := nm (wordsKind ws)
  rw [← hkk] at hKo hk hl
  rcases five hk.1 hk.2 with rfl | rfl | rfl | rfl | rfl
  ·obtain ⟨l0, l1, l2, rfl⟩ : ∃ l0 l1 l2, ws = [l0, l1, l2] := by
    match ws, hl with
    | [a, b, c], _ => exact ⟨a, b, c, rfl⟩
   exact aparse_two 1 (by omega) s l0 l1 l2 hkk.symm w hK hL (hlen l1 (by simp)) (hlen l2 (by simp)) hSp' hKo
  ·obtain ⟨l0, l1, l2, rfl⟩ : ∃ l0 l1 l2, ws = [l0, l1, l2] := by
    match ws, hl with
    | [a, b, c], _ => exact ⟨a, b, c, rfl⟩
   exact aparse_two 2 (by omega) s l0 l1 l2 hkk.symm w hK hL (hlen l1 (by simp)) (hlen l2 (by simp)) hSp' hKo
  ·obtain ⟨l0, l1, l2, rfl⟩ : ∃ l0 l1 l2, ws = [l0, l1, l2] := by
    match ws, hl with
    | [a, b, c], _ => exact ⟨a, b, c, rfl⟩
   exact aparse_num 3 (by omega) s l0 l1 l2 hkk.symm w hK hL (hlen l1 (by simp)) (hlen l2 (by simp)) hSp' hKo
  ·obtain ⟨l0, l1, l2, rfl⟩ : ∃ l0 l1 l2, ws = [l0, l1, l2] := by
    match ws, hl with
    | [a, b, c], _ => exact ⟨a, b, c, rfl⟩
   exact aparse_num 4 (by omega) s l0 l1 l2 hkk.symm w hK hL (hlen l1 (by simp)) (hlen l2 (by simp)) hSp' hKo
  ·obtain ⟨l0, l1, l2, l3, rfl⟩ : ∃ l0 l1 l2 l3, ws = [l0, l1, l2, l3] := by
    match ws, hl with
    | [a, b, c, d], _ => exact ⟨a, b, c, d, rfl⟩
   exact aparse_all 5 rfl s l0 l1 l2 l3 hkk.symm w hK hL (hlen l1 (by simp)) (hlen l2 (by simp)) (hlen l3 (by simp)) hSp' hKo
def AnswersR (ws : List (List UInt8)) (w : World) (e : Ending) (w' : World) : Prop :=
 ∃ a, e = .returned (.tuple #[a, .int .i64 (wordsFault ws)]) ∧ (wordsFault ws = 0 → ∃ v0 v1, a = .agg #[.int .i64 (wordsKind ws), v0, v1, .int .i64 (wordsN (wordsKind ws) ws)] ∧ Reads w' v0 (wordsS ws) ∧ Reads w' v1 (wordsT (wordsKind ws) ws)) ∧ (¬ wordsFault ws = 0 → a = .agg #[.int .i64 0, .slice none 0 0, .slice none 0 0, .int .i64 0]) ∧ Bw w w'
def AnswersN (ws : List (List UInt8)) (w : World) (e : Ending) (w' : World) : Prop :=
 ∃ a, e = .returned (.tuple #[a, .int .i64 (wordsFault ws)]) ∧ (wordsFault ws = 0 → ∃ v0 v1, a = .agg #[.int .i64 (wordsKind ws), v0, v1, .int .i64 (wordsN (wordsKind ws) ws)] ∧ Reads w' v0 (wordsS ws) ∧ Reads w' v1 (wordsT (wordsKind ws) ws) ∧ NewV w.heap.size v0 ∧ NewV w.heap.size v1) ∧ (¬ wordsFault ws = 0 → a = .agg #[.int .i64 0, .slice none 0 0, .slice none 0 0, .int .i64 0]) ∧ Bw w w'
theorem answersR_bad {ws : List (List UInt8)} {w : World} {e : Ending} {w' : World} {F : Int} (hF : wordsFault ws = F) (h0 : ¬ F = 0) (h : e = .returned (.tuple #[.agg #[.int .i64 0, .slice none 0 0, .slice none 0 0, .int .i64 0], .int .i64 F]) ∧ Bw w w') : AnswersN ws w e w' :=
 ⟨_, by rw [hF]; exact h.1, fun h' => absurd (hF.symm.trans h') h0, fun _ => rfl, h.2⟩
theorem q_no {l m : List UInt8} (h : ¬ l = m) : ((strOf l).toList == m) = false := by
 rw [Lib.toList_data, strOf_list]
 simpa using h
theorem q_yes (l : List UInt8) : ((strOf l).toList == l) = true := by
 rw [Lib.toList_data, strOf_list]
 simp
theorem word_kind {x : ByteArray} {l : List UInt8} (hx : strOf l = x) {k : Int} (hk : kindOfN l = k) :
    (k = 0 ∧ (x.toList == [115, 117, 98]) = false ∧ (x.toList == [115, 97, 109, 101]) = false ∧ (x.toList == [108, 101, 97, 115, 116]) = false ∧ (x.toList == [109, 111, 115, 116]) = false ∧ (x.toList == [110, 111, 109, 111, 114, 101]) = false) ∨ (k = 1 ∧ (x.toList == [115, 117, 98]) = true) ∨ (k = 2 ∧ (x.toList == [115, 117, 98]) = false ∧ (x.toList == [115, 97, 109, 101]) = true) ∨ (k = 3 ∧ (x.toList == [115, 117, 98]) = false ∧ (x.toList == [115, 97, 109, 101]) = false ∧ (x.toList == [108, 101, 97, 115, 116]) = true) ∨ (k = 4 ∧ (x.toList == [115, 117, 98]) = false ∧ (x.toList == [115, 97, 109, 101]) = false ∧ (x.toList == [108, 101, 97, 115, 116]) = false ∧ (x.toList == [109, 111, 115, 116]) = true) ∨ (k = 5 ∧ (x.toList == [115, 117, 98]) = false ∧ (x.toList == [115, 97, 109, 101]) = false ∧ (x.toList == [108, 101, 97, 115, 116]) = false ∧ (x.toList == [109, 111, 115, 116]) = false ∧ (x.toList == [110, 111, 109, 111, 114, 101]) = true) := by
 subst hx hk
 unfold kindOfN
 repeat' split
 ·rename_i h1
  right; left; exact ⟨rfl, by rw [h1]; exact q_yes _⟩
 ·rename_i h1 h2
  right; right; left; exact ⟨rfl, q_no h1, by rw [h2]; exact q_yes _⟩
 ·rename_i h1 h2 h3
  right; right; right; left; exact ⟨rfl, q_no h1, q_no h2, by rw [h3]; exact q_yes _⟩
 ·rename_i h1 h2 h3 h4
  right; right; right; right; left; exact ⟨rfl, q_no h1, q_no h2, q_no h3, by rw [h4]; exact q_yes _⟩
 ·rename_i h1 h2 h3 h4 h5
  right; right; right; right; right; exact ⟨rfl, q_no h1, q_no h2, q_no h3, q_no h4, by rw [h5]; exact q_yes _⟩
 ·rename_i h1 h2 h3 h4 h5
  exact Or.inl ⟨rfl, q_no h1, q_no h2, q_no h3, q_no h4, q_no h5⟩
theorem parts_fault {k : Int} {ws : List (List UInt8)} (hk : wordsKind ws = k) (h0 : ¬ k = 0) : (partsBad k ws = true → wordsFault ws = 2) ∧ (partsBad k ws = false → wordsFault ws = atomFault k (wordsS ws) (wordsT k ws) (wordsN k ws)) := by
 unfold wordsFault
 rw [hk, if_neg h0]
 exact ⟨fun h => if_pos h, fun h => if_neg (by rw [h]; decide)⟩
theorem refread_count (k : Int) (s x : ByteArray) (ws : List (List UInt8)) (w : World) (h0 : 0 < ws.length) (hx : strOf (ws.getD 0 []) = x) (hq : (k = 1 ∧ (x.toList == [115, 117, 98]) = true) ∨ (k = 2 ∧ (x.toList == [115, 117, 98]) = false ∧ (x.toList == [115, 97, 109, 101]) = true) ∨ (k = 3 ∧ (x.toList == [115, 117, 98]) = false ∧ (x.toList == [115, 97, 109, 101]) = false ∧ (x.toList == [108, 101, 97, 115, 116]) = true) ∨ (k = 4 ∧ (x.toList == [115, 117, 98]) = false ∧ (x.toList == [115, 97, 109, 101]) = false ∧ (x.toList == [108, 101, 97, 115, 116]) = false ∧ (x.toList == [109, 111, 115, 116]) = true) ∨ (k = 5 ∧ (x.toList == [115, 117, 98]) = false ∧ (x.toList == [115, 97, 109, 101]) = false ∧ (x.toList == [108, 101, 97, 115, 116]) = false ∧ (x.toList == [109, 111, 115, 116]) = false ∧ (x.toList == [110, 111, 109, 111, 114, 101]) = true)) (hL : ¬ ws.length = manyN k) (hF : wordsFault ws = 2)
    (hC : ∀ W, Bw w W → Calls Tryz.prog 7 #[.string s, .int .u8 32] W fun e w' => ∃ v, e = .returned v ∧ ReadsS w' v ws ∧ Bw W w') :
    Calls Tryz.prog 26 #[.string s] w (AnswersN ws w) := by
 have HF := hide hF
 have HQ := hide hq
 have HX := hide hx
 have hM : (k = 5 ∧ ((ws.length : Int) != 4) = true ∧ ¬ (ws.length : Int) = 4) ∨ (¬ k = 5 ∧ (k == 5) = false ∧ ((ws.length : Int) != 3) = true ∧ ¬ (ws.length : Int) = 3) := by
  unfold manyN at hL
  by_cases h5 : k = 5
  ·rw [if_pos h5] at hL; exact Or.inl ⟨h5, by simp; omega, by omega⟩
  ·rw [if_neg h5] at hL; exact Or.inr ⟨h5, by simp; omega, by simp; omega, by omega⟩
 clear hq hL hF hx
 obtain ⟨w1, hw1⟩ := nm (w.alloc (.cells #[.int .i64 0, .slice none 0 0, .slice none 0 0, .int .i64 0] 71))
 have HB1 : Hid (Bw w w1) := by unfold Hid; rw [hw1]; exact below_alloc1 w _
 have HR1 : Hid (OneA w1 w.heap.size (.int .i64 0) (.slice none 0 0) (.slice none 0 0) (.int .i64 0)) := by unfold Hid; rw [hw1]; exact oneA_alloc _ _ _ _ _ _
 have HC := hide (hC w1 HB1.out)
 clear hC
 go_enter Tryz.func26, Tryz.ntmps26
 go_wp2_with fail
 rw [← hw1]
 clear hw1
 go_at_call 7
 refine HC.out.mono ?_
 rintro e w2 ⟨v, rfl, hR, hb⟩
 obtain ⟨wb, cap, rfl, hwb, hcap, hcell⟩ := hR
 obtain ⟨w3, hw3⟩ := nm (w2.alloc (.cells #[.int .i64 0, .slice none 0 0, .slice none 0 0, .int .i64 0] 71))
 have HS3 : Hid (StA w w3 w2.heap.size wb ws (.int .i64 0) (.slice none 0 0) (.slice none 0 0) (.int .i64 0)) := by unfold Hid; rw [hw3]; exact stA_start HB1.out HR1.out hb hwb hcell _ _
 obtain ⟨w4, hw4⟩ := nm (w2.alloc (.cells #[.int .i64 k, .slice none 0 0, .slice none 0 0, .int .i64 0] 71))
 have HS4 : Hid (StA w w4 w2.heap.size wb ws (.int .i64 k) (.slice none 0 0) (.slice none 0 0) (.int .i64 0)) := by unfold Hid; rw [hw4]; exact stA_start HB1.out HR1.out hb hwb hcell _ _
 clear hb hcell hwb hcap
 have c0 : w3.cell? ⟨wb, 0, none⟩ = some (.string x) := by rw [← HX.out]; exact HS3.out.word 0 h0
 rw [hw3] at c0
 go_upto_block 0 with fail
 go_cut [] from 9 (fun wx => w4 = wx)
 case first =>
  rcases HQ.out with ⟨rfl, q1⟩ | ⟨rfl, q1, q2⟩ | ⟨rfl, q1, q2, q3⟩ | ⟨rfl, q1, q2, q3, q4⟩ | ⟨rfl, q1, q2, q3, q4, q5⟩
  all_goals
   go_wp2_with fail
   go_meet
   case rel => exact hw4
 case rest =>
 obtain rfl := hcut
 clear hw3 hw4 c0
 obtain ⟨⟨r0, r1, r2, r3⟩, rf, _⟩ := HS4.out.res
 have p0 := rf 0
 have p1 := rf 1
 have p2 := rf 2
 have p3 := rf 3
 clear rf
 have a0 := HS4.out.own.1.1
 rcases hM with ⟨rfl, hM, hM2⟩ | ⟨hk5, hk5', hM, hM2⟩
 all_goals
  go_wp2_with fail
  have hA := HS4.out.res.all (.int .i64 0) (.slice none 0 0) (.slice none 0 0) (.int .i64 0)
  have hld := load_atom hA.1.1 hA.1.2.1 hA.1.2.2.1 hA.1.2.2.2
  refine bodyPost_ret (v := .tuple #[.agg #[.int .i64 0, .slice none 0 0, .slice none 0 0, .int .i64 0], .int .i64 2]) ?_ rfl (answersR_bad HF.out (by decide) ⟨rfl, HS4.out.fin _ _ _ _⟩)
  rw [results_cell_tmp rfl]
  simp [asAddr, Result.andThen, hld]
theorem refread_two (k : Int) (hk : k = 1 ∨ k = 2) (s x : ByteArray) (l0 l1 l2 : List UInt8) (w : World) (hx : strOf l0 = x) (hq : (k = 1 ∧ (x.toList == [115, 117, 98]) = true) ∨ (k = 2 ∧ (x.toList == [115, 117, 98]) = false ∧ (x.toList == [115, 97, 109, 101]) = true)) (hw : wordsKind [l0, l1, l2] = k) (z1 : l1.length ≤ 1048576) (z2 : l2.length ≤ 1048576)
    (hC : ∀ W, Bw w W → Calls Tryz.prog 7 #[.string s, .int .u8 32] W fun e w' => ∃ v, e = .returned v ∧ ReadsS w' v [l0, l1, l2] ∧ Bw W w') :
    Calls Tryz.prog 26 #[.string s] w (AnswersN [l0, l1, l2] w) := by
 have HF : Hid (((!lettersB l1 || !lettersB l2 || false) = true → wordsFault [l0, l1, l2] = 2) ∧ ((!lettersB l1 || !lettersB l2 || false) = false → wordsFault [l0, l1, l2] = atomFault k (readN l1) (readN l2) 0) ∧ wordsKind [l0, l1, l2] = k ∧ wordsS [l0, l1, l2] = readN l1 ∧ wordsT k [l0, l1, l2] = (readN l2) ∧ wordsN k [l0, l1, l2] = 0) := by
  have hp := parts_fault hw (by rcases hk with rfl | rfl <;> decide)
  rcases hk with rfl | rfl <;> exact ⟨hp.1, hp.2, hw, rfl, rfl, rfl⟩
 have HRt : Hid (∀ l : List UInt8, l.length ≤ 1048576 → ∀ W, Calls Tryz.prog 21 #[.string (strOf l)] W fun e w' => ∃ v, e = .returned (.tuple #[v, .bool (lettersB l)]) ∧ (lettersB l = true → Reads w' v (readN l)) ∧ NewV W.heap.size v ∧ Bw W w') := fun l hl W => readTerm_word l hl W
 obtain ⟨F, hFF⟩ := nm (atomFault k (readN l1) (readN l2) 0)
 have HAt : Hid (∀ W vs vt, Reads W vs (readN l1) → Reads W vt (readN l2) → Calls Tryz.prog 52 #[.agg #[.int .i64 k, vs, vt, .int .i64 0]] W (Bk W (.int .i64 F))) := fun W vs vt h1 h2 => by
  rw [hFF]
  exact refAtom_any k 0 vs vt _ _ W h1 h2
 rw [← hFF] at HF
 clear hFF
 have HQ := hide hq
 have HX := hide hx
 have hk5 : (k == 5) = false := by rcases hk with rfl | rfl <;> rfl
 have hk5n : ¬ k = 5 := by rcases hk with rfl | rfl <;> decide
 have hk3 : (k != 3) = true := by rcases hk with rfl | rfl <;> rfl
 have hk4 : (k != 4) = true := by rcases hk with rfl | rfl <;> rfl
 have hk3n : ¬ k = 3 := by rcases hk with rfl | rfl <;> decide
 have hk4n : ¬ k = 4 := by rcases hk with rfl | rfl <;> decide
 have hk2 : ¬ 2 < k := by rcases hk with rfl | rfl <;> decide
 clear hk hq hx hw
 obtain ⟨w1, hw1⟩ := nm (w.alloc (.cells #[.int .i64 0, .slice none 0 0, .slice none 0 0, .int .i64 0] 71))
 have HB1 : Hid (Bw w w1) := by unfold Hid; rw [hw1]; exact below_alloc1 w _
 have HR1 : Hid (OneA w1 w.heap.size (.int .i64 0) (.slice none 0 0) (.slice none 0 0) (.int .i64 0)) := by unfold Hid; rw [hw1]; exact oneA_alloc _ _ _ _ _ _
 have HC := hide (hC w1 HB1.out)
 clear hC
 go_enter Tryz.func26, Tryz.ntmps26
 go_wp2_with fail
 rw [← hw1]
 clear hw1
 go_at_call 7
 refine HC.out.mono ?_
 rintro e w2 ⟨v, rfl, hR, hb⟩
 obtain ⟨wb, cap, rfl, hwb, hcap, hcell⟩ := hR
 obtain ⟨w3, hw3⟩ := nm (w2.alloc (.cells #[.int .i64 0, .slice none 0 0, .slice none 0 0, .int .i64 0] 71))
 have HS3 : Hid (StA w w3 w2.heap.size wb [l0, l1, l2] (.int .i64 0) (.slice none 0 0) (.slice none 0 0) (.int .i64 0)) := by unfold Hid; rw [hw3]; exact stA_start HB1.out HR1.out hb hwb hcell _ _
 obtain ⟨w4, hw4⟩ := nm (w2.alloc (.cells #[.int .i64 k, .slice none 0 0, .slice none 0 0, .int .i64 0] 71))
 have HS4 : Hid (StA w w4 w2.heap.size wb [l0, l1, l2] (.int .i64 k) (.slice none 0 0) (.slice none 0 0) (.int .i64 0)) := by unfold Hid; rw [hw4]; exact stA_start HB1.out HR1.out hb hwb hcell _ _
 clear hb hcell hwb hcap
 have c0 : w3.cell? ⟨wb, 0, none⟩ = some (.string x) := by rw [← HX.out]; exact HS3.out.word 0 (by simp)
 rw [hw3] at c0
 go_upto_block 0 with fail
 go_cut [] from 9 (fun wx => w4 = wx)
 case first =>
  rcases HQ.out with ⟨rfl, q1⟩ | ⟨rfl, q1, q2⟩
  all_goals
   go_wp2_with fail
   go_meet
   case rel => exact hw4
 case rest =>
 obtain rfl := hcut
 clear hw3 hw4 c0
 have c1 : w4.cell? ⟨wb, 1, none⟩ = some (.string (strOf l1)) := HS4.out.word 1 (by simp)
 have a0 := HS4.out.own.1.1
 go_wp2_with fail
 clear c1 a0
 go_at_call 21
 refine (HRt.out l1 z1 w4).mono ?_
 rintro e w5 ⟨vv, rfl, hRd, ⟨ao1, n1, c1, rfl, hnew⟩, hb⟩
 have HS5 := hide (HS4.out.call hb)
 cases b1 : lettersB l1 with
 | false =>
  clear hRd hb hnew
  obtain ⟨⟨r0, r1, r2, r3⟩, rf, _⟩ := HS5.out.res
  have p0 := rf 0
  have p1 := rf 1
  have p2 := rf 2
  have p3 := rf 3
  clear rf
  go_wp2_with fail
  have hA := HS5.out.res.all (.int .i64 0) (.slice none 0 0) (.slice none 0 0) (.int .i64 0)
  have hld := load_atom hA.1.1 hA.1.2.1 hA.1.2.2.1 hA.1.2.2.2
  refine bodyPost_ret (v := .tuple #[.agg #[.int .i64 0, .slice none 0 0, .slice none 0 0, .int .i64 0], .int .i64 2]) ?_ rfl (answersR_bad (HF.out.1 (by rw [b1]; simp)) (by decide) ⟨rfl, HS5.out.fin _ _ _ _⟩)
  rw [results_cell_tmp rfl]
  simp [asAddr, Result.andThen, hld]
 | true =>
 rw [b1] at hRd
 have HV1 : Hid (Reads w5 (.slice ao1 n1 c1) (readN l1) ∧ NewV w4.heap.size (.slice ao1 n1 c1)) := ⟨hRd rfl, ⟨ao1, n1, c1, rfl, hnew⟩⟩
 have HK1 := hide (HS4.out.lts)
 obtain ⟨w6, hw6⟩ := nm (w5.setCell ⟨w2.heap.size, 1, none⟩ (.slice ao1 n1 c1))
 have HS6 : Hid (StA w w6 w2.heap.size wb [l0, l1, l2] (.int .i64 k) (.slice ao1 n1 c1) (.slice none 0 0) (.int .i64 0)) := by unfold Hid; rw [hw6]; exact HS5.out.s1 _
 have HV2 : Hid (Reads w6 (.slice ao1 n1 c1) (readN l1)) := by unfold Hid; rw [hw6]; exact HV1.out.1.storeNew HV1.out.2 HK1.out.1
 have g1 := HS5.out.own.1.2.1
 have f1 := HS5.out.own.2.1 1
 have a0 := HS6.out.own.1.1
 have c2 : w6.cell? ⟨wb, 2, none⟩ = some (.string (strOf l2)) := HS6.out.word 2 (by simp)
 rw [hw6] at a0 c2
 clear hRd hb hnew
 go_wp2_with fail
 rw [← hw6]
 clear hw6 g1 f1 a0 c2
 go_at_call 21
 refine (HRt.out l2 z2 w6).mono ?_
 rintro e w7 ⟨vv, rfl, hRd, ⟨ao2, n2, c2, rfl, hnew⟩, hb⟩
 have HS7 := hide (HS6.out.call hb)
 cases b2 : lettersB l2 with
 | false =>
  clear hRd hb hnew
  obtain ⟨⟨r0, r1, r2, r3⟩, rf, _⟩ := HS7.out.res
  have p0 := rf 0
  have p1 := rf 1
  have p2 := rf 2
  have p3 := rf 3
  clear rf
  go_wp2_with fail
  have hA := HS7.out.res.all (.int .i64 0) (.slice none 0 0) (.slice none 0 0) (.int .i64 0)
  have hld := load_atom hA.1.1 hA.1.2.1 hA.1.2.2.1 hA.1.2.2.2
  refine bodyPost_ret (v := .tuple #[.agg #[.int .i64 0, .slice none 0 0, .slice none 0 0, .int .i64 0], .int .i64 2]) ?_ rfl (answersR_bad (HF.out.1 (by rw [b2]; simp)) (by decide) ⟨rfl, HS7.out.fin _ _ _ _⟩)
  rw [results_cell_tmp rfl]
  simp [asAddr, Result.andThen, hld]
 | true =>
 rw [b2] at hRd
 have HV3 := hide (HV2.out.below hb)
 have HV4 : Hid (Reads w7 (.slice ao2 n2 c2) (readN l2) ∧ NewV w6.heap.size (.slice ao2 n2 c2)) := ⟨hRd rfl, ⟨ao2, n2, c2, rfl, hnew⟩⟩
 have HK2 := hide (HS6.out.lts)
 obtain ⟨w8, hw8⟩ := nm (w7.setCell ⟨w2.heap.size, 2, none⟩ (.slice ao2 n2 c2))
 have HS8 : Hid (StA w w8 w2.heap.size wb [l0, l1, l2] (.int .i64 k) (.slice ao1 n1 c1) (.slice ao2 n2 c2) (.int .i64 0)) := by unfold Hid; rw [hw8]; exact HS7.out.s2 _
 have HV7 : Hid (Reads w8 (.slice ao1 n1 c1) (readN l1) ∧ Reads w8 (.slice ao2 n2 c2) (readN l2)) := by unfold Hid; rw [hw8]; exact ⟨HV3.out.storeNew HV1.out.2 HK1.out.1, HV4.out.1.storeNew HV4.out.2 HK2.out.1⟩
 have g1 := HS7.out.own.1.2.2.1
 have f1 := HS7.out.own.2.1 2
 have a0 := HS8.out.own.1.1
 rw [hw8] at a0
 clear hRd hb hnew
 have HV8 : Hid (Reads w8 (.slice ao1 n1 c1) (readN l1) ∧ Reads w8 (.slice ao2 n2 c2) (readN l2)) := HV7.out
 have HP : Hid (wordsFault [l0, l1, l2] = F) := HF.out.2.1 (by rw [b1, b2]; rfl)
 obtain ⟨⟨x0, x1, x2, x3⟩, _, _⟩ := HS8.out.own
 rw [hw8] at x0 x1 x2 x3
 clear a0
 go_wp2_with fail
 rw [← hw8]
 clear hw8 g1 f1 x0 x1 x2 x3
 go_at_call 52
 refine (HAt.out w8 _ _ HV8.out.1 HV8.out.2).mono ?_
 rintro e w9 ⟨rfl, hb⟩
 have HS9 := hide (HS8.out.call hb)
 have HV9 : Hid (Reads w9 (.slice ao1 n1 c1) (readN l1) ∧ Reads w9 (.slice ao2 n2 c2) (readN l2)) := ⟨HV8.out.1.below hb, HV8.out.2.below hb⟩
 clear hb
 obtain ⟨⟨r0, r1, r2, r3⟩, rf, _⟩ := HS9.out.res
 have p0 := rf 0
 have p1 := rf 1
 have p2 := rf 2
 have p3 := rf 3
 clear rf
 obtain ⟨⟨x0, x1, x2, x3⟩, _, _⟩ := HS9.out.own
 by_cases hF : F = 0
 ·subst hF
  go_wp2_with fail
  have hA := HS9.out.res.all (.int .i64 k) (.slice ao1 n1 c1) (.slice ao2 n2 c2) (.int .i64 0)
  have hld := load_atom hA.1.1 hA.1.2.1 hA.1.2.2.1 hA.1.2.2.2
  obtain ⟨_, _, e1, e2, e3, e4⟩ := HF.out
  refine bodyPost_ret (v := .tuple #[.agg #[.int .i64 k, .slice ao1 n1 c1, .slice ao2 n2 c2, .int .i64 0], .int .i64 0]) ?_ rfl ⟨_, by rw [HP.out], fun _ => ⟨_, _, by rw [e1, e4], by rw [e2]; exact HV9.out.1.storeAll HV1.out.2 HK1.out.2, by rw [e1, e3]; exact HV9.out.2.storeAll HV4.out.2 HK2.out.2, newV_mono HV1.out.2 (Nat.le_of_lt HK1.out.2), newV_mono HV4.out.2 (Nat.le_of_lt HK2.out.2)⟩, fun h => absurd HP.out h, HS9.out.fin _ _ _ _⟩
  rw [results_cell_tmp rfl]
  simp [asAddr, Result.andThen, hld]
 ·have hF' : (F != 0) = true := by simpa using hF
  go_wp2_with fail
  have hA := HS9.out.res.all (.int .i64 0) (.slice none 0 0) (.slice none 0 0) (.int .i64 0)
  have hld := load_atom hA.1.1 hA.1.2.1 hA.1.2.2.1 hA.1.2.2.2
  refine bodyPost_ret (v := .tuple #[.agg #[.int .i64 0, .slice none 0 0, .slice none 0 0, .int .i64 0], .int .i64 F]) ?_ rfl (answersR_bad HP.out hF ⟨rfl, HS9.out.fin _ _ _ _⟩)
  rw [results_cell_tmp rfl]
  simp [asAddr, Result.andThen, hld]
theorem refread_num (k : Int) (hk : k = 3 ∨ k = 4) (s x : ByteArray) (l0 l1 l2 : List UInt8) (w : World) (hx : strOf l0 = x) (hq : (k = 3 ∧ (x.toList == [115, 117, 98]) = false ∧ (x.toList == [115, 97, 109, 101]) = false ∧ (x.toList == [108, 101, 97, 115, 116]) = true) ∨ (k = 4 ∧ (x.toList == [115, 117, 98]) = false ∧ (x.toList == [115, 97, 109, 101]) = false ∧ (x.toList == [108, 101, 97, 115, 116]) = false ∧ (x.toList == [109, 111, 115, 116]) = true)) (hw : wordsKind [l0, l1, l2] = k) (z1 : l1.length ≤ 1048576) (z2 : l2.length ≤ 1048576)
    (hC : ∀ W, Bw w W → Calls Tryz.prog 7 #[.string s, .int .u8 32] W fun e w' => ∃ v, e = .returned v ∧ ReadsS w' v [l0, l1, l2] ∧ Bw W w') :
    Calls Tryz.prog 26 #[.string s] w (AnswersN [l0, l1, l2] w) := by
 have HF : Hid (((!lettersB l1 || false || (numOf l2).isNone) = true → wordsFault [l0, l1, l2] = 2) ∧ ((!lettersB l1 || false || (numOf l2).isNone) = false → wordsFault [l0, l1, l2] = atomFault k (readN l1) [] ((numOf l2).getD 0)) ∧ wordsKind [l0, l1, l2] = k ∧ wordsS [l0, l1, l2] = readN l1 ∧ wordsT k [l0, l1, l2] = [] ∧ wordsN k [l0, l1, l2] = ((numOf l2).getD 0)) := by
  have hp := parts_fault hw (by rcases hk with rfl | rfl <;> decide)
  rcases hk with rfl | rfl <;> exact ⟨hp.1, hp.2, hw, rfl, rfl, rfl⟩
 have HRt : Hid (∀ l : List UInt8, l.length ≤ 1048576 → ∀ W, Calls Tryz.prog 21 #[.string (strOf l)] W fun e w' => ∃ v, e = .returned (.tuple #[v, .bool (lettersB l)]) ∧ (lettersB l = true → Reads w' v (readN l)) ∧ NewV W.heap.size v ∧ Bw W w') := fun l hl W => readTerm_word l hl W
 have HRn : Hid (∀ l : List UInt8, l.length ≤ 1048576 → ∀ W, Calls Tryz.prog 51 #[.string (strOf l)] W (Sk W (.tuple #[.int .i64 ((numOf l).getD 0), .bool (numOf l).isSome]))) := fun l hl W => by
  have := readNumber_any (strOf l) (by rw [strOf_size]; omega) W
  rw [strOf_list] at this
  exact this
 obtain ⟨N, hN⟩ := nm (((numOf l2).getD 0))
 rw [← hN] at HF
 have HN := hide hN
 clear hN
 obtain ⟨F, hFF⟩ := nm (atomFault k (readN l1) [] N)
 have HAt : Hid (∀ W vs vt, Reads W vs (readN l1) → Reads W vt [] → Calls Tryz.prog 52 #[.agg #[.int .i64 k, vs, vt, .int .i64 N]] W (Bk W (.int .i64 F))) := fun W vs vt h1 h2 => by
  rw [hFF]
  exact refAtom_any k N vs vt _ _ W h1 h2
 rw [← hFF] at HF
 clear hFF
 have HQ := hide hq
 have HX := hide hx
 have hk5 : (k == 5) = false := by rcases hk with rfl | rfl <;> rfl
 have hk5n : ¬ k = 5 := by rcases hk with rfl | rfl <;> decide
 have hk34 : (k != 3) = false ∨ ((k != 3) = true ∧ (k != 4) = false) := by rcases hk with rfl | rfl <;> decide
 have hk2 : 2 < k := by rcases hk with rfl | rfl <;> decide
 clear hk hq hx hw
 obtain ⟨w1, hw1⟩ := nm (w.alloc (.cells #[.int .i64 0, .slice none 0 0, .slice none 0 0, .int .i64 0] 71))
 have HB1 : Hid (Bw w w1) := by unfold Hid; rw [hw1]; exact below_alloc1 w _
 have HR1 : Hid (OneA w1 w.heap.size (.int .i64 0) (.slice none 0 0) (.slice none 0 0) (.int .i64 0)) := by unfold Hid; rw [hw1]; exact oneA_alloc _ _ _ _ _ _
 have HC := hide (hC w1 HB1.out)
 clear hC
 go_enter Tryz.func26, Tryz.ntmps26
 go_wp2_with fail
 rw [← hw1]
 clear hw1
 go_at_call 7
 refine HC.out.mono ?_
 rintro e w2 ⟨v, rfl, hR, hb⟩
 obtain ⟨wb, cap, rfl, hwb, hcap, hcell⟩ := hR
 obtain ⟨w3, hw3⟩ := nm (w2.alloc (.cells #[.int .i64 0, .slice none 0 0, .slice none 0 0, .int .i64 0] 71))
 have HS3 : Hid (StA w w3 w2.heap.size wb [l0, l1, l2] (.int .i64 0) (.slice none 0 0) (.slice none 0 0) (.int .i64 0)) := by unfold Hid; rw [hw3]; exact stA_start HB1.out HR1.out hb hwb hcell _ _
 obtain ⟨w4, hw4⟩ := nm (w2.alloc (.cells #[.int .i64 k, .slice none 0 0, .slice none 0 0, .int .i64 0] 71))
 have HS4 : Hid (StA w w4 w2.heap.size wb [l0, l1, l2] (.int .i64 k) (.slice none 0 0) (.slice none 0 0) (.int .i64 0)) := by unfold Hid; rw [hw4]; exact stA_start HB1.out HR1.out hb hwb hcell _ _
 clear hb hcell hwb hcap
 have c0 : w3.cell? ⟨wb, 0, none⟩ = some (.string x) := by rw [← HX.out]; exact HS3.out.word 0 (by simp)
 rw [hw3] at c0
 go_upto_block 0 with fail
 go_cut [] from 9 (fun wx => w4 = wx)
 case first =>
  rcases HQ.out with ⟨rfl, q1, q2, q3⟩ | ⟨rfl, q1, q2, q3, q4⟩
  all_goals
   go_wp2_with fail
   go_meet
   case rel => exact hw4
 case rest =>
 obtain rfl := hcut
 clear hw3 hw4 c0
 have c1 : w4.cell? ⟨wb, 1, none⟩ = some (.string (strOf l1)) := HS4.out.word 1 (by simp)
 have a0 := HS4.out.own.1.1
 go_wp2_with fail
 clear c1 a0
 go_at_call 21
 refine (HRt.out l1 z1 w4).mono ?_
 rintro e w5 ⟨vv, rfl, hRd, ⟨ao1, n1, c1, rfl, hnew⟩, hb⟩
 have HS5 := hide (HS4.out.call hb)
 cases b1 : lettersB l1 with
 | false =>
  clear hRd hb hnew
  obtain ⟨⟨r0, r1, r2, r3⟩, rf, _⟩ := HS5.out.res
  have p0 := rf 0
  have p1 := rf 1
  have p2 := rf 2
  have p3 := rf 3
  clear rf
  go_wp2_with fail
  have hA := HS5.out.res.all (.int .i64 0) (.slice none 0 0) (.slice none 0 0) (.int .i64 0)
  have hld := load_atom hA.1.1 hA.1.2.1 hA.1.2.2.1 hA.1.2.2.2
  refine bodyPost_ret (v := .tuple #[.agg #[.int .i64 0, .slice none 0 0, .slice none 0 0, .int .i64 0], .int .i64 2]) ?_ rfl (answersR_bad (HF.out.1 (by rw [b1]; simp)) (by decide) ⟨rfl, HS5.out.fin _ _ _ _⟩)
  rw [results_cell_tmp rfl]
  simp [asAddr, Result.andThen, hld]
 | true =>
 rw [b1] at hRd
 have HV1 : Hid (Reads w5 (.slice ao1 n1 c1) (readN l1) ∧ NewV w4.heap.size (.slice ao1 n1 c1)) := ⟨hRd rfl, ⟨ao1, n1, c1, rfl, hnew⟩⟩
 have HK1 := hide (HS4.out.lts)
 obtain ⟨w6, hw6⟩ := nm (w5.setCell ⟨w2.heap.size, 1, none⟩ (.slice ao1 n1 c1))
 have HS6 : Hid (StA w w6 w2.heap.size wb [l0, l1, l2] (.int .i64 k) (.slice ao1 n1 c1) (.slice none 0 0) (.int .i64 0)) := by unfold Hid; rw [hw6]; exact HS5.out.s1 _
 have HV2 : Hid (Reads w6 (.slice ao1 n1 c1) (readN l1)) := by unfold Hid; rw [hw6]; exact HV1.out.1.storeNew HV1.out.2 HK1.out.1
 have g1 := HS5.out.own.1.2.1
 have f1 := HS5.out.own.2.1 1
 have a0 := HS6.out.own.1.1
 have c2 : w6.cell? ⟨wb, 2, none⟩ = some (.string (strOf l2)) := HS6.out.word 2 (by simp)
 rw [hw6] at a0 c2
 clear hRd hb hnew
 have HV7 : Hid (Reads w6 (.slice ao1 n1 c1) (readN l1) ∧ Reads w6 (.slice none 0 0) []) := ⟨HV2.out, Or.inl ⟨none, 0, rfl, rfl⟩⟩
 rcases hk34 with hk3 | ⟨hk3, hk4⟩
 all_goals
 go_wp2_with fail
 rw [← hw6]
 clear hw6 g1 f1 a0 c2
 go_at_call 51
 refine (HRn.out l2 z2 w6).mono ?_
 rintro e wx ⟨rfl, rfl⟩
 rw [← HN.out]
 cases bn : (numOf l2).isSome with
 | false =>
  obtain ⟨⟨r0, r1, r2, r3⟩, rf, _⟩ := HS6.out.res
  have p0 := rf 0
  have p1 := rf 1
  have p2 := rf 2
  have p3 := rf 3
  clear rf
  go_wp2_with fail
  have hA := HS6.out.res.all (.int .i64 0) (.slice none 0 0) (.slice none 0 0) (.int .i64 0)
  have hld := load_atom hA.1.1 hA.1.2.1 hA.1.2.2.1 hA.1.2.2.2
  refine bodyPost_ret (v := .tuple #[.agg #[.int .i64 0, .slice none 0 0, .slice none 0 0, .int .i64 0], .int .i64 2]) ?_ rfl (answersR_bad (HF.out.1 (by have hn : (numOf l2).isNone = true := (by cases h : numOf l2 <;> simp_all); rw [hn]; simp)) (by decide) ⟨rfl, HS6.out.fin _ _ _ _⟩)
  rw [results_cell_tmp rfl]
  simp [asAddr, Result.andThen, hld]
 | true =>
 obtain ⟨w7, hw7⟩ := nm (w6.setCell ⟨w2.heap.size, 3, none⟩ (.int .i64 N))
 have HS7 : Hid (StA w w7 w2.heap.size wb [l0, l1, l2] (.int .i64 k) (.slice ao1 n1 c1) (.slice none 0 0) (.int .i64 N)) := by unfold Hid; rw [hw7]; exact HS6.out.s3 _
 have HV8 : Hid (Reads w7 (.slice ao1 n1 c1) (readN l1) ∧ Reads w7 (.slice none 0 0) []) := by unfold Hid; rw [hw7]; exact ⟨HV7.out.1.storeNew HV1.out.2 HK1.out.1, Or.inl ⟨none, 0, rfl, rfl⟩⟩
 have g1 := HS6.out.own.1.2.2.2
 have f1 := HS6.out.own.2.1 3
 have HP : Hid (wordsFault [l0, l1, l2] = F) := HF.out.2.1 (by have hn : (numOf l2).isNone = false := (by cases h : numOf l2 <;> simp_all); rw [b1, hn]; rfl)
 obtain ⟨⟨x0, x1, x2, x3⟩, _, _⟩ := HS7.out.own
 rw [hw7] at x0 x1 x2 x3
 go_wp2_with fail
 rw [← hw7]
 clear hw7 g1 f1 x0 x1 x2 x3
 go_at_call 52
 refine (HAt.out w7 _ _ HV8.out.1 HV8.out.2).mono ?_
 rintro e w8 ⟨rfl, hb⟩
 have HS8 := hide (HS7.out.call hb)
 have HV9 : Hid (Reads w8 (.slice ao1 n1 c1) (readN l1) ∧ Reads w8 (.slice none 0 0) []) := ⟨HV8.out.1.below hb, HV8.out.2.below hb⟩
 clear hb
 obtain ⟨⟨r0, r1, r2, r3⟩, rf, _⟩ := HS8.out.res
 have p0 := rf 0
 have p1 := rf 1
 have p2 := rf 2
 have p3 := rf 3
 clear rf
 obtain ⟨⟨x0, x1, x2, x3⟩, _, _⟩ := HS8.out.own
 by_cases hF : F = 0
 ·subst hF
  go_wp2_with fail
  have hA := HS8.out.res.all (.int .i64 k) (.slice ao1 n1 c1) (.slice none 0 0) (.int .i64 N)
  have hld := load_atom hA.1.1 hA.1.2.1 hA.1.2.2.1 hA.1.2.2.2
  obtain ⟨_, _, e1, e2, e3, e4⟩ := HF.out
  refine bodyPost_ret (v := .tuple #[.agg #[.int .i64 k, .slice ao1 n1 c1, .slice none 0 0, .int .i64 N], .int .i64 0]) ?_ rfl ⟨_, by rw [HP.out], fun _ => ⟨_, _, by rw [e1, e4], by rw [e2]; exact HV9.out.1.storeAll HV1.out.2 HK1.out.2, by rw [e1, e3]; exact Or.inl ⟨none, 0, rfl, rfl⟩, newV_mono HV1.out.2 (Nat.le_of_lt HK1.out.2), ⟨none, 0, 0, rfl, fun p hp => by cases hp⟩⟩, fun h => absurd HP.out h, HS8.out.fin _ _ _ _⟩
  rw [results_cell_tmp rfl]
  simp [asAddr, Result.andThen, hld]
 ·have hF' : (F != 0) = true := by simpa using hF
  go_wp2_with fail
  have hA := HS8.out.res.all (.int .i64 0) (.slice none 0 0) (.slice none 0 0) (.int .i64 0)
  have hld := load_atom hA.1.1 hA.1.2.1 hA.1.2.2.1 hA.1.2.2.2
  refine bodyPost_ret (v := .tuple #[.agg #[.int .i64 0, .slice none 0 0, .slice none 0 0, .int .i64 0], .int .i64 F]) ?_ rfl (answersR_bad HP.out hF ⟨rfl, HS8.out.fin _ _ _ _⟩)
  rw [results_cell_tmp rfl]
  simp [asAddr, Result.andThen, hld]
theorem refread_all (s x : ByteArray) (l0 l1 l2 l3 : List UInt8) (w : World) (hx : strOf l0 = x) (hq : ((5 : Int) = 5 ∧ (x.toList == [115, 117, 98]) = false ∧ (x.toList == [115, 97, 109, 101]) = false ∧ (x.toList == [108, 101, 97, 115, 116]) = false ∧ (x.toList == [109, 111, 115, 116]) = false ∧ (x.toList == [110, 111, 109, 111, 114, 101]) = true)) (hw : wordsKind [l0, l1, l2, l3] = 5) (z1 : l1.length ≤ 1048576) (z2 : l2.length ≤ 1048576) (z3 : l3.length ≤ 1048576)
    (hC : ∀ W, Bw w W → Calls Tryz.prog 7 #[.string s, .int .u8 32] W fun e w' => ∃ v, e = .returned v ∧ ReadsS w' v [l0, l1, l2, l3] ∧ Bw W w') :
    Calls Tryz.prog 26 #[.string s] w (AnswersN [l0, l1, l2, l3] w) := by
 have HF : Hid (((!lettersB l1 || !lettersB l2 || (numOf l3).isNone) = true → wordsFault [l0, l1, l2, l3] = 2) ∧ ((!lettersB l1 || !lettersB l2 || (numOf l3).isNone) = false → wordsFault [l0, l1, l2, l3] = atomFault 5 (readN l1) (readN l2) ((numOf l3).getD 0)) ∧ wordsKind [l0, l1, l2, l3] = 5 ∧ wordsS [l0, l1, l2, l3] = readN l1 ∧ wordsT 5 [l0, l1, l2, l3] = (readN l2) ∧ wordsN 5 [l0, l1, l2, l3] = ((numOf l3).getD 0)) := by
  have hp := parts_fault hw (by decide)
  exact ⟨hp.1, hp.2, hw, rfl, rfl, rfl⟩
 have HRt : Hid (∀ l : List UInt8, l.length ≤ 1048576 → ∀ W, Calls Tryz.prog 21 #[.string (strOf l)] W fun e w' => ∃ v, e = .returned (.tuple #[v, .bool (lettersB l)]) ∧ (lettersB l = true → Reads w' v (readN l)) ∧ NewV W.heap.size v ∧ Bw W w') := fun l hl W => readTerm_word l hl W
 have HRn : Hid (∀ l : List UInt8, l.length ≤ 1048576 → ∀ W, Calls Tryz.prog 51 #[.string (strOf l)] W (Sk W (.tuple #[.int .i64 ((numOf l).getD 0), .bool (numOf l).isSome]))) := fun l hl W => by
  have := readNumber_any (strOf l) (by rw [strOf_size]; omega) W
  rw [strOf_list] at this
  exact this
 obtain ⟨N, hN⟩ := nm (((numOf l3).getD 0))
 rw [← hN] at HF
 have HN := hide hN
 clear hN
 obtain ⟨F, hFF⟩ := nm (atomFault 5 (readN l1) (readN l2) N)
 have HAt : Hid (∀ W vs vt, Reads W vs (readN l1) → Reads W vt (readN l2) → Calls Tryz.prog 52 #[.agg #[.int .i64 5, vs, vt, .int .i64 N]] W (Bk W (.int .i64 F))) := fun W vs vt h1 h2 => by
  rw [hFF]
  exact refAtom_any 5 N vs vt _ _ W h1 h2
 rw [← hFF] at HF
 clear hFF
 have HQ := hide hq
 have HX := hide hx
 clear hq hx hw
 obtain ⟨w1, hw1⟩ := nm (w.alloc (.cells #[.int .i64 0, .slice none 0 0, .slice none 0 0, .int .i64 0] 71))
 have HB1 : Hid (Bw w w1) := by unfold Hid; rw [hw1]; exact below_alloc1 w _
 have HR1 : Hid (OneA w1 w.heap.size (.int .i64 0) (.slice none 0 0) (.slice none 0 0) (.int .i64 0)) := by unfold Hid; rw [hw1]; exact oneA_alloc _ _ _ _ _ _
 have HC := hide (hC w1 HB1.out)
 clear hC
 go_enter Tryz.func26, Tryz.ntmps26
 go_wp2_with fail
 rw [← hw1]
 clear hw1
 go_at_call 7
 refine HC.out.mono ?_
 rintro e w2 ⟨v, rfl, hR, hb⟩
 obtain ⟨wb, cap, rfl, hwb, hcap, hcell⟩ := hR
 obtain ⟨w3, hw3⟩ := nm (w2.alloc (.cells #[.int .i64 0, .slice none 0 0, .slice none 0 0, .int .i64 0] 71))
 have HS3 : Hid (StA w w3 w2.heap.size wb [l0, l1, l2, l3] (.int .i64 0) (.slice none 0 0) (.slice none 0 0) (.int .i64 0)) := by unfold Hid; rw [hw3]; exact stA_start HB1.out HR1.out hb hwb hcell _ _
 obtain ⟨w4, hw4⟩ := nm (w2.alloc (.cells #[.int .i64 5, .slice none 0 0, .slice none 0 0, .int .i64 0] 71))
 have HS4 : Hid (StA w w4 w2.heap.size wb [l0, l1, l2, l3] (.int .i64 5) (.slice none 0 0) (.slice none 0 0) (.int .i64 0)) := by unfold Hid; rw [hw4]; exact stA_start HB1.out HR1.out hb hwb hcell _ _
 clear hb hcell hwb hcap
 have c0 : w3.cell? ⟨wb, 0, none⟩ = some (.string x) := by rw [← HX.out]; exact HS3.out.word 0 (by simp)
 rw [hw3] at c0
 go_upto_block 0 with fail
 go_cut [] from 9 (fun wx => w4 = wx)
 case first =>
  rcases HQ.out with ⟨_, q1, q2, q3, q4, q5⟩
  all_goals
   go_wp2_with fail
   go_meet
   case rel => exact hw4
 case rest =>
 obtain rfl := hcut
 clear hw3 hw4 c0
 have c1 : w4.cell? ⟨wb, 1, none⟩ = some (.string (strOf l1)) := HS4.out.word 1 (by simp)
 have a0 := HS4.out.own.1.1
 go_wp2_with fail
 clear c1 a0
 go_at_call 21
 refine (HRt.out l1 z1 w4).mono ?_
 rintro e w5 ⟨vv, rfl, hRd, ⟨ao1, n1, c1, rfl, hnew⟩, hb⟩
 have HS5 := hide (HS4.out.call hb)
 cases b1 : lettersB l1 with
 | false =>
  clear hRd hb hnew
  obtain ⟨⟨r0, r1, r2, r3⟩, rf, _⟩ := HS5.out.res
  have p0 := rf 0
  have p1 := rf 1
  have p2 := rf 2
  have p3 := rf 3
  clear rf
  go_wp2_with fail
  have hA := HS5.out.res.all (.int .i64 0) (.slice none 0 0) (.slice none 0 0) (.int .i64 0)
  have hld := load_atom hA.1.1 hA.1.2.1 hA.1.2.2.1 hA.1.2.2.2
  refine bodyPost_ret (v := .tuple #[.agg #[.int .i64 0, .slice none 0 0, .slice none 0 0, .int .i64 0], .int .i64 2]) ?_ rfl (answersR_bad (HF.out.1 (by rw [b1]; simp)) (by decide) ⟨rfl, HS5.out.fin _ _ _ _⟩)
  rw [results_cell_tmp rfl]
  simp [asAddr, Result.andThen, hld]
 | true =>
 rw [b1] at hRd
 have HV1 : Hid (Reads w5 (.slice ao1 n1 c1) (readN l1) ∧ NewV w4.heap.size (.slice ao1 n1 c1)) := ⟨hRd rfl, ⟨ao1, n1, c1, rfl, hnew⟩⟩
 have HK1 := hide (HS4.out.lts)
 obtain ⟨w6, hw6⟩ := nm (w5.setCell ⟨w2.heap.size, 1, none⟩ (.slice ao1 n1 c1))
 have HS6 : Hid (StA w w6 w2.heap.size wb [l0, l1, l2, l3] (.int .i64 5) (.slice ao1 n1 c1) (.slice none 0 0) (.int .i64 0)) := by unfold Hid; rw [hw6]; exact HS5.out.s1 _
 have HV2 : Hid (Reads w6 (.slice ao1 n1 c1) (readN l1)) := by unfold Hid; rw [hw6]; exact HV1.out.1.storeNew HV1.out.2 HK1.out.1
 have g1 := HS5.out.own.1.2.1
 have f1 := HS5.out.own.2.1 1
 have a0 := HS6.out.own.1.1
 have c2 : w6.cell? ⟨wb, 2, none⟩ = some (.string (strOf l2)) := HS6.out.word 2 (by simp)
 rw [hw6] at a0 c2
 clear hRd hb hnew
 go_wp2_with fail
 rw [← hw6]
 clear hw6 g1 f1 a0 c2
 go_at_call 21
 refine (HRt.out l2 z2 w6).mono ?_
 rintro e w7 ⟨vv, rfl, hRd, ⟨ao2, n2, c2, rfl, hnew⟩, hb⟩
 have HS7 := hide (HS6.out.call hb)
 cases b2 : lettersB l2 with
 | false =>
  clear hRd hb hnew
  obtain ⟨⟨r0, r1, r2, r3⟩, rf, _⟩ := HS7.out.res
  have p0 := rf 0
  have p1 := rf 1
  have p2 := rf 2
  have p3 := rf 3
  clear rf
  go_wp2_with fail
  have hA := HS7.out.res.all (.int .i64 0) (.slice none 0 0) (.slice none 0 0) (.int .i64 0)
  have hld := load_atom hA.1.1 hA.1.2.1 hA.1.2.2.1 hA.1.2.2.2
  refine bodyPost_ret (v := .tuple #[.agg #[.int .i64 0, .slice none 0 0, .slice none 0 0, .int .i64 0], .int .i64 2]) ?_ rfl (answersR_bad (HF.out.1 (by rw [b2]; simp)) (by decide) ⟨rfl, HS7.out.fin _ _ _ _⟩)
  rw [results_cell_tmp rfl]
  simp [asAddr, Result.andThen, hld]
 | true =>
 rw [b2] at hRd
 have HV3 := hide (HV2.out.below hb)
 have HV4 : Hid (Reads w7 (.slice ao2 n2 c2) (readN l2) ∧ NewV w6.heap.size (.slice ao2 n2 c2)) := ⟨hRd rfl, ⟨ao2, n2, c2, rfl, hnew⟩⟩
 have HK2 := hide (HS6.out.lts)
 obtain ⟨w8, hw8⟩ := nm (w7.setCell ⟨w2.heap.size, 2, none⟩ (.slice ao2 n2 c2))
 have HS8 : Hid (StA w w8 w2.heap.size wb [l0, l1, l2, l3] (.int .i64 5) (.slice ao1 n1 c1) (.slice ao2 n2 c2) (.int .i64 0)) := by unfold Hid; rw [hw8]; exact HS7.out.s2 _
 have HV7 : Hid (Reads w8 (.slice ao1 n1 c1) (readN l1) ∧ Reads w8 (.slice ao2 n2 c2) (readN l2)) := by unfold Hid; rw [hw8]; exact ⟨HV3.out.storeNew HV1.out.2 HK1.out.1, HV4.out.1.storeNew HV4.out.2 HK2.out.1⟩
 have g1 := HS7.out.own.1.2.2.1
 have f1 := HS7.out.own.2.1 2
 have a0 := HS8.out.own.1.1
 rw [hw8] at a0
 clear hRd hb hnew
 have cn : w8.cell? ⟨wb, 3, none⟩ = some (.string (strOf l3)) := HS8.out.word 3 (by simp)
 rw [hw8] at cn
 go_wp2_with fail
 rw [← hw8]
 clear hw8 g1 f1 a0 cn
 go_at_call 51
 refine (HRn.out l3 z3 w8).mono ?_
 rintro e wx ⟨rfl, rfl⟩
 rw [← HN.out]
 cases bn : (numOf l3).isSome with
 | false =>
  obtain ⟨⟨r0, r1, r2, r3⟩, rf, _⟩ := HS8.out.res
  have p0 := rf 0
  have p1 := rf 1
  have p2 := rf 2
  have p3 := rf 3
  clear rf
  go_wp2_with fail
  have hA := HS8.out.res.all (.int .i64 0) (.slice none 0 0) (.slice none 0 0) (.int .i64 0)
  have hld := load_atom hA.1.1 hA.1.2.1 hA.1.2.2.1 hA.1.2.2.2
  refine bodyPost_ret (v := .tuple #[.agg #[.int .i64 0, .slice none 0 0, .slice none 0 0, .int .i64 0], .int .i64 2]) ?_ rfl (answersR_bad (HF.out.1 (by have hn : (numOf l3).isNone = true := (by cases h : numOf l3 <;> simp_all); rw [hn]; simp)) (by decide) ⟨rfl, HS8.out.fin _ _ _ _⟩)
  rw [results_cell_tmp rfl]
  simp [asAddr, Result.andThen, hld]
 | true =>
 obtain ⟨w9, hw9⟩ := nm (w8.setCell ⟨w2.heap.size, 3, none⟩ (.int .i64 N))
 have HS9 : Hid (StA w w9 w2.heap.size wb [l0, l1, l2, l3] (.int .i64 5) (.slice ao1 n1 c1) (.slice ao2 n2 c2) (.int .i64 N)) := by unfold Hid; rw [hw9]; exact HS8.out.s3 _
 have HV8 : Hid (Reads w9 (.slice ao1 n1 c1) (readN l1) ∧ Reads w9 (.slice ao2 n2 c2) (readN l2)) := by unfold Hid; rw [hw9]; exact ⟨HV7.out.1.storeNew HV1.out.2 HK1.out.1, HV7.out.2.storeNew HV4.out.2 HK2.out.1⟩
 have g1 := HS8.out.own.1.2.2.2
 have f1 := HS8.out.own.2.1 3
 have HP : Hid (wordsFault [l0, l1, l2, l3] = F) := HF.out.2.1 (by have hn : (numOf l3).isNone = false := (by cases h : numOf l3 <;> simp_all); rw [b1, b2, hn]; rfl)
 obtain ⟨⟨x0, x1, x2, x3⟩, _, _⟩ := HS9.out.own
 rw [hw9] at x0 x1 x2 x3
 go_wp2_with fail
 rw [← hw9]
 clear hw9 g1 f1 x0 x1 x2 x3
 go_at_call 52
 refine (HAt.out w9 _ _ HV8.out.1 HV8.out.2).mono ?_
 rintro e w10 ⟨rfl, hb⟩
 have HS10 := hide (HS9.out.call hb)
 have HV9 : Hid (Reads w10 (.slice ao1 n1 c1) (readN l1) ∧ Reads w10 (.slice ao2 n2 c2) (readN l2)) := ⟨HV8.out.1.below hb, HV8.out.2.below hb⟩
 clear hb
 obtain ⟨⟨r0, r1, r2, r3⟩, rf, _⟩ := HS10.out.res
 have p0 := rf 0
 have p1 := rf 1
 have p2 := rf 2
 have p3 := rf 3
 clear rf
 obtain ⟨⟨x0, x1, x2, x3⟩, _, _⟩ := HS10.out.own
 by_cases hF : F = 0
 ·subst hF
  go_wp2_with fail
  have hA := HS10.out.res.all (.int .i64 5) (.slice ao1 n1 c1) (.slice ao2 n2 c2) (.int .i64 N)
  have hld := load_atom hA.1.1 hA.1.2.1 hA.1.2.2.1 hA.1.2.2.2
  obtain ⟨_, _, e1, e2, e3, e4⟩ := HF.out
  refine bodyPost_ret (v := .tuple #[.agg #[.int .i64 5, .slice ao1 n1 c1, .slice ao2 n2 c2, .int .i64 N], .int .i64 0]) ?_ rfl ⟨_, by rw [HP.out], fun _ => ⟨_, _, by rw [e1, e4], by rw [e2]; exact HV9.out.1.storeAll HV1.out.2 HK1.out.2, by rw [e1, e3]; exact HV9.out.2.storeAll HV4.out.2 HK2.out.2, newV_mono HV1.out.2 (Nat.le_of_lt HK1.out.2), newV_mono HV4.out.2 (Nat.le_of_lt HK2.out.2)⟩, fun h => absurd HP.out h, HS10.out.fin _ _ _ _⟩
  rw [results_cell_tmp rfl]
  simp [asAddr, Result.andThen, hld]
 ·have hF' : (F != 0) = true := by simpa using hF
  go_wp2_with fail
  have hA := HS10.out.res.all (.int .i64 0) (.slice none 0 0) (.slice none 0 0) (.int .i64 0)
  have hld := load_atom hA.1.1 hA.1.2.1 hA.1.2.2.1 hA.1.2.2.2
  refine bodyPost_ret (v := .tuple #[.agg #[.int .i64 0, .slice none 0 0, .slice none 0 0, .int .i64 0], .int .i64 F]) ?_ rfl (answersR_bad HP.out hF ⟨rfl, HS10.out.fin _ _ _ _⟩)
  rw [results_cell_tmp rfl]
  simp [asAddr, Result.andThen, hld]
theorem readAtom_words (s : ByteArray) (ws : List (List UInt8)) (w : World) (h0 : 0 < ws.length) (hlen : ∀ x, x ∈ ws → x.length ≤ 1048576)
    (hC : ∀ W, Bw w W → Calls Tryz.prog 7 #[.string s, .int .u8 32] W fun e w' => ∃ v, e = .returned v ∧ ReadsS w' v ws ∧ Bw W w') :
    Calls Tryz.prog 26 #[.string s] w (AnswersN ws w) := by
 obtain ⟨x, hx⟩ : ∃ x, strOf (ws.getD 0 []) = x := ⟨_, rfl⟩
 obtain ⟨k, hk⟩ : ∃ k, kindOfN (ws.getD 0 []) = k := ⟨_, rfl⟩
 have hW : wordsKind ws = if ws.length = manyN k then k else 0 := by unfold wordsKind; rw [hk]
 have h2 : wordsKind ws = 0 → wordsFault ws = 2 := fun h => by unfold wordsFault; rw [if_pos h]
 rcases word_kind hx hk with ⟨rfl, q1, q2, q3, q4, q5⟩ | hq
 ·have e : wordsKind ws = 0 := by rw [hW]; split <;> rfl
  exact (readAtom_none s x ws w h0 hx q1 q2 q3 q4 q5 hC).mono fun _ _ h => answersR_bad (h2 e) (by decide) h
 by_cases hL : ws.length = manyN k
 ·rw [if_pos hL] at hW
  rcases hq with h1 | h1 | h1 | h1 | h1
  ·have e := h1.1
   subst e
   match ws, hL with
   | [l0, l1, l2], _ => exact refread_two 1 (Or.inl rfl) s x l0 l1 l2 w hx (Or.inl h1) hW (hlen l1 (by simp)) (hlen l2 (by simp)) hC
  ·have e := h1.1
   subst e
   match ws, hL with
   | [l0, l1, l2], _ => exact refread_two 2 (Or.inr rfl) s x l0 l1 l2 w hx (Or.inr h1) hW (hlen l1 (by simp)) (hlen l2 (by simp)) hC
  ·have e := h1.1
   subst e
   match ws, hL with
   | [l0, l1, l2], _ => exact refread_num 3 (Or.inl rfl) s x l0 l1 l2 w hx (Or.inl h1) hW (hlen l1 (by simp)) (hlen l2 (by simp)) hC
  ·have e := h1.1
   subst e
   match ws, hL with
   | [l0, l1, l2], _ => exact refread_num 4 (Or.inr rfl) s x l0 l1 l2 w hx (Or.inr h1) hW (hlen l1 (by simp)) (hlen l2 (by simp)) hC
  ·have e := h1.1
   subst e
   match ws, hL with
   | [l0, l1, l2, l3], _ => exact refread_all s x l0 l1 l2 l3 w hx (h1) hW (hlen l1 (by simp)) (hlen l2 (by simp)) (hlen l3 (by simp)) hC
 ·rw [if_neg hL] at hW
  exact refread_count k s x ws w h0 hx hq hL (h2 hW) hC
theorem readAtom_new (s : ByteArray) (hz : s.size ≤ 1048576) (w : World) :
    Calls Tryz.prog 26 #[.string s] w (AnswersN (cutL s.data.toList) w) := by
 refine readAtom_words s _ w (splitL_pos _ _) (fun x hx => ?_) (fun W _ => refCut_any s hz W)
 have h1 := splitL_len hx
 have h2 : s.data.toList.length = s.size := Array.length_toList
 omega
theorem refAnswer_any (y n : Int) (w : World) : Calls Tryz.prog 29 #[.int .i64 y, .int .i64 n] w fun e w' => e = .returned (.int .i64 (answerN (y, n))) ∧ w' = w := by
 by_cases h2 : n = 0
 ·have e : answerN (y, n) = 1 := by unfold answerN; rw [if_pos h2]
  have d : (n == 0) = true := by simp [h2]
  rw [e]
  clear e h2
  go_enter Tryz.func29, Tryz.ntmps29
  go_wp2
  go_ret
  exact ⟨rfl, rfl⟩
 ·have d : (n == 0) = false := by simp [h2]
  by_cases h1 : y = 0
  ·have e : answerN (y, n) = -1 := by unfold answerN; rw [if_neg h2, if_pos h1]
   have d1 : (y == 0) = true := by simp [h1]
   rw [e]
   clear e h2 h1
   go_enter Tryz.func29, Tryz.ntmps29
   go_wp2
   go_ret
   exact ⟨rfl, rfl⟩
  ·have e : answerN (y, n) = 0 := by unfold answerN; rw [if_neg h2, if_neg h1]
   have d1 : (y == 0) = false := by simp [h1]
   rw [e]
   clear e h2 h1
   go_enter Tryz.func29, Tryz.ntmps29
   go_wp2
   go_ret
   exact ⟨rfl, rfl⟩
theorem refAsk_in (lo : Option Addr) (ll lcap : Nat) (ao : Option Addr) (al acap : Nat) (co : Option Addr) (cl ccap : Nat) (n : Nat) (L : List Wd) (S : Nat → Int × Int) (f g : Nat → Bool) (w : World)
    (HS0 : Hid (S 0 = (0, 0)))
    (HS : Hid (∀ k, k < L.length → S (k + 1) = (if (f k && g k) = true then (S k).1 + 1 else (S k).1, if (f k && !g k) = true then (S k).2 + 1 else (S k).2)))
    (HSr : Hid (∀ k, (0 ≤ (S k).1 ∧ 0 ≤ (S k).2) ∧ (S k).1 + (S k).2 ≤ 1716))
    (HLn : Hid (L.length ≤ 1716))
    (HWo : Hid (∀ W, Calls Tryz.prog 23 #[.int .i64 n] W fun e w' => (∃ b cap, e = .returned (.slice (some ⟨b, 0, none⟩) L.length cap) ∧ b < w'.heap.size ∧ ∀ i D, L[i]? = some D → WdAt w' b (i * 4) D) ∧ Bw W w'))
    (HSo : Hid (∀ (k : Nat) D, L[k]? = some D → ∀ W, Bw w W → Calls Tryz.prog 18 #[.slice lo ll lcap, .agg #[.int .i64 D.u, .int .i64 D.a, .int .i64 D.b, .int .i64 D.c]] W (Bk W (.bool (f k)))))
    (HTr : Hid (∀ (k : Nat) D, L[k]? = some D → ∀ W, Bw w W → Calls Tryz.prog 47 #[.agg #[.slice ao al acap, .slice co cl ccap], .agg #[.int .i64 D.u, .int .i64 D.a, .int .i64 D.b, .int .i64 D.c]] W (Bk W (.bool (g k))))) :
    Calls Tryz.prog 27 #[.slice lo ll lcap, .agg #[.slice ao al acap, .slice co cl ccap], .int .i64 n] w (Bk w (.tuple #[.int .i64 (S L.length).1, .int .i64 (S L.length).2])) := by
 obtain ⟨w1, hw1⟩ := nm (w.alloc (.cells #[.slice ao al acap, .slice co cl ccap] 78))
 have HB1 : Hid (Bw w w1) := by unfold Hid; rw [hw1]; exact below_alloc1 _ _
 have HF1 : Hid (Blk w1 w.heap.size 78 #[.slice ao al acap, .slice co cl ccap]) := by unfold Hid; rw [hw1]; exact Blk.new _ _ _
 go_enter Tryz.func27, Tryz.ntmps27
 go_wp2_with fail
 rw [← hw1]
 clear hw1
 go_at_call 23
 refine (HWo.out _).mono ?_
 rintro e w4 ⟨⟨b, cap, rfl, hb1, hat⟩, hb⟩
 have HB4 := bt HB1 hb
 have HF4 := hide (HF1.out.below hb)
 have Hb1 := hide hb1
 have HAt := hide hat
 clear hb hb1 hat
 have hL63 := HLn.out
 go_wp2
 go_loopw [8, 9, 11, 12, 13] (fun y n i _ _ wr => ∃ k : Nat, k ≤ L.length ∧ i = .int .i64 k ∧ y = .int .i64 (S k).1 ∧ n = .int .i64 (S k).2 ∧ Bw w4 wr) (fun _ _ i _ _ _ => L.length - (intOf i).toNat)
 case atStart => exact ⟨0, Nat.zero_le _, rfl, by rw [HS0.out], by rw [HS0.out], Below.refl _ _⟩
 case round =>
  obtain ⟨k, hk, rfl, rfl, rfl, hbr⟩ := hrel
  have HBr := hide hbr
  have HBw := bt HB4 hbr
  obtain ⟨⟨r1, r2⟩, r3⟩ := HSr.out k
  obtain ⟨s1, hs1⟩ := nm ((S k).1)
  obtain ⟨s2, hs2⟩ := nm ((S k).2)
  have HSk : Hid (s1 = (S k).1 ∧ s2 = (S k).2) := ⟨hs1, hs2⟩
  rw [← hs1] at r1 r3
  rw [← hs2] at r2 r3
  rw [← hs1, ← hs2]
  clear hbr hs1 hs2
  by_cases hlt : k < L.length
  ·obtain ⟨D, hD⟩ : ∃ D, L[k]? = some D := ⟨_, List.getElem?_eq_getElem hlt⟩
   have HSk1 := hide (HSo.out k D hD wr HBw.out)
   have HTk := HTr.out k D hD
   have HTk' : Hid _ := HTk
   have HSs := HS.out k hlt
   rw [← HSk.out.1, ← HSk.out.2] at HSs
   have HSs' := hide HSs
   have HWd : Hid (WdAt wr b (k * 4) D ∧ b < wr.heap.size) := ⟨(HAt.out k D hD).at HBr.out Hb1.out, Nat.lt_of_lt_of_le Hb1.out HBr.out.size⟩
   clear HSs HTk hD
   obtain ⟨fk, hfk⟩ := nm (f k)
   rw [← hfk] at HSk1 HSs'
   obtain ⟨gk, hgk⟩ := nm (g k)
   rw [← hgk] at HTk' HSs'
   clear hfk hgk
   obtain ⟨y0, y1, y2, y3⟩ := HWd.out.1
   have hkn : (k : Int) < (L.length : Int) := by omega
   go_wp2_with fail
   go_at_call 18
   refine HSk1.out.mono ?_
   rintro e w5 ⟨rfl, hb⟩
   have HB5 := bt HBr hb
   have HBv := bt HBw hb
   have HW5 : Hid (WdAt w5 b (k * 4) D ∧ b < w5.heap.size) := ⟨HWd.out.1.at hb HWd.out.2, Nat.lt_of_lt_of_le HWd.out.2 hb.size⟩
   clear hb y0 y1 y2 y3
   have HT5 : Hid (∀ W, Bw w5 W → Calls Tryz.prog 47 #[.agg #[.slice ao al acap, .slice co cl ccap], .agg #[.int .i64 D.u, .int .i64 D.a, .int .i64 D.b, .int .i64 D.c]] W (Bk w5 (.bool gk))) := fun W hW => (HTk'.out W (HBv.out.trans (hW.mono HBv.out.size))).mono fun e w' ⟨he, hb⟩ => ⟨he, hW.trans (hb.mono hW.size)⟩
   obtain ⟨y0, y1, y2, y3⟩ := HW5.out.1
   have x0 : w5.cell? ⟨w.heap.size, 0, none⟩ = some (.slice ao al acap) := (HF4.out.below HB5.out).cell 0
   have x1 : w5.cell? ⟨w.heap.size, 1, none⟩ = some (.slice co cl ccap) := (HF4.out.below HB5.out).cell 1
   go_upto_region 8 with fail
   go_cut [13] from 28 to 46 (fun x wx => x = .bool gk ∧ Bw w5 wx)
   case first =>
    go_region_with (go_at_call 47; refine (HT5.out _ (by first | exact Below.drew (Below.refl _ _) | exact Below.refl _ _)).mono ?_; rintro e w8 ⟨rfl, hb8⟩)
    all_goals (try go_wp2)
    all_goals go_meet
    all_goals exact ⟨rfl, hb8⟩
   case rest =>
    obtain ⟨rfl, hbc⟩ := hcut
    obtain ⟨wf, hwf⟩ := nm wc
    subst hwf
    have HBf := bt HB5 hbc
    clear hbc x0 x1 y0 y1 y2 y3
    cases fk with
    | true =>
     cases gk with
     | true =>
      have HSn : Hid (S (k + 1) = (s1 + 1, s2)) := HSs'.out
      clear HSs'
      go_wp2
      go_roundw
      case rel => exact ⟨k + 1, by omega, by go_num, by rw [HSn.out], by rw [HSn.out], HBf.out⟩
      case measure => simp [intOf]; omega
     | false =>
      have HSn : Hid (S (k + 1) = (s1, s2 + 1)) := HSs'.out
      clear HSs'
      go_wp2
      go_roundw
      case rel => exact ⟨k + 1, by omega, by go_num, by rw [HSn.out], by rw [HSn.out], HBf.out⟩
      case measure => simp [intOf]; omega
    | false =>
     have HSn : Hid (S (k + 1) = (s1, s2)) := by have h := HSs'.out; cases gk <;> exact h
     clear HSs'
     go_wp2
     go_roundw
     case rel => exact ⟨k + 1, by omega, by go_num, by rw [HSn.out], by rw [HSn.out], HBf.out⟩
     case measure => simp [intOf]; omega
  ·obtain rfl : k = L.length := by omega
   go_wp2
   go_ret2
   exact ⟨by rw [HSk.out.1, HSk.out.2]; rfl, HBw.out⟩
theorem refAsk_any (v va vc : Value) (fs : List Fm) (ats : List At) (c : List Int) (n : Nat) (hn : n ≤ 6) (hgood : ∀ f ∈ fs, f.fault = 0) (hf : formFault ats c = 0) (w : World) (hF : ReadsF w v fs) (hA : ReadsA w va ats) (hC : Reads w vc c) :
    Calls Tryz.prog 27 #[v, .agg #[va, vc], .int .i64 n] w (Bk w (.tuple #[.int .i64 (askP fs ats c n).1, .int .i64 (askP fs ats c n).2])) := by
 have hSo := fun (D : Wd) (hD : D ∈ worldsL n) W (hW : Bw w W) => refSo_any v fs hgood D (worldsL_ok hn hD) W (hF.below hW)
 obtain ⟨lo, lcap, rfl, _⟩ := hF.slice
 obtain ⟨ao, acap, rfl, _⟩ := hA.slice
 obtain ⟨co, ccap, rfl, _⟩ := hC.slice
 have key := refAsk_in lo fs.length lcap ao ats.length acap co c.length ccap n (worldsL n) (fun k => askOver fs ats c ((worldsL n).take k)) (fun k => ((worldsL n).getD k ⟨0, 0, 0, 0⟩).so fs) (fun k => ((worldsL n).getD k ⟨0, 0, 0, 0⟩).formIs ats c) w rfl (fun k hk => ?_) (fun k => ?_) (by unfold Hid; rw [worldsL_length]; exact length_everyC hn) (fun W => ?_) (fun k D hD W hW => ?_) (fun k D hD W hW => ?_)
 ·refine key.mono ?_
  rintro e w' ⟨rfl, hb⟩
  refine ⟨?_, hb⟩
  rw [List.take_length]
  rfl
 ·show askOver fs ats c ((worldsL n).take (k + 1)) = _
  rw [List.take_add_one, List.getElem?_eq_getElem hk, Option.toList_some, askOver_add]
  have eD : (worldsL n).getD k ⟨0, 0, 0, 0⟩ = (worldsL n)[k] := by rw [List.getD_eq_getElem?_getD, List.getElem?_eq_getElem hk]; rfl
  simp only [eD]
  rfl
 ·have h := ask_range fs ats c ((worldsL n).take k)
  have hl : ((worldsL n).take k).length ≤ 1716 := by
   rw [List.length_take]
   have := length_everyC hn
   rw [← worldsL_length] at this
   omega
  exact ⟨h.1, by have := h.2; omega⟩
 ·refine (refWorlds_any n hn W).mono ?_
  rintro e w' ⟨b, cap, rfl, h1, h2, hb⟩
  exact ⟨⟨b, cap, rfl, h1, h2⟩, hb⟩
 ·have eD : (worldsL n).getD k ⟨0, 0, 0, 0⟩ = D := by rw [List.getD_eq_getElem?_getD, hD]; rfl
  show Calls _ _ _ _ fun e w' => e = .returned (.bool (((worldsL n).getD k ⟨0, 0, 0, 0⟩).so fs)) ∧ _
  rw [eD]
  exact hSo D (List.mem_of_getElem? hD) W hW
 ·have eD : (worldsL n).getD k ⟨0, 0, 0, 0⟩ = D := by rw [List.getD_eq_getElem?_getD, hD]; rfl
  have hok := worldsL_ok hn (List.mem_of_getElem? hD)
  have h := refTrue_any _ _ ats c D.u D.a D.b D.c hf hok W (hA.below hW) (hC.below hW)
  have e : D.formIs ats c = valF (D.heldL ats) c := by unfold Wd.formIs; rw [if_pos (wdForm_zero.2 ⟨hf, hok⟩)]
  show Calls _ _ _ _ fun e w' => e = .returned (.bool (((worldsL n).getD k ⟨0, 0, 0, 0⟩).formIs ats c)) ∧ _
  rw [eD, e]
  exact h
end Go.Proofs.YtnoohlibgaeklaaGreatDoor
