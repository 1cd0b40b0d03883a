/-
  Facts and contracts that the statement leans on.
-/
import Derived.Test.YtnoohlibgaeklaaGreatDoorLibQ4
import Derived.Test.YtnoohlibgaeklaaGreatDoorLibQ7
import Derived.Test.YtnoohlibgaeklaaGreatDoorLibQ3
import Derived.OwnWalk
import Derived.Laws.OwnMore
import Derived.Laws.AppendOwn
namespace Go.Proofs.YtnoohlibgaeklaaGreatDoor
open Go.ChangeShapes Go.WideShapes Go.ChangeAt Go.RowKit
set_option maxRecDepth 100000
set_option maxHeartbeats 16000000
theorem splitL_pos (k : Nat) (l : List UInt8) : 0 < (splitL k l).length := by
 cases k with
 | zero => simp [splitL]
 | succ k => unfold splitL; split <;> simp
theorem splitL_len {k : Nat} : ∀ {l x : List UInt8}, x ∈ splitL k l → x.length ≤ l.length := by
 induction k with
 | zero => intro l x h; simp [splitL] at h; rw [h]; exact Nat.le_refl _
 | succ k ih =>
  intro l x h
  unfold splitL at h
  split at h
  ·simp at h; rw [h]; exact Nat.le_refl _
  ·rcases List.mem_cons.1 h with h | h
   ·rw [h, List.length_take]; exact Nat.min_le_right _ _
   ·have := ih h; rw [List.length_drop] at this; omega
def seen (s : ByteArray) : List (List UInt8) := splitL (if 4 ≤ s.size then 4 else s.size) s.data.toList
def partFaults (k : Int) (ws : List (List UInt8)) : Int := toldN (textFault (ws.getD 1 [])) (if secondB k = true then textFault (ws.getD 2 []) else 0) (if numberB k = true then numFault (ws.getD (ws.length - 1) []) else 0)
theorem textFault_two {l : List UInt8} : textFault l = 2 ↔ lettersB l = false := by
 unfold textFault
 by_cases h : lettersB l = true
 ·rw [if_pos h, h]
  have : ¬ faultN (readN l) = 2 := by unfold faultN; repeat' split <;> omega
  exact ⟨fun h' => absurd h' this, fun h' => by cases h'⟩
 ·rw [if_neg h]
  exact ⟨fun _ => by simpa using h, fun _ => rfl⟩
theorem textFault_ok {l : List UInt8} (h : ¬ textFault l = 2) : textFault l = faultN (readN l) := by
 have h' : lettersB l = true := by
  rcases Bool.eq_false_or_eq_true (lettersB l) with e | e
  ·exact e
  ·exact absurd (textFault_two.2 e) h
 unfold textFault; rw [if_pos h']
theorem numFault_two {l : List UInt8} : (numFault l = 2 ↔ (numOf l).isNone = true) ∧ (numFault l = 0 ∨ numFault l = 2) := by
 unfold numFault
 cases numOf l <;> simp
theorem told_words {k : Int} (hk : 1 ≤ k ∧ k ≤ 5) (ws : List (List UInt8)) (hw : wordsKind ws = k) :
    (¬ partFaults k ws = 0 → wordsFault ws = partFaults k ws) ∧ (partFaults k ws = 0 → wordsFault ws = atomFault k (wordsS ws) (wordsT k ws) (wordsN k ws)) := by
 have hF : wordsFault ws = if partsBad k ws = true then 2 else atomFault k (wordsS ws) (wordsT k ws) (wordsN k ws) := by
  unfold wordsFault; rw [hw, if_neg (by omega)]
 rw [hF]
 have hb : partsBad k ws = true ↔ (textFault (ws.getD 1 []) = 2 ∨ (if secondB k = true then textFault (ws.getD 2 []) else 0) = 2 ∨ (if numberB k = true then numFault (ws.getD (ws.length - 1) []) else 0) = 2) := by
  unfold partsBad
  rw [textFault_two]
  cases secondB k <;> cases numberB k <;> simp [textFault_two, numFault_two.1, or_assoc]
 by_cases h2 : partsBad k ws = true
 ·rw [if_pos h2]
  have e : partFaults k ws = 2 := by unfold partFaults toldN; rw [if_pos (hb.1 h2)]
  rw [e]
  exact ⟨fun _ => rfl, fun h => by cases h⟩
 ·rw [if_neg h2]
  have hn := fun h => h2 (hb.2 h)
  have e : partFaults k ws = if textFault (ws.getD 1 []) = 0 then (if (if secondB k = true then textFault (ws.getD 2 []) else 0) = 0 then (if numberB k = true then numFault (ws.getD (ws.length - 1) []) else 0) else (if secondB k = true then textFault (ws.getD 2 []) else 0)) else textFault (ws.getD 1 []) := by
   unfold partFaults toldN; rw [if_neg hn]
  refine ⟨fun h => ?_, fun _ => rfl⟩
  rw [e] at h ⊢
  have hS : textFault (ws.getD 1 []) = faultN (wordsS ws) := textFault_ok (fun h' => hn (Or.inl h'))
  by_cases hs : textFault (ws.getD 1 []) = 0
  ·rw [if_pos hs] at h ⊢
   by_cases hc : secondB k = true
   ·rw [if_pos hc] at h ⊢
    have hT : textFault (ws.getD 2 []) = faultN (wordsT k ws) := by
     unfold wordsT; rw [if_pos hc]
     exact textFault_ok (fun h' => hn (Or.inr (Or.inl (by rw [if_pos hc]; exact h'))))
    have hsf : secondFault k (wordsT k ws) = textFault (ws.getD 2 []) := by unfold secondFault; rw [if_pos hc, hT]
    by_cases ht : textFault (ws.getD 2 []) = 0
    ·rw [if_pos ht] at h
     exfalso
     rcases (numFault_two (l := ws.getD (ws.length - 1) [])).2 with e0 | e0
     ·rw [e0] at h; simp at h
     ·by_cases hm : numberB k = true
      ·exact hn (Or.inr (Or.inr (by rw [if_pos hm]; exact e0)))
      ·rw [if_neg hm] at h; exact h rfl
    ·rw [if_neg ht]
     rw [atomFault_second hk (by rw [← hS]; exact hs) (by rw [hsf]; exact ht), hsf]
   ·rw [if_neg hc] at h
    exfalso
    rw [if_pos rfl] at h
    rcases (numFault_two (l := ws.getD (ws.length - 1) [])).2 with e0 | e0
    ·rw [e0] at h; simp at h
    ·by_cases hm : numberB k = true
     ·exact hn (Or.inr (Or.inr (by rw [if_pos hm]; exact e0)))
     ·rw [if_neg hm] at h; exact h rfl
  ·rw [if_neg hs]
   rw [atomFault_first hk (by rw [← hS]; exact hs), hS]
theorem split_more : ∀ (n m : Nat) (l : List UInt8), l.length ≤ n → l.length ≤ m → splitL n l = splitL m l := by
 intro n
 induction n with
 | zero =>
  intro m l h _
  have hl : l = [] := List.eq_nil_of_length_eq_zero (by omega)
  subst hl
  rw [splitL_miss (by decide), splitL_miss (by decide)]
 | succ n ih =>
  intro m l h hm
  by_cases hb : blankAt l < 0
  ·rw [splitL_miss hb, splitL_miss hb]
  ·obtain ⟨j, hj⟩ := Int.eq_ofNat_of_zero_le (show 0 ≤ blankAt l by omega)
   have hr := blankAt_range l
   rw [hj] at hr
   obtain ⟨k, rfl⟩ : ∃ k, m = k + 1 := ⟨m - 1, by omega⟩
   rw [splitL_hit hj, splitL_hit hj, ih k _ (by simp; omega) (by simp; omega)]
def cutL (l : List UInt8) : List (List UInt8) := splitL l.length l
theorem cutL_miss {l : List UInt8} (h : blankAt l < 0) : cutL l = [l] := splitL_miss h
theorem cutL_hit {l : List UInt8} {j : Nat} (h : blankAt l = j) : cutL l = l.take j :: cutL (l.drop (j + 1)) := by
 have hr := blankAt_range l
 rw [h] at hr
 obtain ⟨k, hk⟩ : ∃ k, l.length = k + 1 := ⟨l.length - 1, by omega⟩
 rw [cutL, hk, splitL_hit h, cutL, split_more k (l.drop (j + 1)).length _ (by simp; omega) (Nat.le_refl _)]
theorem split_cut : ∀ (k : Nat) (l : List UInt8), splitL k l = cutL l ∨ (k + 1 < (cutL l).length ∧ (splitL k l).length = k + 1) := by
 intro k
 induction k with
 | zero =>
  intro l
  by_cases hb : blankAt l < 0
  ·left; rw [cutL_miss hb]; rfl
  ·obtain ⟨j, hj⟩ := Int.eq_ofNat_of_zero_le (show 0 ≤ blankAt l by omega)
   right
   rw [cutL_hit hj]
   have := splitL_pos (l.drop (j + 1)).length (l.drop (j + 1))
   exact ⟨by simp only [List.length_cons]; unfold cutL; omega, rfl⟩
 | succ k ih =>
  intro l
  by_cases hb : blankAt l < 0
  ·left; rw [cutL_miss hb, splitL_miss hb]
  ·obtain ⟨j, hj⟩ := Int.eq_ofNat_of_zero_le (show 0 ≤ blankAt l by omega)
   rw [cutL_hit hj, splitL_hit hj]
   rcases ih (l.drop (j + 1)) with h | ⟨h1, h2⟩
   ·left; rw [h]
   ·right; simp only [List.length_cons]; omega
theorem wordsFault_long {ws : List (List UInt8)} (h : 4 < ws.length) : wordsKind ws = 0 ∧ wordsFault ws = 2 := by
 have e : wordsKind ws = 0 := by
  unfold wordsKind
  rw [if_neg]
  unfold manyN
  split <;> omega
 exact ⟨e, by unfold wordsFault; rw [if_pos e]⟩
theorem seen_cut (s : ByteArray) : seen s = cutL s.data.toList ∨ (wordsFault (seen s) = 2 ∧ wordsFault (cutL s.data.toList) = 2) := by
 have hl : s.data.toList.length = s.size := Array.length_toList
 unfold seen
 by_cases h : 4 ≤ s.size
 ·rw [if_pos h]
  rcases split_cut 4 s.data.toList with e | ⟨h1, h2⟩
  ·exact Or.inl e
  ·exact Or.inr ⟨(wordsFault_long (by omega)).2, (wordsFault_long (by omega)).2⟩
 ·rw [if_neg h]
  left
  rw [← hl]
  rfl
def wordsV (ws : List (List UInt8)) : List Value := ws.map fun l => .string (strOf l)
theorem take_step {l : List UInt8} {f i : Nat} (hf : f ≤ i) (hi : i < l.length) : (l.drop f).take (i + 1 - f) = (l.drop f).take (i - f) ++ [l.getD i 0] := by
 rw [show i + 1 - f = (i - f) + 1 by omega, List.take_add_one]
 simp [List.getElem?_drop, show f + (i - f) = i by omega, List.getElem?_eq_getElem hi]
theorem plain_step {l : List UInt8} {f i : Nat} (hf : f ≤ i) (hi : i < l.length) (h : plainB ((l.drop f).take (i - f)) = true) (hb : l.getD i 0 ≠ 32) : plainB ((l.drop f).take (i + 1 - f)) = true := by
 rw [take_step hf hi]
 unfold plainB at h ⊢
 rw [List.all_append, h]
 simpa using hb
theorem cut_step {l : List UInt8} {f i : Nat} (hf : f ≤ i) (hi : i < l.length) (h : plainB ((l.drop f).take (i - f)) = true) (hb : l.getD i 0 = 32) : cutL (l.drop f) = (l.drop f).take (i - f) :: cutL (l.drop (i + 1)) := by
 have e : l.drop f = (l.drop f).take (i - f) ++ 32 :: l.drop (i + 1) := by
  have h1 : (l.drop f).drop (i - f) = 32 :: l.drop (i + 1) := by
   rw [List.drop_drop, show f + (i - f) = i by omega, List.drop_eq_getElem_cons hi]
   congr 1
   rw [← hb]; simp [List.getElem?_eq_getElem hi]
  rw [← h1, List.take_append_drop]
 have hl : ((l.drop f).take (i - f)).length = i - f := by simp; omega
 have hbl : blankAt (l.drop f) = ((i - f : Nat) : Int) := by
  rw [e, blankAt_plain h, hl]
 rw [cutL_hit hbl, List.drop_drop, show f + (i - f + 1) = i + 1 by omega]
theorem cut_end {l : List UInt8} {f : Nat} (h : plainB (l.drop f) = true) : cutL (l.drop f) = [l.drop f] := cutL_miss (blankAt_none h)
theorem refCut_any (s : ByteArray) (hz : s.size ≤ 1048576) (w : World) :
    Calls Tryz.prog 7 #[.string s, .int .u8 32] w fun e w' => ∃ v, e = .returned v ∧ ReadsS w' v (cutL s.data.toList) ∧ Below w.heap.size w w' := by
 obtain ⟨i0, hi, hz0, hz1, hz2⟩ := info_parts infoStr
 obtain ⟨K, hK⟩ := nm w.heap.size
 have HK := hide (hK.symm)
 rw [← hK]
 clear hK
 obtain ⟨l, hl⟩ := nm s.data.toList
 rw [← hl]
 have HL : Hid (l = s.data.toList ∧ l.length = s.size) := ⟨hl, by rw [hl]; exact Array.length_toList⟩
 clear hl
 go_enter Tryz.func7, Tryz.ntmps7
 go_wp2
 go_loopw [5, 6, 7] (fun v fr i wr => ∃ (k f : Nat) (os : List (List UInt8)), f ≤ k ∧ k ≤ s.size ∧ i = .int .i64 k ∧ fr = .int .i64 f ∧ wr.ownsRow K 9 1 v os.length (wordsV os) ∧ Below K w wr ∧ K ≤ wr.heap.size ∧ os.length ≤ f ∧ plainB ((l.drop f).take (k - f)) = true ∧ os ++ cutL (l.drop f) = cutL l) (fun _ _ i _ => s.size - (intOf i).toNat)
 case atStart => exact ⟨0, 0, [], Nat.le_refl _, Nat.zero_le _, rfl, rfl, World.ownsRow_nil _ _ _ _, Below.refl _ _, by rw [HK.out]; exact Nat.le_refl _, Nat.le_refl _, rfl, rfl⟩
 case round =>
  obtain ⟨k, f, os, hf, hk, rfl, rfl, hown, hbel, hKw, hos, hpl, hcut⟩ := hrel
  have HOW := hide hown
  have HBE : Hid (Below K w wr ∧ K ≤ wr.heap.size) := ⟨hbel, hKw⟩
  have HPL : Hid (plainB ((l.drop f).take (k - f)) = true ∧ os ++ cutL (l.drop f) = cutL l) := ⟨hpl, hcut⟩
  clear hown hbel hKw hpl hcut
  have hf' : (f : Int) ≤ (k : Int) := by omega
  have hf0 : (0 : Int) ≤ (f : Int) := by omega
  have hks : (k : Int) ≤ (s.size : Int) := by omega
  by_cases hlt : k < s.size
  ·have hlt' : (k : Int) < (s.size : Int) := by omega
   have HGD : Hid (l.getD k 0 = s[k]'hlt) := by
    unfold Hid
    have hk' : k < s.data.toList.length := by rw [Array.length_toList]; exact hlt
    rw [HL.out.1, List.getD_eq_getElem?_getD, List.getElem?_eq_getElem hk']
    rfl
   by_cases hb : s[k]'hlt = 32
   ·have hb' : (((s[k]'hlt).toNat : Int) == 32) = true := by rw [hb]; decide
    have HX : Hid (s.extract f k = strOf ((l.drop f).take (k - f))) := by
     unfold Hid
     rw [HL.out.1, Lib.extract_eq]
     rfl
    have HCT : Hid ((os ++ [(l.drop f).take (k - f)]) ++ cutL (l.drop (k + 1)) = cutL l) := by
     have h1 := cut_step hf (by rw [HL.out.2]; exact hlt) HPL.out.1 (by rw [HGD.out]; exact hb)
     unfold Hid
     rw [← HPL.out.2, h1, List.append_assoc]; rfl
    clear hb HGD
    go_wp2_with (first | (at_builtin; refine wpList_append_own _ rfl (.tmp 19) (.tmp 24) 23 rfl K 9 i0 (.string ByteArray.empty) 1 16 Tryz.underlying23 hi hz0 hz1 hz2 rfl (by decide) u5 os.length (wordsV os) rfl (HOW.out.alloc _) ⟨wr.heap.size, 0, none⟩ 1 1 [.string (s.extract f k)] rfl rfl ?a1 ?a2 ?a3 ?a4 ?a5 ?_))
    case a1 =>
     intro j y hj
     match j, hj with
     | 0, hj => simp at hj; subst hj; simp [Addr.add]
    case a2 => intro y hy; simp at hy; subst hy; rfl
    case a3 => unfold maxLen; omega
    case a4 => omega
    case a5 => have := HBE.out.2; simp; omega
    intro v' w2 hown' hgrow _
    have HR : Hid (w2.ownsRow K 9 1 v' (os ++ [(l.drop f).take (k - f)]).length (wordsV (os ++ [(l.drop f).take (k - f)])) ∧ Below K w w2 ∧ K ≤ w2.heap.size) := by
     refine ⟨?_, ?_, ?_⟩
     ·unfold wordsV
      rw [List.map_append, List.length_append]
      rw [HX.out] at hown'
      exact hown'
     ·exact (HBE.out.1.alloc HBE.out.2 _).grown hgrow (by have := HBE.out.2; simp; omega) (fun k hk => (HOW.out.lt k hk).1)
     ·have h1 := hgrow.size
      have h2 := HBE.out.2
      simp at h1
      omega
    clear hown' hgrow
    go_wp2
    go_roundw
    case rel => exact ⟨k + 1, k + 1, os ++ [(l.drop f).take (k - f)], Nat.le_refl _, by omega, by go_num, by go_num, HR.out.1, HR.out.2.1, HR.out.2.2, by simp; omega, by rw [Nat.sub_self]; rfl, HCT.out⟩
    case measure => simp [intOf]; omega
   ·have hb' : (((s[k]'hlt).toNat : Int) == 32) = false := by
     simp only [beq_eq_false_iff_ne, ne_eq]
     intro h
     exact hb (UInt8.toNat_inj.1 (by have h2 : (s[k]'hlt).toNat = 32 := by omega
                                     rw [h2]; rfl))
    have HPS : Hid (plainB ((l.drop f).take (k + 1 - f)) = true) := plain_step hf (by rw [HL.out.2]; exact hlt) HPL.out.1 (by rw [HGD.out]; exact hb)
    clear hb HGD
    go_wp2
    go_roundw
    case rel => exact ⟨k + 1, f, os, by omega, by omega, by go_num, rfl, HOW.out, HBE.out.1, HBE.out.2, hos, HPS.out, HPL.out.2⟩
    case measure => simp [intOf]; omega
  ·have hks' : k = s.size := by omega
   have HX : Hid (s.extract f s.size = strOf (l.drop f)) := by
    have h1 : s.data.toList.length = s.size := Array.length_toList
    unfold Hid
    rw [HL.out.1, Lib.extract_eq, List.take_of_length_le (by rw [List.length_drop, h1]; exact Nat.le_refl _)]
    rfl
   have HCT : Hid (os ++ [l.drop f] = cutL l) := by
    have h1 := HPL.out.1
    rw [List.take_of_length_le (by rw [List.length_drop, HL.out.2]; omega)] at h1
    unfold Hid
    rw [← HPL.out.2, cut_end h1]
   have hfs : (f : Int) ≤ (s.size : Int) := by omega
   go_wp2_with (first | (at_builtin; refine wpList_append_own _ rfl (.tmp 28) (.tmp 32) 23 rfl K 9 i0 (.string ByteArray.empty) 1 16 Tryz.underlying23 hi hz0 hz1 hz2 rfl (by decide) u5 os.length (wordsV os) rfl (HOW.out.alloc _) ⟨wr.heap.size, 0, none⟩ 1 1 [.string (s.extract f s.size)] rfl rfl ?b1 ?b2 ?b3 ?b4 ?b5 ?_))
   case b1 =>
    intro j y hj
    match j, hj with
    | 0, hj => simp at hj; subst hj; simp [Addr.add]
   case b2 => intro y hy; simp at hy; subst hy; rfl
   case b3 => unfold maxLen; omega
   case b4 => omega
   case b5 => have := HBE.out.2; simp; omega
   intro v' w2 hown' hgrow _
   have HR : Hid (ReadsS w2 v' (cutL l) ∧ Below K w w2) := by
    refine ⟨?_, (HBE.out.1.alloc HBE.out.2 _).grown hgrow (by have := HBE.out.2; simp; omega) (fun k hk => (HOW.out.lt k hk).1)⟩
    rw [HX.out] at hown'
    rcases hown'.2 with ⟨_, h0⟩ | ⟨g, cap, cur, rfl, hg, hh, hn, _⟩
    ·omega
    ·rw [← HCT.out]
     refine ⟨g, cap, by rw [List.length_append]; rfl, (Array.getElem?_eq_some_iff.1 hh).1, by rw [List.length_append]; exact hn, fun j hj => ?_⟩
     rw [List.length_append] at hj
     rw [hown'.cellAt j (by simpa using hj)]
     have e : wordsV os ++ [.string (strOf (l.drop f))] = wordsV (os ++ [l.drop f]) := by simp [wordsV]
     rw [e]
     have hj' : j < (os ++ [l.drop f]).length := by rw [List.length_append]; exact hj
     unfold wordsV
     rw [List.getElem?_map, List.getElem?_eq_getElem hj', List.getD_eq_getElem?_getD, List.getElem?_eq_getElem hj']
     rfl
   clear hown' hgrow
   go_wp2
   go_ret
   exact ⟨_, rfl, HR.out.1, HR.out.2⟩
def cutB (c : UInt8) : List UInt8 → List (List UInt8)
 | [] => [[]]
 | x :: r => if x = c then [] :: cutB c r else match cutB c r with
  | [] => [[x]]
  | y :: ys => (x :: y) :: ys
theorem cutB_cons (c x : UInt8) (r : List UInt8) : cutB c (x :: r) = if x = c then [] :: cutB c r else match cutB c r with
    | [] => [[x]]
    | y :: ys => (x :: y) :: ys := rfl
def plainC (c : UInt8) (l : List UInt8) : Bool := l.all fun b => b != c
theorem cutB_some (c : UInt8) (l : List UInt8) : ∃ y ys, cutB c l = y :: ys := by
 cases l with
 | nil => exact ⟨_, _, rfl⟩
 | cons x r =>
  unfold cutB
  by_cases h : x = c
  ·rw [if_pos h]; exact ⟨_, _, rfl⟩
  ·rw [if_neg h]
   cases cutB c r with
   | nil => exact ⟨_, _, rfl⟩
   | cons y ys => exact ⟨_, _, rfl⟩
theorem cutB_hit {c : UInt8} {x : List UInt8} (h : plainC c x = true) (r : List UInt8) : cutB c (x ++ c :: r) = x :: cutB c r := by
 induction x with
 | nil => simp [cutB]
 | cons a x ih =>
  unfold plainC at h ih
  rw [List.all_cons, Bool.and_eq_true] at h
  have ha : a ≠ c := by simpa using h.1
  rw [List.cons_append, cutB_cons, if_neg ha, ih h.2]
theorem cutB_miss {c : UInt8} {x : List UInt8} (h : plainC c x = true) : cutB c x = [x] := by
 induction x with
 | nil => rfl
 | cons a x ih =>
  unfold plainC at h ih
  rw [List.all_cons, Bool.and_eq_true] at h
  have ha : a ≠ c := by simpa using h.1
  unfold cutB
  rw [if_neg ha, ih h.2]
theorem plainC_step {c : UInt8} {l : List UInt8} {f i : Nat} (hf : f ≤ i) (hi : i < l.length) (h : plainC c ((l.drop f).take (i - f)) = true) (hb : l.getD i 0 ≠ c) : plainC c ((l.drop f).take (i + 1 - f)) = true := by
 rw [take_step hf hi]
 unfold plainC at h ⊢
 rw [List.all_append, h]
 simpa using hb
theorem cutB_step {c : UInt8} {l : List UInt8} {f i : Nat} (hf : f ≤ i) (hi : i < l.length) (h : plainC c ((l.drop f).take (i - f)) = true) (hb : l.getD i 0 = c) : cutB c (l.drop f) = (l.drop f).take (i - f) :: cutB c (l.drop (i + 1)) := by
 have e : l.drop f = (l.drop f).take (i - f) ++ c :: l.drop (i + 1) := by
  have h1 : (l.drop f).drop (i - f) = c :: l.drop (i + 1) := by
   rw [List.drop_drop, show f + (i - f) = i by omega, List.drop_eq_getElem_cons hi]
   congr 1
   rw [← hb]; simp [List.getElem?_eq_getElem hi]
  rw [← h1, List.take_append_drop]
 have h2 := cutB_hit h (l.drop (i + 1))
 rw [← e] at h2
 exact h2
theorem cutB_end {c : UInt8} {l : List UInt8} {f : Nat} (h : plainC c (l.drop f) = true) : cutB c (l.drop f) = [l.drop f] := cutB_miss h
theorem cut_parts (c : UInt8) (l : List UInt8) : plainC c l = true ∨ ∃ x r, l = x ++ c :: r ∧ plainC c x = true := by
 induction l with
 | nil => exact Or.inl rfl
 | cons a l ih =>
  by_cases ha : a = c
  ·subst ha; exact Or.inr ⟨[], l, rfl, rfl⟩
  ·rcases ih with h | ⟨x, r, rfl, h⟩
   ·refine Or.inl ?_
    unfold plainC at h ⊢
    rw [List.all_cons, h]; simpa using ha
   ·refine Or.inr ⟨a :: x, r, rfl, ?_⟩
    unfold plainC at h ⊢
    rw [List.all_cons, h]; simpa using ha
theorem refCut_at (c : UInt8) (s : ByteArray) (hz : s.size ≤ 1048576) (w : World) :
    Calls Tryz.prog 7 #[.string s, .int .u8 c.toNat] w fun e w' => ∃ v, e = .returned v ∧ ReadsS w' v (cutB c s.data.toList) ∧ Below w.heap.size w w' := by
 obtain ⟨i0, hi, hz0, hz1, hz2⟩ := info_parts infoStr
 obtain ⟨K, hK⟩ := nm w.heap.size
 have HK := hide (hK.symm)
 rw [← hK]
 clear hK
 obtain ⟨l, hl⟩ := nm s.data.toList
 rw [← hl]
 have HL : Hid (l = s.data.toList ∧ l.length = s.size) := ⟨hl, by rw [hl]; exact Array.length_toList⟩
 clear hl
 have hc : c.toNat < 256 := c.toNat_lt
 go_enter Tryz.func7, Tryz.ntmps7
 go_wp2
 go_loopw [5, 6, 7] (fun v fr i wr => ∃ (k f : Nat) (os : List (List UInt8)), f ≤ k ∧ k ≤ s.size ∧ i = .int .i64 k ∧ fr = .int .i64 f ∧ wr.ownsRow K 9 1 v os.length (wordsV os) ∧ Below K w wr ∧ K ≤ wr.heap.size ∧ os.length ≤ f ∧ plainC c ((l.drop f).take (k - f)) = true ∧ os ++ cutB c (l.drop f) = cutB c l) (fun _ _ i _ => s.size - (intOf i).toNat)
 case atStart => exact ⟨0, 0, [], Nat.le_refl _, Nat.zero_le _, rfl, rfl, World.ownsRow_nil _ _ _ _, Below.refl _ _, by rw [HK.out]; exact Nat.le_refl _, Nat.le_refl _, rfl, rfl⟩
 case round =>
  obtain ⟨k, f, os, hf, hk, rfl, rfl, hown, hbel, hKw, hos, hpl, hcut⟩ := hrel
  have HOW := hide hown
  have HBE : Hid (Below K w wr ∧ K ≤ wr.heap.size) := ⟨hbel, hKw⟩
  have HPL : Hid (plainC c ((l.drop f).take (k - f)) = true ∧ os ++ cutB c (l.drop f) = cutB c l) := ⟨hpl, hcut⟩
  clear hown hbel hKw hpl hcut
  have hf' : (f : Int) ≤ (k : Int) := by omega
  have hf0 : (0 : Int) ≤ (f : Int) := by omega
  have hks : (k : Int) ≤ (s.size : Int) := by omega
  by_cases hlt : k < s.size
  ·have hlt' : (k : Int) < (s.size : Int) := by omega
   have HGD : Hid (l.getD k 0 = s[k]'hlt) := by
    unfold Hid
    have hk' : k < s.data.toList.length := by rw [Array.length_toList]; exact hlt
    rw [HL.out.1, List.getD_eq_getElem?_getD, List.getElem?_eq_getElem hk']
    rfl
   by_cases hb : s[k]'hlt = c
   ·have hb' : (((s[k]'hlt).toNat : Int) == (c.toNat : Int)) = true := by rw [hb]; simp
    have HX : Hid (s.extract f k = strOf ((l.drop f).take (k - f))) := by
     unfold Hid
     rw [HL.out.1, Lib.extract_eq]
     rfl
    have HCT : Hid ((os ++ [(l.drop f).take (k - f)]) ++ cutB c (l.drop (k + 1)) = cutB c l) := by
     have h1 := cutB_step hf (by rw [HL.out.2]; exact hlt) HPL.out.1 (by rw [HGD.out]; exact hb)
     unfold Hid
     rw [← HPL.out.2, h1, List.append_assoc]; rfl
    clear hb HGD
    go_wp2_with (first | (at_builtin; refine wpList_append_own _ rfl (.tmp 19) (.tmp 24) 23 rfl K 9 i0 (.string ByteArray.empty) 1 16 Tryz.underlying23 hi hz0 hz1 hz2 rfl (by decide) u5 os.length (wordsV os) rfl (HOW.out.alloc _) ⟨wr.heap.size, 0, none⟩ 1 1 [.string (s.extract f k)] rfl rfl ?a1 ?a2 ?a3 ?a4 ?a5 ?_))
    case a1 =>
     intro j y hj
     match j, hj with
     | 0, hj => simp at hj; subst hj; simp [Addr.add]
    case a2 => intro y hy; simp at hy; subst hy; rfl
    case a3 => unfold maxLen; omega
    case a4 => omega
    case a5 => have := HBE.out.2; simp; omega
    intro v' w2 hown' hgrow _
    have HR : Hid (w2.ownsRow K 9 1 v' (os ++ [(l.drop f).take (k - f)]).length (wordsV (os ++ [(l.drop f).take (k - f)])) ∧ Below K w w2 ∧ K ≤ w2.heap.size) := by
     refine ⟨?_, ?_, ?_⟩
     ·unfold wordsV
      rw [List.map_append, List.length_append]
      rw [HX.out] at hown'
      exact hown'
     ·exact (HBE.out.1.alloc HBE.out.2 _).grown hgrow (by have := HBE.out.2; simp; omega) (fun k hk => (HOW.out.lt k hk).1)
     ·have h1 := hgrow.size
      have h2 := HBE.out.2
      simp at h1
      omega
    clear hown' hgrow
    go_wp2
    go_roundw
    case rel => exact ⟨k + 1, k + 1, os ++ [(l.drop f).take (k - f)], Nat.le_refl _, by omega, by go_num, by go_num, HR.out.1, HR.out.2.1, HR.out.2.2, by simp; omega, by rw [Nat.sub_self]; rfl, HCT.out⟩
    case measure => simp [intOf]; omega
   ·have hb' : (((s[k]'hlt).toNat : Int) == (c.toNat : Int)) = false := by
     simp only [beq_eq_false_iff_ne, ne_eq]
     intro h
     exact hb (UInt8.toNat_inj.1 (by omega))
    have HPS : Hid (plainC c ((l.drop f).take (k + 1 - f)) = true) := plainC_step hf (by rw [HL.out.2]; exact hlt) HPL.out.1 (by rw [HGD.out]; exact hb)
    clear hb HGD
    go_wp2
    go_roundw
    case rel => exact ⟨k + 1, f, os, by omega, by omega, by go_num, rfl, HOW.out, HBE.out.1, HBE.out.2, hos, HPS.out, HPL.out.2⟩
    case measure => simp [intOf]; omega
  ·have hks' : k = s.size := by omega
   have HX : Hid (s.extract f s.size = strOf (l.drop f)) := by
    have h1 : s.data.toList.length = s.size := Array.length_toList
    unfold Hid
    rw [HL.out.1, Lib.extract_eq, List.take_of_length_le (by rw [List.length_drop, h1]; exact Nat.le_refl _)]
    rfl
   have HCT : Hid (os ++ [l.drop f] = cutB c l) := by
    have h1 := HPL.out.1
    rw [List.take_of_length_le (by rw [List.length_drop, HL.out.2]; omega)] at h1
    unfold Hid
    rw [← HPL.out.2, cutB_end h1]
   have hfs : (f : Int) ≤ (s.size : Int) := by omega
   go_wp2_with (first | (at_builtin; refine wpList_append_own _ rfl (.tmp 28) (.tmp 32) 23 rfl K 9 i0 (.string ByteArray.empty) 1 16 Tryz.underlying23 hi hz0 hz1 hz2 rfl (by decide) u5 os.length (wordsV os) rfl (HOW.out.alloc _) ⟨wr.heap.size, 0, none⟩ 1 1 [.string (s.extract f s.size)] rfl rfl ?b1 ?b2 ?b3 ?b4 ?b5 ?_))
   case b1 =>
    intro j y hj
    match j, hj with
    | 0, hj => simp at hj; subst hj; simp [Addr.add]
   case b2 => intro y hy; simp at hy; subst hy; rfl
   case b3 => unfold maxLen; omega
   case b4 => omega
   case b5 => have := HBE.out.2; simp; omega
   intro v' w2 hown' hgrow _
   have HR : Hid (ReadsS w2 v' (cutB c l) ∧ Below K w w2) := by
    refine ⟨?_, (HBE.out.1.alloc HBE.out.2 _).grown hgrow (by have := HBE.out.2; simp; omega) (fun k hk => (HOW.out.lt k hk).1)⟩
    rw [HX.out] at hown'
    rcases hown'.2 with ⟨_, h0⟩ | ⟨g, cap, cur, rfl, hg, hh, hn, _⟩
    ·omega
    ·rw [← HCT.out]
     refine ⟨g, cap, by rw [List.length_append]; rfl, (Array.getElem?_eq_some_iff.1 hh).1, by rw [List.length_append]; exact hn, fun j hj => ?_⟩
     rw [List.length_append] at hj
     rw [hown'.cellAt j (by simpa using hj)]
     have e : wordsV os ++ [.string (strOf (l.drop f))] = wordsV (os ++ [l.drop f]) := by simp [wordsV]
     rw [e]
     have hj' : j < (os ++ [l.drop f]).length := by rw [List.length_append]; exact hj
     unfold wordsV
     rw [List.getElem?_map, List.getElem?_eq_getElem hj', List.getD_eq_getElem?_getD, List.getElem?_eq_getElem hj']
     rfl
   clear hown' hgrow
   go_wp2
   go_ret
   exact ⟨_, rfl, HR.out.1, HR.out.2⟩
end Go.Proofs.YtnoohlibgaeklaaGreatDoor
namespace Go.Proofs.YtnoohlibgaeklaaGreatDoor
open Go.RowKit
set_option maxRecDepth 100000
set_option maxHeartbeats 16000000
def takesF (s : Int) : Int := if s = 10 ∨ s = 11 ∨ s = 13 then 2 else if s = 12 then 1 else 0
def signF (m : Nat) (s : Int) : Bool := !(decide (takesF s = 0) && (decide (s < 0) || decide ((m : Int) ≤ s)))
def cntF : List Int → Int → Option Int
 | [], n => some n
 | s :: l, n => if n < takesF s then none else cntF l (n + 1 - takesF s)
structure At where
 k : Int
 s : List Int
 t : List Int
 n : Int
def At.fault (a : At) : Int := atomFault a.k a.s a.t a.n
def firstFault : List At → Int
 | [] => 0
 | a :: l => if a.fault = 0 then firstFault l else a.fault
def formFault (ats : List At) (c : List Int) : Int :=
 if ats.length = 0 ∨ c.length = 0 then 5 else if 6 < ats.length ∨ 20 < c.length then 4 else if firstFault ats = 0 then (if c.all (signF ats.length) = true then (if cntF c 0 = some 1 then 0 else 3) else 1) else firstFault ats
theorem takesF_range (s : Int) : 0 ≤ takesF s ∧ takesF s ≤ 2 := by unfold takesF; split <;> (try split) <;> omega
theorem takesF_leaf {s : Int} (h : takesF s = 0) : s ≠ 10 ∧ s ≠ 11 ∧ s ≠ 12 ∧ s ≠ 13 := by
 unfold takesF at h
 split at h
 ·omega
 ·split at h <;> omega
theorem takesF_low {s : Int} (h : s < 10) : takesF s = 0 := by unfold takesF; rw [if_neg (by omega), if_neg (by omega)]
theorem signF_iff {m : Nat} {s : Int} : signF m s = true ↔ (takesF s ≠ 0 ∨ (0 ≤ s ∧ s < m)) := by
 unfold signF
 by_cases h : takesF s = 0
 ·simp [h]
 ·simp [h]
theorem firstFault_zero {ats : List At} : firstFault ats = 0 ↔ ∀ a ∈ ats, a.fault = 0 := by
 induction ats with
 | nil => simp [firstFault]
 | cons a l ih =>
  unfold firstFault
  by_cases h : a.fault = 0
  ·rw [if_pos h, ih]; simp [h]
  ·rw [if_neg h]; simp [h]
theorem formFault_zero {ats : List At} {c : List Int} : formFault ats c = 0 ↔ (1 ≤ ats.length ∧ ats.length ≤ 6) ∧ (1 ≤ c.length ∧ c.length ≤ 20) ∧ (∀ a ∈ ats, a.fault = 0) ∧ c.all (signF ats.length) = true ∧ cntF c 0 = some 1 := by
 unfold formFault
 by_cases h1 : ats.length = 0 ∨ c.length = 0
 ·rw [if_pos h1]; exact ⟨fun h => (by cases h), fun h => by omega⟩
 rw [if_neg h1]
 by_cases h2 : 6 < ats.length ∨ 20 < c.length
 ·rw [if_pos h2]; exact ⟨fun h => (by cases h), fun h => by omega⟩
 rw [if_neg h2]
 by_cases h3 : firstFault ats = 0
 ·rw [if_pos h3]
  by_cases h4 : c.all (signF ats.length) = true
  ·rw [if_pos h4]
   by_cases h5 : cntF c 0 = some 1
   ·rw [if_pos h5]; exact ⟨fun _ => ⟨by omega, by omega, firstFault_zero.1 h3, h4, h5⟩, fun _ => rfl⟩
   ·rw [if_neg h5]; exact ⟨fun h => (by cases h), fun h => absurd h.2.2.2.2 h5⟩
  ·rw [if_neg h4]; exact ⟨fun h => (by cases h), fun h => absurd h.2.2.2.1 h4⟩
 ·rw [if_neg h3]; exact ⟨fun h => absurd h h3, fun h => absurd (firstFault_zero.2 h.2.2.1) h3⟩
theorem cntF_append (a b : List Int) (n : Int) : cntF (a ++ b) n = (cntF a n).bind (cntF b) := by
 induction a generalizing n with
 | nil => rfl
 | cons s l ih =>
  simp only [List.cons_append, cntF]
  split
  ·rfl
  ·exact ih _
theorem cntF_nonneg {l : List Int} {n m : Int} (hn : 0 ≤ n) (h : cntF l n = some m) : 0 ≤ m ∧ m ≤ n + l.length := by
 induction l generalizing n with
 | nil => simp [cntF] at h; subst h; simp; omega
 | cons s l ih =>
  have := takesF_range s
  unfold cntF at h
  split at h
  ·cases h
  ·have := ih (by omega) h
   simp; omega
theorem takeF_succ (t : List Int) {k : Nat} (h : k < t.length) : t.take (k + 1) = t.take k ++ [t.getD k 0] := by
 rw [List.take_add_one]; simp [List.getElem?_eq_getElem h]
theorem cntF_take_succ (t : List Int) {k : Nat} (h : k < t.length) {m : Int} (hm : cntF (t.take k) 0 = some m) : cntF (t.take (k + 1)) 0 = if m < takesF (t.getD k 0) then none else some (m + 1 - takesF (t.getD k 0)) := by
 rw [takeF_succ t h, cntF_append, hm]; rfl
theorem cntF_take_none (t : List Int) (k : Nat) (h : cntF (t.take k) 0 = none) : cntF t 0 = none := by
 have : cntF (t.take k ++ t.drop k) 0 = none := by rw [cntF_append, h]; rfl
 rwa [List.take_append_drop] at this
theorem cntF_take_some (t : List Int) (k : Nat) {n : Int} (h : cntF t 0 = some n) : ∃ m, cntF (t.take k) 0 = some m := by
 cases hc : cntF (t.take k) 0 with
 | none => rw [cntF_take_none t k hc] at h; cases h
 | some m => exact ⟨m, rfl⟩
theorem cntF_more (r : List Int) (n m : Int) (h : cntF r n = some m) : cntF r (n + 1) = some (m + 1) := by
 induction r generalizing n with
 | nil => simp [cntF] at h ⊢; exact h
 | cons s l ih =>
  unfold cntF at h ⊢
  split at h
  ·cases h
  ·rw [if_neg (by omega), show n + 1 + 1 - takesF s = n + 1 - takesF s + 1 by omega]
   exact ih _ h
def madeF (held : List Bool) (s : Int) (l : List Bool) : Bool :=
 if s = 10 then l.getD 0 false && l.getD 1 false else if s = 11 then l.getD 0 false || l.getD 1 false else if s = 13 then !l.getD 0 false || l.getD 1 false else if s = 12 then !l.getD 0 false else held.getD s.toNat false
def restF (p : List Bool) (s : Int) : Nat := p.length - (takesF s).toNat
def stepF (held : List Bool) (p : List Bool) (s : Int) : List Bool := p.take (restF p s) ++ [madeF held s (p.drop (restF p s))]
def pileF (held : List Bool) (c : List Int) (p : List Bool) : List Bool := c.foldl (stepF held) p
def valF (held : List Bool) (c : List Int) : Bool := (pileF held c []).getD 0 false
theorem pileF_append (held : List Bool) (a b : List Int) (p : List Bool) : pileF held (a ++ b) p = pileF held b (pileF held a p) := by simp [pileF, List.foldl_append]
theorem pileF_succ (held : List Bool) (t : List Int) (p : List Bool) {k : Nat} (h : k < t.length) : pileF held (t.take (k + 1)) p = stepF held (pileF held (t.take k) p) (t.getD k 0) := by
 rw [takeF_succ t h, pileF_append]; rfl
theorem stepF_length (held : List Bool) (p : List Bool) (s : Int) (h : takesF s ≤ p.length) : ((stepF held p s).length : Int) = p.length + 1 - takesF s := by
 have := takesF_range s
 simp [stepF, restF]
 omega
theorem pileF_length (held : List Bool) (t : List Int) (p : List Bool) {n : Int} (h : cntF t p.length = some n) : ((pileF held t p).length : Int) = n := by
 induction t generalizing p with
 | nil => simp [cntF] at h; simpa [pileF] using h
 | cons s l ih =>
  unfold cntF at h
  split at h
  ·cases h
  ·rename_i hs
   have e := stepF_length held p s (by omega)
   exact ih (stepF held p s) (by rw [e]; exact h)
theorem stepF_under (held q p : List Bool) (s : Int) (h : takesF s ≤ p.length) : stepF held (q ++ p) s = q ++ stepF held p s := by
 have hr := takesF_range s
 have e : restF (q ++ p) s = q.length + restF p s := by unfold restF; simp; omega
 unfold stepF
 rw [e, List.take_length_add_append, List.drop_length_add_append, List.append_assoc]
theorem pileF_under (held : List Bool) (t : List Int) (q p : List Bool) {n : Int} (h : cntF t p.length = some n) : pileF held t (q ++ p) = q ++ pileF held t p := by
 induction t generalizing p with
 | nil => rfl
 | cons s l ih =>
  unfold cntF at h
  split at h
  ·cases h
  ·rename_i hs
   have e := stepF_length held p s (by omega)
   have := ih (stepF held p s) (by rw [e]; exact h)
   show pileF held l (stepF held (q ++ p) s) = q ++ pileF held l (stepF held p s)
   rw [stepF_under held q p s (by omega)]; exact this
theorem pileF_one (held : List Bool) {t : List Int} (h : cntF t 0 = some 1) (q : List Bool) : pileF held t q = q ++ [valF held t] := by
 have h1 := pileF_under held t q [] h
 rw [List.append_nil] at h1
 rw [h1]
 have h2 := pileF_length held t [] h
 match e : pileF held t [], h2 with
 | [x], _ => simp [valF, e]
 | [], h2 => simp at h2
 | _ :: _ :: _, h2 => simp at h2; omega
theorem pileF_alike {h1 h2 : List Bool} {t1 t2 : List Int} (ht : t1.length = t2.length) (hs : ∀ k, k < t1.length → takesF (t1.getD k 0) = takesF (t2.getD k 0) ∧ ∀ l, madeF h1 (t1.getD k 0) l = madeF h2 (t2.getD k 0) l) (p : List Bool) : pileF h1 t1 p = pileF h2 t2 p := by
 induction t1 generalizing t2 p with
 | nil =>
  cases t2 with
  | nil => rfl
  | cons => simp at ht
 | cons s l ih =>
  cases t2 with
  | nil => simp at ht
  | cons s2 l2 =>
   have e0 := hs 0 (by simp)
   simp only [List.getD_cons_zero] at e0
   have e1 : stepF h1 p s = stepF h2 p s2 := by unfold stepF restF; rw [e0.1, e0.2]
   show pileF h1 l (stepF h1 p s) = pileF h2 l2 (stepF h2 p s2)
   rw [e1]
   refine ih (by simpa using ht) (fun k hk => ?_) _
   have := hs (k + 1) (by simp; omega)
   simpa only [List.getD_cons_succ] using this
theorem good_no {ats : List At} {c : List Int} (h : formFault ats c = 0) (hl : c.length ≤ 19) : formFault ats (c ++ [12]) = 0 := by
 obtain ⟨h1, h2, h3, h4, h5⟩ := formFault_zero.1 h
 refine formFault_zero.2 ⟨h1, by simp; omega, h3, ?_, ?_⟩
 ·rw [List.all_append, h4]; simp [signF, takesF]
 ·rw [cntF_append, h5]; rfl
theorem val_no (held : List Bool) {c : List Int} (h : cntF c 0 = some 1) : valF held (c ++ [12]) = !valF held c := by
 have : pileF held (c ++ [12]) [] = [!valF held c] := by
  rw [pileF_append, pileF_one held h]; rfl
 rw [valF, this]; rfl
theorem cnt_no {c : List Int} (h : cntF c 0 = some 1) : cntF (c ++ [12]) 0 = some 1 := by rw [cntF_append, h]; rfl
def movedF (m : Nat) (s : Int) : Int := if takesF s = 0 then s + m else s
theorem good_both {ats bs : List At} {c d : List Int} (h : formFault ats c = 0) (h' : formFault bs d = 0) (hl : ats.length + bs.length ≤ 6) (hc : c.length + d.length ≤ 19) : formFault (ats ++ bs) (c ++ (d.map (movedF ats.length) ++ [10])) = 0 := by
 obtain ⟨h1, h2, h3, h4, h5⟩ := formFault_zero.1 h
 obtain ⟨g1, g2, g3, g4, g5⟩ := formFault_zero.1 h'
 have hm : ∀ s ∈ d, takesF (movedF ats.length s) = takesF s ∧ signF (ats ++ bs).length (movedF ats.length s) = true := by
  intro s hs
  have := signF_iff.1 (List.all_eq_true.1 g4 s hs)
  unfold movedF
  by_cases h0 : takesF s = 0
  ·rw [if_pos h0]
   have h6 : 0 ≤ s ∧ s < bs.length := this.resolve_left (by simp [h0])
   exact ⟨by rw [h0]; exact takesF_low (by omega), signF_iff.2 (Or.inr (by simp; omega))⟩
  ·rw [if_neg h0]
   exact ⟨rfl, signF_iff.2 (Or.inl h0)⟩
 have hcnt : ∀ n, cntF (d.map (movedF ats.length)) n = cntF d n := by
  have : ∀ (l : List Int), (∀ s ∈ l, takesF (movedF ats.length s) = takesF s) → ∀ n, cntF (l.map (movedF ats.length)) n = cntF l n := by
   intro l
   induction l with
   | nil => intro _ n; rfl
   | cons s l ih =>
    intro hh n
    have e := hh s (by simp)
    simp only [List.map_cons, cntF, e]
    rw [ih (fun x hx => hh x (by simp [hx]))]
  exact this d (fun s hs => (hm s hs).1)
 refine formFault_zero.2 ⟨by simp; omega, by simp; omega, ?_, ?_, ?_⟩
 ·intro a ha
  rcases List.mem_append.1 ha with ha | ha
  ·exact h3 a ha
  ·exact g3 a ha
 ·rw [List.all_append, List.all_append]
  have e1 : c.all (signF (ats ++ bs).length) = true := by
   rw [List.all_eq_true]
   intro s hs
   rcases signF_iff.1 (List.all_eq_true.1 h4 s hs) with h | h
   ·exact signF_iff.2 (Or.inl h)
   ·exact signF_iff.2 (Or.inr (by simp; omega))
  have e2 : (d.map (movedF ats.length)).all (signF (ats ++ bs).length) = true := by
   rw [List.all_map, List.all_eq_true]
   intro s hs
   exact (hm s hs).2
  rw [e1, e2]; simp [signF, takesF]
 ·rw [cntF_append, h5]
  show cntF (d.map (movedF ats.length) ++ [10]) 1 = _
  rw [cntF_append, hcnt, show cntF d 1 = some 2 from cntF_more d 0 1 g5]; rfl
theorem madeF_leaf (held : List Bool) {s : Int} (h : takesF s = 0) (l : List Bool) : madeF held s l = held.getD s.toNat false := by
 have := takesF_leaf h
 unfold madeF
 rw [if_neg this.1, if_neg this.2.1, if_neg this.2.2.2, if_neg this.2.2.1]
theorem madeF_op (h1 h2 : List Bool) {s : Int} (h : takesF s ≠ 0) (l : List Bool) : madeF h1 s l = madeF h2 s l := by
 have : s = 10 ∨ s = 11 ∨ s = 13 ∨ s = 12 := by
  unfold takesF at h
  split at h
  ·omega
  ·split at h <;> omega
 rcases this with rfl | rfl | rfl | rfl <;> rfl
theorem val_both {ats bs : List At} {c d : List Int} (ha hb : List Bool) (la : ha.length = ats.length) (h : formFault ats c = 0) (h' : formFault bs d = 0) (hl : ats.length + bs.length ≤ 6) : valF (ha ++ hb) (c ++ (d.map (movedF ats.length) ++ [10])) = (valF ha c && valF hb d) := by
 obtain ⟨h1, h2, h3, h4, h5⟩ := formFault_zero.1 h
 obtain ⟨g1, g2, g3, g4, g5⟩ := formFault_zero.1 h'
 have e1 : ∀ p, pileF (ha ++ hb) c p = pileF ha c p := fun p => by
  refine pileF_alike rfl (fun k hk => ⟨rfl, fun l => ?_⟩) p
  have hm : c.getD k 0 ∈ c := by rw [List.getD_eq_getElem?_getD, List.getElem?_eq_getElem hk]; exact List.getElem_mem hk
  rcases signF_iff.1 (List.all_eq_true.1 h4 _ hm) with h0 | h0
  ·exact madeF_op _ _ h0 l
  ·have t0 : takesF (c.getD k 0) = 0 := takesF_low (by omega)
   rw [madeF_leaf _ t0, madeF_leaf _ t0, List.getD_eq_getElem?_getD, List.getElem?_append_left (by omega), ← List.getD_eq_getElem?_getD]
 have e2 : ∀ p, pileF (ha ++ hb) (d.map (movedF ats.length)) p = pileF hb d p := fun p => by
  refine pileF_alike (by simp) (fun k hk => ?_) p
  have hk' : k < d.length := by simpa using hk
  have eg : (d.map (movedF ats.length)).getD k 0 = movedF ats.length (d.getD k 0) := by
   simp [List.getElem?_eq_getElem hk']
  rw [eg]
  have hm : d.getD k 0 ∈ d := by rw [List.getD_eq_getElem?_getD, List.getElem?_eq_getElem hk']; exact List.getElem_mem hk'
  generalize d.getD k 0 = s at hm
  unfold movedF
  rcases signF_iff.1 (List.all_eq_true.1 g4 s hm) with h0 | h0
  ·rw [if_neg h0]; exact ⟨rfl, fun l => madeF_op _ _ h0 l⟩
  ·have t0 : takesF s = 0 := takesF_low (by omega)
   have t1 : takesF (s + ats.length) = 0 := takesF_low (by omega)
   rw [if_pos t0]
   refine ⟨by rw [t0, t1], fun l => ?_⟩
   rw [madeF_leaf _ t0, madeF_leaf _ t1, show (s + (ats.length : Int)).toNat = ha.length + s.toNat by omega]
   rw [List.getD_eq_getElem?_getD, List.getElem?_append_right (by omega), Nat.add_sub_cancel_left, ← List.getD_eq_getElem?_getD]
 have hp : pileF (ha ++ hb) (c ++ (d.map (movedF ats.length) ++ [10])) [] = [valF ha c && valF hb d] := by
  rw [pileF_append, pileF_append, e1, e2, pileF_one ha h5, pileF_one hb g5]; rfl
 rw [valF, hp]; rfl
def Wd.heldL (w : Wd) (ats : List At) : List Bool := ats.map fun a => w.holds a.k a.s a.t a.n
def Wd.formFault (w : Wd) (ats : List At) (c : List Int) : Int := if YtnoohlibgaeklaaGreatDoor.formFault ats c = 0 then (if w.ok = true then 0 else 1) else YtnoohlibgaeklaaGreatDoor.formFault ats c
def Wd.formIs (w : Wd) (ats : List At) (c : List Int) : Bool := if w.formFault ats c = 0 then valF (w.heldL ats) c else false
theorem wdForm_zero {w : Wd} {ats : List At} {c : List Int} : w.formFault ats c = 0 ↔ YtnoohlibgaeklaaGreatDoor.formFault ats c = 0 ∧ w.ok = true := by
 unfold Wd.formFault
 by_cases h : YtnoohlibgaeklaaGreatDoor.formFault ats c = 0
 ·rw [if_pos h]
  by_cases h' : w.ok = true
  ·rw [if_pos h']; exact ⟨fun _ => ⟨h, h'⟩, fun _ => rfl⟩
  ·rw [if_neg h']; exact ⟨fun h => (by cases h), fun h => absurd h.2 h'⟩
 ·rw [if_neg h]; exact ⟨fun h' => absurd h' h, fun h' => absurd h'.1 h⟩
def negFault (ats : List At) (c : List Int) : Int := if formFault ats c = 0 then (if 19 < c.length then 4 else 0) else formFault ats c
theorem words_ok {ws : List (List UInt8)} (h : wordsFault ws = 0) : (1 ≤ wordsKind ws ∧ wordsKind ws ≤ 5) ∧ partsBad (wordsKind ws) ws = false ∧ atomFault (wordsKind ws) (wordsS ws) (wordsT (wordsKind ws) ws) (wordsN (wordsKind ws) ws) = 0 := by
 unfold wordsFault at h
 by_cases h0 : wordsKind ws = 0
 ·rw [if_pos h0] at h; cases h
 rw [if_neg h0] at h
 by_cases h1 : partsBad (wordsKind ws) ws = true
 ·rw [if_pos h1] at h; cases h
 rw [if_neg h1] at h
 exact ⟨(atomFault_zero.1 h).1, by simpa using h1, h⟩
theorem plain_kind (k : Int) : plainB (kindWord k) = true := by unfold kindWord; (repeat' split) <;> rfl
theorem plain_byte (s : Int) : (byteOf s != 32) = true := by unfold byteOf; (repeat' split) <;> rfl
theorem plain_text (t : List Int) : plainB (textN t) = true := by
 unfold plainB textN
 rw [List.all_map, List.all_eq_true]
 intro x _
 exact plain_byte x
theorem nums_plain : nums.all (fun n => plainB (numText n)) = true := by decide +kernel
theorem plain_num {n : Int} (h : -99 ≤ n ∧ n ≤ 99) : plainB (numText n) = true := List.all_eq_true.1 nums_plain n (mem_nums.2 h)
theorem kind_of_word {k : Int} (hk : 1 ≤ k ∧ k ≤ 5) : kindOfN (kindWord k) = k := by
 rcases five hk.1 hk.2 with rfl | rfl | rfl | rfl | rfl <;> rfl
def atomWords (k : Int) (s t : List Int) (n : Int) : List (List UInt8) := kindWord k :: textN s :: ((if secondB k = true then [textN t] else []) ++ (if numberB k = true then [numText n] else []))
theorem seen_words {k n : Int} {s t : List Int} (h : atomFault k s t n = 0) : seen (strOf (atomText k s t n)) = atomWords k s t n := by
 obtain ⟨hk, hs, ht, n0, n1⟩ := atomFault_zero.1 h
 have hm : mostN k ≤ 20 := by unfold mostN; split <;> omega
 have pn := plain_num (n := n) ⟨by omega, by omega⟩
 have pk := plain_kind k
 have ps := plain_text s
 have pt := plain_text t
 have hz : 4 ≤ (strOf (atomText k s t n)).size := by
  rw [strOf_size]
  have : 3 ≤ (kindWord k).length := by unfold kindWord; (repeat' split) <;> simp
  unfold atomText
  simp
  omega
 unfold seen
 rw [if_pos hz, strOf_list]
 unfold atomText atomWords
 rcases five hk.1 hk.2 with rfl | rfl | rfl | rfl | rfl
 ·simp only [show secondB 1 = true from rfl, show numberB 1 = false from rfl, if_true, Bool.false_eq_true, if_false, List.append_nil, List.append_assoc, List.cons_append]
  rw [split_word pk, split_word ps, split_last pt]
 ·simp only [show secondB 2 = true from rfl, show numberB 2 = false from rfl, if_true, Bool.false_eq_true, if_false, List.append_nil, List.append_assoc, List.cons_append]
  rw [split_word pk, split_word ps, split_last pt]
 ·simp only [show secondB 3 = false from rfl, show numberB 3 = true from rfl, if_true, Bool.false_eq_true, if_false, List.nil_append, List.append_assoc, List.cons_append]
  rw [split_word pk, split_word ps, split_last pn]
 ·simp only [show secondB 4 = false from rfl, show numberB 4 = true from rfl, if_true, Bool.false_eq_true, if_false, List.nil_append, List.append_assoc, List.cons_append]
  rw [split_word pk, split_word ps, split_last pn]
 ·simp only [show secondB 5 = true from rfl, show numberB 5 = true from rfl, if_true, List.nil_append, List.append_assoc, List.cons_append]
  rw [split_word pk, split_word ps, split_word pt, split_last pn]
theorem words_back {k n : Int} {s t : List Int} (h : atomFault k s t n = 0) : wordsFault (atomWords k s t n) = 0 ∧ wordsKind (atomWords k s t n) = k ∧ wordsS (atomWords k s t n) = s ∧ wordsT k (atomWords k s t n) = t ∧ wordsN k (atomWords k s t n) = n := by
 obtain ⟨hk, hs, ht, n0, n1⟩ := atomFault_zero.1 h
 have ss := (fault_zero.1 hs).2.2.1
 have es := read_text ss
 have ls := letters_text ss
 have hm : mostN k ≤ 20 := by unfold mostN; split <;> omega
 have en := numOf_text (n := n) ⟨by omega, by omega⟩
 have ek : wordsKind (atomWords k s t n) = k := by
  have e0 : (atomWords k s t n).getD 0 [] = kindWord k := rfl
  unfold wordsKind
  rw [e0, kind_of_word hk, if_pos]
  rcases five hk.1 hk.2 with rfl | rfl | rfl | rfl | rfl <;> rfl
 have eS : wordsS (atomWords k s t n) = s := es
 have eT : wordsT k (atomWords k s t n) = t := by
  unfold wordsT
  by_cases h2 : secondB k = true
  ·have h0 := second_reads ht h2
   rw [if_pos h2]
   have : (atomWords k s t n).getD 2 [] = textN t := by unfold atomWords; rw [if_pos h2]; rfl
   rw [this, read_text (fault_zero.1 h0).2.2.1]
  ·rw [if_neg h2]
   unfold secondFault at ht
   rw [if_neg h2] at ht
   by_cases hl : 0 < t.length
   ·rw [if_pos hl] at ht; cases ht
   ·exact (List.length_eq_zero_iff.1 (by omega)).symm
 have eN : wordsN k (atomWords k s t n) = n := by
  unfold wordsN
  by_cases h2 : numberB k = true
  ·rw [if_pos h2]
   have : (atomWords k s t n).getD ((atomWords k s t n).length - 1) [] = numText n := by
    rcases five hk.1 hk.2 with rfl | rfl | rfl | rfl | rfl
    ·cases h2
    ·cases h2
    all_goals rfl
   rw [this, en]; rfl
  ·rw [if_neg h2]
   unfold mostN at n0 n1
   rw [if_neg h2] at n0 n1
   omega
 have eP : partsBad k (atomWords k s t n) = false := by
  have l1 : lettersB ((atomWords k s t n).getD 1 []) = true := ls
  unfold partsBad
  rw [l1]
  by_cases h2 : secondB k = true
  ·have h0 := second_reads ht h2
   have l2 : lettersB ((atomWords k s t n).getD 2 []) = true := by
    have : (atomWords k s t n).getD 2 [] = textN t := by unfold atomWords; rw [if_pos h2]; rfl
    rw [this]; exact letters_text (fault_zero.1 h0).2.2.1
   rw [l2]
   by_cases h3 : numberB k = true
   ·have : (atomWords k s t n).getD ((atomWords k s t n).length - 1) [] = numText n := by
     rcases five hk.1 hk.2 with rfl | rfl | rfl | rfl | rfl
     ·cases h3
     ·cases h3
     all_goals rfl
    rw [this, en]; simp
   ·simp [h3]
  ·by_cases h3 : numberB k = true
   ·have : (atomWords k s t n).getD ((atomWords k s t n).length - 1) [] = numText n := by
     rcases five hk.1 hk.2 with rfl | rfl | rfl | rfl | rfl
     ·cases h3
     ·cases h3
     all_goals rfl
    rw [this, en]; simp [h2]
   ·simp [h2, h3]
 refine ⟨?_, ek, eS, eT, eN⟩
 unfold wordsFault
 rw [ek, if_neg (by omega), eP, eS, eT, eN]
 simpa using h
theorem atomText_size {k n : Int} {s t : List Int} (h : atomFault k s t n = 0) : (atomText k s t n).length ≤ 100 := by
 obtain ⟨hk, hs, ht, n0, n1⟩ := atomFault_zero.1 h
 have l1 : (textN s).length ≤ 12 := by have := (fault_zero.1 hs).2.1; simp [textN]; omega
 have l2 : secondB k = true → (textN t).length ≤ 12 := fun h2 => by have := (fault_zero.1 (second_reads ht h2)).2.1; simp [textN]; omega
 have l3 : (numText n).length ≤ 3 := by
  unfold numText digitsN
  (repeat' split) <;> simp
 have l0 : (kindWord k).length ≤ 6 := by unfold kindWord; (repeat' split) <;> simp
 unfold atomText
 by_cases h2 : secondB k = true
 ·have := l2 h2
  by_cases h3 : numberB k = true <;> simp [h2, h3] <;> omega
 ·by_cases h3 : numberB k = true <;> simp [h2, h3] <;> omega
def codeW : List UInt8 := [99, 111, 100, 101]
def signW (s : Int) : List UInt8 := if s = 10 then [97, 110, 100] else if s = 11 then [111, 114] else if s = 12 then [110, 111] else if s = 13 then [116, 104, 101, 110] else digitsN s.toNat
def At.text (a : At) : List UInt8 := atomText a.k a.s a.t a.n
def linesOf (ats : List At) : List UInt8 := (ats.map fun a => a.text ++ [10]).flatten
def signsOf (c : List Int) : List UInt8 := (c.map fun s => 32 :: signW s).flatten
def formText (ats : List At) (c : List Int) : List UInt8 := linesOf ats ++ (codeW ++ signsOf c ++ [10])
def signN (l : List UInt8) : Option Int :=
 if l = [97, 110, 100] then some 10 else if l = [111, 114] then some 11 else if l = [110, 111] then some 12 else if l = [116, 104, 101, 110] then some 13
 else if l.length = 1 ∧ 48 ≤ (l.getD 0 0).toNat ∧ (l.getD 0 0).toNat ≤ 57 then some ((l.getD 0 0).toNat - 48) else none
def signsN : List (List UInt8) → Option (List Int)
 | [] => some []
 | l :: r => match signN l, signsN r with
  | some s, some t => some (s :: t)
  | _, _ => none
def atOf (l : List UInt8) : At := ⟨wordsKind (cutL l), wordsS (cutL l), wordsT (wordsKind (cutL l)) (cutL l), wordsN (wordsKind (cutL l)) (cutL l)⟩
def lineFault (l : List UInt8) : Int := wordsFault (cutL l)
def linesFault : List (List UInt8) → Int
 | [] => 0
 | l :: r => if lineFault l = 0 then linesFault r else lineFault l
def headLines (t : List UInt8) : List (List UInt8) := (cutB 10 t).take ((cutB 10 t).length - 2)
def codeLine (t : List UInt8) : List UInt8 := (cutB 10 t).getD ((cutB 10 t).length - 2) []
def lastLine (t : List UInt8) : List UInt8 := (cutB 10 t).getD ((cutB 10 t).length - 1) []
def codeWords (t : List UInt8) : List (List UInt8) := (cutL (codeLine t)).drop 1
def textAts (t : List UInt8) : List At := (headLines t).map atOf
def textCode (t : List UInt8) : List Int := (signsN (codeWords t)).getD []
def frameBad (t : List UInt8) : Bool := decide ((cutB 10 t).length < 2) || decide (¬ lastLine t = []) || decide (¬ (cutL (codeLine t)).getD 0 [] = codeW) || (signsN (codeWords t)).isNone
def formTextFault (t : List UInt8) : Int := if frameBad t = true then 2 else if linesFault (headLines t) = 0 then formFault (textAts t) (textCode t) else linesFault (headLines t)
def joinB (c : UInt8) : List (List UInt8) → List UInt8
 | [] => []
 | [x] => x
 | x :: y :: r => x ++ c :: joinB c (y :: r)
theorem cutB_ne (c : UInt8) (l : List UInt8) : cutB c l ≠ [] := by
 obtain ⟨y, ys, h⟩ := cutB_some c l
 rw [h]; exact List.cons_ne_nil _ _
theorem line_kind : ∀ k : Int, plainC 10 (kindWord k) = true := by intro k; unfold kindWord; (repeat' split) <;> rfl
theorem line_byte (s : Int) : (byteOf s != 10) = true := by unfold byteOf; (repeat' split) <;> rfl
theorem line_term (t : List Int) : plainC 10 (textN t) = true := by
 unfold plainC textN
 rw [List.all_map, List.all_eq_true]
 intro x _
 exact line_byte x
theorem line_nums : nums.all (fun n => plainC 10 (numText n)) = true := by decide +kernel
theorem line_num {n : Int} (h : -99 ≤ n ∧ n ≤ 99) : plainC 10 (numText n) = true := List.all_eq_true.1 line_nums n (mem_nums.2 h)
theorem plainC_app {c : UInt8} {a b : List UInt8} (ha : plainC c a = true) (hb : plainC c b = true) : plainC c (a ++ b) = true := by
 unfold plainC at *; rw [List.all_append, ha, hb]; rfl
theorem plainC_cons {c x : UInt8} {b : List UInt8} (hx : x ≠ c) (hb : plainC c b = true) : plainC c (x :: b) = true := by
 unfold plainC at *; rw [List.all_cons, hb]; simpa using hx
theorem line_atom {a : At} (h : a.fault = 0) : plainC 10 a.text = true := by
 obtain ⟨hk, hs, ht, n0, n1⟩ := atomFault_zero.1 h
 have hm : mostN a.k ≤ 20 := by unfold mostN; split <;> omega
 unfold At.text atomText
 refine plainC_app (plainC_app (line_kind _) (plainC_cons (by decide) (line_term _))) (plainC_app ?_ ?_)
 ·split
  ·exact plainC_cons (by decide) (line_term _)
  ·rfl
 ·split
  ·exact plainC_cons (by decide) (line_num ⟨by omega, by omega⟩)
  ·rfl
def endsN (l : List UInt8) : Nat := (l.filter fun b => b == 10).length
end Go.Proofs.YtnoohlibgaeklaaGreatDoor
