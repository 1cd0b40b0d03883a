/-
  Proved: what vennref1.Cut returns at a blank, of any text of at most 1048576 bytes: the words that it is cut into; what was in memory is as it was (a contract that the statements lean on).
  Proved: what vennref1.Cut returns at a blank, of any text of at most 1048576 bytes: the words that it is cut into; what was in memory is as it was (a contract that the statements lean on).
  Proved: what vennref1.ReadNumber returns, of any text: the number that it is, if it is one; what was in memory is as it was (a contract that the statements lean on).
-/
import Derived.Test.YtenmheenieifpabGreatDoorAtomBackMath
import Derived.Test.YtenmheenieifpabGreatDoorAtomParse
import Derived.OwnWalk
import Derived.Laws.OwnMore
import Derived.Laws.AppendOwn
import Derived.Test.YtenmheenieifpabGreatDoorAtomText
import Derived.Test.YtenmheenieifpabGreatDoorTermCheck
import Derived.Test.YtenmheenieifpabGreatDoorTermMade
import Derived.Lib.Strings
namespace Go.Proofs.YtenmheenieifpabGreatDoor
open Go.ChangeShapes Go.WideShapes Go.ChangeAt Go.RowKit
set_option maxRecDepth 100000

/-- more cuts than there may be blanks change nothing. -/
theorem split_more : ∀ (n m : Nat) (l : List UInt8), l.length ≤ n → l.length ≤ m → splitL n l = splitL m l := by
  intro n
  induction n with
  | zero =>
    intro m l h _
    have hl : l = [] := List.eq_nil_of_length_eq_zero (by omega)
    subst hl
    rw [splitL_miss (by decide), splitL_miss (by decide)]
  | succ n ih =>
    intro m l h hm
    by_cases hb : blankAt l < 0
    · rw [splitL_miss hb, splitL_miss hb]
    · obtain ⟨j, hj⟩ := Int.eq_ofNat_of_zero_le (show 0 ≤ blankAt l by omega)
      have hr := blankAt_range l
      rw [hj] at hr
      obtain ⟨k, rfl⟩ : ∃ k, m = k + 1 := ⟨m - 1, by omega⟩
      rw [splitL_hit hj, splitL_hit hj, ih k _ (by simp; omega) (by simp; omega)]
/-- a text cut at every blank. -/
def cutL (l : List UInt8) : List (List UInt8) := splitL l.length l
theorem cutL_miss {l : List UInt8} (h : blankAt l < 0) : cutL l = [l] := splitL_miss h
theorem cutL_hit {l : List UInt8} {j : Nat} (h : blankAt l = j) : cutL l = l.take j :: cutL (l.drop (j + 1)) := by
  have hr := blankAt_range l
  rw [h] at hr
  obtain ⟨k, hk⟩ : ∃ k, l.length = k + 1 := ⟨l.length - 1, by omega⟩
  rw [cutL, hk, splitL_hit h, cutL, split_more k (l.drop (j + 1)).length _ (by simp; omega) (Nat.le_refl _)]
/-- cut at most k times: all words, or k + 1 of them. -/
theorem split_cut : ∀ (k : Nat) (l : List UInt8), splitL k l = cutL l ∨ (k + 1 < (cutL l).length ∧ (splitL k l).length = k + 1) := by
  intro k
  induction k with
  | zero =>
    intro l
    by_cases hb : blankAt l < 0
    · left; rw [cutL_miss hb]; rfl
    · obtain ⟨j, hj⟩ := Int.eq_ofNat_of_zero_le (show 0 ≤ blankAt l by omega)
      right
      rw [cutL_hit hj]
      have := splitL_pos (l.drop (j + 1)).length (l.drop (j + 1))
      exact ⟨by simp only [List.length_cons]; unfold cutL; omega, rfl⟩
  | succ k ih =>
    intro l
    by_cases hb : blankAt l < 0
    · left; rw [cutL_miss hb, splitL_miss hb]
    · obtain ⟨j, hj⟩ := Int.eq_ofNat_of_zero_le (show 0 ≤ blankAt l by omega)
      rw [cutL_hit hj, splitL_hit hj]
      rcases ih (l.drop (j + 1)) with h | ⟨h1, h2⟩
      · left; rw [h]
      · right; simp only [List.length_cons]; omega
theorem wordsFault_long {ws : List (List UInt8)} (h : 4 < ws.length) : wordsKind ws = 0 ∧ wordsFault ws = 2 := by
  have e : wordsKind ws = 0 := by
    unfold wordsKind
    rw [if_neg]
    unfold manyN
    split <;> omega
  exact ⟨e, by unfold wordsFault; rw [if_pos e]⟩
/-- what Parse sees is read as the whole cut. -/
theorem seen_cut (s : ByteArray) : seen s = cutL s.data.toList ∨ (wordsFault (seen s) = 2 ∧ wordsFault (cutL s.data.toList) = 2) := by
  have hl : s.data.toList.length = s.size := Array.length_toList
  unfold seen
  by_cases h : 4 ≤ s.size
  · rw [if_pos h]
    rcases split_cut 4 s.data.toList with e | ⟨h1, h2⟩
    · exact Or.inl e
    · exact Or.inr ⟨(wordsFault_long (by omega)).2, (wordsFault_long (by omega)).2⟩
  · rw [if_neg h]
    left
    rw [← hl]
    rfl
end Go.Proofs.YtenmheenieifpabGreatDoor

namespace Go.Proofs.YtenmheenieifpabGreatDoor
open Go.ChangeShapes Go.WideShapes Go.ChangeAt Go.RowKit
set_option maxRecDepth 100000

/-- words as values. -/
def wordsV (ws : List (List UInt8)) : List Value := ws.map fun l => .string (strOf l)
theorem take_step {l : List UInt8} {f i : Nat} (hf : f ≤ i) (hi : i < l.length) : (l.drop f).take (i + 1 - f) = (l.drop f).take (i - f) ++ [l.getD i 0] := by
  rw [show i + 1 - f = (i - f) + 1 by omega, List.take_add_one]
  simp [List.getElem?_drop, show f + (i - f) = i by omega, List.getElem?_eq_getElem hi]
theorem plain_step {l : List UInt8} {f i : Nat} (hf : f ≤ i) (hi : i < l.length) (h : plainB ((l.drop f).take (i - f)) = true) (hb : l.getD i 0 ≠ 32) : plainB ((l.drop f).take (i + 1 - f)) = true := by
  rw [take_step hf hi]
  unfold plainB at h ⊢
  rw [List.all_append, h]
  simpa using hb
theorem cut_step {l : List UInt8} {f i : Nat} (hf : f ≤ i) (hi : i < l.length) (h : plainB ((l.drop f).take (i - f)) = true) (hb : l.getD i 0 = 32) : cutL (l.drop f) = (l.drop f).take (i - f) :: cutL (l.drop (i + 1)) := by
  have e : l.drop f = (l.drop f).take (i - f) ++ 32 :: l.drop (i + 1) := by
    have h1 : (l.drop f).drop (i - f) = 32 :: l.drop (i + 1) := by
      rw [List.drop_drop, show f + (i - f) = i by omega, List.drop_eq_getElem_cons hi]
      congr 1
      rw [← hb]; simp [List.getElem?_eq_getElem hi]
    rw [← h1, List.take_append_drop]
  have hl : ((l.drop f).take (i - f)).length = i - f := by simp; omega
  have hbl : blankAt (l.drop f) = ((i - f : Nat) : Int) := by
    rw [e, blankAt_plain h, hl]
  rw [cutL_hit hbl, List.drop_drop, show f + (i - f + 1) = i + 1 by omega]
theorem cut_end {l : List UInt8} {f : Nat} (h : plainB (l.drop f) = true) : cutL (l.drop f) = [l.drop f] := cutL_miss (blankAt_none h)

set_option maxHeartbeats 4000000 in
theorem refCut_any (s : ByteArray) (hz : s.size ≤ 1048576) (w : World) :
    Calls Tryz.prog 31 #[.string s, .int .u8 32] w fun e w' => ∃ v, e = .returned v ∧ ReadsS w' v (cutL s.data.toList) ∧ Below w.heap.size w w' := by
  obtain ⟨i0, hi, hz0, hz1, hz2⟩ := info_parts infoStr
  obtain ⟨K, hK⟩ : ∃ K, K = w.heap.size := ⟨_, rfl⟩
  have HK : Hid (w.heap.size = K) := hK.symm
  rw [← hK]
  clear hK
  obtain ⟨l, hl⟩ : ∃ l, l = s.data.toList := ⟨_, rfl⟩
  rw [← hl]
  have HL : Hid (l = s.data.toList ∧ l.length = s.size) := ⟨hl, by rw [hl]; exact Array.length_toList⟩
  clear hl
  go_enter Tryz.func31, Tryz.ntmps31
  go_wp2
  go_loopw [5, 6, 7] (fun v fr i wr => ∃ (k f : Nat) (os : List (List UInt8)), f ≤ k ∧ k ≤ s.size ∧ i = .int .i64 k ∧ fr = .int .i64 f ∧ wr.ownsRow K 9 1 v os.length (wordsV os) ∧ Below K w wr ∧ K ≤ wr.heap.size ∧ os.length ≤ f ∧ plainB ((l.drop f).take (k - f)) = true ∧ os ++ cutL (l.drop f) = cutL l) (fun _ _ i _ => s.size - (intOf i).toNat)
  case atStart => exact ⟨0, 0, [], Nat.le_refl _, Nat.zero_le _, rfl, rfl, World.ownsRow_nil _ _ _ _, Below.refl _ _, by rw [HK.out]; exact Nat.le_refl _, Nat.le_refl _, rfl, rfl⟩
  case round =>
    obtain ⟨k, f, os, hf, hk, rfl, rfl, hown, hbel, hKw, hos, hpl, hcut⟩ := hrel
    have HOW : Hid (wr.ownsRow K 9 1 u5 os.length (wordsV os)) := hown
    have HBE : Hid (Below K w wr ∧ K ≤ wr.heap.size) := ⟨hbel, hKw⟩
    have HPL : Hid (plainB ((l.drop f).take (k - f)) = true ∧ os ++ cutL (l.drop f) = cutL l) := ⟨hpl, hcut⟩
    clear hown hbel hKw hpl hcut
    have hf' : (f : Int) ≤ (k : Int) := by omega
    have hf0 : (0 : Int) ≤ (f : Int) := by omega
    have hks : (k : Int) ≤ (s.size : Int) := by omega
    by_cases hlt : k < s.size
    · have hlt' : (k : Int) < (s.size : Int) := by omega
      have HGD : Hid (l.getD k 0 = s[k]'hlt) := by
        unfold Hid
        have hk' : k < s.data.toList.length := by rw [Array.length_toList]; exact hlt
        rw [HL.out.1, List.getD_eq_getElem?_getD, List.getElem?_eq_getElem hk']
        rfl
      by_cases hb : s[k]'hlt = 32
      · have hb' : (((s[k]'hlt).toNat : Int) == 32) = true := by rw [hb]; decide
        have HX : Hid (s.extract f k = strOf ((l.drop f).take (k - f))) := by
          unfold Hid
          rw [HL.out.1, Lib.extract_eq]
          rfl
        have HCT : Hid ((os ++ [(l.drop f).take (k - f)]) ++ cutL (l.drop (k + 1)) = cutL l) := by
          have h1 := cut_step hf (by rw [HL.out.2]; exact hlt) HPL.out.1 (by rw [HGD.out]; exact hb)
          unfold Hid
          rw [← HPL.out.2, h1, List.append_assoc]; rfl
        clear hb HGD
        go_wp2_with (first | (at_builtin; refine wpList_append_own _ rfl (.tmp 19) (.tmp 24) 65 rfl K 9 i0 (.string ByteArray.empty) 1 16 Tryz.underlying65 hi hz0 hz1 hz2 rfl (by decide) u5 os.length (wordsV os) rfl (HOW.out.alloc _) ⟨wr.heap.size, 0, none⟩ 1 1 [.string (s.extract f k)] rfl rfl ?a1 ?a2 ?a3 ?a4 ?a5 ?_))
        case a1 =>
          intro j y hj
          match j, hj with
          | 0, hj => simp at hj; subst hj; simp [Addr.add]
        case a2 => intro y hy; simp at hy; subst hy; rfl
        case a3 => unfold maxLen; omega
        case a4 => omega
        case a5 => have := HBE.out.2; simp; omega
        intro v' w2 hown' hgrow _
        have HR : Hid (w2.ownsRow K 9 1 v' (os ++ [(l.drop f).take (k - f)]).length (wordsV (os ++ [(l.drop f).take (k - f)])) ∧ Below K w w2 ∧ K ≤ w2.heap.size) := by
          refine ⟨?_, ?_, ?_⟩
          · unfold wordsV
            rw [List.map_append, List.length_append]
            rw [HX.out] at hown'
            exact hown'
          · exact (HBE.out.1.alloc HBE.out.2 _).grown hgrow (by have := HBE.out.2; simp; omega) (fun k hk => (HOW.out.lt k hk).1)
          · have h1 := hgrow.size
            have h2 := HBE.out.2
            simp at h1
            omega
        clear hown' hgrow
        go_wp2
        go_roundw
        case rel => exact ⟨k + 1, k + 1, os ++ [(l.drop f).take (k - f)], Nat.le_refl _, by omega, by go_num, by go_num, HR.out.1, HR.out.2.1, HR.out.2.2, by simp; omega, by rw [Nat.sub_self]; rfl, HCT.out⟩
        case measure => simp [intOf]; omega
      · have hb' : (((s[k]'hlt).toNat : Int) == 32) = false := by
          simp only [beq_eq_false_iff_ne, ne_eq]
          intro h
          exact hb (UInt8.toNat_inj.1 (by have h2 : (s[k]'hlt).toNat = 32 := by omega
                                          rw [h2]; rfl))
        have HPS : Hid (plainB ((l.drop f).take (k + 1 - f)) = true) := plain_step hf (by rw [HL.out.2]; exact hlt) HPL.out.1 (by rw [HGD.out]; exact hb)
        clear hb HGD
        go_wp2
        go_roundw
        case rel => exact ⟨k + 1, f, os, by omega, by omega, by go_num, rfl, HOW.out, HBE.out.1, HBE.out.2, hos, HPS.out, HPL.out.2⟩
        case measure => simp [intOf]; omega
    · have hks' : k = s.size := by omega
      have HX : Hid (s.extract f s.size = strOf (l.drop f)) := by
        have h1 : s.data.toList.length = s.size := Array.length_toList
        unfold Hid
        rw [HL.out.1, Lib.extract_eq, List.take_of_length_le (by rw [List.length_drop, h1]; exact Nat.le_refl _)]
        rfl
      have HCT : Hid (os ++ [l.drop f] = cutL l) := by
        have h1 := HPL.out.1
        rw [List.take_of_length_le (by rw [List.length_drop, HL.out.2]; omega)] at h1
        unfold Hid
        rw [← HPL.out.2, cut_end h1]
      have hfs : (f : Int) ≤ (s.size : Int) := by omega
      go_wp2_with (first | (at_builtin; refine wpList_append_own _ rfl (.tmp 28) (.tmp 32) 65 rfl K 9 i0 (.string ByteArray.empty) 1 16 Tryz.underlying65 hi hz0 hz1 hz2 rfl (by decide) u5 os.length (wordsV os) rfl (HOW.out.alloc _) ⟨wr.heap.size, 0, none⟩ 1 1 [.string (s.extract f s.size)] rfl rfl ?b1 ?b2 ?b3 ?b4 ?b5 ?_))
      case b1 =>
        intro j y hj
        match j, hj with
        | 0, hj => simp at hj; subst hj; simp [Addr.add]
      case b2 => intro y hy; simp at hy; subst hy; rfl
      case b3 => unfold maxLen; omega
      case b4 => omega
      case b5 => have := HBE.out.2; simp; omega
      intro v' w2 hown' hgrow _
      have HR : Hid (ReadsS w2 v' (cutL l) ∧ Below K w w2) := by
        refine ⟨?_, (HBE.out.1.alloc HBE.out.2 _).grown hgrow (by have := HBE.out.2; simp; omega) (fun k hk => (HOW.out.lt k hk).1)⟩
        rw [HX.out] at hown'
        rcases hown'.2 with ⟨_, h0⟩ | ⟨g, cap, cur, rfl, hg, hh, hn, _⟩
        · omega
        · rw [← HCT.out]
          refine ⟨g, cap, by rw [List.length_append]; rfl, (Array.getElem?_eq_some_iff.1 hh).1, by rw [List.length_append]; exact hn, fun j hj => ?_⟩
          rw [List.length_append] at hj
          rw [hown'.cellAt j (by simpa using hj)]
          have e : wordsV os ++ [.string (strOf (l.drop f))] = wordsV (os ++ [l.drop f]) := by simp [wordsV]
          rw [e]
          have hj' : j < (os ++ [l.drop f]).length := by rw [List.length_append]; exact hj
          unfold wordsV
          rw [List.getElem?_map, List.getElem?_eq_getElem hj', List.getD_eq_getElem?_getD, List.getElem?_eq_getElem hj']
          rfl
      clear hown' hgrow
      go_wp2
      go_ret
      exact ⟨_, rfl, HR.out.1, HR.out.2⟩
end Go.Proofs.YtenmheenieifpabGreatDoor

namespace Go.Proofs.YtenmheenieifpabGreatDoor
open Go.ChangeShapes Go.WideShapes Go.ChangeAt Go.RowKit
set_option maxRecDepth 100000

/-- a digit. -/
def digB (b : UInt8) : Bool := decide (48 ≤ b.toNat ∧ b.toNat ≤ 57)
def sgn (below : Bool) (n : Int) : Int := if below = true then -n else n
/-- one or two digits as a number; none: they are none. -/
def refNumU (below : Bool) : List UInt8 → Option Int
  | [d] => if digB d = true then (if d = 48 ∧ below = true then none else some (sgn below ((d.toNat : Int) - 48))) else none
  | [d, e] => if digB d = true ∧ digB e = true then (if d = 48 then none else some (sgn below (10 * ((d.toNat : Int) - 48) + ((e.toNat : Int) - 48)))) else none
  | _ => none
def refNum : List UInt8 → Option Int
  | [] => none
  | b :: r => if b = 45 then refNumU true r else refNumU false (b :: r)
theorem refNum_nums : nums.all (fun n => decide (refNum (numText n) = some n)) = true := by decide +kernel
theorem refNum_text {n : Int} (h : -99 ≤ n ∧ n ≤ 99) : refNum (numText n) = some n := by
  have := List.all_eq_true.1 refNum_nums n (mem_nums.2 h)
  simpa using this
theorem digit_of {b : UInt8} (h : digB b = true) : ∃ a : Nat, a ≤ 9 ∧ b = UInt8.ofNat (48 + a) ∧ b.toNat = 48 + a := by
  have h' : 48 ≤ b.toNat ∧ b.toNat ≤ 57 := by simpa [digB] using h
  refine ⟨b.toNat - 48, by omega, ?_, by omega⟩
  apply UInt8.toNat_inj.1
  simp
  omega
theorem one_text : ∀ a : Nat, a < 10 → numText (a : Int) = [UInt8.ofNat (48 + a)] ∧ (0 < a → numText (-(a : Int)) = [45, UInt8.ofNat (48 + a)]) := by decide
theorem two_text : ∀ a : Nat, a < 10 → 0 < a → ∀ b : Nat, b < 10 → numText ((10 * a + b : Nat) : Int) = [UInt8.ofNat (48 + a), UInt8.ofNat (48 + b)] ∧ numText (-((10 * a + b : Nat) : Int)) = [45, UInt8.ofNat (48 + a), UInt8.ofNat (48 + b)] := by decide +kernel
theorem numU_text {below : Bool} {r : List UInt8} {n : Int} (h : refNumU below r = some n) : (-99 ≤ n ∧ n ≤ 99) ∧ numText n = (if below = true then 45 :: r else r) := by
  match r, h with
  | [d], h =>
    rw [refNumU] at h
    by_cases hd : digB d = true
    · rw [if_pos hd] at h
      obtain ⟨a, ha, rfl, hn⟩ := digit_of hd
      by_cases hz : UInt8.ofNat (48 + a) = 48 ∧ below = true
      · rw [if_pos hz] at h; cases h
      · rw [if_neg hz] at h
        have e := Option.some.inj h
        rw [hn] at e
        have ht := one_text a (by omega)
        cases below
        · simp [sgn] at e
          have e' : n = (a : Int) := by omega
          subst e'
          exact ⟨by omega, ht.1⟩
        · simp [sgn] at e
          have e' : n = -(a : Int) := by omega
          subst e'
          have h0 : 0 < a := by
            rcases Nat.eq_zero_or_pos a with rfl | h0
            · exact absurd ⟨rfl, rfl⟩ hz
            · exact h0
          exact ⟨by omega, ht.2 h0⟩
    · rw [if_neg hd] at h; cases h
  | [d, e0], h =>
    rw [refNumU] at h
    by_cases hd : digB d = true ∧ digB e0 = true
    · rw [if_pos hd] at h
      obtain ⟨a, ha, rfl, hn⟩ := digit_of hd.1
      obtain ⟨b, hb, rfl, hm⟩ := digit_of hd.2
      by_cases hz : UInt8.ofNat (48 + a) = 48
      · rw [if_pos hz] at h; cases h
      · rw [if_neg hz] at h
        have e := Option.some.inj h
        rw [hn, hm] at e
        have h0 : 0 < a := by
          rcases Nat.eq_zero_or_pos a with rfl | h0
          · exact absurd rfl hz
          · exact h0
        have ht := two_text a (by omega) h0 b (by omega)
        cases below
        · simp [sgn] at e
          have e' : n = ((10 * a + b : Nat) : Int) := by omega
          subst e'
          exact ⟨by omega, ht.1⟩
        · simp [sgn] at e
          have e' : n = -((10 * a + b : Nat) : Int) := by omega
          subst e'
          exact ⟨by omega, ht.2⟩
    · rw [if_neg hd] at h; cases h
  | [], h => cases h
  | _ :: _ :: _ :: _, h => cases h
/-- the reference's number is the document's. -/
theorem numOf_ref (l : List UInt8) : numOf l = refNum l := by
  cases h : refNum l with
  | some n =>
    match l, h with
    | b :: r, h =>
      rw [refNum] at h
      by_cases hb : b = 45
      · subst hb
        rw [if_pos rfl] at h
        have := numU_text h
        exact numOf_some.2 ⟨this.1, this.2⟩
      · rw [if_neg hb] at h
        have := numU_text h
        exact numOf_some.2 ⟨this.1, this.2⟩
  | none =>
    cases h1 : numOf l with
    | none => rfl
    | some n =>
      obtain ⟨hn, rfl⟩ := numOf_some.1 h1
      rw [refNum_text hn] at h
      cases h

theorem at_byte {s : ByteArray} {l : List UInt8} (hl : s.data.toList = l) {k : Nat} (hk : k < s.size) {b : UInt8} (hb : l[k]? = some b) : s[k]'hk = b := by
  have h2 : s.data.toList[k]? = some (s[k]'hk) := by
    rw [List.getElem?_eq_getElem (by rw [Array.length_toList]; exact hk)]; rfl
  rw [hl, hb] at h2
  exact (Option.some.inj h2).symm
theorem byte_ne {b : UInt8} {c : Nat} (hc : c < 256) (h : b ≠ UInt8.ofNat c) : ((b.toNat : Int) == (c : Int)) = false := by
  simp only [beq_eq_false_iff_ne, ne_eq]
  intro h1
  apply h
  apply UInt8.toNat_inj.1
  simp
  omega
theorem readNum_none (s : ByteArray) (hz : s.size ≤ 9223372036854775807) (hl : (bareN s.data.toList).length = 0 ∨ 2 < (bareN s.data.toList).length) (w : World) :
    Calls Tryz.prog 33 #[.string s] w fun e w' => e = .returned (.tuple #[.int .i64 0, .bool false]) ∧ w = w' := by
  have hsz : s.data.toList.length = s.size := Array.length_toList
  by_cases h0 : s.size = 0
  · have h0' : (s.size : Int) = 0 := by omega
    go_enter Tryz.func33, Tryz.ntmps33
    go_wp2
    go_ret2
    exact ⟨rfl, rfl⟩
  · have h0' : (0 : Int) < (s.size : Int) := by omega
    have h0n : 0 < s.size := by omega
    obtain ⟨b, r, hbr⟩ : ∃ b r, s.data.toList = b :: r := by
      cases h : s.data.toList with
      | nil => rw [h] at hsz; simp at hsz; omega
      | cons b r => exact ⟨b, r, rfl⟩
    have hb0 : s[0]'h0n = b := at_byte hbr h0n rfl
    rw [hbr] at hl hsz
    simp at hsz
    by_cases hb : b = 45
    · subst hb
      have hl' : r.length = 0 ∨ 2 < r.length := hl
      have hbb : (((s[0]'h0n).toNat : Int) == 45) = true := by rw [hb0]; rfl
      have h1s : (1 : Int) ≤ (s.size : Int) := by omega
      have hxs : (s.extract 1 s.size).size = s.size - 1 := by simp
      rcases hl' with hl' | hl'
      · have hx : ((s.extract 1 s.size).size : Int) < 1 := by omega
        go_enter Tryz.func33, Tryz.ntmps33
        go_wp2
        go_ret2
        exact ⟨rfl, rfl⟩
      · have hx : (2 : Int) < ((s.extract 1 s.size).size : Int) := by omega
        go_enter Tryz.func33, Tryz.ntmps33
        go_wp2
        go_ret2
        exact ⟨rfl, rfl⟩
    · have hbb : ((b.toNat : Int) == 45) = false := byte_ne (by decide) hb
      have hl' : 2 < r.length + 1 := by
        rcases hl with h | h
        · rw [bareN, if_neg hb] at h; simp at h
        · rw [bareN, if_neg hb] at h; simpa using h
      have hs2 : (2 : Int) < (s.size : Int) := by omega
      go_enter Tryz.func33, Tryz.ntmps33
      go_wp2
      go_ret2
      exact ⟨rfl, rfl⟩

set_option maxHeartbeats 4000000 in
theorem readNum_d (s : ByteArray) (d : UInt8) (hs : s.data.toList = [d]) (hd : d ≠ 45) (w : World) :
    Calls Tryz.prog 33 #[.string s] w fun e w' => e = .returned (.tuple #[.int .i64 ((refNumU false [d]).getD 0), .bool (refNumU false [d]).isSome]) ∧ w = w' := by
  have hsz : s.size = 1 := by have : s.data.toList.length = s.size := Array.length_toList; rw [hs] at this; exact this.symm
  have h0n : 0 < s.size := by omega
  have hi : (s.size : Int) = 1 := by omega
  have hbb : ((d.toNat : Int) == 45) = false := byte_ne (by decide) hd
  have hn0 : 0 < s.size := by omega
  have hb0 : s[0]'hn0 = d := at_byte hs hn0 rfl
  have hq0 : (d.toNat : Int) ≤ 255 := by have := d.toNat_lt; omega
  by_cases l0 : d.toNat < 48
  · have l0' : (d.toNat : Int) < 48 := by omega
    have he : refNumU false [d] = none := by simp only [refNumU]; rw [if_neg]; simp [digB]; omega
    rw [he]
    clear he
    go_enter Tryz.func33, Tryz.ntmps33
    go_wp2
    refine wp_loop_rounds 3 ?_
    rw [rounds_succ]
    go_wp2
    go_ret2
    exact ⟨rfl, rfl⟩
  · have l0' : ¬ (d.toNat : Int) < 48 := by omega
    by_cases g0 : 57 < d.toNat
    · have g0' : 57 < (d.toNat : Int) := by omega
      have he : refNumU false [d] = none := by simp only [refNumU]; rw [if_neg]; simp [digB]; omega
      rw [he]
      clear he
      go_enter Tryz.func33, Tryz.ntmps33
      go_wp2
      refine wp_loop_rounds 3 ?_
      rw [rounds_succ]
      go_wp2
      go_ret2
      exact ⟨rfl, rfl⟩
    · have g0' : ¬ 57 < (d.toNat : Int) := by omega
      by_cases z : d = 48
      · have z' : ((d.toNat : Int) == 48) = true := by rw [z]; rfl
        have z2 : (d.toNat : Int) = 48 := by rw [z]; rfl
        have he : refNumU false [d] = some 0 := by subst z; rfl
        rw [he]
        clear he
        go_enter Tryz.func33, Tryz.ntmps33
        go_wp2
        refine wp_loop_rounds 3 ?_
        rw [rounds_succ]
        go_wp2
        rw [rounds_succ]
        go_wp2
        go_ret2
        exact ⟨by first | rfl | (apply back_v; first | rfl | (congr 3; simp; try omega)), rfl⟩
      · have z' : ((d.toNat : Int) == 48) = false := byte_ne (by decide) z
        have he : refNumU false [d] = some ((d.toNat : Int) - 48) := by simp only [refNumU]; rw [if_pos (by simp [digB]; omega), if_neg (fun h => z h.1)]; rfl
        rw [he]
        clear he
        go_enter Tryz.func33, Tryz.ntmps33
        go_wp2
        refine wp_loop_rounds 3 ?_
        rw [rounds_succ]
        go_wp2
        rw [rounds_succ]
        go_wp2
        go_ret2
        exact ⟨by first | rfl | (apply back_v; first | rfl | (congr 3; simp; try omega)), rfl⟩

set_option maxHeartbeats 4000000 in
theorem readNum_dc (s : ByteArray) (d c : UInt8) (hs : s.data.toList = [d, c]) (hd : d ≠ 45) (w : World) :
    Calls Tryz.prog 33 #[.string s] w fun e w' => e = .returned (.tuple #[.int .i64 ((refNumU false [d, c]).getD 0), .bool (refNumU false [d, c]).isSome]) ∧ w = w' := by
  have hsz : s.size = 2 := by have : s.data.toList.length = s.size := Array.length_toList; rw [hs] at this; exact this.symm
  have h0n : 0 < s.size := by omega
  have hi : (s.size : Int) = 2 := by omega
  have hbb : ((d.toNat : Int) == 45) = false := byte_ne (by decide) hd
  have hn0 : 0 < s.size := by omega
  have hb0 : s[0]'hn0 = d := at_byte hs hn0 rfl
  have hq0 : (d.toNat : Int) ≤ 255 := by have := d.toNat_lt; omega
  have hn1 : 1 < s.size := by omega
  have hb1 : s[1]'hn1 = c := at_byte hs hn1 rfl
  have hq1 : (c.toNat : Int) ≤ 255 := by have := c.toNat_lt; omega
  by_cases l0 : d.toNat < 48
  · have l0' : (d.toNat : Int) < 48 := by omega
    have he : refNumU false [d, c] = none := by simp only [refNumU]; rw [if_neg]; simp [digB]; omega
    rw [he]
    clear he
    go_enter Tryz.func33, Tryz.ntmps33
    go_wp2
    refine wp_loop_rounds 3 ?_
    rw [rounds_succ]
    go_wp2
    go_ret2
    exact ⟨rfl, rfl⟩
  · have l0' : ¬ (d.toNat : Int) < 48 := by omega
    by_cases g0 : 57 < d.toNat
    · have g0' : 57 < (d.toNat : Int) := by omega
      have he : refNumU false [d, c] = none := by simp only [refNumU]; rw [if_neg]; simp [digB]; omega
      rw [he]
      clear he
      go_enter Tryz.func33, Tryz.ntmps33
      go_wp2
      refine wp_loop_rounds 3 ?_
      rw [rounds_succ]
      go_wp2
      go_ret2
      exact ⟨rfl, rfl⟩
    · have g0' : ¬ 57 < (d.toNat : Int) := by omega
      by_cases l1 : c.toNat < 48
      · have l1' : (c.toNat : Int) < 48 := by omega
        have he : refNumU false [d, c] = none := by simp only [refNumU]; rw [if_neg]; simp [digB]; omega
        rw [he]
        clear he
        go_enter Tryz.func33, Tryz.ntmps33
        go_wp2
        refine wp_loop_rounds 3 ?_
        rw [rounds_succ]
        go_wp2
        rw [rounds_succ]
        go_wp2
        go_ret2
        exact ⟨rfl, rfl⟩
      · have l1' : ¬ (c.toNat : Int) < 48 := by omega
        by_cases g1 : 57 < c.toNat
        · have g1' : 57 < (c.toNat : Int) := by omega
          have he : refNumU false [d, c] = none := by simp only [refNumU]; rw [if_neg]; simp [digB]; omega
          rw [he]
          clear he
          go_enter Tryz.func33, Tryz.ntmps33
          go_wp2
          refine wp_loop_rounds 3 ?_
          rw [rounds_succ]
          go_wp2
          rw [rounds_succ]
          go_wp2
          go_ret2
          exact ⟨rfl, rfl⟩
        · have g1' : ¬ 57 < (c.toNat : Int) := by omega
          by_cases z : d = 48
          · have z' : ((d.toNat : Int) == 48) = true := by rw [z]; rfl
            have he : refNumU false [d, c] = none := by simp only [refNumU]; rw [if_pos (by simp [digB]; omega), if_pos z]
            rw [he]
            clear he
            go_enter Tryz.func33, Tryz.ntmps33
            go_wp2
            refine wp_loop_rounds 3 ?_
            rw [rounds_succ]
            go_wp2
            rw [rounds_succ]
            go_wp2
            rw [rounds_succ]
            go_wp2
            go_ret2
            exact ⟨rfl, rfl⟩
          · have z' : ((d.toNat : Int) == 48) = false := byte_ne (by decide) z
            have he : refNumU false [d, c] = some (10 * ((d.toNat : Int) - 48) + ((c.toNat : Int) - 48)) := by simp only [refNumU]; rw [if_pos (by simp [digB]; omega), if_neg z]; rfl
            rw [he]
            clear he
            go_enter Tryz.func33, Tryz.ntmps33
            go_wp2
            refine wp_loop_rounds 3 ?_
            rw [rounds_succ]
            go_wp2
            rw [rounds_succ]
            go_wp2
            rw [rounds_succ]
            go_wp2
            go_ret2
            exact ⟨by first | rfl | (apply back_v; first | rfl | (congr 3; simp; try omega)), rfl⟩

set_option maxHeartbeats 4000000 in
theorem readNum_md (s : ByteArray) (d : UInt8) (hs : s.data.toList = [45, d]) (w : World) :
    Calls Tryz.prog 33 #[.string s] w fun e w' => e = .returned (.tuple #[.int .i64 ((refNumU true [d]).getD 0), .bool (refNumU true [d]).isSome]) ∧ w = w' := by
  have hsz : s.size = 2 := by have : s.data.toList.length = s.size := Array.length_toList; rw [hs] at this; exact this.symm
  have h0n : 0 < s.size := by omega
  have hi : (s.size : Int) = 2 := by omega
  have hb : s[0]'h0n = 45 := at_byte hs h0n rfl
  obtain ⟨t, hx⟩ : ∃ t, s.extract 1 2 = t := ⟨_, rfl⟩
  have ht : t.data.toList = [d] := by rw [← hx, Lib.extract_eq, hs]; rfl
  have htz : t.size = 1 := by have : t.data.toList.length = t.size := Array.length_toList; rw [ht] at this; exact this.symm
  have hti : (t.size : Int) = 1 := by omega
  have hn0 : 0 < t.size := by omega
  have hb0 : t[0]'hn0 = d := at_byte ht hn0 rfl
  have hq0 : (d.toNat : Int) ≤ 255 := by have := d.toNat_lt; omega
  by_cases l0 : d.toNat < 48
  · have l0' : (d.toNat : Int) < 48 := by omega
    have he : refNumU true [d] = none := by simp only [refNumU]; rw [if_neg]; simp [digB]; omega
    rw [he]
    clear he
    go_enter Tryz.func33, Tryz.ntmps33
    go_wp2
    refine wp_loop_rounds 3 ?_
    rw [rounds_succ]
    go_wp2
    go_ret2
    exact ⟨rfl, rfl⟩
  · have l0' : ¬ (d.toNat : Int) < 48 := by omega
    by_cases g0 : 57 < d.toNat
    · have g0' : 57 < (d.toNat : Int) := by omega
      have he : refNumU true [d] = none := by simp only [refNumU]; rw [if_neg]; simp [digB]; omega
      rw [he]
      clear he
      go_enter Tryz.func33, Tryz.ntmps33
      go_wp2
      refine wp_loop_rounds 3 ?_
      rw [rounds_succ]
      go_wp2
      go_ret2
      exact ⟨rfl, rfl⟩
    · have g0' : ¬ 57 < (d.toNat : Int) := by omega
      by_cases z : d = 48
      · have z' : ((d.toNat : Int) == 48) = true := by rw [z]; rfl
        have he : refNumU true [d] = none := by subst z; rfl
        rw [he]
        clear he
        go_enter Tryz.func33, Tryz.ntmps33
        go_wp2
        refine wp_loop_rounds 3 ?_
        rw [rounds_succ]
        go_wp2
        rw [rounds_succ]
        go_wp2
        go_ret2
        exact ⟨rfl, rfl⟩
      · have z' : ((d.toNat : Int) == 48) = false := byte_ne (by decide) z
        have he : refNumU true [d] = some (-((d.toNat : Int) - 48)) := by simp only [refNumU]; rw [if_pos (by simp [digB]; omega), if_neg (fun h => z h.1)]; rfl
        rw [he]
        clear he
        go_enter Tryz.func33, Tryz.ntmps33
        go_wp2
        refine wp_loop_rounds 3 ?_
        rw [rounds_succ]
        go_wp2
        rw [rounds_succ]
        go_wp2
        go_ret2
        exact ⟨by first | rfl | (apply back_v; first | rfl | (congr 3; simp; try omega)), rfl⟩

set_option maxHeartbeats 4000000 in
theorem readNum_mdc (s : ByteArray) (d c : UInt8) (hs : s.data.toList = [45, d, c]) (w : World) :
    Calls Tryz.prog 33 #[.string s] w fun e w' => e = .returned (.tuple #[.int .i64 ((refNumU true [d, c]).getD 0), .bool (refNumU true [d, c]).isSome]) ∧ w = w' := by
  have hsz : s.size = 3 := by have : s.data.toList.length = s.size := Array.length_toList; rw [hs] at this; exact this.symm
  have h0n : 0 < s.size := by omega
  have hi : (s.size : Int) = 3 := by omega
  have hb : s[0]'h0n = 45 := at_byte hs h0n rfl
  obtain ⟨t, hx⟩ : ∃ t, s.extract 1 3 = t := ⟨_, rfl⟩
  have ht : t.data.toList = [d, c] := by rw [← hx, Lib.extract_eq, hs]; rfl
  have htz : t.size = 2 := by have : t.data.toList.length = t.size := Array.length_toList; rw [ht] at this; exact this.symm
  have hti : (t.size : Int) = 2 := by omega
  have hn0 : 0 < t.size := by omega
  have hb0 : t[0]'hn0 = d := at_byte ht hn0 rfl
  have hq0 : (d.toNat : Int) ≤ 255 := by have := d.toNat_lt; omega
  have hn1 : 1 < t.size := by omega
  have hb1 : t[1]'hn1 = c := at_byte ht hn1 rfl
  have hq1 : (c.toNat : Int) ≤ 255 := by have := c.toNat_lt; omega
  by_cases l0 : d.toNat < 48
  · have l0' : (d.toNat : Int) < 48 := by omega
    have he : refNumU true [d, c] = none := by simp only [refNumU]; rw [if_neg]; simp [digB]; omega
    rw [he]
    clear he
    go_enter Tryz.func33, Tryz.ntmps33
    go_wp2
    refine wp_loop_rounds 3 ?_
    rw [rounds_succ]
    go_wp2
    go_ret2
    exact ⟨rfl, rfl⟩
  · have l0' : ¬ (d.toNat : Int) < 48 := by omega
    by_cases g0 : 57 < d.toNat
    · have g0' : 57 < (d.toNat : Int) := by omega
      have he : refNumU true [d, c] = none := by simp only [refNumU]; rw [if_neg]; simp [digB]; omega
      rw [he]
      clear he
      go_enter Tryz.func33, Tryz.ntmps33
      go_wp2
      refine wp_loop_rounds 3 ?_
      rw [rounds_succ]
      go_wp2
      go_ret2
      exact ⟨rfl, rfl⟩
    · have g0' : ¬ 57 < (d.toNat : Int) := by omega
      by_cases l1 : c.toNat < 48
      · have l1' : (c.toNat : Int) < 48 := by omega
        have he : refNumU true [d, c] = none := by simp only [refNumU]; rw [if_neg]; simp [digB]; omega
        rw [he]
        clear he
        go_enter Tryz.func33, Tryz.ntmps33
        go_wp2
        refine wp_loop_rounds 3 ?_
        rw [rounds_succ]
        go_wp2
        rw [rounds_succ]
        go_wp2
        go_ret2
        exact ⟨rfl, rfl⟩
      · have l1' : ¬ (c.toNat : Int) < 48 := by omega
        by_cases g1 : 57 < c.toNat
        · have g1' : 57 < (c.toNat : Int) := by omega
          have he : refNumU true [d, c] = none := by simp only [refNumU]; rw [if_neg]; simp [digB]; omega
          rw [he]
          clear he
          go_enter Tryz.func33, Tryz.ntmps33
          go_wp2
          refine wp_loop_rounds 3 ?_
          rw [rounds_succ]
          go_wp2
          rw [rounds_succ]
          go_wp2
          go_ret2
          exact ⟨rfl, rfl⟩
        · have g1' : ¬ 57 < (c.toNat : Int) := by omega
          by_cases z : d = 48
          · have z' : ((d.toNat : Int) == 48) = true := by rw [z]; rfl
            have he : refNumU true [d, c] = none := by simp only [refNumU]; rw [if_pos (by simp [digB]; omega), if_pos z]
            rw [he]
            clear he
            go_enter Tryz.func33, Tryz.ntmps33
            go_wp2
            refine wp_loop_rounds 3 ?_
            rw [rounds_succ]
            go_wp2
            rw [rounds_succ]
            go_wp2
            rw [rounds_succ]
            go_wp2
            go_ret2
            exact ⟨rfl, rfl⟩
          · have z' : ((d.toNat : Int) == 48) = false := byte_ne (by decide) z
            have he : refNumU true [d, c] = some (-(10 * ((d.toNat : Int) - 48) + ((c.toNat : Int) - 48))) := by simp only [refNumU]; rw [if_pos (by simp [digB]; omega), if_neg z]; rfl
            rw [he]
            clear he
            go_enter Tryz.func33, Tryz.ntmps33
            go_wp2
            refine wp_loop_rounds 3 ?_
            rw [rounds_succ]
            go_wp2
            rw [rounds_succ]
            go_wp2
            rw [rounds_succ]
            go_wp2
            go_ret2
            exact ⟨by first | rfl | (apply back_v; first | rfl | (congr 3; simp; try omega)), rfl⟩
/-- ReadNumber, of any text. -/
theorem readNumber_any (s : ByteArray) (hz : s.size ≤ 9223372036854775807) (w : World) :
    Calls Tryz.prog 33 #[.string s] w fun e w' => e = .returned (.tuple #[.int .i64 ((numOf s.data.toList).getD 0), .bool (numOf s.data.toList).isSome]) ∧ w = w' := by
  have none_of : (bareN s.data.toList).length = 0 ∨ 2 < (bareN s.data.toList).length → numOf s.data.toList = none := by
    intro h
    rw [numOf_ref]
    cases hl : s.data.toList with
    | nil => rfl
    | cons b r =>
      rw [hl, bareN] at h
      rw [refNum]
      by_cases hb : b = 45
      · rw [if_pos hb] at h ⊢
        match r, h with
        | [], _ => rfl
        | [_], h => simp at h
        | [_, _], h => simp at h
        | _ :: _ :: _ :: _, _ => rfl
      · rw [if_neg hb] at h ⊢
        match r, h with
        | [], h => simp at h
        | [_], h => simp at h
        | _ :: _ :: _, _ => rfl
  by_cases hl : (bareN s.data.toList).length = 0 ∨ 2 < (bareN s.data.toList).length
  · rw [none_of hl]
    exact readNum_none s hz hl w
  · clear none_of
    rw [numOf_ref]
    match hs : s.data.toList with
    | [] => rw [hs] at hl; exact absurd (Or.inl rfl) hl
    | b :: r =>
      rw [hs, bareN] at hl
      rw [refNum]
      by_cases hb : b = 45
      · subst hb
        rw [if_pos rfl] at hl ⊢
        match r, hl, hs with
        | [], hl, _ => exact absurd (Or.inl rfl) hl
        | [d], _, hs => exact readNum_md s d hs w
        | [d, c], _, hs => exact readNum_mdc s d c hs w
        | _ :: _ :: _ :: _, hl, _ => exact absurd (Or.inr (by simp)) hl
      · rw [if_neg hb] at hl ⊢
        match r, hl, hs with
        | [], _, hs => exact readNum_d s b hs hb w
        | [c], _, hs => exact readNum_dc s b c hs hb w
        | _ :: _ :: _, hl, _ => exact absurd (Or.inr (by simp)) hl
end Go.Proofs.YtenmheenieifpabGreatDoor
