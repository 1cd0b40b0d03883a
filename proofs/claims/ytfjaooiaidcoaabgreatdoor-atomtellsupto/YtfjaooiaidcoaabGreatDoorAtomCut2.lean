/-
  Proved: what vennref1.Cut returns at a blank, of any text of at most 1048576 bytes: the words that it is cut into; what was in memory is as it was (a contract that the statements lean on).
-/
import Derived.Test.YtfjaooiaidcoaabGreatDoorAtomCut
namespace Go.Proofs.YtfjaooiaidcoaabGreatDoor
open Go.ChangeShapes Go.WideShapes Go.ChangeAt Go.RowKit
set_option maxRecDepth 100000

/-- words as values. -/
def wordsV (ws : List (List UInt8)) : List Value := ws.map fun l => .string (strOf l)
theorem take_step {l : List UInt8} {f i : Nat} (hf : f ≤ i) (hi : i < l.length) : (l.drop f).take (i + 1 - f) = (l.drop f).take (i - f) ++ [l.getD i 0] := by
  rw [show i + 1 - f = (i - f) + 1 by omega, List.take_add_one]
  simp [List.getElem?_drop, show f + (i - f) = i by omega, List.getElem?_eq_getElem hi]
theorem plain_step {l : List UInt8} {f i : Nat} (hf : f ≤ i) (hi : i < l.length) (h : plainB ((l.drop f).take (i - f)) = true) (hb : l.getD i 0 ≠ 32) : plainB ((l.drop f).take (i + 1 - f)) = true := by
  rw [take_step hf hi]
  unfold plainB at h ⊢
  rw [List.all_append, h]
  simpa using hb
theorem cut_step {l : List UInt8} {f i : Nat} (hf : f ≤ i) (hi : i < l.length) (h : plainB ((l.drop f).take (i - f)) = true) (hb : l.getD i 0 = 32) : cutL (l.drop f) = (l.drop f).take (i - f) :: cutL (l.drop (i + 1)) := by
  have e : l.drop f = (l.drop f).take (i - f) ++ 32 :: l.drop (i + 1) := by
    have h1 : (l.drop f).drop (i - f) = 32 :: l.drop (i + 1) := by
      rw [List.drop_drop, show f + (i - f) = i by omega, List.drop_eq_getElem_cons hi]
      congr 1
      rw [← hb]; simp [List.getElem?_eq_getElem hi]
    rw [← h1, List.take_append_drop]
  have hl : ((l.drop f).take (i - f)).length = i - f := by simp; omega
  have hbl : blankAt (l.drop f) = ((i - f : Nat) : Int) := by
    rw [e, blankAt_plain h, hl]
  rw [cutL_hit hbl, List.drop_drop, show f + (i - f + 1) = i + 1 by omega]
theorem cut_end {l : List UInt8} {f : Nat} (h : plainB (l.drop f) = true) : cutL (l.drop f) = [l.drop f] := cutL_miss (blankAt_none h)

set_option maxHeartbeats 4000000 in
theorem refCut_any (s : ByteArray) (hz : s.size ≤ 1048576) (w : World) :
    Calls Tryz.prog 31 #[.string s, .int .u8 32] w fun e w' => ∃ v, e = .returned v ∧ ReadsS w' v (cutL s.data.toList) ∧ Below w.heap.size w w' := by
  obtain ⟨i0, hi, hz0, hz1, hz2⟩ := info_parts infoStr
  obtain ⟨K, hK⟩ : ∃ K, K = w.heap.size := ⟨_, rfl⟩
  have HK : Hid (w.heap.size = K) := hK.symm
  rw [← hK]
  clear hK
  obtain ⟨l, hl⟩ : ∃ l, l = s.data.toList := ⟨_, rfl⟩
  rw [← hl]
  have HL : Hid (l = s.data.toList ∧ l.length = s.size) := ⟨hl, by rw [hl]; exact Array.length_toList⟩
  clear hl
  go_enter Tryz.func31, Tryz.ntmps31
  go_wp2
  go_loopw [5, 6, 7] (fun v fr i wr => ∃ (k f : Nat) (os : List (List UInt8)), f ≤ k ∧ k ≤ s.size ∧ i = .int .i64 k ∧ fr = .int .i64 f ∧ wr.ownsRow K 9 1 v os.length (wordsV os) ∧ Below K w wr ∧ K ≤ wr.heap.size ∧ os.length ≤ f ∧ plainB ((l.drop f).take (k - f)) = true ∧ os ++ cutL (l.drop f) = cutL l) (fun _ _ i _ => s.size - (intOf i).toNat)
  case atStart => exact ⟨0, 0, [], Nat.le_refl _, Nat.zero_le _, rfl, rfl, World.ownsRow_nil _ _ _ _, Below.refl _ _, by rw [HK.out]; exact Nat.le_refl _, Nat.le_refl _, rfl, rfl⟩
  case round =>
    obtain ⟨k, f, os, hf, hk, rfl, rfl, hown, hbel, hKw, hos, hpl, hcut⟩ := hrel
    have HOW : Hid (wr.ownsRow K 9 1 u5 os.length (wordsV os)) := hown
    have HBE : Hid (Below K w wr ∧ K ≤ wr.heap.size) := ⟨hbel, hKw⟩
    have HPL : Hid (plainB ((l.drop f).take (k - f)) = true ∧ os ++ cutL (l.drop f) = cutL l) := ⟨hpl, hcut⟩
    clear hown hbel hKw hpl hcut
    have hf' : (f : Int) ≤ (k : Int) := by omega
    have hf0 : (0 : Int) ≤ (f : Int) := by omega
    have hks : (k : Int) ≤ (s.size : Int) := by omega
    by_cases hlt : k < s.size
    · have hlt' : (k : Int) < (s.size : Int) := by omega
      have HGD : Hid (l.getD k 0 = s[k]'hlt) := by
        unfold Hid
        have hk' : k < s.data.toList.length := by rw [Array.length_toList]; exact hlt
        rw [HL.out.1, List.getD_eq_getElem?_getD, List.getElem?_eq_getElem hk']
        rfl
      by_cases hb : s[k]'hlt = 32
      · have hb' : (((s[k]'hlt).toNat : Int) == 32) = true := by rw [hb]; decide
        have HX : Hid (s.extract f k = strOf ((l.drop f).take (k - f))) := by
          unfold Hid
          rw [HL.out.1, Lib.extract_eq]
          rfl
        have HCT : Hid ((os ++ [(l.drop f).take (k - f)]) ++ cutL (l.drop (k + 1)) = cutL l) := by
          have h1 := cut_step hf (by rw [HL.out.2]; exact hlt) HPL.out.1 (by rw [HGD.out]; exact hb)
          unfold Hid
          rw [← HPL.out.2, h1, List.append_assoc]; rfl
        clear hb HGD
        go_wp2_with (first | (at_builtin; refine wpList_append_own _ rfl (.tmp 19) (.tmp 24) 65 rfl K 9 i0 (.string ByteArray.empty) 1 16 Tryz.underlying65 hi hz0 hz1 hz2 rfl (by decide) u5 os.length (wordsV os) rfl (HOW.out.alloc _) ⟨wr.heap.size, 0, none⟩ 1 1 [.string (s.extract f k)] rfl rfl ?a1 ?a2 ?a3 ?a4 ?a5 ?_))
        case a1 =>
          intro j y hj
          match j, hj with
          | 0, hj => simp at hj; subst hj; simp [Addr.add]
        case a2 => intro y hy; simp at hy; subst hy; rfl
        case a3 => unfold maxLen; omega
        case a4 => omega
        case a5 => have := HBE.out.2; simp; omega
        intro v' w2 hown' hgrow _
        have HR : Hid (w2.ownsRow K 9 1 v' (os ++ [(l.drop f).take (k - f)]).length (wordsV (os ++ [(l.drop f).take (k - f)])) ∧ Below K w w2 ∧ K ≤ w2.heap.size) := by
          refine ⟨?_, ?_, ?_⟩
          · unfold wordsV
            rw [List.map_append, List.length_append]
            rw [HX.out] at hown'
            exact hown'
          · exact (HBE.out.1.alloc HBE.out.2 _).grown hgrow (by have := HBE.out.2; simp; omega) (fun k hk => (HOW.out.lt k hk).1)
          · have h1 := hgrow.size
            have h2 := HBE.out.2
            simp at h1
            omega
        clear hown' hgrow
        go_wp2
        go_roundw
        case rel => exact ⟨k + 1, k + 1, os ++ [(l.drop f).take (k - f)], Nat.le_refl _, by omega, by go_num, by go_num, HR.out.1, HR.out.2.1, HR.out.2.2, by simp; omega, by rw [Nat.sub_self]; rfl, HCT.out⟩
        case measure => simp [intOf]; omega
      · have hb' : (((s[k]'hlt).toNat : Int) == 32) = false := by
          simp only [beq_eq_false_iff_ne, ne_eq]
          intro h
          exact hb (UInt8.toNat_inj.1 (by have h2 : (s[k]'hlt).toNat = 32 := by omega
                                          rw [h2]; rfl))
        have HPS : Hid (plainB ((l.drop f).take (k + 1 - f)) = true) := plain_step hf (by rw [HL.out.2]; exact hlt) HPL.out.1 (by rw [HGD.out]; exact hb)
        clear hb HGD
        go_wp2
        go_roundw
        case rel => exact ⟨k + 1, f, os, by omega, by omega, by go_num, rfl, HOW.out, HBE.out.1, HBE.out.2, hos, HPS.out, HPL.out.2⟩
        case measure => simp [intOf]; omega
    · have hks' : k = s.size := by omega
      have HX : Hid (s.extract f s.size = strOf (l.drop f)) := by
        have h1 : s.data.toList.length = s.size := Array.length_toList
        unfold Hid
        rw [HL.out.1, Lib.extract_eq, List.take_of_length_le (by rw [List.length_drop, h1]; exact Nat.le_refl _)]
        rfl
      have HCT : Hid (os ++ [l.drop f] = cutL l) := by
        have h1 := HPL.out.1
        rw [List.take_of_length_le (by rw [List.length_drop, HL.out.2]; omega)] at h1
        unfold Hid
        rw [← HPL.out.2, cut_end h1]
      have hfs : (f : Int) ≤ (s.size : Int) := by omega
      go_wp2_with (first | (at_builtin; refine wpList_append_own _ rfl (.tmp 28) (.tmp 32) 65 rfl K 9 i0 (.string ByteArray.empty) 1 16 Tryz.underlying65 hi hz0 hz1 hz2 rfl (by decide) u5 os.length (wordsV os) rfl (HOW.out.alloc _) ⟨wr.heap.size, 0, none⟩ 1 1 [.string (s.extract f s.size)] rfl rfl ?b1 ?b2 ?b3 ?b4 ?b5 ?_))
      case b1 =>
        intro j y hj
        match j, hj with
        | 0, hj => simp at hj; subst hj; simp [Addr.add]
      case b2 => intro y hy; simp at hy; subst hy; rfl
      case b3 => unfold maxLen; omega
      case b4 => omega
      case b5 => have := HBE.out.2; simp; omega
      intro v' w2 hown' hgrow _
      have HR : Hid (ReadsS w2 v' (cutL l) ∧ Below K w w2) := by
        refine ⟨?_, (HBE.out.1.alloc HBE.out.2 _).grown hgrow (by have := HBE.out.2; simp; omega) (fun k hk => (HOW.out.lt k hk).1)⟩
        rw [HX.out] at hown'
        rcases hown'.2 with ⟨_, h0⟩ | ⟨g, cap, cur, rfl, hg, hh, hn, _⟩
        · omega
        · rw [← HCT.out]
          refine ⟨g, cap, by rw [List.length_append]; rfl, (Array.getElem?_eq_some_iff.1 hh).1, by rw [List.length_append]; exact hn, fun j hj => ?_⟩
          rw [List.length_append] at hj
          rw [hown'.cellAt j (by simpa using hj)]
          have e : wordsV os ++ [.string (strOf (l.drop f))] = wordsV (os ++ [l.drop f]) := by simp [wordsV]
          rw [e]
          have hj' : j < (os ++ [l.drop f]).length := by rw [List.length_append]; exact hj
          unfold wordsV
          rw [List.getElem?_map, List.getElem?_eq_getElem hj', List.getD_eq_getElem?_getD, List.getElem?_eq_getElem hj']
          rfl
      clear hown' hgrow
      go_wp2
      go_ret
      exact ⟨_, rfl, HR.out.1, HR.out.2⟩
end Go.Proofs.YtfjaooiaidcoaabGreatDoor
