/-
  Facts and contracts that the statement leans on.
-/
import Derived.Test.YtnoohlibgaeklaaGreatDoorLibQ2
import Derived.Laws.BytesArg
import Derived.Laws.IdiomStrings
import Derived.Test.YtnoohlibgaeklaaGreatDoorLibQ1
import Derived.Lib.ItoaNum
import Derived.Lib.Atoi
import Derived.Lib.Strings
import Derived.Lib.IndexLaws
import Derived.Laws.World
namespace Go.Proofs.YtnoohlibgaeklaaGreatDoor
open Go.ChangeShapes Go.WideShapes Go.ChangeAt Go.RowKit
set_option maxRecDepth 100000
set_option maxHeartbeats 16000000
theorem parse_syntax (s : ByteArray) (h : lettersB s.data.toList = false) (w : World) :
    Calls Tryz.prog 66 #[.string s] w (Bk w (.tuple #[.slice none 0 0, .iface 91 (.int .i64 2)])) := by
 have HC : Hid (Calls Tryz.prog 101 #[.string s, .func (.func 99) #[] #[]] w (Bk w (.bool true))) := by
  have := containsFunc_text s w
  rw [h] at this; exact this
 clear h
 go_enter Tryz.func66, Tryz.ntmps66
 go_wp2_with (go_at_call 101; refine HC.out.mono ?_; rintro e w' ⟨rfl, hb⟩)
 go_ret2
 exact ⟨rfl, hb⟩
def partN (s : ByteArray) (n : Nat) : List Int := readN (s.data.toList.take n)
theorem partN_length (s : ByteArray) {n : Nat} (h : n ≤ s.size) : (partN s n).length = n := by
 have : s.data.toList.length = s.size := Array.length_toList
 simp only [partN, readN, List.length_map, List.length_take]; omega
theorem partN_getD (s : ByteArray) {n k : Nat} (h : n ≤ s.size) (hk : k < n) : (partN s n).getD k 0 = signOf (s[k]'(by omega)) := by
 have h1 : s.data.toList.length = s.size := Array.length_toList
 have h2 : k < (s.data.toList.take n).length := by rw [List.length_take]; omega
 simp only [partN, readN, List.getD_eq_getElem?_getD, List.getElem?_map, List.getElem?_eq_getElem h2, Option.map_some, Option.getD_some, List.getElem_take]
 rfl
theorem own_reads {w : World} {base : Nat} {e : TypeId} {g cap n : Nat} {xs : List Value} {t : List Int} (h : w.ownsRow base e 1 (.slice (some ⟨g, 0, none⟩) n cap) n xs) (hn : t.length = n) (hx : ∀ j, j < n → xs[j]? = some (.int .i64 (t.getD j 0))) (hm : n ≤ 13) : Reads w (.slice (some ⟨g, 0, none⟩) n cap) t := by
 rcases Nat.eq_zero_or_pos n with h0 | h0
 ·exact Or.inl ⟨_, cap, by rw [h0], List.eq_nil_of_length_eq_zero (by omega)⟩
 ·refine Or.inr ⟨g, 0, cap, by rw [hn], (ownsRow_block h).2.1, by omega, ⟨by omega, by have := (ownsRow_block h).2.2; omega⟩, fun k hk => ?_⟩
  rw [Nat.zero_add, h.cellAt k (by omega)]
  exact hx k (by omega)
theorem parse_short (s : ByteArray) (hz : s.size ≤ 9223372036854775807) (hn : s.size ≤ 13) (h : lettersB s.data.toList = true) (w : World) :
    Calls Tryz.prog 66 #[.string s] w fun e w' => ∃ v, e = .returned (.tuple #[if faultN (partN s s.size) = 0 then v else .slice none 0 0, errV (faultN (partN s s.size))]) ∧ Reads w' v (partN s s.size) ∧ (∃ g c, v = .slice (some ⟨g, 0, none⟩) c c ∧ w.heap.size ≤ g) ∧ Bw w w' := by
 obtain ⟨i0, hi, hz0, hz1, hz2⟩ := info_parts infoInt
 have HC : Hid (Calls Tryz.prog 101 #[.string s, .func (.func 99) #[] #[]] w (Bk w (.bool false))) := by
  have := containsFunc_text s w
  rw [h] at this; exact this
 clear h
 have hdec : ¬ (13 : Int) < (s.size : Int) := by omega
 have hNs : s.size ≤ s.size := by omega
 have hN13 : s.size ≤ 13 := by omega
 obtain ⟨t, ht⟩ := nm (partN s s.size)
 rw [← ht]
 have HTL : Hid (t.length = s.size) := by unfold Hid; rw [ht]; exact partN_length s hNs
 have HTG : Hid (∀ k (hk : k < s.size), t.getD k 0 = signOf (s[k]'(by omega))) := fun k hk => by rw [ht]; exact partN_getD s hNs hk
 clear ht
 obtain ⟨E, hE⟩ := nm (errV (faultN t))
 obtain ⟨pick, hpick⟩ : ∃ pick : Value → Value, pick = fun v => if faultN t = 0 then v else .slice none 0 0 := ⟨_, rfl⟩
 have hgoal : ∀ v, (if faultN t = 0 then v else Value.slice none 0 0) = pick v := fun v => by rw [hpick]
 rw [← hE]
 simp only [hgoal]
 have HE := hide hE
 have HPI : Hid ((faultN t = 0 → ∀ v, pick v = v) ∧ (¬ faultN t = 0 → ∀ v, pick v = .slice none 0 0)) := ⟨fun h v => by rw [hpick]; exact if_pos h, fun h v => by rw [hpick]; exact if_neg h⟩
 clear hgoal hpick hE
 obtain ⟨f, hf⟩ : ∃ f : Nat → Value, f = fun j => .int .i64 (t.getD j 0) := ⟨_, rfl⟩
 have HF := hide hf
 clear hf
 go_enter Tryz.func66, Tryz.ntmps66
 go_wp2_with (first | (go_at_call 101; refine HC.out.mono ?_; rintro e wc ⟨rfl, hbc⟩) | (at_make; refine wpList_make_full _ rfl _ _ 62 rfl wc.heap.size 3 i0 (.int .i64 0) 1 Tryz.underlying62 hi hz0 hz1 .i64 .i64 _ _ s.size rfl rfl ?m0 ?m1 ?m2 ?m3 ?m4 ?_))
 case m0 => first | rfl | omega
 case m1 => first | rfl | omega
 case m2 => rw [hz2]; omega
 case m3 => unfold maxLen; omega
 case m4 => exact Nat.le_refl _
 intro w1 hown1 hgrow1
 obtain ⟨G, hG⟩ := nm wc.heap.size
 have HG : Hid (w.heap.size ≤ G) := by unfold Hid; rw [hG]; exact hbc.size
 have HO : Hid (w1.ownsRow G 3 1 (.slice (some ⟨G, 0, none⟩) s.size s.size) s.size (fill f (.int .i64 0) s.size 0) ∧ Bw w w1) := by
  refine ⟨?_, ?_⟩
  ·rw [fill_zero, ← toList_madeCells_one, hG]
   simpa [Value.cells] using hown1
  ·exact hbc.grown hgrow1 (by rw [← hG]; exact HG.out) (fun k hk => by cases hk)
 rw [← hG]
 clear hown1 hgrow1 hG HC hbc
 go_wp2
 go_loopw [18] (fun i wr => ∃ k : Nat, k ≤ s.size ∧ i = .int .i64 k ∧ wr.ownsRow G 3 1 (.slice (some ⟨G, 0, none⟩) s.size s.size) s.size (fill f (.int .i64 0) s.size k) ∧ Bw w wr) (fun i _ => s.size - (intOf i).toNat)
 case atStart => exact ⟨0, Nat.zero_le _, rfl, HO.out.1, HO.out.2⟩
 case round =>
  obtain ⟨k, hk, rfl, hown, hbel⟩ := hrel
  by_cases hlt : k < s.size
  ·have hks : k < s.size := by omega
   have hfr : wr.frozen? ⟨G, k, none⟩ = false := hown.frozenAt k
   have hcg : wr.cell? ⟨G, k, none⟩ = some (.int .i64 0) := by rw [hown.cellAt k (by omega), fill_get _ _ _ _ _ hlt, if_neg (by omega)]
   have HR : Hid ((wr.setCell ⟨G, k, none⟩ (.int .i64 (signOf (s[k]'hks)))).ownsRow G 3 1 (.slice (some ⟨G, 0, none⟩) s.size s.size) s.size (fill f (.int .i64 0) s.size (k + 1)) ∧ Bw w (wr.setCell ⟨G, k, none⟩ (.int .i64 (signOf (s[k]'hks))))) := by
    have := hown.stored k (f k)
    rw [fill_set] at this
    have e : f k = .int .i64 (signOf (s[k]'hks)) := by rw [HF.out]; show Value.int .i64 (t.getD k 0) = _; rw [HTG.out k hlt]
    rw [e] at this
    exact ⟨this.1, hbel.setCell HG.out _⟩
   clear hown hbel
   go_wp2_with (go_at_call 34; refine (indexLetter_any _ _).mono ?_; rintro e w' ⟨rfl, rfl⟩)
   go_roundw
   case rel => exact ⟨k + 1, by omega, by go_num, HR.out.1, HR.out.2⟩
   case measure => simp [intOf]; omega
  ·obtain rfl : k = s.size := by omega
   have hR : Reads wr (.slice (some ⟨G, 0, none⟩) s.size s.size) t := own_reads hown HTL.out (fun j hj => by rw [fill_get _ _ _ _ _ hj, if_pos hj, HF.out]) hN13
   have HRd := hide hR
   have HBw := hide hbel
   have HCk : Hid (Calls Tryz.prog 102 #[.slice (some ⟨G, 0, none⟩) s.size s.size] wr (Sk wr (errV (faultN t)))) := tcheck_any t _ wr hR
   clear hown hbel hR
   by_cases hft : faultN t = 0
   ·have HE1 : Hid (errV (faultN t) = .nilIface) := by unfold Hid; rw [hft]; rfl
    have HFT := hide hft
    rw [HE1.out] at HCk
    clear hft
    go_wp2_with (go_at_call 102; refine HCk.out.mono ?_; rintro e w' ⟨rfl, rfl⟩)
    go_ret2
    exact ⟨.slice (some ⟨G, 0, none⟩) s.size s.size, back_2 (HPI.out.1 HFT.out _).symm (HE.out.trans HE1.out).symm, HRd.out, ⟨G, _, rfl, HG.out⟩, HBw.out⟩
   ·have HE1 : Hid (errV (faultN t) = .iface 91 (.int .i64 (faultN t))) := by unfold Hid errV; rw [if_neg hft]
    have HFT := hide hft
    rw [HE1.out] at HCk
    clear hft
    go_wp2_with (go_at_call 102; refine HCk.out.mono ?_; rintro e w' ⟨rfl, rfl⟩)
    go_ret2
    exact ⟨.slice (some ⟨G, 0, none⟩) s.size s.size, back_2 (HPI.out.2 HFT.out _).symm (HE.out.trans HE1.out).symm, HRd.out, ⟨G, _, rfl, HG.out⟩, HBw.out⟩
theorem parse_long (s : ByteArray) (hz : s.size ≤ 9223372036854775807) (hn : 13 < s.size) (h : lettersB s.data.toList = true) (w : World) :
    Calls Tryz.prog 66 #[.string s] w fun e w' => ∃ v, e = .returned (.tuple #[if faultN (partN s 13) = 0 then v else .slice none 0 0, errV (faultN (partN s 13))]) ∧ Reads w' v (partN s 13) ∧ (∃ g c, v = .slice (some ⟨g, 0, none⟩) c c ∧ w.heap.size ≤ g) ∧ Bw w w' := by
 obtain ⟨i0, hi, hz0, hz1, hz2⟩ := info_parts infoInt
 have HC : Hid (Calls Tryz.prog 101 #[.string s, .func (.func 99) #[] #[]] w (Bk w (.bool false))) := by
  have := containsFunc_text s w
  rw [h] at this; exact this
 clear h
 have hdec : (13 : Int) < (s.size : Int) := by omega
 have hNs : 13 ≤ s.size := by omega
 have hN13 : 13 ≤ 13 := by omega
 obtain ⟨t, ht⟩ := nm (partN s 13)
 rw [← ht]
 have HTL : Hid (t.length = 13) := by unfold Hid; rw [ht]; exact partN_length s hNs
 have HTG : Hid (∀ k (hk : k < 13), t.getD k 0 = signOf (s[k]'(by omega))) := fun k hk => by rw [ht]; exact partN_getD s hNs hk
 clear ht
 obtain ⟨E, hE⟩ := nm (errV (faultN t))
 obtain ⟨pick, hpick⟩ : ∃ pick : Value → Value, pick = fun v => if faultN t = 0 then v else .slice none 0 0 := ⟨_, rfl⟩
 have hgoal : ∀ v, (if faultN t = 0 then v else Value.slice none 0 0) = pick v := fun v => by rw [hpick]
 rw [← hE]
 simp only [hgoal]
 have HE := hide hE
 have HPI : Hid ((faultN t = 0 → ∀ v, pick v = v) ∧ (¬ faultN t = 0 → ∀ v, pick v = .slice none 0 0)) := ⟨fun h v => by rw [hpick]; exact if_pos h, fun h v => by rw [hpick]; exact if_neg h⟩
 clear hgoal hpick hE
 obtain ⟨f, hf⟩ : ∃ f : Nat → Value, f = fun j => .int .i64 (t.getD j 0) := ⟨_, rfl⟩
 have HF := hide hf
 clear hf
 go_enter Tryz.func66, Tryz.ntmps66
 go_wp2_with (first | (go_at_call 101; refine HC.out.mono ?_; rintro e wc ⟨rfl, hbc⟩) | (at_make; refine wpList_make_full _ rfl _ _ 62 rfl wc.heap.size 3 i0 (.int .i64 0) 1 Tryz.underlying62 hi hz0 hz1 .i64 .i64 _ _ 13 rfl rfl ?m0 ?m1 ?m2 ?m3 ?m4 ?_))
 case m0 => first | rfl | omega
 case m1 => first | rfl | omega
 case m2 => rw [hz2]; omega
 case m3 => unfold maxLen; omega
 case m4 => exact Nat.le_refl _
 intro w1 hown1 hgrow1
 obtain ⟨G, hG⟩ := nm wc.heap.size
 have HG : Hid (w.heap.size ≤ G) := by unfold Hid; rw [hG]; exact hbc.size
 have HO : Hid (w1.ownsRow G 3 1 (.slice (some ⟨G, 0, none⟩) 13 13) 13 (fill f (.int .i64 0) 13 0) ∧ Bw w w1) := by
  refine ⟨?_, ?_⟩
  ·rw [fill_zero, ← toList_madeCells_one, hG]
   simpa [Value.cells] using hown1
  ·exact hbc.grown hgrow1 (by rw [← hG]; exact HG.out) (fun k hk => by cases hk)
 rw [← hG]
 clear hown1 hgrow1 hG HC hbc
 go_wp2
 go_loopw [18] (fun i wr => ∃ k : Nat, k ≤ 13 ∧ i = .int .i64 k ∧ wr.ownsRow G 3 1 (.slice (some ⟨G, 0, none⟩) 13 13) 13 (fill f (.int .i64 0) 13 k) ∧ Bw w wr) (fun i _ => 13 - (intOf i).toNat)
 case atStart => exact ⟨0, Nat.zero_le _, rfl, HO.out.1, HO.out.2⟩
 case round =>
  obtain ⟨k, hk, rfl, hown, hbel⟩ := hrel
  by_cases hlt : k < 13
  ·have hks : k < s.size := by omega
   have hfr : wr.frozen? ⟨G, k, none⟩ = false := hown.frozenAt k
   have hcg : wr.cell? ⟨G, k, none⟩ = some (.int .i64 0) := by rw [hown.cellAt k (by omega), fill_get _ _ _ _ _ hlt, if_neg (by omega)]
   have HR : Hid ((wr.setCell ⟨G, k, none⟩ (.int .i64 (signOf (s[k]'hks)))).ownsRow G 3 1 (.slice (some ⟨G, 0, none⟩) 13 13) 13 (fill f (.int .i64 0) 13 (k + 1)) ∧ Bw w (wr.setCell ⟨G, k, none⟩ (.int .i64 (signOf (s[k]'hks))))) := by
    have := hown.stored k (f k)
    rw [fill_set] at this
    have e : f k = .int .i64 (signOf (s[k]'hks)) := by rw [HF.out]; show Value.int .i64 (t.getD k 0) = _; rw [HTG.out k hlt]
    rw [e] at this
    exact ⟨this.1, hbel.setCell HG.out _⟩
   clear hown hbel
   go_wp2_with (go_at_call 34; refine (indexLetter_any _ _).mono ?_; rintro e w' ⟨rfl, rfl⟩)
   go_roundw
   case rel => exact ⟨k + 1, by omega, by go_num, HR.out.1, HR.out.2⟩
   case measure => simp [intOf]; omega
  ·obtain rfl : k = 13 := by omega
   have hR : Reads wr (.slice (some ⟨G, 0, none⟩) 13 13) t := own_reads hown HTL.out (fun j hj => by rw [fill_get _ _ _ _ _ hj, if_pos hj, HF.out]) hN13
   have HRd := hide hR
   have HBw := hide hbel
   have HCk : Hid (Calls Tryz.prog 102 #[.slice (some ⟨G, 0, none⟩) 13 13] wr (Sk wr (errV (faultN t)))) := tcheck_any t _ wr hR
   clear hown hbel hR
   by_cases hft : faultN t = 0
   ·have HE1 : Hid (errV (faultN t) = .nilIface) := by unfold Hid; rw [hft]; rfl
    have HFT := hide hft
    rw [HE1.out] at HCk
    clear hft
    go_wp2_with (go_at_call 102; refine HCk.out.mono ?_; rintro e w' ⟨rfl, rfl⟩)
    go_ret2
    exact ⟨.slice (some ⟨G, 0, none⟩) 13 13, back_2 (HPI.out.1 HFT.out _).symm (HE.out.trans HE1.out).symm, HRd.out, ⟨G, _, rfl, HG.out⟩, HBw.out⟩
   ·have HE1 : Hid (errV (faultN t) = .iface 91 (.int .i64 (faultN t))) := by unfold Hid errV; rw [if_neg hft]
    have HFT := hide hft
    rw [HE1.out] at HCk
    clear hft
    go_wp2_with (go_at_call 102; refine HCk.out.mono ?_; rintro e w' ⟨rfl, rfl⟩)
    go_ret2
    exact ⟨.slice (some ⟨G, 0, none⟩) 13 13, back_2 (HPI.out.2 HFT.out _).symm (HE.out.trans HE1.out).symm, HRd.out, ⟨G, _, rfl, HG.out⟩, HBw.out⟩
theorem parse_fresh (s : ByteArray) (hz : s.size ≤ 9223372036854775807) (w : World) :
    Calls Tryz.prog 66 #[.string s] w fun e w' => ∃ v, e = .returned (.tuple #[v, errV (textFault s.data.toList)]) ∧ (textFault s.data.toList = 0 → Reads w' v (readN s.data.toList) ∧ ∃ g c, v = .slice (some ⟨g, 0, none⟩) c c ∧ w.heap.size ≤ g) ∧ (¬ textFault s.data.toList = 0 → v = .slice none 0 0) ∧ Bw w w' := by
 have hlen : s.data.toList.length = s.size := Array.length_toList
 by_cases h : lettersB s.data.toList = true
 ·have e0 : textFault s.data.toList = faultN (readN s.data.toList) := by unfold textFault; rw [if_pos h]
  by_cases hn : s.size ≤ 13
  ·have e1 : partN s s.size = readN s.data.toList := by unfold partN; rw [List.take_of_length_le (by omega)]
   refine (parse_short s hz hn h w).mono ?_
   rintro e w' ⟨v, he, hr, hg, hb⟩
   rw [e1, ← e0] at he
   rw [e1] at hr
   by_cases hf : textFault s.data.toList = 0
   ·rw [if_pos hf] at he
    exact ⟨v, he, fun _ => ⟨hr, hg⟩, fun h' => absurd hf h', hb⟩
   ·rw [if_neg hf] at he
    exact ⟨_, he, fun h' => absurd h' hf, fun _ => rfl, hb⟩
  ·have l1 : (partN s 13).length = 13 := partN_length s (by omega)
   have l2 : (readN s.data.toList).length = s.size := by simp [readN]
   have f1 : faultN (partN s 13) = 4 := by unfold faultN; rw [if_neg (by omega), if_pos (by omega)]
   have f2 : textFault s.data.toList = 4 := by rw [e0]; unfold faultN; rw [if_neg (by omega), if_pos (by omega)]
   refine (parse_long s hz (by omega) h w).mono ?_
   rintro e w' ⟨v, he, _, _, hb⟩
   rw [f1, if_neg (by omega)] at he
   rw [f2]
   exact ⟨_, he, fun h' => by omega, fun _ => rfl, hb⟩
 ·have h' : lettersB s.data.toList = false := by simpa using h
  have e0 : textFault s.data.toList = 2 := by unfold textFault; rw [if_neg h]
  rw [e0]
  refine (parse_syntax s h' w).mono ?_
  rintro e w' ⟨he, hb⟩
  exact ⟨_, he, fun h' => by omega, fun _ => rfl, hb⟩
theorem parse_any (s : ByteArray) (hz : s.size ≤ 9223372036854775807) (w : World) :
    Calls Tryz.prog 66 #[.string s] w fun e w' => ∃ v, e = .returned (.tuple #[v, errV (textFault s.data.toList)]) ∧ (textFault s.data.toList = 0 → Reads w' v (readN s.data.toList)) ∧ (¬ textFault s.data.toList = 0 → v = .slice none 0 0) ∧ Bw w w' := by
 refine (parse_fresh s hz w).mono ?_
 rintro e w' ⟨v, he, h1, h2, hb⟩
 exact ⟨v, he, fun h => (h1 h).1, h2, hb⟩
theorem infoByte : (Tryz.prog.info? 5).map (fun i => (i.zero, i.size, i.bytes)) = some (some (.int .u8 0), 1, 1) := by kernel_rfl
def strOf (l : List UInt8) : ByteArray := ⟨l.toArray⟩
def printS (t : List Int) : ByteArray := if faultN t = 0 then strOf (textN t) else ⟨#[]⟩
theorem print_bad (t : List Int) (v : Value) (w : World) (h : Reads w v t) (hf : ¬ faultN t = 0) :
    Calls Tryz.prog 171 #[v] w (Bk w (.tuple #[.string ⟨#[]⟩, .iface 91 (.int .i64 (faultN t))])) := by
 have HC : Hid (Calls Tryz.prog 102 #[v] w (Sk w (.iface 91 (.int .i64 (faultN t))))) := by
  have := tcheck_any t v _ h
  unfold errV at this
  rw [if_neg hf] at this
  exact this
 clear h hf
 obtain ⟨F, hF⟩ := nm (faultN t)
 rw [← hF] at HC ⊢
 clear hF
 go_enter Tryz.func171, Tryz.ntmps171
 go_wp2_with (go_at_call 102; refine HC.out.mono ?_; rintro e w' ⟨rfl, rfl⟩)
 go_ret2
 exact ⟨rfl, Below.refl _ _⟩
theorem print_good (t : List Int) (B off cap : Nat) (w : World) (hB : B < w.heap.size) (hcap : t.length ≤ cap) (hf : faultN t = 0) (hc : ∀ k, k < t.length → w.cell? ⟨B, off + k, none⟩ = some (.int .i64 (t.getD k 0))) :
    Calls Tryz.prog 171 #[.slice (some ⟨B, off, none⟩) t.length cap] w fun e w' => e = .returned (.tuple #[.string (strOf (textN t)), .nilIface]) ∧ Below w.heap.size w w' := by
 obtain ⟨i0, hi, hz0, hz1, hz2⟩ := info_parts infoByte
 obtain ⟨f1, f2, f3, f4⟩ := fault_zero.1 hf
 have HC : Hid (Calls Tryz.prog 102 #[.slice (some ⟨B, off, none⟩) t.length cap] w (Sk w .nilIface)) := by
  have := tcheck_any t (.slice (some ⟨B, off, none⟩) t.length cap) w (Or.inr ⟨B, off, cap, rfl, hB, by omega, ⟨by omega, hcap⟩, hc⟩)
  rw [hf] at this
  exact this
 have HC1 := hide hc
 have HB := hide hB
 have HS := hide f3
 clear hc hB f1 f3 f4 hf hcap
 obtain ⟨n, hn⟩ := nm t.length
 rw [← hn] at HC f2 ⊢
 have HN := hide hn
 clear hn
 obtain ⟨f, hf⟩ : ∃ f : Nat → Value, f = fun j => .int .u8 ((byteOf (t.getD j 0)).toNat : Int) := ⟨_, rfl⟩
 have HF := hide hf
 clear hf
 obtain ⟨G, hG⟩ := nm w.heap.size
 have HG := hide hG
 obtain ⟨T, hT⟩ := nm (strOf (textN t))
 rw [← hT]
 have HT := hide hT
 clear hT
 go_enter Tryz.func171, Tryz.ntmps171
 go_wp2_with (first | (go_at_call 102; refine HC.out.mono ?_; rintro e w' ⟨rfl, rfl⟩) | (at_make; refine wpList_make_full _ rfl _ _ 40 rfl G 5 i0 (.int .u8 0) 1 Tryz.underlying40 hi hz0 hz1 .i64 .i64 _ _ n rfl rfl ?m0 ?m1 ?m2 ?m3 ?m4 ?_))
 case m0 => rfl
 case m1 => rfl
 case m2 => rw [hz2]; omega
 case m3 => unfold maxLen; omega
 case m4 => omega
 intro w1 hown1 hgrow1
 have HO : Hid (w1.ownsRow G 5 1 (.slice (some ⟨G, 0, none⟩) n n) n (fill f (.int .u8 0) n 0) ∧ Below G w w1) := by
  refine ⟨?_, ?_⟩
  ·rw [fill_zero, ← toList_madeCells_one, hG]
   simpa [Value.cells, hG] using hown1
  ·exact (Below.refl _ _).grown hgrow1 (by omega) (fun k hk => by cases hk)
 rw [← hG]
 clear hown1 hgrow1 hG HC
 go_wp2
 go_loopw [18] (fun i wr => ∃ k : Nat, k ≤ n ∧ i = .int .i64 k ∧ wr.ownsRow G 5 1 (.slice (some ⟨G, 0, none⟩) n n) n (fill f (.int .u8 0) n k) ∧ Below G w wr) (fun i _ => n - (intOf i).toNat)
 case atStart => exact ⟨0, Nat.zero_le _, rfl, HO.out.1, HO.out.2⟩
 case round =>
  obtain ⟨k, hk, rfl, hown, hbel⟩ := hrel
  by_cases hlt : k < n
  ·obtain ⟨s, hs⟩ := nm (t.getD k 0)
   have hkt : k < t.length := by rw [← HN.out]; exact hlt
   have hcell : wr.cell? ⟨B, off + k, none⟩ = some (.int .i64 s) := by rw [hs, hbel.cell (by rw [HG.out]; exact HB.out)]; exact HC1.out k hkt
   have hsg : signB s = true := by
    refine List.all_eq_true.1 HS.out s ?_
    rw [hs, List.getD_eq_getElem?_getD, List.getElem?_eq_getElem hkt]; exact List.getElem_mem hkt
   have hfr : wr.frozen? ⟨G, k, none⟩ = false := hown.frozenAt k
   have hcg : wr.cell? ⟨G, k, none⟩ = some (.int .u8 0) := by rw [hown.cellAt k (by omega), fill_get _ _ _ _ _ hlt, if_neg (by omega)]
   have HR : Hid ((wr.setCell ⟨G, k, none⟩ (.int .u8 ((byteOf s).toNat : Int))).ownsRow G 5 1 (.slice (some ⟨G, 0, none⟩) n n) n (fill f (.int .u8 0) n (k + 1)) ∧ Below G w (wr.setCell ⟨G, k, none⟩ (.int .u8 ((byteOf s).toNat : Int)))) := by
    have := hown.stored k (f k)
    rw [fill_set] at this
    have e : f k = .int .u8 ((byteOf s).toNat : Int) := by rw [HF.out, hs]
    rw [e] at this
    exact ⟨this.1, hbel.setCell (Nat.le_refl _) _⟩
   clear hs hkt hown hbel
   rcases nine hsg with rfl | rfl | rfl | rfl | rfl | rfl | rfl | rfl | rfl
   all_goals
    clear hsg
    go_wp2
    go_roundw
    case rel => exact ⟨k + 1, by omega, by go_num, HR.out.1, HR.out.2⟩
    case measure => simp [intOf]; omega
  ·obtain rfl : k = n := by omega
   have HCV : Hid (∀ dst, Tryz.prog.underlying dst = some .string → (convert 40 dst (.slice (some ⟨G, 0, none⟩) k k)).run Tryz.prog wr = .ok (.string T) wr) := by
    intro dst hd
    have e1 : (textN t).length = k := by rw [HN.out]; simp [textN]
    have := run_convert_bytes_back (P := Tryz.prog) wr 40 dst 5 ⟨G, 0, none⟩ k (textN t) Tryz.underlying40 Tryz.underlying5 hd (fun j hj => by
     have hjk : j < k := by omega
     have ha : (⟨G, 0, none⟩ : Addr).add j = ⟨G, j, none⟩ := by unfold Addr.add; split <;> simp_all
     rw [ha, hown.cellAt j (by omega), fill_get _ _ _ _ _ hjk, if_pos hjk, HF.out]
     have hjt : j < t.length := by rw [← HN.out]; exact hjk
     simp [textN, List.getElem?_eq_getElem hjt])
    rw [e1] at this
    rw [HT.out]; exact this
   have hcv := HCV.out
   have HBw : Hid (Below w.heap.size w wr) := by unfold Hid; rw [← HG.out]; exact hbel
   clear hown hbel
   go_wp2
   go_ret2
   exact ⟨rfl, HBw.out⟩
theorem print_any (t : List Int) (v : Value) (w : World) (h : Reads w v t) :
    Calls Tryz.prog 171 #[v] w (Bk w (.tuple #[.string (printS t), errV (faultN t)])) := by
 by_cases hf : faultN t = 0
 ·have e1 : printS t = strOf (textN t) := by unfold printS; rw [if_pos hf]
  rw [e1, hf]
  rcases h with ⟨ao, cap, rfl, rfl⟩ | ⟨B, off, cap, rfl, hB, _, ⟨_, hcap⟩, hc⟩
  ·exact absurd hf (by decide)
  ·exact print_good t B off cap w hB hcap hf hc
 ·have e1 : printS t = ⟨#[]⟩ := by unfold printS; rw [if_neg hf]
  have e2 : errV (faultN t) = .iface 91 (.int .i64 (faultN t)) := by unfold errV; rw [if_neg hf]
  rw [e1, e2]
  exact print_bad t v w h hf
end Go.Proofs.YtnoohlibgaeklaaGreatDoor
namespace Go.Proofs.YtnoohlibgaeklaaGreatDoor
open Go.RowKit
set_option maxRecDepth 100000
set_option maxHeartbeats 16000000
def secondB (k : Int) : Bool := decide (k = 1 ∨ k = 2 ∨ k = 5)
def numberB (k : Int) : Bool := decide (k = 3 ∨ k = 4 ∨ k = 5)
def secondFault (k : Int) (t : List Int) : Int := if secondB k = true then faultN t else if 0 < t.length then 3 else 0
def mostN (k : Int) : Int := if numberB k = true then 20 else 0
def atomFault (k : Int) (s t : List Int) (n : Int) : Int :=
 if 1 ≤ k ∧ k ≤ 5 then (if faultN s = 0 then (if secondFault k t = 0 then (if - mostN k ≤ n ∧ n ≤ mostN k then 0 else 1) else secondFault k t) else faultN s) else 1
def saysB (k n x y : Int) : Bool :=
 if k = 1 then decide (lessN x y = 0) else if k = 2 then decide (x = y) else if k = 3 then decide (n ≤ pcN x) else if k = 4 then decide (pcN x ≤ n) else decide (pcN x ≤ pcN y + n)
def Wd.snd (w : Wd) (k : Int) (t : List Int) : Int := if secondB k = true then w.val t else 0
def Wd.holds (w : Wd) (k : Int) (s t : List Int) (n : Int) : Bool := saysB k n (w.val s) (w.snd k t)
def Wd.holdsFault (w : Wd) (k : Int) (s t : List Int) (n : Int) : Int := if atomFault k s t n = 0 then (if w.ok = true then 0 else 1) else atomFault k s t n
def Wd.holdsIs (w : Wd) (k : Int) (s t : List Int) (n : Int) : Bool := if w.holdsFault k s t n = 0 then w.holds k s t n else false
theorem five {k : Int} (h0 : 1 ≤ k) (h1 : k ≤ 5) : k = 1 ∨ k = 2 ∨ k = 3 ∨ k = 4 ∨ k = 5 := by omega
theorem atomFault_kind {k : Int} (h : ¬ (1 ≤ k ∧ k ≤ 5)) (s t : List Int) (n : Int) : atomFault k s t n = 1 := by unfold atomFault; rw [if_neg h]
theorem atomFault_first {k : Int} (h : 1 ≤ k ∧ k ≤ 5) {s : List Int} (hs : ¬ faultN s = 0) (t : List Int) (n : Int) : atomFault k s t n = faultN s := by unfold atomFault; rw [if_pos h, if_neg hs]
theorem atomFault_second {k : Int} (h : 1 ≤ k ∧ k ≤ 5) {s : List Int} (hs : faultN s = 0) {t : List Int} (ht : ¬ secondFault k t = 0) (n : Int) : atomFault k s t n = secondFault k t := by unfold atomFault; rw [if_pos h, if_pos hs, if_neg ht]
theorem atomFault_third {k : Int} (h : 1 ≤ k ∧ k ≤ 5) {s : List Int} (hs : faultN s = 0) {t : List Int} (ht : secondFault k t = 0) (n : Int) : atomFault k s t n = if - mostN k ≤ n ∧ n ≤ mostN k then 0 else 1 := by unfold atomFault; rw [if_pos h, if_pos hs, if_pos ht]
theorem atomFault_zero {k : Int} {s t : List Int} {n : Int} : atomFault k s t n = 0 ↔ (1 ≤ k ∧ k ≤ 5) ∧ faultN s = 0 ∧ secondFault k t = 0 ∧ - mostN k ≤ n ∧ n ≤ mostN k := by
 by_cases h : 1 ≤ k ∧ k ≤ 5
 ·by_cases hs : faultN s = 0
  ·by_cases ht : secondFault k t = 0
   ·rw [atomFault_third h hs ht]
    by_cases hn : - mostN k ≤ n ∧ n ≤ mostN k
    ·rw [if_pos hn]; exact ⟨fun _ => ⟨h, hs, ht, hn⟩, fun _ => rfl⟩
    ·rw [if_neg hn]; exact ⟨fun h => (by cases h), fun h' => absurd h'.2.2.2 hn⟩
   ·rw [atomFault_second h hs ht]; exact ⟨fun h' => absurd h' ht, fun h' => absurd h'.2.2.1 ht⟩
  ·rw [atomFault_first h hs]; exact ⟨fun h' => absurd h' hs, fun h' => absurd h'.2.1 hs⟩
 ·rw [atomFault_kind h]; exact ⟨fun h' => (by cases h'), fun h' => absurd h'.1 h⟩
theorem second_reads {k : Int} {t : List Int} (ht : secondFault k t = 0) : secondB k = true → faultN t = 0 := by
 intro h'
 unfold secondFault at ht
 rw [if_pos h'] at ht
 exact ht
def digitsN (u : Nat) : List UInt8 := if u < 10 then [UInt8.ofNat (48 + u)] else [UInt8.ofNat (48 + u / 10), UInt8.ofNat (48 + u % 10)]
def numText (n : Int) : List UInt8 := if n < 0 then 45 :: digitsN n.natAbs else digitsN n.toNat
theorem dec_digits {u : Nat} (h : u < 100) : Lib.decDigits u = digitsN u := by
 unfold digitsN
 by_cases h1 : u < 10
 ·rw [if_pos h1, Lib.decDigits, dif_pos h1]
 ·rw [if_neg h1, Lib.decDigits, dif_neg h1, Lib.decDigits, dif_pos (by omega)]; rfl
theorem itoa_num {n : Int} (h0 : -99 ≤ n) (h1 : n ≤ 99) : Lib.itoa n = numText n := by
 unfold Lib.itoa numText
 by_cases h : n < 0
 ·rw [if_pos h, if_pos h, dec_digits (by omega)]
 ·rw [if_neg h, if_neg h, dec_digits (by omega)]
def nums : List Int := (List.range 199).map fun (i : Nat) => (i : Int) - 99
theorem mem_nums {n : Int} : n ∈ nums ↔ -99 ≤ n ∧ n ≤ 99 := by
 unfold nums
 rw [List.mem_map]
 constructor
 ·rintro ⟨i, hi, rfl⟩
  have := List.mem_range.1 hi
  omega
 ·intro h
  exact ⟨(n + 99).toNat, List.mem_range.2 (by omega), by omega⟩
def numOf (l : List UInt8) : Option Int := nums.find? fun n => decide (numText n = l)
theorem nums_atoi : nums.all (fun n => decide (Lib.atoi (numText n) = some n)) = true := by decide +kernel
theorem atoi_num {n : Int} (h : -99 ≤ n ∧ n ≤ 99) : Lib.atoi (numText n) = some n := by
 have := List.all_eq_true.1 nums_atoi n (mem_nums.2 h)
 simpa using this
theorem numOf_some {l : List UInt8} {n : Int} : numOf l = some n ↔ (-99 ≤ n ∧ n ≤ 99) ∧ numText n = l := by
 constructor
 ·intro h
  exact ⟨mem_nums.1 (List.mem_of_find?_eq_some h), by simpa using List.find?_some h⟩
 ·rintro ⟨hn, rfl⟩
  cases h : numOf (numText n) with
  | none =>
   have := List.find?_eq_none.1 h n (mem_nums.2 hn)
   simp at this
  | some m =>
   have hm : numText m = numText n := by simpa using List.find?_some h
   have h1 := atoi_num (mem_nums.1 (List.mem_of_find?_eq_some h))
   rw [hm, atoi_num hn] at h1
   rw [Option.some.inj h1]
theorem numOf_text {n : Int} (h : -99 ≤ n ∧ n ≤ 99) : numOf (numText n) = some n := numOf_some.2 ⟨h, rfl⟩
def bareN : List UInt8 → List UInt8
 | [] => []
 | b :: r => if b = 45 then r else b :: r
theorem nums_bare : nums.all (fun n => decide ((bareN (numText n)).length ≤ 2)) = true := by decide +kernel
theorem bare_num {n : Int} (h : -99 ≤ n ∧ n ≤ 99) : (bareN (numText n)).length ≤ 2 := by
 have := List.all_eq_true.1 nums_bare n (mem_nums.2 h)
 simpa using this
theorem numOf_long {l : List UInt8} (h : 2 < (bareN l).length) : numOf l = none := by
 cases h1 : numOf l with
 | none => rfl
 | some n =>
  obtain ⟨hn, rfl⟩ := numOf_some.1 h1
  have := bare_num hn
  omega
theorem dec_le {l : List UInt8} {m : Nat} (hl : l.length ≤ 2) (h : Lib.decNat l = some m) : m ≤ 99 := by
 have hd : ∀ b d, Lib.digitVal b = some d → d ≤ 9 := by
  intro b d hb
  unfold Lib.digitVal at hb
  split at hb
  ·simp at hb; omega
  ·cases hb
 match l, hl with
 | [], _ => simp [Lib.decNat] at h
 | [a], _ =>
  simp only [Lib.decNat, Lib.decFrom, List.isEmpty] at h
  cases ha : Lib.digitVal a with
  | none => rw [ha] at h; simp at h
  | some d =>
   rw [ha] at h
   have := hd a d ha
   simp at h
   omega
 | [a, b], _ =>
  simp only [Lib.decNat, Lib.decFrom, List.isEmpty] at h
  cases ha : Lib.digitVal a with
  | none => rw [ha] at h; simp at h
  | some d =>
   cases hb : Lib.digitVal b with
   | none => rw [ha, hb] at h; simp at h
   | some d' =>
    rw [ha, hb] at h
    have := hd a d ha
    have := hd b d' hb
    simp at h
    omega
theorem atoi_bare {l : List UInt8} {n : Int} (hl : (bareN l).length ≤ 2) (h : Lib.atoi l = some n) : -99 ≤ n ∧ n ≤ 99 := by
 match l with
 | [] => cases h
 | b :: r =>
  rw [Lib.atoi] at h
  by_cases hb : b = 45
  ·subst hb
   have hl' : r.length ≤ 2 := hl
   rw [if_pos (by decide)] at h
   cases hm : Lib.decNat r with
   | none => rw [hm] at h; cases h
   | some m =>
    have := dec_le hl' hm
    rw [hm] at h
    simp at h
    omega
  ·have hl' : (b :: r).length ≤ 2 := by
    rw [bareN, if_neg hb] at hl
    exact hl
   rw [if_neg (by simpa using hb)] at h
   split at h
   ·cases hm : Lib.decNat r with
    | none => rw [hm] at h; cases h
    | some m =>
     have := dec_le (by simp at hl'; omega) hm
     rw [hm] at h
     simp at h
     omega
   ·cases hm : Lib.decNat (b :: r) with
    | none => rw [hm] at h; cases h
    | some m =>
     have := dec_le hl' hm
     rw [hm] at h
     simp at h
     omega
theorem numOf_atoi {l : List UInt8} (hl : (bareN l).length ≤ 2) : numOf l = match Lib.atoi l with | some n => if numText n = l then some n else none | none => none := by
 cases h : Lib.atoi l with
 | none =>
  cases h1 : numOf l with
  | none => rfl
  | some n =>
   obtain ⟨hn, rfl⟩ := numOf_some.1 h1
   rw [atoi_num hn] at h
   cases h
 | some n =>
  have hn := atoi_bare hl h
  show numOf l = if numText n = l then some n else none
  by_cases he : numText n = l
  ·rw [if_pos he]; exact numOf_some.2 ⟨hn, he⟩
  ·rw [if_neg he]
   cases h1 : numOf l with
   | none => rfl
   | some m =>
    obtain ⟨hm, rfl⟩ := numOf_some.1 h1
    rw [atoi_num hm] at h
    obtain rfl := Option.some.inj h
    exact absurd rfl he
end Go.Proofs.YtnoohlibgaeklaaGreatDoor
namespace Go.Proofs.YtnoohlibgaeklaaGreatDoor
open Go.ChangeShapes Go.WideShapes Go.ChangeAt Go.RowKit
set_option maxRecDepth 100000
set_option maxHeartbeats 16000000
def blankAt (l : List UInt8) : Int := Lib.indexByte l 32
def splitL : Nat → List UInt8 → List (List UInt8)
 | 0, l => [l]
 | k + 1, l => if blankAt l < 0 then [l] else l.take (blankAt l).toNat :: splitL k (l.drop ((blankAt l).toNat + 1))
theorem blankAt_range (l : List UInt8) : -1 ≤ blankAt l ∧ blankAt l < l.length := by
 unfold blankAt
 induction l with
 | nil => exact ⟨by decide, by decide⟩
 | cons b l ih =>
  unfold Lib.indexByte
  split
  ·exact ⟨by decide, by simp⟩
  split
  ·exact ⟨by decide, by simp; omega⟩
  ·simp; omega
theorem splitL_hit {k : Nat} {l : List UInt8} {j : Nat} (h : blankAt l = j) : splitL (k + 1) l = l.take j :: splitL k (l.drop (j + 1)) := by
 rw [splitL, h, if_neg (by omega)]; rfl
theorem splitL_miss {k : Nat} {l : List UInt8} (h : blankAt l < 0) : splitL k l = [l] := by
 cases k with
 | zero => rfl
 | succ k => rw [splitL, if_pos h]
def ReadsS (w : World) (v : Value) (ws : List (List UInt8)) : Prop :=
 ∃ b cap, v = .slice (some ⟨b, 0, none⟩) ws.length cap ∧ b < w.heap.size ∧ ws.length ≤ cap ∧ ∀ k, k < ws.length → w.cell? ⟨b, k, none⟩ = some (.string (strOf (ws.getD k [])))
theorem ReadsS.below {w w' : World} {v : Value} {ws : List (List UInt8)} (h : ReadsS w v ws) (hb : Bw w w') : ReadsS w' v ws := by
 obtain ⟨b, cap, h1, h2, h3, h4⟩ := h
 exact ⟨b, cap, h1, Nat.lt_of_lt_of_le h2 hb.size, h3, fun k hk => by rw [hb.cell h2]; exact h4 k hk⟩
theorem strOf_data (s : ByteArray) : strOf s.data.toList = s := by unfold strOf; rw [Array.toArray_toList]
theorem strOf_size (l : List UInt8) : (strOf l).size = l.length := by unfold strOf; simp [ByteArray.size]
theorem strOf_list (l : List UInt8) : (strOf l).data.toList = l := by unfold strOf; simp
theorem drop_data (c : ByteArray) (k : Nat) : (c.extract k c.size).data.toList = c.data.toList.drop k := by
 rw [Lib.extract_data, List.take_of_length_le (by rw [List.length_drop]; have : c.data.toList.length = c.size := Array.length_toList; omega)]
theorem take_str (c : ByteArray) (k : Nat) : c.extract 0 k = strOf (c.data.toList.take k) := by
 rw [Lib.extract_eq]; rfl
theorem strOf_take (l : List UInt8) (k : Nat) : (strOf l).extract 0 k = strOf (l.take k) := by
 rw [Lib.extract_eq, strOf_list]; rfl
theorem strOf_drop (l : List UInt8) (k n : Nat) (h : n = l.length) : (strOf l).extract k n = strOf (l.drop k) := by
 rw [Lib.extract_eq, strOf_list, List.take_of_length_le (by simp; omega)]; rfl
theorem slIndex_one (s : ByteArray) (w : World) :
    Calls Tryz.prog 87 #[.string s, .string ⟨#[32]⟩] w (Sk w (.int .i64 (blankAt s.data.toList))) := by
 have HI : Hid (∀ W, Calls Tryz.prog 54 #[.string s, .int .u8 32] W (Sk W (.int .i64 (blankAt s.data.toList)))) := fun W => sIndexByte_any s 32 W
 rcases (Bool.eq_false_or_eq_true ([32] == s.toList)).symm with h | h
 ·go_enter Tryz.func87, Tryz.ntmps87
  go_wp2_with (go_at_call 54; refine (HI.out _).mono ?_; rintro e w' ⟨rfl, rfl⟩)
  go_ret
  exact ⟨rfl, rfl⟩
 ·have HE : Hid (blankAt s.data.toList = 0) := by
   have e : s.toList = [32] := (eq_of_beq h).symm
   rw [Lib.toList_data] at e
   unfold Hid; rw [e]; decide
  go_enter Tryz.func87, Tryz.ntmps87
  go_wp2
  go_ret
  exact ⟨back_i HE.out.symm, rfl⟩
theorem sIndex_one (s : ByteArray) (w : World) :
    Calls Tryz.prog 167 #[.string s, .string ⟨#[32]⟩] w (Sk w (.int .i64 (blankAt s.data.toList))) := by
 go_enter Tryz.func167, Tryz.ntmps167
 go_wp2_with (go_at_call 87; refine (slIndex_one _ _).mono ?_; rintro e w' ⟨rfl, rfl⟩)
 go_ret
 exact ⟨rfl, rfl⟩
theorem infoStr : (Tryz.prog.info? 9).map (fun i => (i.zero, i.size, i.bytes)) = some (some (.string ByteArray.empty), 1, 16) := by kernel_rfl
def rowS (done : List (List UInt8)) (N : Nat) : List Value := done.map (fun l => Value.string (strOf l)) ++ List.replicate (N - done.length) (.string ByteArray.empty)
theorem rowS_set {done : List (List UInt8)} {N : Nat} (l : List UInt8) (h : done.length < N) : (rowS done N).set done.length (.string (strOf l)) = rowS (done ++ [l]) N := by
 obtain ⟨m, hm⟩ : ∃ m, N - done.length = m + 1 := ⟨N - done.length - 1, by omega⟩
 unfold rowS
 rw [hm, List.set_append_right _ _ (by simp)]
 have e : N - (done ++ [l]).length = m := by simp; omega
 rw [e]
 simp [List.replicate_succ]
theorem rowS_get {done : List (List UInt8)} {N j : Nat} (h : j < done.length) : (rowS done N)[j]? = some (.string (strOf (done.getD j []))) := by
 unfold rowS
 rw [List.getElem?_append_left (by simpa using h)]
 simp [List.getElem?_eq_getElem h]
theorem rowS_at {done : List (List UInt8)} {N : Nat} (h : done.length < N) : (rowS done N)[done.length]? = some (.string ByteArray.empty) := by
 unfold rowS
 rw [List.getElem?_append_right (by simp), List.length_map, Nat.sub_self, List.getElem?_replicate, if_pos (by omega)]
theorem rowS_nil (N : Nat) : rowS [] N = List.replicate N (.string ByteArray.empty) := by simp [rowS]
theorem own_words {w : World} {base : Nat} {g N : Nat} {done : List (List UInt8)} {m : Nat} (h : w.ownsRow base 9 1 (.slice (some ⟨g, 0, none⟩) N N) N (rowS done N)) (hm : m = done.length) (hN : done.length ≤ N) : ReadsS w (.slice (some ⟨g, 0, none⟩) m N) done := by
 subst hm
 exact ⟨g, N, rfl, (ownsRow_block h).2.1, hN, fun k hk => by rw [h.cellAt k (by omega), rowS_get hk]⟩
theorem genSplit_long (s : ByteArray) (hz : s.size ≤ 9223372036854775806) (hn : 4 ≤ s.size) (w : World) :
    Calls Tryz.prog 134 #[.string s, .string ⟨#[32]⟩, .int .i64 0, .int .i64 5] w fun e w' => ∃ v, e = .returned v ∧ ReadsS w' v (splitL 4 s.data.toList) ∧ Below w.heap.size w w' := by
 obtain ⟨i0, hi, hz0, hz1, hz2⟩ := info_parts infoStr
 have hdec : ¬ (s.size : Int) + 1 < 5 := by omega
 obtain ⟨R, hR⟩ := nm (splitL 4 s.data.toList)
 rw [← hR]
 have HR := hide hR
 clear hR
 go_enter Tryz.func134, Tryz.ntmps134
 go_wp2_with (at_make; refine wpList_make_full _ rfl _ _ 23 rfl w.heap.size 9 i0 (.string ByteArray.empty) 1 Tryz.underlying23 hi hz0 hz1 .i64 .i64 _ _ 5 rfl rfl ?m0 ?m1 ?m2 ?m3 ?m4 ?_)
 try (case m0 => omega)
 try (case m1 => omega)
 case m3 => decide
 intro w1 hown1 hgrow1
 obtain ⟨G, hG⟩ := nm w.heap.size
 have HO : Hid (w1.ownsRow G 9 1 (.slice (some ⟨G, 0, none⟩) 5 5) 5 (rowS [] 5) ∧ Below w.heap.size w w1) := by
  refine ⟨?_, ?_⟩
  ·rw [rowS_nil, ← toList_madeCells_one, hG]
   simpa [Value.cells] using hown1
  ·exact (Below.refl _ _).grown hgrow1 (by omega) (fun k hk => by cases hk)
 have HG : Hid (w.heap.size ≤ G) := by unfold Hid; omega
 rw [← hG]
 clear hown1 hgrow1 hG
 go_wp2
 go_loopw [0, 10] (fun sv i wr => ∃ (k : Nat) (c : ByteArray) (done : List (List UInt8)), k ≤ 4 ∧ done.length = k ∧ i = .int .i64 k ∧ sv = .string c ∧ c.size ≤ 9223372036854775806 ∧ R = done ++ splitL (4 - k) c.data.toList ∧ wr.ownsRow G 9 1 (.slice (some ⟨G, 0, none⟩) 5 5) 5 (rowS done 5) ∧ Below w.heap.size w wr) (fun _ i _ => 4 - (intOf i).toNat)
 case atStart => exact ⟨0, s, [], Nat.zero_le _, rfl, rfl, rfl, hz, HR.out, HO.out.1, HO.out.2⟩
 case round =>
  obtain ⟨k, c, done, hk, hd, rfl, rfl, hc, hS, hown, hbel⟩ := hrel
  have hfr : wr.frozen? ⟨G, k, none⟩ = false := hown.frozenAt k
  have hcg : wr.cell? ⟨G, k, none⟩ = some (.string ByteArray.empty) := by rw [hown.cellAt k (by omega), ← hd, rowS_at (by omega)]
  have HW : Hid (∀ l, (wr.setCell ⟨G, k, none⟩ (.string (strOf l))).ownsRow G 9 1 (.slice (some ⟨G, 0, none⟩) 5 5) 5 (rowS (done ++ [l]) 5) ∧ Below w.heap.size w (wr.setCell ⟨G, k, none⟩ (.string (strOf l)))) := by
   intro l
   have := hown.stored k (.string (strOf l))
   rw [← hd, rowS_set l (by omega), hd] at this
   exact ⟨this.1, hbel.setCell HG.out _⟩
  have HS := hide hS
  have HD := hide hd
  clear hS hown hbel hd
  by_cases hlt : k < 4
  ·have hr := blankAt_range c.data.toList
   have HI : Hid (∀ W, Calls Tryz.prog 167 #[.string c, .string ⟨#[32]⟩] W (Sk W (.int .i64 (blankAt c.data.toList)))) := fun W => sIndex_one c W
   have HLen : Hid (c.data.toList.length = c.size) := Array.length_toList
   obtain ⟨B, hB⟩ := nm (blankAt c.data.toList)
   rw [← hB] at hr HI
   have HB := hide hB
   have hr2 : B < (c.size : Int) := by have := HLen.out; omega
   have hr1 := hr.1
   clear hB hr
   by_cases hneg : B < 0
   ·have HT : Hid (R = done ++ [c.data.toList]) := by
     unfold Hid; rw [HS.out, splitL_miss (by rw [← HB.out]; exact hneg)]
    have HE : Hid (strOf c.data.toList = c) := strOf_data c
    go_wp2_with (go_at_call 167; refine (HI.out _).mono ?_; rintro e w' ⟨rfl, rfl⟩)
    go_ret
    have h := HW.out c.data.toList
    rw [HE.out] at h
    have hd := HD.out
    refine ⟨_, rfl, ?_, h.2⟩
    rw [HT.out]
    exact own_words h.1 (by simp [hd]) (by simp; omega)
   ·obtain ⟨j, rfl⟩ := Int.eq_ofNat_of_zero_le (show 0 ≤ B by omega)
    have HT : Hid (R = (done ++ [c.data.toList.take j]) ++ splitL (4 - (k + 1)) (c.extract (j + 1) c.size).data.toList) := by
     have e : 4 - k = (4 - (k + 1)) + 1 := by omega
     unfold Hid
     rw [HS.out, e, splitL_hit HB.out.symm, drop_data, List.append_assoc]; rfl
    have HE : Hid (c.extract 0 j = strOf (c.data.toList.take j)) := take_str c j
    have HZ : Hid ((c.extract (j + 1) c.size).size ≤ 9223372036854775806) := by
     unfold Hid
     rw [ByteArray.size_extract]; omega
    go_wp2_with (go_at_call 167; refine (HI.out _).mono ?_; rintro e w' ⟨rfl, rfl⟩)
    go_roundw
    case rel =>
     have h := HW.out (c.data.toList.take j)
     rw [← HE.out] at h
     exact ⟨k + 1, _, _, by omega, by simp [HD.out], by go_num, rfl, HZ.out, HT.out, h.1, h.2⟩
    case measure => simp [intOf]; omega
  ·obtain rfl : k = 4 := by omega
   have HE : Hid (strOf c.data.toList = c) := strOf_data c
   have HT : Hid (R = done ++ [c.data.toList]) := by
    unfold Hid; rw [HS.out, Nat.sub_self]; rfl
   go_wp2
   go_ret
   have h := HW.out c.data.toList
   rw [HE.out] at h
   have hd := HD.out
   refine ⟨_, rfl, ?_, h.2⟩
   rw [HT.out]
   exact own_words h.1 (by simp [hd]) (by simp; omega)
theorem genSplit_short (s : ByteArray) (hz : s.size ≤ 9223372036854775806) (hn : s.size < 4) (w : World) :
    Calls Tryz.prog 134 #[.string s, .string ⟨#[32]⟩, .int .i64 0, .int .i64 5] w fun e w' => ∃ v, e = .returned v ∧ ReadsS w' v (splitL s.size s.data.toList) ∧ Below w.heap.size w w' := by
 obtain ⟨i0, hi, hz0, hz1, hz2⟩ := info_parts infoStr
 have hdec : (s.size : Int) + 1 < 5 := by omega
 obtain ⟨R, hR⟩ := nm (splitL s.size s.data.toList)
 rw [← hR]
 have HR := hide hR
 clear hR
 go_enter Tryz.func134, Tryz.ntmps134
 go_wp2_with (at_make; refine wpList_make_full _ rfl _ _ 23 rfl w.heap.size 9 i0 (.string ByteArray.empty) 1 Tryz.underlying23 hi hz0 hz1 .i64 .i64 _ _ (s.size + 1) rfl rfl ?m0 ?m1 ?m2 ?m3 ?m4 ?_)
 case m0 => first | rfl | omega
 case m1 => first | rfl | omega
 case m2 => rw [hz2]; omega
 case m3 => unfold maxLen; omega
 case m4 => exact Nat.le_refl _
 intro w1 hown1 hgrow1
 obtain ⟨G, hG⟩ := nm w.heap.size
 have HO : Hid (w1.ownsRow G 9 1 (.slice (some ⟨G, 0, none⟩) (s.size + 1) (s.size + 1)) (s.size + 1) (rowS [] (s.size + 1)) ∧ Below w.heap.size w w1) := by
  refine ⟨?_, ?_⟩
  ·rw [rowS_nil, ← toList_madeCells_one, hG]
   simpa [Value.cells] using hown1
  ·exact (Below.refl _ _).grown hgrow1 (by omega) (fun k hk => by cases hk)
 have HG : Hid (w.heap.size ≤ G) := by unfold Hid; omega
 rw [← hG]
 clear hown1 hgrow1 hG
 go_wp2
 go_loopw [0, 10] (fun sv i wr => ∃ (k : Nat) (c : ByteArray) (done : List (List UInt8)), k ≤ s.size ∧ done.length = k ∧ i = .int .i64 k ∧ sv = .string c ∧ c.size ≤ 9223372036854775806 ∧ R = done ++ splitL (s.size - k) c.data.toList ∧ wr.ownsRow G 9 1 (.slice (some ⟨G, 0, none⟩) (s.size + 1) (s.size + 1)) (s.size + 1) (rowS done (s.size + 1)) ∧ Below w.heap.size w wr) (fun _ i _ => s.size - (intOf i).toNat)
 case atStart => exact ⟨0, s, [], Nat.zero_le _, rfl, rfl, rfl, hz, HR.out, HO.out.1, HO.out.2⟩
 case round =>
  obtain ⟨k, c, done, hk, hd, rfl, rfl, hc, hS, hown, hbel⟩ := hrel
  have hfr : wr.frozen? ⟨G, k, none⟩ = false := hown.frozenAt k
  have hcg : wr.cell? ⟨G, k, none⟩ = some (.string ByteArray.empty) := by rw [hown.cellAt k (by omega), ← hd, rowS_at (by omega)]
  have HW : Hid (∀ l, (wr.setCell ⟨G, k, none⟩ (.string (strOf l))).ownsRow G 9 1 (.slice (some ⟨G, 0, none⟩) (s.size + 1) (s.size + 1)) (s.size + 1) (rowS (done ++ [l]) (s.size + 1)) ∧ Below w.heap.size w (wr.setCell ⟨G, k, none⟩ (.string (strOf l)))) := by
   intro l
   have := hown.stored k (.string (strOf l))
   rw [← hd, rowS_set l (by omega), hd] at this
   exact ⟨this.1, hbel.setCell HG.out _⟩
  have HS := hide hS
  have HD := hide hd
  clear hS hown hbel hd
  by_cases hlt : k < s.size
  ·have hr := blankAt_range c.data.toList
   have HI : Hid (∀ W, Calls Tryz.prog 167 #[.string c, .string ⟨#[32]⟩] W (Sk W (.int .i64 (blankAt c.data.toList)))) := fun W => sIndex_one c W
   have HLen : Hid (c.data.toList.length = c.size) := Array.length_toList
   obtain ⟨B, hB⟩ := nm (blankAt c.data.toList)
   rw [← hB] at hr HI
   have HB := hide hB
   have hr2 : B < (c.size : Int) := by have := HLen.out; omega
   have hr1 := hr.1
   clear hB hr
   by_cases hneg : B < 0
   ·have HT : Hid (R = done ++ [c.data.toList]) := by
     unfold Hid; rw [HS.out, splitL_miss (by rw [← HB.out]; exact hneg)]
    have HE : Hid (strOf c.data.toList = c) := strOf_data c
    go_wp2_with (go_at_call 167; refine (HI.out _).mono ?_; rintro e w' ⟨rfl, rfl⟩)
    go_ret
    have h := HW.out c.data.toList
    rw [HE.out] at h
    have hd := HD.out
    refine ⟨_, rfl, ?_, h.2⟩
    rw [HT.out]
    exact own_words h.1 (by simp [hd]) (by simp; omega)
   ·obtain ⟨j, rfl⟩ := Int.eq_ofNat_of_zero_le (show 0 ≤ B by omega)
    have HT : Hid (R = (done ++ [c.data.toList.take j]) ++ splitL (s.size - (k + 1)) (c.extract (j + 1) c.size).data.toList) := by
     have e : s.size - k = (s.size - (k + 1)) + 1 := by omega
     unfold Hid
     rw [HS.out, e, splitL_hit HB.out.symm, drop_data, List.append_assoc]; rfl
    have HE : Hid (c.extract 0 j = strOf (c.data.toList.take j)) := take_str c j
    have HZ : Hid ((c.extract (j + 1) c.size).size ≤ 9223372036854775806) := by
     unfold Hid
     rw [ByteArray.size_extract]; omega
    go_wp2_with (go_at_call 167; refine (HI.out _).mono ?_; rintro e w' ⟨rfl, rfl⟩)
    go_roundw
    case rel =>
     have h := HW.out (c.data.toList.take j)
     rw [← HE.out] at h
     exact ⟨k + 1, _, _, by omega, by simp [HD.out], by go_num, rfl, HZ.out, HT.out, h.1, h.2⟩
    case measure => simp [intOf]; omega
  ·obtain rfl : k = s.size := by omega
   have HE : Hid (strOf c.data.toList = c) := strOf_data c
   have HT : Hid (R = done ++ [c.data.toList]) := by
    unfold Hid; rw [HS.out, Nat.sub_self]; rfl
   go_wp2
   go_ret
   have h := HW.out c.data.toList
   rw [HE.out] at h
   have hd := HD.out
   refine ⟨_, rfl, ?_, h.2⟩
   rw [HT.out]
   exact own_words h.1 (by simp [hd]) (by simp; omega)
theorem split_any (s : ByteArray) (hz : s.size ≤ 9223372036854775806) (w : World) :
    Calls Tryz.prog 88 #[.string s, .string ⟨#[32]⟩, .int .i64 5] w fun e w' => ∃ v, e = .returned v ∧ ReadsS w' v (splitL (if 4 ≤ s.size then 4 else s.size) s.data.toList) ∧ Bw w w' := by
 have c : Calls Tryz.prog 134 #[.string s, .string ⟨#[32]⟩, .int .i64 0, .int .i64 5] w fun e w' => ∃ v, e = .returned v ∧ ReadsS w' v (splitL (if 4 ≤ s.size then 4 else s.size) s.data.toList) ∧ Bw w w' := by
  by_cases h : 4 ≤ s.size
  ·rw [if_pos h]; exact genSplit_long s hz h w
  ·rw [if_neg h]; exact genSplit_short s hz (by omega) w
 have HC := hide c
 clear c
 obtain ⟨R, hR⟩ := nm (splitL (if 4 ≤ s.size then 4 else s.size) s.data.toList)
 rw [← hR] at HC ⊢
 clear hR
 go_enter Tryz.func88, Tryz.ntmps88
 go_wp2_with (go_at_call 134; refine HC.out.mono ?_; rintro e w' ⟨v, rfl, hv, hb⟩)
 go_ret
 exact ⟨v, rfl, hv, hb⟩
end Go.Proofs.YtnoohlibgaeklaaGreatDoor
namespace Go.Proofs.YtnoohlibgaeklaaGreatDoor
open Go.RowKit
set_option maxRecDepth 100000
set_option maxHeartbeats 16000000
def kindWord (k : Int) : List UInt8 := if k = 1 then [115, 117, 98] else if k = 2 then [115, 97, 109, 101] else if k = 3 then [108, 101, 97, 115, 116] else if k = 4 then [109, 111, 115, 116] else [110, 111, 109, 111, 114, 101]
def kindOfN (l : List UInt8) : Int := if l = [115, 117, 98] then 1 else if l = [115, 97, 109, 101] then 2 else if l = [108, 101, 97, 115, 116] then 3 else if l = [109, 111, 115, 116] then 4 else if l = [110, 111, 109, 111, 114, 101] then 5 else 0
def manyN (k : Int) : Nat := if k = 5 then 4 else 3
def atomText (k : Int) (s t : List Int) (n : Int) : List UInt8 := (kindWord k ++ (32 :: textN s)) ++ ((if secondB k = true then 32 :: textN t else []) ++ (if numberB k = true then 32 :: numText n else []))
def wordsKind (ws : List (List UInt8)) : Int := if ws.length = manyN (kindOfN (ws.getD 0 [])) then kindOfN (ws.getD 0 []) else 0
def partsBad (k : Int) (ws : List (List UInt8)) : Bool := !lettersB (ws.getD 1 []) || (secondB k && !lettersB (ws.getD 2 [])) || (numberB k && (numOf (ws.getD (ws.length - 1) [])).isNone)
def wordsS (ws : List (List UInt8)) : List Int := readN (ws.getD 1 [])
def wordsT (k : Int) (ws : List (List UInt8)) : List Int := if secondB k = true then readN (ws.getD 2 []) else []
def wordsN (k : Int) (ws : List (List UInt8)) : Int := if numberB k = true then (numOf (ws.getD (ws.length - 1) [])).getD 0 else 0
def wordsFault (ws : List (List UInt8)) : Int :=
 if wordsKind ws = 0 then 2 else if partsBad (wordsKind ws) ws = true then 2 else atomFault (wordsKind ws) (wordsS ws) (wordsT (wordsKind ws) ws) (wordsN (wordsKind ws) ws)
def joinL : List (List UInt8) → List UInt8
 | [] => []
 | [x] => x
 | x :: y :: r => x ++ 32 :: joinL (y :: r)
def plainB (l : List UInt8) : Bool := l.all fun b => b != 32
theorem blankAt_plain {x : List UInt8} (h : plainB x = true) (r : List UInt8) : blankAt (x ++ 32 :: r) = x.length := by
 induction x with
 | nil => rfl
 | cons b x ih =>
  simp [plainB] at h
  have hi : Lib.indexByte (x ++ 32 :: r) 32 = (x.length : Int) := ih (by simp [plainB]; exact h.2)
  show Lib.indexByte (b :: (x ++ 32 :: r)) 32 = _
  rw [Lib.indexByte, if_neg (by simpa using h.1), hi, if_neg (by simp)]
  simp
theorem blankAt_none {x : List UInt8} (h : plainB x = true) : blankAt x < 0 := by
 induction x with
 | nil => decide
 | cons b x ih =>
  simp [plainB] at h
  have hi : Lib.indexByte x 32 < 0 := ih (by simp [plainB]; exact h.2)
  show Lib.indexByte (b :: x) 32 < 0
  have hg := Lib.indexByte_ge x 32
  rw [Lib.indexByte, if_neg (by simpa using h.1), if_pos (by simp; omega)]
  decide
theorem split_word {k : Nat} {x : List UInt8} (h : plainB x = true) (r : List UInt8) : splitL (k + 1) (x ++ 32 :: r) = x :: splitL k r := by
 rw [splitL_hit (blankAt_plain h r)]
 simp
theorem split_last {k : Nat} {x : List UInt8} (h : plainB x = true) : splitL k x = [x] := splitL_miss (blankAt_none h)
end Go.Proofs.YtnoohlibgaeklaaGreatDoor
namespace Go.Proofs.YtnoohlibgaeklaaGreatDoor
open Go.ChangeShapes Go.WideShapes Go.ChangeAt Go.RowKit
set_option maxRecDepth 100000
set_option maxHeartbeats 16000000
def PS (W : World) (A : Nat) (k vS vT n e0 e1 e2 : Value) : Prop :=
 (W.cell? ⟨A, 0, none⟩ = some k ∧ W.cell? ⟨A, 1, none⟩ = some vS ∧ W.cell? ⟨A, 2, none⟩ = some vT ∧ W.cell? ⟨A, 3, none⟩ = some n) ∧ (W.cell? ⟨A + 1, 0, none⟩ = some e0 ∧ W.cell? ⟨A + 1, 1, none⟩ = some e1 ∧ W.cell? ⟨A + 1, 2, none⟩ = some e2) ∧ (∀ j, W.frozen? ⟨A, j, none⟩ = false) ∧ (∀ j, W.frozen? ⟨A + 1, j, none⟩ = false) ∧ A + 1 < W.heap.size
theorem PS.below {W W' : World} {A : Nat} {k vS vT n e0 e1 e2 : Value} (h : PS W A k vS vT n e0 e1 e2) (hb : Bw W W') : PS W' A k vS vT n e0 e1 e2 := by
 obtain ⟨⟨a0, a1, a2, a3⟩, ⟨b0, b1, b2⟩, f0, f1, hl⟩ := h
 have h0 : A < W.heap.size := by omega
 exact ⟨⟨(hb.cell h0).trans a0, (hb.cell h0).trans a1, (hb.cell h0).trans a2, (hb.cell h0).trans a3⟩, ⟨(hb.cell hl).trans b0, (hb.cell hl).trans b1, (hb.cell hl).trans b2⟩, fun j => (hb.frozen h0).trans (f0 j), fun j => (hb.frozen hl).trans (f1 j), Nat.lt_of_lt_of_le hl hb.size⟩
theorem set_far {W : World} {p q : Addr} {v : Value} (h : p ≠ q) : (W.setCell p v).cell? q = W.cell? q := by apply World.cell?_setCell_other; exact h
theorem set_same {W : World} {p : Addr} {u v : Value} (h : W.cell? p = some u) : (W.setCell p v).cell? p = some v := by apply World.cell?_setCell_same; exact h
theorem ne_off {A i j : Nat} (h : i ≠ j) : (⟨A, i, none⟩ : Addr) ≠ ⟨A, j, none⟩ := fun e => h (by injection e)
theorem ne_blk {A B i j : Nat} (h : A ≠ B) : (⟨A, i, none⟩ : Addr) ≠ ⟨B, j, none⟩ := fun e => h (by injection e)
theorem PS.storeS {W : World} {A : Nat} {k vS vT n e0 e1 e2 : Value} (h : PS W A k vS vT n e0 e1 e2) (v e : Value) : PS ((W.setCell ⟨A, 1, none⟩ v).setCell ⟨A + 1, 0, none⟩ e) A k v vT n e e1 e2 := by
 obtain ⟨⟨a0, a1, a2, a3⟩, ⟨b0, b1, b2⟩, f0, f1, hl⟩ := h
 have n1 : A + 1 ≠ A := by omega
 refine ⟨⟨?_, ?_, ?_, ?_⟩, ⟨?_, ?_, ?_⟩, fun j => by simp [f0 j], fun j => by simp [f1 j], by simpa using hl⟩
 ·rw [set_far (ne_blk n1), set_far (ne_off (by decide))]; exact a0
 ·rw [set_far (ne_blk n1)]; exact set_same a1
 ·rw [set_far (ne_blk n1), set_far (ne_off (by decide))]; exact a2
 ·rw [set_far (ne_blk n1), set_far (ne_off (by decide))]; exact a3
 ·exact set_same ((set_far (ne_blk n1.symm)).trans b0)
 ·rw [set_far (ne_off (by decide)), set_far (ne_blk n1.symm)]; exact b1
 ·rw [set_far (ne_off (by decide)), set_far (ne_blk n1.symm)]; exact b2
theorem PS.storeT {W : World} {A : Nat} {k vS vT n e0 e1 e2 : Value} (h : PS W A k vS vT n e0 e1 e2) (v e : Value) : PS ((W.setCell ⟨A, 2, none⟩ v).setCell ⟨A + 1, 1, none⟩ e) A k vS v n e0 e e2 := by
 obtain ⟨⟨a0, a1, a2, a3⟩, ⟨b0, b1, b2⟩, f0, f1, hl⟩ := h
 have n1 : A + 1 ≠ A := by omega
 refine ⟨⟨?_, ?_, ?_, ?_⟩, ⟨?_, ?_, ?_⟩, fun j => by simp [f0 j], fun j => by simp [f1 j], by simpa using hl⟩
 ·rw [set_far (ne_blk n1), set_far (ne_off (by decide))]; exact a0
 ·rw [set_far (ne_blk n1), set_far (ne_off (by decide))]; exact a1
 ·rw [set_far (ne_blk n1)]; exact set_same a2
 ·rw [set_far (ne_blk n1), set_far (ne_off (by decide))]; exact a3
 ·rw [set_far (ne_off (by decide)), set_far (ne_blk n1.symm)]; exact b0
 ·exact set_same ((set_far (ne_blk n1.symm)).trans b1)
 ·rw [set_far (ne_off (by decide)), set_far (ne_blk n1.symm)]; exact b2
theorem PS.storeN {W : World} {A : Nat} {k vS vT n e0 e1 e2 : Value} (h : PS W A k vS vT n e0 e1 e2) (v e : Value) : PS ((W.setCell ⟨A, 3, none⟩ v).setCell ⟨A + 1, 2, none⟩ e) A k vS vT v e0 e1 e := by
 obtain ⟨⟨a0, a1, a2, a3⟩, ⟨b0, b1, b2⟩, f0, f1, hl⟩ := h
 have n1 : A + 1 ≠ A := by omega
 refine ⟨⟨?_, ?_, ?_, ?_⟩, ⟨?_, ?_, ?_⟩, fun j => by simp [f0 j], fun j => by simp [f1 j], by simpa using hl⟩
 ·rw [set_far (ne_blk n1), set_far (ne_off (by decide))]; exact a0
 ·rw [set_far (ne_blk n1), set_far (ne_off (by decide))]; exact a1
 ·rw [set_far (ne_blk n1), set_far (ne_off (by decide))]; exact a2
 ·rw [set_far (ne_blk n1)]; exact set_same a3
 ·rw [set_far (ne_off (by decide)), set_far (ne_blk n1.symm)]; exact b0
 ·rw [set_far (ne_off (by decide)), set_far (ne_blk n1.symm)]; exact b1
 ·exact set_same ((set_far (ne_blk n1.symm)).trans b2)
theorem ps_alloc (W : World) (k : Value) (ta te : TypeId) : PS ((W.alloc (.cells #[k, .slice none 0 0, .slice none 0 0, .int .i64 0] ta)).alloc (.cells #[.nilIface, .nilIface, .nilIface] te)) W.heap.size k (.slice none 0 0) (.slice none 0 0) (.int .i64 0) .nilIface .nilIface .nilIface := by
 have h : ∀ j, ((W.alloc (.cells #[k, .slice none 0 0, .slice none 0 0, .int .i64 0] ta)).alloc (.cells #[.nilIface, .nilIface, .nilIface] te)).cell? ⟨W.heap.size, j, none⟩ = (W.alloc (.cells #[k, .slice none 0 0, .slice none 0 0, .int .i64 0] ta)).cell? ⟨W.heap.size, j, none⟩ := fun j => World.cell?_alloc_lt _ _ ⟨W.heap.size, j, none⟩ (by simp)
 have e : W.heap.size + 1 = (W.alloc (.cells #[k, .slice none 0 0, .slice none 0 0, .int .i64 0] ta)).heap.size := by simp
 refine ⟨⟨?_, ?_, ?_, ?_⟩, ⟨?_, ?_, ?_⟩, fun j => ?_, fun j => ?_, by simp⟩
 ·rw [h]; simp
 ·rw [h]; simp
 ·rw [h]; simp
 ·rw [h]; simp
 ·rw [e]; simp
 ·rw [e]; simp
 ·rw [e]; simp
 ·rw [World.frozen?_alloc_old _ _ ⟨W.heap.size, j, none⟩ (by simp)]; simp
 ·rw [e]; simp
theorem Reads.store {W : World} {g c : Nat} {t : List Int} {p : Addr} {v : Value} (h : Reads W (.slice (some ⟨g, 0, none⟩) c c) t) (hp : p.block ≠ g) : Reads (W.setCell p v) (.slice (some ⟨g, 0, none⟩) c c) t := by
 rcases h with ⟨ao, cap, e, ht⟩ | ⟨b, off, cap, e, h2, h3, h4, h5⟩
 ·exact Or.inl ⟨ao, cap, e, ht⟩
 ·have eb : b = g := by injection e with e1 _ _; injection e1 with e2; injection e2 with e3; exact e3.symm
  refine Or.inr ⟨b, off, cap, e, by simpa using h2, h3, h4, fun k hk => ?_⟩
  rw [set_far (fun e' => hp (by rw [e', eb]))]
  exact h5 k hk
end Go.Proofs.YtnoohlibgaeklaaGreatDoor
