/-
  Proved: what term.Parse returns, of any text; what was in memory is as it was (a contract that the statements lean on).
  Proved: what term.Print returns, of any row of signs; what was in memory is as it was (a contract that the statements lean on).
  Plain facts on atoms (chapter 3): the fault of one, and whether it holds. No program is read here.
  Plain facts on numbers and atoms as texts (chapter 3): a number's text and its reading, an atom's text. No program is read here.
-/
import Derived.Test.YtfnkbbpjfjendaiGreatDoorLibTX3
import Derived.Laws.BytesArg
import Derived.Laws.IdiomStrings
import Derived.Test.YtfnkbbpjfjendaiGreatDoorLibTX1
import Derived.Lib.ItoaNum
import Derived.Lib.Atoi
namespace Go.Proofs.YtfnkbbpjfjendaiGreatDoor
open Go.ChangeShapes Go.WideShapes Go.ChangeAt Go.RowKit

theorem parse_syntax (s : ByteArray) (h : lettersB s.data.toList = false) (w : World) :
    Calls Tryz.prog 68 #[.string s] w fun e w' => e = .returned (.tuple #[.slice none 0 0, .iface 55 (.int .i64 2)]) ∧ Below w.heap.size w w' := by
  have HC : Hid (Calls Tryz.prog 84 #[.string s, .func (.func 82) #[] #[]] w fun e w' => e = .returned (.bool true) ∧ Below w.heap.size w w') := by
    have := containsFunc_text s w
    rw [h] at this; exact this
  clear h
  go_enter Tryz.func68, Tryz.ntmps68
  go_wp2_with (go_at_call 84; refine HC.out.mono ?_; rintro e w' ⟨rfl, hb⟩)
  go_ret2
  exact ⟨rfl, hb⟩

/-- the row that Parse makes: n signs of the text. -/
def partN (s : ByteArray) (n : Nat) : List Int := readN (s.data.toList.take n)
theorem partN_length (s : ByteArray) {n : Nat} (h : n ≤ s.size) : (partN s n).length = n := by
  have : s.data.toList.length = s.size := Array.length_toList
  simp only [partN, readN, List.length_map, List.length_take]; omega
theorem partN_getD (s : ByteArray) {n k : Nat} (h : n ≤ s.size) (hk : k < n) : (partN s n).getD k 0 = signOf (s[k]'(by omega)) := by
  have h1 : s.data.toList.length = s.size := Array.length_toList
  have h2 : k < (s.data.toList.take n).length := by rw [List.length_take]; omega
  simp only [partN, readN, List.getD_eq_getElem?_getD, List.getElem?_map, List.getElem?_eq_getElem h2, Option.map_some, Option.getD_some, List.getElem_take]
  rfl

/-- the laid row reads as the signs. -/
theorem own_reads {w : World} {base : Nat} {e : TypeId} {g cap n : Nat} {xs : List Value} {t : List Int} (h : w.ownsRow base e 1 (.slice (some ⟨g, 0, none⟩) n cap) n xs) (hn : t.length = n) (hx : ∀ j, j < n → xs[j]? = some (.int .i64 (t.getD j 0))) (hm : n ≤ 13) : Reads w (.slice (some ⟨g, 0, none⟩) n cap) t := by
  rcases Nat.eq_zero_or_pos n with h0 | h0
  · exact Or.inl ⟨_, cap, by rw [h0], List.eq_nil_of_length_eq_zero (by omega)⟩
  · refine Or.inr ⟨g, 0, cap, by rw [hn], (ownsRow_block h).2.1, by omega, ⟨by omega, by have := (ownsRow_block h).2.2; omega⟩, fun k hk => ?_⟩
    rw [Nat.zero_add, h.cellAt k (by omega)]
    exact hx k (by omega)

set_option maxRecDepth 100000 in
set_option maxHeartbeats 4000000 in
theorem parse_short (s : ByteArray) (hz : s.size ≤ 9223372036854775807) (hn : s.size ≤ 13) (h : lettersB s.data.toList = true) (w : World) :
    Calls Tryz.prog 68 #[.string s] w fun e w' => ∃ v, e = .returned (.tuple #[if faultN (partN s s.size) = 0 then v else .slice none 0 0, errV (faultN (partN s s.size))]) ∧ Reads w' v (partN s s.size) ∧ (∃ g c, v = .slice (some ⟨g, 0, none⟩) c c ∧ w.heap.size ≤ g) ∧ Below w.heap.size w w' := by
  obtain ⟨i0, hi, hz0, hz1, hz2⟩ := info_parts infoInt
  have HC : Hid (Calls Tryz.prog 84 #[.string s, .func (.func 82) #[] #[]] w fun e w' => e = .returned (.bool false) ∧ Below w.heap.size w w') := by
    have := containsFunc_text s w
    rw [h] at this; exact this
  clear h
  have hdec : ¬ (13 : Int) < (s.size : Int) := by omega
  have hNs : s.size ≤ s.size := by omega
  have hN13 : s.size ≤ 13 := by omega
  obtain ⟨t, ht⟩ : ∃ t, t = partN s s.size := ⟨_, rfl⟩
  rw [← ht]
  have HTL : Hid (t.length = s.size) := by unfold Hid; rw [ht]; exact partN_length s hNs
  have HTG : Hid (∀ k (hk : k < s.size), t.getD k 0 = signOf (s[k]'(by omega))) := fun k hk => by rw [ht]; exact partN_getD s hNs hk
  clear ht
  obtain ⟨E, hE⟩ : ∃ E, E = errV (faultN t) := ⟨_, rfl⟩
  obtain ⟨pick, hpick⟩ : ∃ pick : Value → Value, pick = fun v => if faultN t = 0 then v else .slice none 0 0 := ⟨_, rfl⟩
  have hgoal : ∀ v, (if faultN t = 0 then v else Value.slice none 0 0) = pick v := fun v => by rw [hpick]
  rw [← hE]
  simp only [hgoal]
  have HE : Hid (E = errV (faultN t)) := hE
  have HPI : Hid ((faultN t = 0 → ∀ v, pick v = v) ∧ (¬ faultN t = 0 → ∀ v, pick v = .slice none 0 0)) := ⟨fun h v => by rw [hpick]; exact if_pos h, fun h v => by rw [hpick]; exact if_neg h⟩
  clear hgoal hpick hE
  obtain ⟨f, hf⟩ : ∃ f : Nat → Value, f = fun j => .int .i64 (t.getD j 0) := ⟨_, rfl⟩
  have HF : Hid (f = fun j => .int .i64 (t.getD j 0)) := hf
  clear hf
  go_enter Tryz.func68, Tryz.ntmps68
  go_wp2_with (first | (go_at_call 84; refine HC.out.mono ?_; rintro e wc ⟨rfl, hbc⟩) | (at_make; refine wpList_make_full _ rfl _ _ 23 rfl wc.heap.size 3 i0 (.int .i64 0) 1 Tryz.underlying23 hi hz0 hz1 .i64 .i64 _ _ s.size rfl rfl ?m0 ?m1 ?m2 ?m3 ?m4 ?_))
  case m0 => rfl
  case m1 => rfl
  case m2 => rw [hz2]; omega
  case m3 => unfold maxLen; omega
  case m4 => exact Nat.le_refl _
  intro w1 hown1 hgrow1
  obtain ⟨G, hG⟩ : ∃ G, G = wc.heap.size := ⟨_, rfl⟩
  have HG : Hid (w.heap.size ≤ G) := by unfold Hid; rw [hG]; exact hbc.size
  have HO : Hid (w1.ownsRow G 3 1 (.slice (some ⟨G, 0, none⟩) s.size s.size) s.size (fill f (.int .i64 0) s.size 0) ∧ Below w.heap.size w w1) := by
    refine ⟨?_, ?_⟩
    · rw [fill_zero, ← toList_madeCells_one, hG]
      simpa [Value.cells] using hown1
    · exact hbc.grown hgrow1 (by rw [← hG]; exact HG.out) (fun k hk => by cases hk)
  rw [← hG]
  clear hown1 hgrow1 hG HC hbc
  go_wp2
  go_loopw [18] (fun i wr => ∃ k : Nat, k ≤ s.size ∧ i = .int .i64 k ∧ wr.ownsRow G 3 1 (.slice (some ⟨G, 0, none⟩) s.size s.size) s.size (fill f (.int .i64 0) s.size k) ∧ Below w.heap.size w wr) (fun i _ => s.size - (intOf i).toNat)
  case atStart => exact ⟨0, Nat.zero_le _, rfl, HO.out.1, HO.out.2⟩
  case round =>
    obtain ⟨k, hk, rfl, hown, hbel⟩ := hrel
    by_cases hlt : k < s.size
    · have hks : k < s.size := by omega
      have hfr : wr.frozen? ⟨G, k, none⟩ = false := hown.frozenAt k
      have hcg : wr.cell? ⟨G, k, none⟩ = some (.int .i64 0) := by rw [hown.cellAt k (by omega), fill_get _ _ _ _ _ hlt, if_neg (by omega)]
      have HR : Hid ((wr.setCell ⟨G, k, none⟩ (.int .i64 (signOf (s[k]'hks)))).ownsRow G 3 1 (.slice (some ⟨G, 0, none⟩) s.size s.size) s.size (fill f (.int .i64 0) s.size (k + 1)) ∧ Below w.heap.size w (wr.setCell ⟨G, k, none⟩ (.int .i64 (signOf (s[k]'hks))))) := by
        have := hown.stored k (f k)
        rw [fill_set] at this
        have e : f k = .int .i64 (signOf (s[k]'hks)) := by rw [HF.out]; show Value.int .i64 (t.getD k 0) = _; rw [HTG.out k hlt]
        rw [e] at this
        exact ⟨this.1, hbel.setCell HG.out _⟩
      clear hown hbel
      go_wp2_with (go_at_call 65; refine (indexLetter_any _ _).mono ?_; rintro e w' ⟨rfl, rfl⟩)
      go_roundw
      case rel => exact ⟨k + 1, by omega, by go_num, HR.out.1, HR.out.2⟩
      case measure => simp [intOf]; omega
    · obtain rfl : k = s.size := by omega
      have hR : Reads wr (.slice (some ⟨G, 0, none⟩) s.size s.size) t := own_reads hown HTL.out (fun j hj => by rw [fill_get _ _ _ _ _ hj, if_pos hj, HF.out]) hN13
      have HRd : Hid (Reads wr (.slice (some ⟨G, 0, none⟩) s.size s.size) t) := hR
      have HBw : Hid (Below w.heap.size w wr) := hbel
      have HCk : Hid (Calls Tryz.prog 52 #[.slice (some ⟨G, 0, none⟩) s.size s.size] wr fun e w' => e = .returned (errV (faultN t)) ∧ wr = w') := tcheck_any t _ wr hR
      clear hown hbel hR
      by_cases hft : faultN t = 0
      · have HE1 : Hid (errV (faultN t) = .nilIface) := by unfold Hid; rw [hft]; rfl
        have HFT : Hid (faultN t = 0) := hft
        rw [HE1.out] at HCk
        clear hft
        go_wp2_with (go_at_call 52; refine HCk.out.mono ?_; rintro e w' ⟨rfl, rfl⟩)
        go_ret2
        exact ⟨.slice (some ⟨G, 0, none⟩) s.size s.size, back_2 (HPI.out.1 HFT.out _).symm (HE.out.trans HE1.out).symm, HRd.out, ⟨G, _, rfl, HG.out⟩, HBw.out⟩
      · have HE1 : Hid (errV (faultN t) = .iface 55 (.int .i64 (faultN t))) := by unfold Hid errV; rw [if_neg hft]
        have HFT : Hid (¬ faultN t = 0) := hft
        rw [HE1.out] at HCk
        clear hft
        go_wp2_with (go_at_call 52; refine HCk.out.mono ?_; rintro e w' ⟨rfl, rfl⟩)
        go_ret2
        exact ⟨.slice (some ⟨G, 0, none⟩) s.size s.size, back_2 (HPI.out.2 HFT.out _).symm (HE.out.trans HE1.out).symm, HRd.out, ⟨G, _, rfl, HG.out⟩, HBw.out⟩

set_option maxRecDepth 100000 in
set_option maxHeartbeats 4000000 in
theorem parse_long (s : ByteArray) (hz : s.size ≤ 9223372036854775807) (hn : 13 < s.size) (h : lettersB s.data.toList = true) (w : World) :
    Calls Tryz.prog 68 #[.string s] w fun e w' => ∃ v, e = .returned (.tuple #[if faultN (partN s 13) = 0 then v else .slice none 0 0, errV (faultN (partN s 13))]) ∧ Reads w' v (partN s 13) ∧ (∃ g c, v = .slice (some ⟨g, 0, none⟩) c c ∧ w.heap.size ≤ g) ∧ Below w.heap.size w w' := by
  obtain ⟨i0, hi, hz0, hz1, hz2⟩ := info_parts infoInt
  have HC : Hid (Calls Tryz.prog 84 #[.string s, .func (.func 82) #[] #[]] w fun e w' => e = .returned (.bool false) ∧ Below w.heap.size w w') := by
    have := containsFunc_text s w
    rw [h] at this; exact this
  clear h
  have hdec : (13 : Int) < (s.size : Int) := by omega
  have hNs : 13 ≤ s.size := by omega
  have hN13 : 13 ≤ 13 := by omega
  obtain ⟨t, ht⟩ : ∃ t, t = partN s 13 := ⟨_, rfl⟩
  rw [← ht]
  have HTL : Hid (t.length = 13) := by unfold Hid; rw [ht]; exact partN_length s hNs
  have HTG : Hid (∀ k (hk : k < 13), t.getD k 0 = signOf (s[k]'(by omega))) := fun k hk => by rw [ht]; exact partN_getD s hNs hk
  clear ht
  obtain ⟨E, hE⟩ : ∃ E, E = errV (faultN t) := ⟨_, rfl⟩
  obtain ⟨pick, hpick⟩ : ∃ pick : Value → Value, pick = fun v => if faultN t = 0 then v else .slice none 0 0 := ⟨_, rfl⟩
  have hgoal : ∀ v, (if faultN t = 0 then v else Value.slice none 0 0) = pick v := fun v => by rw [hpick]
  rw [← hE]
  simp only [hgoal]
  have HE : Hid (E = errV (faultN t)) := hE
  have HPI : Hid ((faultN t = 0 → ∀ v, pick v = v) ∧ (¬ faultN t = 0 → ∀ v, pick v = .slice none 0 0)) := ⟨fun h v => by rw [hpick]; exact if_pos h, fun h v => by rw [hpick]; exact if_neg h⟩
  clear hgoal hpick hE
  obtain ⟨f, hf⟩ : ∃ f : Nat → Value, f = fun j => .int .i64 (t.getD j 0) := ⟨_, rfl⟩
  have HF : Hid (f = fun j => .int .i64 (t.getD j 0)) := hf
  clear hf
  go_enter Tryz.func68, Tryz.ntmps68
  go_wp2_with (first | (go_at_call 84; refine HC.out.mono ?_; rintro e wc ⟨rfl, hbc⟩) | (at_make; refine wpList_make_full _ rfl _ _ 23 rfl wc.heap.size 3 i0 (.int .i64 0) 1 Tryz.underlying23 hi hz0 hz1 .i64 .i64 _ _ 13 rfl rfl ?m0 ?m1 ?m2 ?m3 ?m4 ?_))
  case m0 => rfl
  case m1 => rfl
  case m2 => rw [hz2]; omega
  case m3 => unfold maxLen; omega
  case m4 => exact Nat.le_refl _
  intro w1 hown1 hgrow1
  obtain ⟨G, hG⟩ : ∃ G, G = wc.heap.size := ⟨_, rfl⟩
  have HG : Hid (w.heap.size ≤ G) := by unfold Hid; rw [hG]; exact hbc.size
  have HO : Hid (w1.ownsRow G 3 1 (.slice (some ⟨G, 0, none⟩) 13 13) 13 (fill f (.int .i64 0) 13 0) ∧ Below w.heap.size w w1) := by
    refine ⟨?_, ?_⟩
    · rw [fill_zero, ← toList_madeCells_one, hG]
      simpa [Value.cells] using hown1
    · exact hbc.grown hgrow1 (by rw [← hG]; exact HG.out) (fun k hk => by cases hk)
  rw [← hG]
  clear hown1 hgrow1 hG HC hbc
  go_wp2
  go_loopw [18] (fun i wr => ∃ k : Nat, k ≤ 13 ∧ i = .int .i64 k ∧ wr.ownsRow G 3 1 (.slice (some ⟨G, 0, none⟩) 13 13) 13 (fill f (.int .i64 0) 13 k) ∧ Below w.heap.size w wr) (fun i _ => 13 - (intOf i).toNat)
  case atStart => exact ⟨0, Nat.zero_le _, rfl, HO.out.1, HO.out.2⟩
  case round =>
    obtain ⟨k, hk, rfl, hown, hbel⟩ := hrel
    by_cases hlt : k < 13
    · have hks : k < s.size := by omega
      have hfr : wr.frozen? ⟨G, k, none⟩ = false := hown.frozenAt k
      have hcg : wr.cell? ⟨G, k, none⟩ = some (.int .i64 0) := by rw [hown.cellAt k (by omega), fill_get _ _ _ _ _ hlt, if_neg (by omega)]
      have HR : Hid ((wr.setCell ⟨G, k, none⟩ (.int .i64 (signOf (s[k]'hks)))).ownsRow G 3 1 (.slice (some ⟨G, 0, none⟩) 13 13) 13 (fill f (.int .i64 0) 13 (k + 1)) ∧ Below w.heap.size w (wr.setCell ⟨G, k, none⟩ (.int .i64 (signOf (s[k]'hks))))) := by
        have := hown.stored k (f k)
        rw [fill_set] at this
        have e : f k = .int .i64 (signOf (s[k]'hks)) := by rw [HF.out]; show Value.int .i64 (t.getD k 0) = _; rw [HTG.out k hlt]
        rw [e] at this
        exact ⟨this.1, hbel.setCell HG.out _⟩
      clear hown hbel
      go_wp2_with (go_at_call 65; refine (indexLetter_any _ _).mono ?_; rintro e w' ⟨rfl, rfl⟩)
      go_roundw
      case rel => exact ⟨k + 1, by omega, by go_num, HR.out.1, HR.out.2⟩
      case measure => simp [intOf]; omega
    · obtain rfl : k = 13 := by omega
      have hR : Reads wr (.slice (some ⟨G, 0, none⟩) 13 13) t := own_reads hown HTL.out (fun j hj => by rw [fill_get _ _ _ _ _ hj, if_pos hj, HF.out]) hN13
      have HRd : Hid (Reads wr (.slice (some ⟨G, 0, none⟩) 13 13) t) := hR
      have HBw : Hid (Below w.heap.size w wr) := hbel
      have HCk : Hid (Calls Tryz.prog 52 #[.slice (some ⟨G, 0, none⟩) 13 13] wr fun e w' => e = .returned (errV (faultN t)) ∧ wr = w') := tcheck_any t _ wr hR
      clear hown hbel hR
      by_cases hft : faultN t = 0
      · have HE1 : Hid (errV (faultN t) = .nilIface) := by unfold Hid; rw [hft]; rfl
        have HFT : Hid (faultN t = 0) := hft
        rw [HE1.out] at HCk
        clear hft
        go_wp2_with (go_at_call 52; refine HCk.out.mono ?_; rintro e w' ⟨rfl, rfl⟩)
        go_ret2
        exact ⟨.slice (some ⟨G, 0, none⟩) 13 13, back_2 (HPI.out.1 HFT.out _).symm (HE.out.trans HE1.out).symm, HRd.out, ⟨G, _, rfl, HG.out⟩, HBw.out⟩
      · have HE1 : Hid (errV (faultN t) = .iface 55 (.int .i64 (faultN t))) := by unfold Hid errV; rw [if_neg hft]
        have HFT : Hid (¬ faultN t = 0) := hft
        rw [HE1.out] at HCk
        clear hft
        go_wp2_with (go_at_call 52; refine HCk.out.mono ?_; rintro e w' ⟨rfl, rfl⟩)
        go_ret2
        exact ⟨.slice (some ⟨G, 0, none⟩) 13 13, back_2 (HPI.out.2 HFT.out _).symm (HE.out.trans HE1.out).symm, HRd.out, ⟨G, _, rfl, HG.out⟩, HBw.out⟩

/-- Parse, whatever the text: its fault, or the row that it reads as, which lies in a new place. -/
theorem parse_fresh (s : ByteArray) (hz : s.size ≤ 9223372036854775807) (w : World) :
    Calls Tryz.prog 68 #[.string s] w fun e w' => ∃ v, e = .returned (.tuple #[v, errV (textFault s.data.toList)]) ∧ (textFault s.data.toList = 0 → Reads w' v (readN s.data.toList) ∧ ∃ g c, v = .slice (some ⟨g, 0, none⟩) c c ∧ w.heap.size ≤ g) ∧ (¬ textFault s.data.toList = 0 → v = .slice none 0 0) ∧ Below w.heap.size w w' := by
  have hlen : s.data.toList.length = s.size := Array.length_toList
  by_cases h : lettersB s.data.toList = true
  · have e0 : textFault s.data.toList = faultN (readN s.data.toList) := by unfold textFault; rw [if_pos h]
    by_cases hn : s.size ≤ 13
    · have e1 : partN s s.size = readN s.data.toList := by unfold partN; rw [List.take_of_length_le (by omega)]
      refine (parse_short s hz hn h w).mono ?_
      rintro e w' ⟨v, he, hr, hg, hb⟩
      rw [e1, ← e0] at he
      rw [e1] at hr
      by_cases hf : textFault s.data.toList = 0
      · rw [if_pos hf] at he
        exact ⟨v, he, fun _ => ⟨hr, hg⟩, fun h' => absurd hf h', hb⟩
      · rw [if_neg hf] at he
        exact ⟨_, he, fun h' => absurd h' hf, fun _ => rfl, hb⟩
    · have l1 : (partN s 13).length = 13 := partN_length s (by omega)
      have l2 : (readN s.data.toList).length = s.size := by simp [readN]
      have f1 : faultN (partN s 13) = 4 := by unfold faultN; rw [if_neg (by omega), if_pos (by omega)]
      have f2 : textFault s.data.toList = 4 := by rw [e0]; unfold faultN; rw [if_neg (by omega), if_pos (by omega)]
      refine (parse_long s hz (by omega) h w).mono ?_
      rintro e w' ⟨v, he, _, _, hb⟩
      rw [f1, if_neg (by omega)] at he
      rw [f2]
      exact ⟨_, he, fun h' => by omega, fun _ => rfl, hb⟩
  · have h' : lettersB s.data.toList = false := by simpa using h
    have e0 : textFault s.data.toList = 2 := by unfold textFault; rw [if_neg h]
    rw [e0]
    refine (parse_syntax s h' w).mono ?_
    rintro e w' ⟨he, hb⟩
    exact ⟨_, he, fun h' => by omega, fun _ => rfl, hb⟩
/-- Parse, whatever the text: its fault, or the row that it reads as. -/
theorem parse_any (s : ByteArray) (hz : s.size ≤ 9223372036854775807) (w : World) :
    Calls Tryz.prog 68 #[.string s] w fun e w' => ∃ v, e = .returned (.tuple #[v, errV (textFault s.data.toList)]) ∧ (textFault s.data.toList = 0 → Reads w' v (readN s.data.toList)) ∧ (¬ textFault s.data.toList = 0 → v = .slice none 0 0) ∧ Below w.heap.size w w' := by
  refine (parse_fresh s hz w).mono ?_
  rintro e w' ⟨v, he, h1, h2, hb⟩
  exact ⟨v, he, fun h => (h1 h).1, h2, hb⟩
end Go.Proofs.YtfnkbbpjfjendaiGreatDoor

namespace Go.Proofs.YtfnkbbpjfjendaiGreatDoor
open Go.ChangeShapes Go.WideShapes Go.ChangeAt Go.RowKit

theorem infoByte : (Tryz.prog.info? 5).map (fun i => (i.zero, i.size, i.bytes)) = some (some (.int .u8 0), 1, 1) := by kernel_rfl
def strOf (l : List UInt8) : ByteArray := ⟨l.toArray⟩

/-- what Print answers. -/
def printS (t : List Int) : ByteArray := if faultN t = 0 then strOf (textN t) else ⟨#[]⟩

theorem print_bad (t : List Int) (v : Value) (w : World) (h : Reads w v t) (hf : ¬ faultN t = 0) :
    Calls Tryz.prog 38 #[v] w fun e w' => e = .returned (.tuple #[.string ⟨#[]⟩, .iface 55 (.int .i64 (faultN t))]) ∧ Below w.heap.size w w' := by
  have HC : Hid (Calls Tryz.prog 52 #[v] w fun e w' => e = .returned (.iface 55 (.int .i64 (faultN t))) ∧ w = w') := by
    have := tcheck_any t v _ h
    unfold errV at this
    rw [if_neg hf] at this
    exact this
  clear h hf
  obtain ⟨F, hF⟩ : ∃ F, F = faultN t := ⟨_, rfl⟩
  rw [← hF] at HC ⊢
  clear hF
  go_enter Tryz.func38, Tryz.ntmps38
  go_wp2_with (go_at_call 52; refine HC.out.mono ?_; rintro e w' ⟨rfl, rfl⟩)
  go_ret2
  exact ⟨rfl, Below.refl _ _⟩

set_option maxRecDepth 100000 in
set_option maxHeartbeats 4000000 in
theorem print_good (t : List Int) (B off cap : Nat) (w : World) (hB : B < w.heap.size) (hcap : t.length ≤ cap) (hf : faultN t = 0) (hc : ∀ k, k < t.length → w.cell? ⟨B, off + k, none⟩ = some (.int .i64 (t.getD k 0))) :
    Calls Tryz.prog 38 #[.slice (some ⟨B, off, none⟩) t.length cap] w fun e w' => e = .returned (.tuple #[.string (strOf (textN t)), .nilIface]) ∧ Below w.heap.size w w' := by
  obtain ⟨i0, hi, hz0, hz1, hz2⟩ := info_parts infoByte
  obtain ⟨f1, f2, f3, f4⟩ := fault_zero.1 hf
  have HC : Hid (Calls Tryz.prog 52 #[.slice (some ⟨B, off, none⟩) t.length cap] w fun e w' => e = .returned .nilIface ∧ w = w') := by
    have := tcheck_any t (.slice (some ⟨B, off, none⟩) t.length cap) w (Or.inr ⟨B, off, cap, rfl, hB, by omega, ⟨by omega, hcap⟩, hc⟩)
    rw [hf] at this
    exact this
  have HC1 : Hid (∀ k, k < t.length → w.cell? ⟨B, off + k, none⟩ = some (.int .i64 (t.getD k 0))) := hc
  have HB : Hid (B < w.heap.size) := hB
  have HS : Hid (t.all signB = true) := f3
  clear hc hB f1 f3 f4 hf hcap
  obtain ⟨n, hn⟩ : ∃ n, n = t.length := ⟨_, rfl⟩
  rw [← hn] at HC f2 ⊢
  have HN : Hid (n = t.length) := hn
  clear hn
  obtain ⟨f, hf⟩ : ∃ f : Nat → Value, f = fun j => .int .u8 ((byteOf (t.getD j 0)).toNat : Int) := ⟨_, rfl⟩
  have HF : Hid (f = fun j => .int .u8 ((byteOf (t.getD j 0)).toNat : Int)) := hf
  clear hf
  obtain ⟨G, hG⟩ : ∃ G, G = w.heap.size := ⟨_, rfl⟩
  have HG : Hid (G = w.heap.size) := hG
  obtain ⟨T, hT⟩ : ∃ T, T = strOf (textN t) := ⟨_, rfl⟩
  rw [← hT]
  have HT : Hid (T = strOf (textN t)) := hT
  clear hT
  go_enter Tryz.func38, Tryz.ntmps38
  go_wp2_with (first | (go_at_call 52; refine HC.out.mono ?_; rintro e w' ⟨rfl, rfl⟩) | (at_make; refine wpList_make_full _ rfl _ _ 47 rfl G 5 i0 (.int .u8 0) 1 Tryz.underlying47 hi hz0 hz1 .i64 .i64 _ _ n rfl rfl ?m0 ?m1 ?m2 ?m3 ?m4 ?_))
  case m0 => rfl
  case m1 => rfl
  case m2 => rw [hz2]; omega
  case m3 => unfold maxLen; omega
  case m4 => omega
  intro w1 hown1 hgrow1
  have HO : Hid (w1.ownsRow G 5 1 (.slice (some ⟨G, 0, none⟩) n n) n (fill f (.int .u8 0) n 0) ∧ Below G w w1) := by
    refine ⟨?_, ?_⟩
    · rw [fill_zero, ← toList_madeCells_one, hG]
      simpa [Value.cells, hG] using hown1
    · exact (Below.refl _ _).grown hgrow1 (by omega) (fun k hk => by cases hk)
  rw [← hG]
  clear hown1 hgrow1 hG HC
  go_wp2
  go_loopw [18] (fun i wr => ∃ k : Nat, k ≤ n ∧ i = .int .i64 k ∧ wr.ownsRow G 5 1 (.slice (some ⟨G, 0, none⟩) n n) n (fill f (.int .u8 0) n k) ∧ Below G w wr) (fun i _ => n - (intOf i).toNat)
  case atStart => exact ⟨0, Nat.zero_le _, rfl, HO.out.1, HO.out.2⟩
  case round =>
    obtain ⟨k, hk, rfl, hown, hbel⟩ := hrel
    by_cases hlt : k < n
    · obtain ⟨s, hs⟩ : ∃ s, s = t.getD k 0 := ⟨_, rfl⟩
      have hkt : k < t.length := by rw [← HN.out]; exact hlt
      have hcell : wr.cell? ⟨B, off + k, none⟩ = some (.int .i64 s) := by rw [hs, hbel.cell (by rw [HG.out]; exact HB.out)]; exact HC1.out k hkt
      have hsg : signB s = true := by
        refine List.all_eq_true.1 HS.out s ?_
        rw [hs, List.getD_eq_getElem?_getD, List.getElem?_eq_getElem hkt]; exact List.getElem_mem hkt
      have hfr : wr.frozen? ⟨G, k, none⟩ = false := hown.frozenAt k
      have hcg : wr.cell? ⟨G, k, none⟩ = some (.int .u8 0) := by rw [hown.cellAt k (by omega), fill_get _ _ _ _ _ hlt, if_neg (by omega)]
      have HR : Hid ((wr.setCell ⟨G, k, none⟩ (.int .u8 ((byteOf s).toNat : Int))).ownsRow G 5 1 (.slice (some ⟨G, 0, none⟩) n n) n (fill f (.int .u8 0) n (k + 1)) ∧ Below G w (wr.setCell ⟨G, k, none⟩ (.int .u8 ((byteOf s).toNat : Int)))) := by
        have := hown.stored k (f k)
        rw [fill_set] at this
        have e : f k = .int .u8 ((byteOf s).toNat : Int) := by rw [HF.out, hs]
        rw [e] at this
        exact ⟨this.1, hbel.setCell (Nat.le_refl _) _⟩
      clear hs hkt hown hbel
      rcases nine hsg with rfl | rfl | rfl | rfl | rfl | rfl | rfl | rfl | rfl
      all_goals
        clear hsg
        go_wp2
        go_roundw
        case rel => exact ⟨k + 1, by omega, by go_num, HR.out.1, HR.out.2⟩
        case measure => simp [intOf]; omega
    · obtain rfl : k = n := by omega
      have HCV : Hid (∀ dst, Tryz.prog.underlying dst = some .string → (convert 47 dst (.slice (some ⟨G, 0, none⟩) k k)).run Tryz.prog wr = .ok (.string T) wr) := by
        intro dst hd
        have e1 : (textN t).length = k := by rw [HN.out]; simp [textN]
        have := run_convert_bytes_back (P := Tryz.prog) wr 47 dst 5 ⟨G, 0, none⟩ k (textN t) Tryz.underlying47 Tryz.underlying5 hd (fun j hj => by
          have hjk : j < k := by omega
          have ha : (⟨G, 0, none⟩ : Addr).add j = ⟨G, j, none⟩ := by unfold Addr.add; split <;> simp_all
          rw [ha, hown.cellAt j (by omega), fill_get _ _ _ _ _ hjk, if_pos hjk, HF.out]
          have hjt : j < t.length := by rw [← HN.out]; exact hjk
          simp [textN, List.getElem?_eq_getElem hjt])
        rw [e1] at this
        rw [HT.out]; exact this
      have hcv := HCV.out
      have HBw : Hid (Below w.heap.size w wr) := by unfold Hid; rw [← HG.out]; exact hbel
      clear hown hbel
      go_wp2
      go_ret2
      exact ⟨rfl, HBw.out⟩

/-- Print, whatever the row of signs. -/
theorem print_any (t : List Int) (v : Value) (w : World) (h : Reads w v t) :
    Calls Tryz.prog 38 #[v] w fun e w' => e = .returned (.tuple #[.string (printS t), errV (faultN t)]) ∧ Below w.heap.size w w' := by
  by_cases hf : faultN t = 0
  · have e1 : printS t = strOf (textN t) := by unfold printS; rw [if_pos hf]
    rw [e1, hf]
    rcases h with ⟨ao, cap, rfl, rfl⟩ | ⟨B, off, cap, rfl, hB, _, ⟨_, hcap⟩, hc⟩
    · exact absurd hf (by decide)
    · exact print_good t B off cap w hB hcap hf hc
  · have e1 : printS t = ⟨#[]⟩ := by unfold printS; rw [if_neg hf]
    have e2 : errV (faultN t) = .iface 55 (.int .i64 (faultN t)) := by unfold errV; rw [if_neg hf]
    rw [e1, e2]
    exact print_bad t v w h hf
end Go.Proofs.YtfnkbbpjfjendaiGreatDoor

namespace Go.Proofs.YtfnkbbpjfjendaiGreatDoor
open Go.RowKit

/-- has a kind a second term? a number? -/
def secondB (k : Int) : Bool := decide (k = 1 ∨ k = 2 ∨ k = 5)
def numberB (k : Int) : Bool := decide (k = 3 ∨ k = 4 ∨ k = 5)
/-- what is wrong with the second term. -/
def secondFault (k : Int) (t : List Int) : Int := if secondB k = true then faultN t else if 0 < t.length then 3 else 0
/-- how great a number may be. -/
def mostN (k : Int) : Int := if numberB k = true then 20 else 0
/-- what is wrong with an atom. -/
def atomFault (k : Int) (s t : List Int) (n : Int) : Int :=
  if 1 ≤ k ∧ k ≤ 5 then (if faultN s = 0 then (if secondFault k t = 0 then (if - mostN k ≤ n ∧ n ≤ mostN k then 0 else 1) else secondFault k t) else faultN s) else 1
/-- what an atom says of two sets. -/
def saysB (k n x y : Int) : Bool :=
  if k = 1 then decide (lessN x y = 0) else if k = 2 then decide (x = y) else if k = 3 then decide (n ≤ pcN x) else if k = 4 then decide (pcN x ≤ n) else decide (pcN x ≤ pcN y + n)
/-- the set of the second term, where there is one. -/
def Wd.snd (w : Wd) (k : Int) (t : List Int) : Int := if secondB k = true then w.val t else 0
/-- does it hold? -/
def Wd.holds (w : Wd) (k : Int) (s t : List Int) (n : Int) : Bool := saysB k n (w.val s) (w.snd k t)
/-- what Holds tells: the number of the error, and the answer. -/
def Wd.holdsFault (w : Wd) (k : Int) (s t : List Int) (n : Int) : Int := if atomFault k s t n = 0 then (if w.ok = true then 0 else 1) else atomFault k s t n
def Wd.holdsIs (w : Wd) (k : Int) (s t : List Int) (n : Int) : Bool := if w.holdsFault k s t n = 0 then w.holds k s t n else false

theorem five {k : Int} (h0 : 1 ≤ k) (h1 : k ≤ 5) : k = 1 ∨ k = 2 ∨ k = 3 ∨ k = 4 ∨ k = 5 := by omega
theorem atomFault_kind {k : Int} (h : ¬ (1 ≤ k ∧ k ≤ 5)) (s t : List Int) (n : Int) : atomFault k s t n = 1 := by unfold atomFault; rw [if_neg h]
theorem atomFault_first {k : Int} (h : 1 ≤ k ∧ k ≤ 5) {s : List Int} (hs : ¬ faultN s = 0) (t : List Int) (n : Int) : atomFault k s t n = faultN s := by unfold atomFault; rw [if_pos h, if_neg hs]
theorem atomFault_second {k : Int} (h : 1 ≤ k ∧ k ≤ 5) {s : List Int} (hs : faultN s = 0) {t : List Int} (ht : ¬ secondFault k t = 0) (n : Int) : atomFault k s t n = secondFault k t := by unfold atomFault; rw [if_pos h, if_pos hs, if_neg ht]
theorem atomFault_third {k : Int} (h : 1 ≤ k ∧ k ≤ 5) {s : List Int} (hs : faultN s = 0) {t : List Int} (ht : secondFault k t = 0) (n : Int) : atomFault k s t n = if - mostN k ≤ n ∧ n ≤ mostN k then 0 else 1 := by unfold atomFault; rw [if_pos h, if_pos hs, if_pos ht]
theorem atomFault_zero {k : Int} {s t : List Int} {n : Int} : atomFault k s t n = 0 ↔ (1 ≤ k ∧ k ≤ 5) ∧ faultN s = 0 ∧ secondFault k t = 0 ∧ - mostN k ≤ n ∧ n ≤ mostN k := by
  by_cases h : 1 ≤ k ∧ k ≤ 5
  · by_cases hs : faultN s = 0
    · by_cases ht : secondFault k t = 0
      · rw [atomFault_third h hs ht]
        by_cases hn : - mostN k ≤ n ∧ n ≤ mostN k
        · rw [if_pos hn]; exact ⟨fun _ => ⟨h, hs, ht, hn⟩, fun _ => rfl⟩
        · rw [if_neg hn]; exact ⟨fun h => (by cases h), fun h' => absurd h'.2.2.2 hn⟩
      · rw [atomFault_second h hs ht]; exact ⟨fun h' => absurd h' ht, fun h' => absurd h'.2.2.1 ht⟩
    · rw [atomFault_first h hs]; exact ⟨fun h' => absurd h' hs, fun h' => absurd h'.2.1 hs⟩
  · rw [atomFault_kind h]; exact ⟨fun h' => (by cases h'), fun h' => absurd h'.1 h⟩
theorem second_reads {k : Int} {t : List Int} (ht : secondFault k t = 0) : secondB k = true → faultN t = 0 := by
  intro h'
  unfold secondFault at ht
  rw [if_pos h'] at ht
  exact ht

/-! ### none has fewer than none, nor more than all -/
theorem none_all {w : Wd} (hw : w.ok = true) (s : List Int) : lessN (w.val s) (allN w.u) = 0 := by
  have h := ok_val hw s
  exact uptoSets (P := fun u a _ => lessN a (allN u) = 0) (by decide +kernel) w.u (w.val s) (w.val s) h h
theorem none_size {w : Wd} (hw : w.ok = true) (s : List Int) : pcN (w.val s) ≤ w.u := by
  have h := ok_val hw s
  exact uptoSets (P := fun u a _ => pcN a ≤ u) (by decide +kernel) w.u (w.val s) (w.val s) h h
end Go.Proofs.YtfnkbbpjfjendaiGreatDoor

namespace Go.Proofs.YtfnkbbpjfjendaiGreatDoor
open Go.RowKit
set_option maxRecDepth 100000

/-- the digits of a number below 100. -/
def digitsN (u : Nat) : List UInt8 := if u < 10 then [UInt8.ofNat (48 + u)] else [UInt8.ofNat (48 + u / 10), UInt8.ofNat (48 + u % 10)]
/-- the text of a number of at most two digits. -/
def numText (n : Int) : List UInt8 := if n < 0 then 45 :: digitsN n.natAbs else digitsN n.toNat
theorem dec_digits {u : Nat} (h : u < 100) : Lib.decDigits u = digitsN u := by
  unfold digitsN
  by_cases h1 : u < 10
  · rw [if_pos h1, Lib.decDigits, dif_pos h1]
  · rw [if_neg h1, Lib.decDigits, dif_neg h1, Lib.decDigits, dif_pos (by omega)]; rfl
theorem itoa_num {n : Int} (h0 : -99 ≤ n) (h1 : n ≤ 99) : Lib.itoa n = numText n := by
  unfold Lib.itoa numText
  by_cases h : n < 0
  · rw [if_pos h, if_pos h, dec_digits (by omega)]
  · rw [if_neg h, if_neg h, dec_digits (by omega)]

/-- the numbers of at most two digits. -/
def nums : List Int := (List.range 199).map fun (i : Nat) => (i : Int) - 99
theorem mem_nums {n : Int} : n ∈ nums ↔ -99 ≤ n ∧ n ≤ 99 := by
  unfold nums
  rw [List.mem_map]
  constructor
  · rintro ⟨i, hi, rfl⟩
    have := List.mem_range.1 hi
    omega
  · intro h
    exact ⟨(n + 99).toNat, List.mem_range.2 (by omega), by omega⟩
/-- the number that a text is. -/
def numOf (l : List UInt8) : Option Int := nums.find? fun n => decide (numText n = l)
theorem nums_atoi : nums.all (fun n => decide (Lib.atoi (numText n) = some n)) = true := by decide +kernel
theorem atoi_num {n : Int} (h : -99 ≤ n ∧ n ≤ 99) : Lib.atoi (numText n) = some n := by
  have := List.all_eq_true.1 nums_atoi n (mem_nums.2 h)
  simpa using this
theorem numOf_some {l : List UInt8} {n : Int} : numOf l = some n ↔ (-99 ≤ n ∧ n ≤ 99) ∧ numText n = l := by
  constructor
  · intro h
    exact ⟨mem_nums.1 (List.mem_of_find?_eq_some h), by simpa using List.find?_some h⟩
  · rintro ⟨hn, rfl⟩
    cases h : numOf (numText n) with
    | none =>
      have := List.find?_eq_none.1 h n (mem_nums.2 hn)
      simp at this
    | some m =>
      have hm : numText m = numText n := by simpa using List.find?_some h
      have h1 := atoi_num (mem_nums.1 (List.mem_of_find?_eq_some h))
      rw [hm, atoi_num hn] at h1
      rw [Option.some.inj h1]
theorem numOf_text {n : Int} (h : -99 ≤ n ∧ n ≤ 99) : numOf (numText n) = some n := numOf_some.2 ⟨h, rfl⟩

/-- without a '-' ahead. -/
def bareN : List UInt8 → List UInt8
  | [] => []
  | b :: r => if b = 45 then r else b :: r
theorem nums_bare : nums.all (fun n => decide ((bareN (numText n)).length ≤ 2)) = true := by decide +kernel
theorem bare_num {n : Int} (h : -99 ≤ n ∧ n ≤ 99) : (bareN (numText n)).length ≤ 2 := by
  have := List.all_eq_true.1 nums_bare n (mem_nums.2 h)
  simpa using this
theorem numOf_long {l : List UInt8} (h : 2 < (bareN l).length) : numOf l = none := by
  cases h1 : numOf l with
  | none => rfl
  | some n =>
    obtain ⟨hn, rfl⟩ := numOf_some.1 h1
    have := bare_num hn
    omega
theorem dec_le {l : List UInt8} {m : Nat} (hl : l.length ≤ 2) (h : Lib.decNat l = some m) : m ≤ 99 := by
  have hd : ∀ b d, Lib.digitVal b = some d → d ≤ 9 := by
    intro b d hb
    unfold Lib.digitVal at hb
    split at hb
    · simp at hb; omega
    · cases hb
  match l, hl with
  | [], _ => simp [Lib.decNat] at h
  | [a], _ =>
    simp only [Lib.decNat, Lib.decFrom, List.isEmpty] at h
    cases ha : Lib.digitVal a with
    | none => rw [ha] at h; simp at h
    | some d =>
      rw [ha] at h
      have := hd a d ha
      simp at h
      omega
  | [a, b], _ =>
    simp only [Lib.decNat, Lib.decFrom, List.isEmpty] at h
    cases ha : Lib.digitVal a with
    | none => rw [ha] at h; simp at h
    | some d =>
      cases hb : Lib.digitVal b with
      | none => rw [ha, hb] at h; simp at h
      | some d' =>
        rw [ha, hb] at h
        have := hd a d ha
        have := hd b d' hb
        simp at h
        omega
theorem atoi_bare {l : List UInt8} {n : Int} (hl : (bareN l).length ≤ 2) (h : Lib.atoi l = some n) : -99 ≤ n ∧ n ≤ 99 := by
  match l with
  | [] => cases h
  | b :: r =>
    rw [Lib.atoi] at h
    by_cases hb : b = 45
    · subst hb
      have hl' : r.length ≤ 2 := hl
      rw [if_pos (by decide)] at h
      cases hm : Lib.decNat r with
      | none => rw [hm] at h; cases h
      | some m =>
        have := dec_le hl' hm
        rw [hm] at h
        simp at h
        omega
    · have hl' : (b :: r).length ≤ 2 := by
        rw [bareN, if_neg hb] at hl
        exact hl
      rw [if_neg (by simpa using hb)] at h
      split at h
      · cases hm : Lib.decNat r with
        | none => rw [hm] at h; cases h
        | some m =>
          have := dec_le (by simp at hl'; omega) hm
          rw [hm] at h
          simp at h
          omega
      · cases hm : Lib.decNat (b :: r) with
        | none => rw [hm] at h; cases h
        | some m =>
          have := dec_le hl' hm
          rw [hm] at h
          simp at h
          omega
/-- what reading a number and writing it again tells. -/
theorem numOf_atoi {l : List UInt8} (hl : (bareN l).length ≤ 2) : numOf l = match Lib.atoi l with | some n => if numText n = l then some n else none | none => none := by
  cases h : Lib.atoi l with
  | none =>
    cases h1 : numOf l with
    | none => rfl
    | some n =>
      obtain ⟨hn, rfl⟩ := numOf_some.1 h1
      rw [atoi_num hn] at h
      cases h
  | some n =>
    have hn := atoi_bare hl h
    show numOf l = if numText n = l then some n else none
    by_cases he : numText n = l
    · rw [if_pos he]; exact numOf_some.2 ⟨hn, he⟩
    · rw [if_neg he]
      cases h1 : numOf l with
      | none => rfl
      | some m =>
        obtain ⟨hm, rfl⟩ := numOf_some.1 h1
        rw [atoi_num hm] at h
        obtain rfl := Option.some.inj h
        exact absurd rfl he
end Go.Proofs.YtfnkbbpjfjendaiGreatDoor
