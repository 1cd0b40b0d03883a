/-
  Proved: what term.Parse returns, of any text; what was in memory is as it was (a contract that the statements lean on).
-/
import Derived.Test.YtenmheenieifpabGreatDoorTermFunc
namespace Go.Proofs.YtenmheenieifpabGreatDoor
open Go.ChangeShapes Go.WideShapes Go.ChangeAt Go.RowKit

theorem parse_syntax (s : ByteArray) (h : lettersB s.data.toList = false) (w : World) :
    Calls Tryz.prog 36 #[.string s] w fun e w' => e = .returned (.tuple #[.slice none 0 0, .iface 51 (.int .i64 2)]) ∧ Below w.heap.size w w' := by
  have HC : Hid (Calls Tryz.prog 57 #[.string s, .func (.func 55) #[] #[]] w fun e w' => e = .returned (.bool true) ∧ Below w.heap.size w w') := by
    have := containsFunc_text s w
    rw [h] at this; exact this
  clear h
  go_enter Tryz.func36, Tryz.ntmps36
  go_wp2_with (go_at_call 57; refine HC.out.mono ?_; rintro e w' ⟨rfl, hb⟩)
  go_ret2
  exact ⟨rfl, hb⟩

/-- the row that Parse makes: n signs of the text. -/
def partN (s : ByteArray) (n : Nat) : List Int := readN (s.data.toList.take n)
theorem partN_length (s : ByteArray) {n : Nat} (h : n ≤ s.size) : (partN s n).length = n := by
  have : s.data.toList.length = s.size := Array.length_toList
  simp only [partN, readN, List.length_map, List.length_take]; omega
theorem partN_getD (s : ByteArray) {n k : Nat} (h : n ≤ s.size) (hk : k < n) : (partN s n).getD k 0 = signOf (s[k]'(by omega)) := by
  have h1 : s.data.toList.length = s.size := Array.length_toList
  have h2 : k < (s.data.toList.take n).length := by rw [List.length_take]; omega
  simp only [partN, readN, List.getD_eq_getElem?_getD, List.getElem?_map, List.getElem?_eq_getElem h2, Option.map_some, Option.getD_some, List.getElem_take]
  rfl

/-- the laid row reads as the signs. -/
theorem own_reads {w : World} {base : Nat} {e : TypeId} {g cap n : Nat} {xs : List Value} {t : List Int} (h : w.ownsRow base e 1 (.slice (some ⟨g, 0, none⟩) n cap) n xs) (hn : t.length = n) (hx : ∀ j, j < n → xs[j]? = some (.int .i64 (t.getD j 0))) (hm : n ≤ 13) : Reads w (.slice (some ⟨g, 0, none⟩) n cap) t := by
  rcases Nat.eq_zero_or_pos n with h0 | h0
  · exact Or.inl ⟨_, cap, by rw [h0], List.eq_nil_of_length_eq_zero (by omega)⟩
  · refine Or.inr ⟨g, 0, cap, by rw [hn], (ownsRow_block h).2.1, by omega, ⟨by omega, by have := (ownsRow_block h).2.2; omega⟩, fun k hk => ?_⟩
    rw [Nat.zero_add, h.cellAt k (by omega)]
    exact hx k (by omega)

set_option maxRecDepth 100000 in
set_option maxHeartbeats 4000000 in
theorem parse_short (s : ByteArray) (hz : s.size ≤ 9223372036854775807) (hn : s.size ≤ 13) (h : lettersB s.data.toList = true) (w : World) :
    Calls Tryz.prog 36 #[.string s] w fun e w' => ∃ v, e = .returned (.tuple #[if faultN (partN s s.size) = 0 then v else .slice none 0 0, errV (faultN (partN s s.size))]) ∧ Reads w' v (partN s s.size) ∧ (∃ g c, v = .slice (some ⟨g, 0, none⟩) c c ∧ w.heap.size ≤ g) ∧ Below w.heap.size w w' := by
  obtain ⟨i0, hi, hz0, hz1, hz2⟩ := info_parts infoInt
  have HC : Hid (Calls Tryz.prog 57 #[.string s, .func (.func 55) #[] #[]] w fun e w' => e = .returned (.bool false) ∧ Below w.heap.size w w') := by
    have := containsFunc_text s w
    rw [h] at this; exact this
  clear h
  have hdec : ¬ (13 : Int) < (s.size : Int) := by omega
  have hNs : s.size ≤ s.size := by omega
  have hN13 : s.size ≤ 13 := by omega
  obtain ⟨t, ht⟩ : ∃ t, t = partN s s.size := ⟨_, rfl⟩
  rw [← ht]
  have HTL : Hid (t.length = s.size) := by unfold Hid; rw [ht]; exact partN_length s hNs
  have HTG : Hid (∀ k (hk : k < s.size), t.getD k 0 = signOf (s[k]'(by omega))) := fun k hk => by rw [ht]; exact partN_getD s hNs hk
  clear ht
  obtain ⟨E, hE⟩ : ∃ E, E = errV (faultN t) := ⟨_, rfl⟩
  obtain ⟨pick, hpick⟩ : ∃ pick : Value → Value, pick = fun v => if faultN t = 0 then v else .slice none 0 0 := ⟨_, rfl⟩
  have hgoal : ∀ v, (if faultN t = 0 then v else Value.slice none 0 0) = pick v := fun v => by rw [hpick]
  rw [← hE]
  simp only [hgoal]
  have HE : Hid (E = errV (faultN t)) := hE
  have HPI : Hid ((faultN t = 0 → ∀ v, pick v = v) ∧ (¬ faultN t = 0 → ∀ v, pick v = .slice none 0 0)) := ⟨fun h v => by rw [hpick]; exact if_pos h, fun h v => by rw [hpick]; exact if_neg h⟩
  clear hgoal hpick hE
  obtain ⟨f, hf⟩ : ∃ f : Nat → Value, f = fun j => .int .i64 (t.getD j 0) := ⟨_, rfl⟩
  have HF : Hid (f = fun j => .int .i64 (t.getD j 0)) := hf
  clear hf
  go_enter Tryz.func36, Tryz.ntmps36
  go_wp2_with (first | (go_at_call 57; refine HC.out.mono ?_; rintro e wc ⟨rfl, hbc⟩) | (at_make; refine wpList_make_full _ rfl _ _ 22 rfl wc.heap.size 3 i0 (.int .i64 0) 1 Tryz.underlying22 hi hz0 hz1 .i64 .i64 _ _ s.size rfl rfl ?m0 ?m1 ?m2 ?m3 ?m4 ?_))
  case m0 => rfl
  case m1 => rfl
  case m2 => rw [hz2]; omega
  case m3 => unfold maxLen; omega
  case m4 => exact Nat.le_refl _
  intro w1 hown1 hgrow1
  obtain ⟨G, hG⟩ : ∃ G, G = wc.heap.size := ⟨_, rfl⟩
  have HG : Hid (w.heap.size ≤ G) := by unfold Hid; rw [hG]; exact hbc.size
  have HO : Hid (w1.ownsRow G 3 1 (.slice (some ⟨G, 0, none⟩) s.size s.size) s.size (fill f (.int .i64 0) s.size 0) ∧ Below w.heap.size w w1) := by
    refine ⟨?_, ?_⟩
    · rw [fill_zero, ← toList_madeCells_one, hG]
      simpa [Value.cells] using hown1
    · exact hbc.grown hgrow1 (by rw [← hG]; exact HG.out) (fun k hk => by cases hk)
  rw [← hG]
  clear hown1 hgrow1 hG HC hbc
  go_wp2
  go_loopw [18] (fun i wr => ∃ k : Nat, k ≤ s.size ∧ i = .int .i64 k ∧ wr.ownsRow G 3 1 (.slice (some ⟨G, 0, none⟩) s.size s.size) s.size (fill f (.int .i64 0) s.size k) ∧ Below w.heap.size w wr) (fun i _ => s.size - (intOf i).toNat)
  case atStart => exact ⟨0, Nat.zero_le _, rfl, HO.out.1, HO.out.2⟩
  case round =>
    obtain ⟨k, hk, rfl, hown, hbel⟩ := hrel
    by_cases hlt : k < s.size
    · have hks : k < s.size := by omega
      have hfr : wr.frozen? ⟨G, k, none⟩ = false := hown.frozenAt k
      have hcg : wr.cell? ⟨G, k, none⟩ = some (.int .i64 0) := by rw [hown.cellAt k (by omega), fill_get _ _ _ _ _ hlt, if_neg (by omega)]
      have HR : Hid ((wr.setCell ⟨G, k, none⟩ (.int .i64 (signOf (s[k]'hks)))).ownsRow G 3 1 (.slice (some ⟨G, 0, none⟩) s.size s.size) s.size (fill f (.int .i64 0) s.size (k + 1)) ∧ Below w.heap.size w (wr.setCell ⟨G, k, none⟩ (.int .i64 (signOf (s[k]'hks))))) := by
        have := hown.stored k (f k)
        rw [fill_set] at this
        have e : f k = .int .i64 (signOf (s[k]'hks)) := by rw [HF.out]; show Value.int .i64 (t.getD k 0) = _; rw [HTG.out k hlt]
        rw [e] at this
        exact ⟨this.1, hbel.setCell HG.out _⟩
      clear hown hbel
      go_wp2_with (go_at_call 58; refine (indexLetter_any _ _).mono ?_; rintro e w' ⟨rfl, rfl⟩)
      go_roundw
      case rel => exact ⟨k + 1, by omega, by go_num, HR.out.1, HR.out.2⟩
      case measure => simp [intOf]; omega
    · obtain rfl : k = s.size := by omega
      have hR : Reads wr (.slice (some ⟨G, 0, none⟩) s.size s.size) t := own_reads hown HTL.out (fun j hj => by rw [fill_get _ _ _ _ _ hj, if_pos hj, HF.out]) hN13
      have HRd : Hid (Reads wr (.slice (some ⟨G, 0, none⟩) s.size s.size) t) := hR
      have HBw : Hid (Below w.heap.size w wr) := hbel
      have HCk : Hid (Calls Tryz.prog 20 #[.slice (some ⟨G, 0, none⟩) s.size s.size] wr fun e w' => e = .returned (errV (faultN t)) ∧ wr = w') := tcheck_any t _ wr hR
      clear hown hbel hR
      by_cases hft : faultN t = 0
      · have HE1 : Hid (errV (faultN t) = .nilIface) := by unfold Hid; rw [hft]; rfl
        have HFT : Hid (faultN t = 0) := hft
        rw [HE1.out] at HCk
        clear hft
        go_wp2_with (go_at_call 20; refine HCk.out.mono ?_; rintro e w' ⟨rfl, rfl⟩)
        go_ret2
        exact ⟨.slice (some ⟨G, 0, none⟩) s.size s.size, back_2 (HPI.out.1 HFT.out _).symm (HE.out.trans HE1.out).symm, HRd.out, ⟨G, _, rfl, HG.out⟩, HBw.out⟩
      · have HE1 : Hid (errV (faultN t) = .iface 51 (.int .i64 (faultN t))) := by unfold Hid errV; rw [if_neg hft]
        have HFT : Hid (¬ faultN t = 0) := hft
        rw [HE1.out] at HCk
        clear hft
        go_wp2_with (go_at_call 20; refine HCk.out.mono ?_; rintro e w' ⟨rfl, rfl⟩)
        go_ret2
        exact ⟨.slice (some ⟨G, 0, none⟩) s.size s.size, back_2 (HPI.out.2 HFT.out _).symm (HE.out.trans HE1.out).symm, HRd.out, ⟨G, _, rfl, HG.out⟩, HBw.out⟩

set_option maxRecDepth 100000 in
set_option maxHeartbeats 4000000 in
theorem parse_long (s : ByteArray) (hz : s.size ≤ 9223372036854775807) (hn : 13 < s.size) (h : lettersB s.data.toList = true) (w : World) :
    Calls Tryz.prog 36 #[.string s] w fun e w' => ∃ v, e = .returned (.tuple #[if faultN (partN s 13) = 0 then v else .slice none 0 0, errV (faultN (partN s 13))]) ∧ Reads w' v (partN s 13) ∧ (∃ g c, v = .slice (some ⟨g, 0, none⟩) c c ∧ w.heap.size ≤ g) ∧ Below w.heap.size w w' := by
  obtain ⟨i0, hi, hz0, hz1, hz2⟩ := info_parts infoInt
  have HC : Hid (Calls Tryz.prog 57 #[.string s, .func (.func 55) #[] #[]] w fun e w' => e = .returned (.bool false) ∧ Below w.heap.size w w') := by
    have := containsFunc_text s w
    rw [h] at this; exact this
  clear h
  have hdec : (13 : Int) < (s.size : Int) := by omega
  have hNs : 13 ≤ s.size := by omega
  have hN13 : 13 ≤ 13 := by omega
  obtain ⟨t, ht⟩ : ∃ t, t = partN s 13 := ⟨_, rfl⟩
  rw [← ht]
  have HTL : Hid (t.length = 13) := by unfold Hid; rw [ht]; exact partN_length s hNs
  have HTG : Hid (∀ k (hk : k < 13), t.getD k 0 = signOf (s[k]'(by omega))) := fun k hk => by rw [ht]; exact partN_getD s hNs hk
  clear ht
  obtain ⟨E, hE⟩ : ∃ E, E = errV (faultN t) := ⟨_, rfl⟩
  obtain ⟨pick, hpick⟩ : ∃ pick : Value → Value, pick = fun v => if faultN t = 0 then v else .slice none 0 0 := ⟨_, rfl⟩
  have hgoal : ∀ v, (if faultN t = 0 then v else Value.slice none 0 0) = pick v := fun v => by rw [hpick]
  rw [← hE]
  simp only [hgoal]
  have HE : Hid (E = errV (faultN t)) := hE
  have HPI : Hid ((faultN t = 0 → ∀ v, pick v = v) ∧ (¬ faultN t = 0 → ∀ v, pick v = .slice none 0 0)) := ⟨fun h v => by rw [hpick]; exact if_pos h, fun h v => by rw [hpick]; exact if_neg h⟩
  clear hgoal hpick hE
  obtain ⟨f, hf⟩ : ∃ f : Nat → Value, f = fun j => .int .i64 (t.getD j 0) := ⟨_, rfl⟩
  have HF : Hid (f = fun j => .int .i64 (t.getD j 0)) := hf
  clear hf
  go_enter Tryz.func36, Tryz.ntmps36
  go_wp2_with (first | (go_at_call 57; refine HC.out.mono ?_; rintro e wc ⟨rfl, hbc⟩) | (at_make; refine wpList_make_full _ rfl _ _ 22 rfl wc.heap.size 3 i0 (.int .i64 0) 1 Tryz.underlying22 hi hz0 hz1 .i64 .i64 _ _ 13 rfl rfl ?m0 ?m1 ?m2 ?m3 ?m4 ?_))
  case m0 => rfl
  case m1 => rfl
  case m2 => rw [hz2]; omega
  case m3 => unfold maxLen; omega
  case m4 => exact Nat.le_refl _
  intro w1 hown1 hgrow1
  obtain ⟨G, hG⟩ : ∃ G, G = wc.heap.size := ⟨_, rfl⟩
  have HG : Hid (w.heap.size ≤ G) := by unfold Hid; rw [hG]; exact hbc.size
  have HO : Hid (w1.ownsRow G 3 1 (.slice (some ⟨G, 0, none⟩) 13 13) 13 (fill f (.int .i64 0) 13 0) ∧ Below w.heap.size w w1) := by
    refine ⟨?_, ?_⟩
    · rw [fill_zero, ← toList_madeCells_one, hG]
      simpa [Value.cells] using hown1
    · exact hbc.grown hgrow1 (by rw [← hG]; exact HG.out) (fun k hk => by cases hk)
  rw [← hG]
  clear hown1 hgrow1 hG HC hbc
  go_wp2
  go_loopw [18] (fun i wr => ∃ k : Nat, k ≤ 13 ∧ i = .int .i64 k ∧ wr.ownsRow G 3 1 (.slice (some ⟨G, 0, none⟩) 13 13) 13 (fill f (.int .i64 0) 13 k) ∧ Below w.heap.size w wr) (fun i _ => 13 - (intOf i).toNat)
  case atStart => exact ⟨0, Nat.zero_le _, rfl, HO.out.1, HO.out.2⟩
  case round =>
    obtain ⟨k, hk, rfl, hown, hbel⟩ := hrel
    by_cases hlt : k < 13
    · have hks : k < s.size := by omega
      have hfr : wr.frozen? ⟨G, k, none⟩ = false := hown.frozenAt k
      have hcg : wr.cell? ⟨G, k, none⟩ = some (.int .i64 0) := by rw [hown.cellAt k (by omega), fill_get _ _ _ _ _ hlt, if_neg (by omega)]
      have HR : Hid ((wr.setCell ⟨G, k, none⟩ (.int .i64 (signOf (s[k]'hks)))).ownsRow G 3 1 (.slice (some ⟨G, 0, none⟩) 13 13) 13 (fill f (.int .i64 0) 13 (k + 1)) ∧ Below w.heap.size w (wr.setCell ⟨G, k, none⟩ (.int .i64 (signOf (s[k]'hks))))) := by
        have := hown.stored k (f k)
        rw [fill_set] at this
        have e : f k = .int .i64 (signOf (s[k]'hks)) := by rw [HF.out]; show Value.int .i64 (t.getD k 0) = _; rw [HTG.out k hlt]
        rw [e] at this
        exact ⟨this.1, hbel.setCell HG.out _⟩
      clear hown hbel
      go_wp2_with (go_at_call 58; refine (indexLetter_any _ _).mono ?_; rintro e w' ⟨rfl, rfl⟩)
      go_roundw
      case rel => exact ⟨k + 1, by omega, by go_num, HR.out.1, HR.out.2⟩
      case measure => simp [intOf]; omega
    · obtain rfl : k = 13 := by omega
      have hR : Reads wr (.slice (some ⟨G, 0, none⟩) 13 13) t := own_reads hown HTL.out (fun j hj => by rw [fill_get _ _ _ _ _ hj, if_pos hj, HF.out]) hN13
      have HRd : Hid (Reads wr (.slice (some ⟨G, 0, none⟩) 13 13) t) := hR
      have HBw : Hid (Below w.heap.size w wr) := hbel
      have HCk : Hid (Calls Tryz.prog 20 #[.slice (some ⟨G, 0, none⟩) 13 13] wr fun e w' => e = .returned (errV (faultN t)) ∧ wr = w') := tcheck_any t _ wr hR
      clear hown hbel hR
      by_cases hft : faultN t = 0
      · have HE1 : Hid (errV (faultN t) = .nilIface) := by unfold Hid; rw [hft]; rfl
        have HFT : Hid (faultN t = 0) := hft
        rw [HE1.out] at HCk
        clear hft
        go_wp2_with (go_at_call 20; refine HCk.out.mono ?_; rintro e w' ⟨rfl, rfl⟩)
        go_ret2
        exact ⟨.slice (some ⟨G, 0, none⟩) 13 13, back_2 (HPI.out.1 HFT.out _).symm (HE.out.trans HE1.out).symm, HRd.out, ⟨G, _, rfl, HG.out⟩, HBw.out⟩
      · have HE1 : Hid (errV (faultN t) = .iface 51 (.int .i64 (faultN t))) := by unfold Hid errV; rw [if_neg hft]
        have HFT : Hid (¬ faultN t = 0) := hft
        rw [HE1.out] at HCk
        clear hft
        go_wp2_with (go_at_call 20; refine HCk.out.mono ?_; rintro e w' ⟨rfl, rfl⟩)
        go_ret2
        exact ⟨.slice (some ⟨G, 0, none⟩) 13 13, back_2 (HPI.out.2 HFT.out _).symm (HE.out.trans HE1.out).symm, HRd.out, ⟨G, _, rfl, HG.out⟩, HBw.out⟩

/-- Parse, whatever the text: its fault, or the row that it reads as, which lies in a new place. -/
theorem parse_fresh (s : ByteArray) (hz : s.size ≤ 9223372036854775807) (w : World) :
    Calls Tryz.prog 36 #[.string s] w fun e w' => ∃ v, e = .returned (.tuple #[v, errV (textFault s.data.toList)]) ∧ (textFault s.data.toList = 0 → Reads w' v (readN s.data.toList) ∧ ∃ g c, v = .slice (some ⟨g, 0, none⟩) c c ∧ w.heap.size ≤ g) ∧ (¬ textFault s.data.toList = 0 → v = .slice none 0 0) ∧ Below w.heap.size w w' := by
  have hlen : s.data.toList.length = s.size := Array.length_toList
  by_cases h : lettersB s.data.toList = true
  · have e0 : textFault s.data.toList = faultN (readN s.data.toList) := by unfold textFault; rw [if_pos h]
    by_cases hn : s.size ≤ 13
    · have e1 : partN s s.size = readN s.data.toList := by unfold partN; rw [List.take_of_length_le (by omega)]
      refine (parse_short s hz hn h w).mono ?_
      rintro e w' ⟨v, he, hr, hg, hb⟩
      rw [e1, ← e0] at he
      rw [e1] at hr
      by_cases hf : textFault s.data.toList = 0
      · rw [if_pos hf] at he
        exact ⟨v, he, fun _ => ⟨hr, hg⟩, fun h' => absurd hf h', hb⟩
      · rw [if_neg hf] at he
        exact ⟨_, he, fun h' => absurd h' hf, fun _ => rfl, hb⟩
    · have l1 : (partN s 13).length = 13 := partN_length s (by omega)
      have l2 : (readN s.data.toList).length = s.size := by simp [readN]
      have f1 : faultN (partN s 13) = 4 := by unfold faultN; rw [if_neg (by omega), if_pos (by omega)]
      have f2 : textFault s.data.toList = 4 := by rw [e0]; unfold faultN; rw [if_neg (by omega), if_pos (by omega)]
      refine (parse_long s hz (by omega) h w).mono ?_
      rintro e w' ⟨v, he, _, _, hb⟩
      rw [f1, if_neg (by omega)] at he
      rw [f2]
      exact ⟨_, he, fun h' => by omega, fun _ => rfl, hb⟩
  · have h' : lettersB s.data.toList = false := by simpa using h
    have e0 : textFault s.data.toList = 2 := by unfold textFault; rw [if_neg h]
    rw [e0]
    refine (parse_syntax s h' w).mono ?_
    rintro e w' ⟨he, hb⟩
    exact ⟨_, he, fun h' => by omega, fun _ => rfl, hb⟩
/-- Parse, whatever the text: its fault, or the row that it reads as. -/
theorem parse_any (s : ByteArray) (hz : s.size ≤ 9223372036854775807) (w : World) :
    Calls Tryz.prog 36 #[.string s] w fun e w' => ∃ v, e = .returned (.tuple #[v, errV (textFault s.data.toList)]) ∧ (textFault s.data.toList = 0 → Reads w' v (readN s.data.toList)) ∧ (¬ textFault s.data.toList = 0 → v = .slice none 0 0) ∧ Below w.heap.size w w' := by
  refine (parse_fresh s hz w).mono ?_
  rintro e w' ⟨v, he, h1, h2, hb⟩
  exact ⟨v, he, fun h => (h1 h).1, h2, hb⟩
end Go.Proofs.YtenmheenieifpabGreatDoor
