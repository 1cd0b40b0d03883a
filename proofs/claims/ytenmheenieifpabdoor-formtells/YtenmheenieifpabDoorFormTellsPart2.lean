/-
  Proved: what vennref1.Negate returns, of a formula that is none or is full; what was in memory is as it was (contracts that the statements lean on).
  Proved: what vennref1.Negate returns, of any formula; what was in memory is as it was (contracts that the statements lean on).
  Proved: what vennref1.Both returns, of formulas of which one is none or that are too many together; what was in memory is as it was (contracts that the statements lean on).
  Rows of atoms in memory: the values that lie there, and what they read as (facts that the contracts lean on).
  Proved: what vennref1.Both returns, of any two formulas; what was in memory is as it was (contracts that the statements lean on).
-/
import Derived.Test.YtenmheenieifpabDoorFormTellsPart1
import Derived.Test.YtenmheenieifpabDoorFormNegate
import Derived.Test.YtenmheenieifpabDoorFormNegate2
import Derived.OwnWalk
import Derived.Laws.OwnMore
import Derived.Laws.AppendOwn
import Derived.Test.YtenmheenieifpabDoorFormBoth
import Derived.Test.YtenmheenieifpabDoorFormCheck
import Derived.Test.YtenmheenieifpabDoorFormCopies
import Derived.Test.YtenmheenieifpabDoorFormBoth2
import Derived.Maps.AppendAt
namespace Go.Proofs.YtenmheenieifpabDoor
open Go.ChangeShapes Go.WideShapes Go.ChangeAt Go.RowKit
set_option maxRecDepth 100000

set_option maxHeartbeats 2000000 in
theorem refNegate_bad (va vc : Value) (ats : List At) (c : List Int) (w : World) (hA : ReadsA w va ats) (hC : Reads w vc c) (hf : ¬ formFault ats c = 0) :
    Calls Tryd.prog 16 #[.agg #[va, vc]] w fun e w' => e = .returned (.tuple #[.agg #[.slice none 0 0, .slice none 0 0], .int .i64 (formFault ats c)]) ∧ Below w.heap.size w w' := by
  obtain ⟨ao, acap, rfl, _⟩ := hA.slice
  obtain ⟨co, ccap, rfl, _⟩ := hC.slice
  obtain ⟨w1, hw1⟩ : ∃ w1, w1 = (w.alloc (.cells #[.slice ao ats.length acap, .slice co c.length ccap] 40)).alloc (.cells #[.slice none 0 0, .slice none 0 0] 40) := ⟨_, rfl⟩
  have HB1 : Hid (Below w.heap.size w w1) := by unfold Hid; rw [hw1]; exact (below_alloc1 _ _).trans ((below_alloc1 _ _).mono (by simp))
  have HS1 : Hid (w1.heap.size = w.heap.size + 2) := by unfold Hid; rw [hw1]; simp
  have HX1 : Hid (BoxN w1 w.heap.size (.slice ao ats.length acap) (.slice co c.length ccap)) := by unfold Hid; rw [hw1]; exact boxN_alloc w _ _
  have HC : Hid (Calls Tryd.prog 11 #[.agg #[.slice ao ats.length acap, .slice co c.length ccap]] w1 fun e w' => e = .returned (.int .i64 (formFault ats c)) ∧ Below w1.heap.size w1 w') := by
    have := refForm_any _ _ ats c w1 (hA.below HB1.out) (hC.below HB1.out)
    exact this
  clear hA hC
  obtain ⟨F, hF⟩ : ∃ F, F = formFault ats c := ⟨_, rfl⟩
  rw [← hF] at HC hf ⊢
  have hf0 : (F == 0) = false := by simpa using hf
  have hf1 : (F != 0) = true := by simpa using hf
  clear hF
  obtain ⟨m, hm⟩ : ∃ m, m = ats.length := ⟨_, rfl⟩
  obtain ⟨n, hn⟩ : ∃ n, n = c.length := ⟨_, rfl⟩
  rw [← hm, ← hn] at HC hw1 HX1 ⊢
  clear hm hn hf
  obtain ⟨⟨x0, x1⟩, _, _⟩ := HX1.out
  rw [hw1] at x0 x1
  go_enter Tryd.func16, Tryd.ntmps16
  go_wp2_with fail
  rw [← hw1]
  clear hw1 x0 x1
  go_at_call 11
  refine HC.out.mono ?_
  rintro e w2 ⟨rfl, hb⟩
  have HB2 : Hid (Below w.heap.size w w2) := HB1.out.trans (hb.mono HB1.out.size)
  obtain ⟨⟨x0, x1⟩, ⟨y0, y1⟩, ⟨f0, f1⟩⟩ := HX1.out.below (by have := HS1.out; omega) hb
  clear hb
  go_wp2_with fail
  obtain ⟨m0, m1⟩ := set2_cells (u0 := .slice none 0 0) (u1 := .slice none 0 0) y0 y1
  have hld := load_form m0 m1
  refine bodyPost_ret (v := .tuple #[.agg #[.slice none 0 0, .slice none 0 0], .int .i64 F]) ?_ rfl ⟨rfl, ?_⟩
  · rw [results_cell_tmp rfl]
    simp [asAddr, Result.andThen, hld]
  · exact (HB2.out.setCell (by simp) _).setCell (by simp) _

set_option maxHeartbeats 2000000 in
theorem refNegate_full (va vc : Value) (ats : List At) (c : List Int) (w : World) (hA : ReadsA w va ats) (hC : Reads w vc c) (hf : formFault ats c = 0) (h20 : c.length = 20) :
    Calls Tryd.prog 16 #[.agg #[va, vc]] w fun e w' => e = .returned (.tuple #[.agg #[.slice none 0 0, .slice none 0 0], .int .i64 4]) ∧ Below w.heap.size w w' := by
  obtain ⟨ao, acap, rfl, _⟩ := hA.slice
  obtain ⟨co, ccap, rfl, _⟩ := hC.slice
  obtain ⟨w1, hw1⟩ : ∃ w1, w1 = (w.alloc (.cells #[.slice ao ats.length acap, .slice co c.length ccap] 40)).alloc (.cells #[.slice none 0 0, .slice none 0 0] 40) := ⟨_, rfl⟩
  have HB1 : Hid (Below w.heap.size w w1) := by unfold Hid; rw [hw1]; exact (below_alloc1 _ _).trans ((below_alloc1 _ _).mono (by simp))
  have HS1 : Hid (w1.heap.size = w.heap.size + 2) := by unfold Hid; rw [hw1]; simp
  have HX1 : Hid (BoxN w1 w.heap.size (.slice ao ats.length acap) (.slice co c.length ccap)) := by unfold Hid; rw [hw1]; exact boxN_alloc w _ _
  have HC : Hid (Calls Tryd.prog 11 #[.agg #[.slice ao ats.length acap, .slice co c.length ccap]] w1 fun e w' => e = .returned (.int .i64 0) ∧ Below w1.heap.size w1 w') := by
    have := refForm_any _ _ ats c w1 (hA.below HB1.out) (hC.below HB1.out)
    rw [hf] at this
    exact this
  clear hA hC
  obtain ⟨m, hm⟩ : ∃ m, m = ats.length := ⟨_, rfl⟩
  rw [← hm] at HC hw1 HX1 ⊢
  rw [h20] at HC hw1 HX1 ⊢
  clear hm h20 hf
  obtain ⟨⟨x0, x1⟩, _, _⟩ := HX1.out
  rw [hw1] at x0 x1
  go_enter Tryd.func16, Tryd.ntmps16
  go_wp2_with fail
  rw [← hw1]
  clear hw1 x0 x1
  go_at_call 11
  refine HC.out.mono ?_
  rintro e w2 ⟨rfl, hb⟩
  have HB2 : Hid (Below w.heap.size w w2) := HB1.out.trans (hb.mono HB1.out.size)
  obtain ⟨⟨x0, x1⟩, ⟨y0, y1⟩, ⟨f0, f1⟩⟩ := HX1.out.below (by have := HS1.out; omega) hb
  clear hb
  go_wp2_with fail
  obtain ⟨m0, m1⟩ := set2_cells (u0 := .slice none 0 0) (u1 := .slice none 0 0) y0 y1
  have hld := load_form m0 m1
  refine bodyPost_ret (v := .tuple #[.agg #[.slice none 0 0, .slice none 0 0], .int .i64 4]) ?_ rfl ⟨rfl, ?_⟩
  · rw [results_cell_tmp rfl]
    simp [asAddr, Result.andThen, hld]
  · exact (HB2.out.setCell (by simp) _).setCell (by simp) _
end Go.Proofs.YtenmheenieifpabDoor

namespace Go.Proofs.YtenmheenieifpabDoor
open Go.ChangeShapes Go.WideShapes Go.ChangeAt Go.RowKit
set_option maxRecDepth 100000
theorem ownsRow_set {W : World} {base : Nat} {e : TypeId} {size : Nat} {v : Value} {n : Nat} {xs : List Value} {B j : Nat} {u : Value} (h : W.ownsRow base e size v n xs) (hB : B < base) : (W.setCell ⟨B, j, none⟩ u).ownsRow base e size v n xs := by
  obtain ⟨h1, h2⟩ := h
  refine ⟨h1, ?_⟩
  rcases h2 with h2 | ⟨g, cap, cur, hv, hg, hh, r⟩
  · exact .inl h2
  · refine .inr ⟨g, cap, cur, hv, hg, ?_, r⟩
    rw [Below.heap_setCell _ _ _ _ (show g ≠ B by omega)]; exact hh
theorem own_readsN {w : World} {base : Nat} {e : TypeId} {v : Value} {n : Nat} {xs : List Value} {t : List Int} (h : w.ownsRow base e 1 v n xs) (hx : xs = t.map (Value.int .i64)) (hm : n ≤ 9223372036854775807) : Reads w v t := by
  have hn : t.length = n := by have := h.1; rw [hx] at this; simpa using this
  rcases h.2 with ⟨rfl, h0⟩ | ⟨g, cap, cur, rfl, _⟩
  · exact Or.inl ⟨_, _, rfl, List.eq_nil_of_length_eq_zero (by omega)⟩
  · rcases Nat.eq_zero_or_pos n with h0 | h0
    · exact Or.inl ⟨_, cap, by rw [h0], List.eq_nil_of_length_eq_zero (by omega)⟩
    · refine Or.inr ⟨g, 0, cap, by rw [hn], (ownsRow_block h).2.1, by omega, ⟨by omega, by have := (ownsRow_block h).2.2; omega⟩, fun k hk => ?_⟩
      rw [Nat.zero_add, h.cellAt k (by omega), hx]
      simp [List.getElem?_eq_getElem hk]
theorem BoxN.at' {W W' : World} {S0 K : Nat} {va vc : Value} (h : BoxN W S0 va vc) (hb : Below K W W') (hS : S0 + 1 < K) : BoxN W' S0 va vc := by
  obtain ⟨⟨a0, a1⟩, ⟨b0, b1⟩, f0, f1⟩ := h
  have h0 : S0 < K := by omega
  exact ⟨⟨(hb.cell h0).trans a0, (hb.cell h0).trans a1⟩, ⟨(hb.cell hS).trans b0, (hb.cell hS).trans b1⟩, (hb.frozen hS).trans f0, (hb.frozen hS).trans f1⟩
theorem set_far2 {W : World} {A i j : Nat} {v : Value} (h : i ≠ j) : (W.setCell ⟨A, i, none⟩ v).cell? ⟨A, j, none⟩ = W.cell? ⟨A, j, none⟩ := by
  apply World.cell?_setCell_other
  intro e
  injection e with _ e2
  exact h e2
theorem BoxN.far {W : World} {S0 B j : Nat} {va vc u : Value} (h : BoxN W S0 va vc) (h0 : B ≠ S0) (h1 : B ≠ S0 + 1) : BoxN (W.setCell ⟨B, j, none⟩ u) S0 va vc := by
  have f : ∀ S i, B ≠ S → (W.setCell ⟨B, j, none⟩ u).cell? ⟨S, i, none⟩ = W.cell? ⟨S, i, none⟩ := fun S i hS => World.cell?_setCell_other _ _ _ _ (fun e => hS (by injection e))
  obtain ⟨⟨a0, a1⟩, ⟨b0, b1⟩, f0, f1⟩ := h
  exact ⟨⟨(f _ _ h0).trans a0, (f _ _ h0).trans a1⟩, ⟨(f _ _ h1).trans b0, (f _ _ h1).trans b1⟩, by simp [f0], by simp [f1]⟩

set_option maxHeartbeats 4000000 in
theorem refNegate_good (va vc : Value) (ats : List At) (c : List Int) (w : World) (hA : ReadsA w va ats) (hC : Reads w vc c) (hf : formFault ats c = 0) (h20 : ¬ c.length = 20) :
    Calls Tryd.prog 16 #[.agg #[va, vc]] w fun e w' => ∃ vc', e = .returned (.tuple #[.agg #[va, vc'], .int .i64 0]) ∧ Reads w' vc' (c ++ [12]) ∧ Below w.heap.size w w' := by
  obtain ⟨i0, hi, hz0, hz1, hz2⟩ := info_parts infoInt
  obtain ⟨_, ⟨hn1, hn20⟩, _⟩ := formFault_zero.1 hf
  obtain ⟨ao, acap, rfl, _⟩ := hA.slice
  obtain ⟨co, ccap, rfl, _⟩ := hC.slice
  obtain ⟨w1, hw1⟩ : ∃ w1, w1 = (w.alloc (.cells #[.slice ao ats.length acap, .slice co c.length ccap] 40)).alloc (.cells #[.slice none 0 0, .slice none 0 0] 40) := ⟨_, rfl⟩
  have HB1 : Hid (Below w.heap.size w w1) := by unfold Hid; rw [hw1]; exact (below_alloc1 _ _).trans ((below_alloc1 _ _).mono (by simp))
  have HS1 : Hid (w1.heap.size = w.heap.size + 2) := by unfold Hid; rw [hw1]; simp
  have HX1 : Hid (BoxN w1 w.heap.size (.slice ao ats.length acap) (.slice co c.length ccap)) := by unfold Hid; rw [hw1]; exact boxN_alloc w _ _
  have HC : Hid (Calls Tryd.prog 11 #[.agg #[.slice ao ats.length acap, .slice co c.length ccap]] w1 fun e w' => e = .returned (.int .i64 0) ∧ Below w1.heap.size w1 w') := by
    have := refForm_any _ _ ats c w1 (hA.below HB1.out) (hC.below HB1.out)
    rw [hf] at this
    exact this
  have HRc : Hid (∀ W, Below w.heap.size w W → Reads W (.slice co c.length ccap) c) := fun W h => hC.below h
  clear hA hC hf
  obtain ⟨m, hm⟩ : ∃ m, m = ats.length := ⟨_, rfl⟩
  obtain ⟨n, hn⟩ : ∃ n, n = c.length := ⟨_, rfl⟩
  rw [← hm] at HC hw1 HX1 ⊢
  rw [← hn] at HC hw1 HX1 HRc h20 hn1 hn20 ⊢
  have HN : Hid (n = c.length) := hn
  clear hm hn
  have h20' : ((n : Int) == 20) = false := by simp; omega
  obtain ⟨⟨x0, x1⟩, _, _⟩ := HX1.out
  rw [hw1] at x0 x1
  go_enter Tryd.func16, Tryd.ntmps16
  go_wp2_with fail
  rw [← hw1]
  clear hw1 x0 x1
  go_at_call 11
  refine HC.out.mono ?_
  rintro e w2 ⟨rfl, hb⟩
  have HB2 : Hid (Below w.heap.size w w2) := HB1.out.trans (hb.mono HB1.out.size)
  have HX2 : Hid (BoxN w2 w.heap.size (.slice ao m acap) (.slice co n ccap) ∧ w.heap.size + 2 ≤ w2.heap.size) := ⟨HX1.out.below (by have := HS1.out; omega) hb, by have := HS1.out; have := hb.size; omega⟩
  obtain ⟨⟨x0, x1⟩, ⟨y0, y1⟩, ⟨f0, f1⟩⟩ := HX2.out.1
  clear hb
  obtain ⟨G, hG⟩ : ∃ G, G = w2.heap.size := ⟨_, rfl⟩
  obtain ⟨w3, hw3⟩ : ∃ w3, w3 = w2.alloc (.cells #[.slice ao m acap, .slice none 0 0] 40) := ⟨_, rfl⟩
  have HB3 : Hid (Below w2.heap.size w2 w3 ∧ w3.heap.size = G + 1) := by unfold Hid; rw [hw3, hG]; exact ⟨below_alloc1 _ _, by simp⟩
  have HG3 : Hid ((w3.cell? ⟨G, 0, none⟩ = some (.slice ao m acap) ∧ w3.cell? ⟨G, 1, none⟩ = some (.slice none 0 0)) ∧ w3.frozen? ⟨G, 1, none⟩ = false) := by unfold Hid; rw [hw3, hG]; simp
  have HX3 : Hid (BoxN w3 w.heap.size (.slice ao m acap) (.slice co n ccap)) := HX2.out.1.below (by have := HX2.out.2; omega) HB3.out.1
  have HB30 : Hid (Below w.heap.size w w3) := HB2.out.trans (HB3.out.1.mono HB2.out.size)
  have HGw : Hid (w.heap.size + 2 ≤ G) := by rw [hG]; exact HX2.out.2
  have z1 := HX3.out.1.2
  have z2 := HG3.out.1.2
  rcases HRc.out w3 HB30.out with ⟨_, _, hv, hcn⟩ | ⟨b, off, cap, hv, hb, _, ⟨hl63, hle⟩, hc⟩
  · have := HN.out; rw [hcn] at this; simp at this; omega
  obtain rfl : co = some ⟨b, off, none⟩ := by cases hv; rfl
  clear hv
  have HCe : Hid (∀ j, j < c.length → w3.cell? ⟨b, off + j, none⟩ = some (.int .i64 (c.getD j 0))) := hc
  clear hc hb hl63 hle
  rw [hw3, hG] at z2
  rw [hw3] at z1
  go_wp2_with (first | (at_builtin; refine wpList_append_own _ rfl (.tmp 24) (.tmp 26) 22 rfl (G + 1) 3 i0 (.int .i64 0) 1 8 Tryd.underlying22 hi hz0 hz1 hz2 rfl (by decide) (.slice none 0 0) 0 [] rfl (World.ownsRow_nil _ _ _ _) ⟨b, off, none⟩ n ccap (c.map (Value.int .i64)) rfl ?a0 ?a1 ?a2 ?a3 ?a4 ?a5 ?_))
  case a0 => have := HN.out; simp; omega
  case a1 =>
    intro j y hj
    rw [List.getElem?_map] at hj
    cases hcj : c[j]? with
    | none => rw [hcj] at hj; cases hj
    | some s =>
      rw [hcj] at hj
      have hjl := (List.getElem?_eq_some_iff.1 hcj).1
      have := HCe.out j hjl
      rw [← hw3]
      rw [show (⟨b, off, none⟩ : Addr).add j = ⟨b, off + j, none⟩ by simp [Addr.add], this, List.getD_eq_getElem?_getD, hcj]
      simpa using hj
  case a2 => intro y hy; obtain ⟨s, _, rfl⟩ := List.mem_map.1 hy; rfl
  case a3 => unfold maxLen; omega
  case a4 => omega
  case a5 => rw [← hw3, HB3.out.2]; exact Nat.le_refl _
  intro v4 w4 hown hgrow _
  rw [← hw3] at hgrow
  subst hG
  have HB4 : Hid (Below w3.heap.size w3 w4) := by
    unfold Hid
    rw [HB3.out.2]
    exact (Below.refl _ _).grown hgrow (by rw [HB3.out.2]; exact Nat.le_refl _) (fun k hk => by cases hk)
  have HB40 : Hid (Below w.heap.size w w4) := HB30.out.trans (HB4.out.mono HB30.out.size)
  have hG3 : w2.heap.size < w3.heap.size := by rw [HB3.out.2]; omega
  have HG4 : Hid ((w4.cell? ⟨w2.heap.size, 0, none⟩ = some (.slice ao m acap) ∧ w4.cell? ⟨w2.heap.size, 1, none⟩ = some (.slice none 0 0)) ∧ w4.frozen? ⟨w2.heap.size, 1, none⟩ = false) := ⟨⟨(HB4.out.cell hG3).trans HG3.out.1.1, (HB4.out.cell hG3).trans HG3.out.1.2⟩, (HB4.out.frozen hG3).trans HG3.out.2⟩
  have HX4 : Hid (BoxN w4 w.heap.size (.slice ao m acap) (.slice (some ⟨b, off, none⟩) n ccap)) := HX3.out.below (by have := HB3.out.2; have := HGw.out; omega) HB4.out
  have HS4 : Hid (w2.heap.size + 1 ≤ w4.heap.size) := by have := HB4.out.size; rw [HB3.out.2] at this; exact this
  obtain ⟨g, cap4, rfl⟩ : ∃ g cap4, v4 = .slice (some ⟨g, 0, none⟩) n cap4 := by
    rcases hown.2 with ⟨_, h0⟩ | ⟨g, cap4, cur, rfl, _⟩
    · omega
    · exact ⟨g, cap4, rfl⟩
  obtain ⟨w5, hw5⟩ : ∃ w5, w5 = w4.setCell ⟨w2.heap.size, 1, none⟩ (.slice (some ⟨g, 0, none⟩) n cap4) := ⟨_, rfl⟩
  have HO5 : Hid (w5.ownsRow (w2.heap.size + 1) 3 1 (.slice (some ⟨g, 0, none⟩) n cap4) n (c.map (Value.int .i64))) := by unfold Hid; rw [hw5]; exact ownsRow_set hown (by omega)
  have HB5 : Hid (Below w.heap.size w w5) := by unfold Hid; rw [hw5]; exact HB40.out.setCell (by have := HGw.out; simp; omega) _
  have HX5 : Hid (BoxN w5 w.heap.size (.slice ao m acap) (.slice (some ⟨b, off, none⟩) n ccap)) := by unfold Hid; rw [hw5]; exact HX4.out.far (by have := HGw.out; omega) (by have := HGw.out; omega)
  have HG5 : Hid ((w5.cell? ⟨w2.heap.size, 0, none⟩ = some (.slice ao m acap) ∧ w5.cell? ⟨w2.heap.size, 1, none⟩ = some (.slice (some ⟨g, 0, none⟩) n cap4)) ∧ w5.frozen? ⟨w2.heap.size, 1, none⟩ = false) := by
    unfold Hid; rw [hw5]
    exact ⟨⟨(set_far2 (by decide)).trans HG4.out.1.1, World.cell?_setCell_same _ _ _ (by rw [HG4.out.1.2])⟩, by simp [HG4.out.2]⟩
  have HS5 : Hid (w2.heap.size + 1 ≤ w5.heap.size) := by unfold Hid; rw [hw5]; simpa using HS4.out
  have z3 := HG4.out.1.2
  have z4 := HG4.out.2
  have z5 := HG5.out.1.2
  rw [hw5] at z5
  clear hown hgrow
  go_wp2_with (first | (at_builtin; refine wpList_append_own _ rfl (.tmp 30) (.tmp 31) 22 rfl (w2.heap.size + 1) 3 i0 (.int .i64 0) 1 8 Tryd.underlying22 hi hz0 hz1 hz2 rfl (by decide) (.slice (some ⟨g, 0, none⟩) n cap4) n (c.map (Value.int .i64)) rfl (by rw [← hw5]; exact HO5.out.alloc _) ⟨w4.heap.size, 0, none⟩ 1 1 [.int .i64 12] rfl rfl ?b1 (by intro y hy; simp at hy; subst hy; rfl) ?b3 ?b4 ?b5 ?_))
  case b1 =>
    intro j y hj
    rw [← hw5]
    match j, hj with
    | 0, hj =>
      simp at hj; subst hj
      have e : w4.heap.size = w5.heap.size := by rw [hw5]; simp
      rw [e]
      simp [Addr.add]
  case b3 => unfold maxLen; omega
  case b4 => omega
  case b5 => have := HS4.out; simp; omega
  intro v6 w6 hown hgrow _
  rw [← hw5] at hgrow
  have HB6 : Hid (Below (w2.heap.size + 1) w5 w6) := ((Below.refl _ _).alloc HS5.out _).grown hgrow (by have := HS5.out; simp; omega) (fun k hk => (HO5.out.lt k hk).1)
  have HB60 : Hid (Below w.heap.size w w6) := HB5.out.trans (HB6.out.mono (by have := HGw.out; omega))
  obtain ⟨g6, cap6, rfl⟩ : ∃ g6 cap6, v6 = .slice (some ⟨g6, 0, none⟩) (n + 1) cap6 := by
    rcases hown.2 with ⟨_, h0⟩ | ⟨g6, cap6, cur, rfl, _⟩
    · omega
    · exact ⟨g6, cap6, rfl⟩
  have lG : w2.heap.size < w2.heap.size + 1 := by omega
  have g60 := (HB6.out.cell (p := ⟨w2.heap.size, 0, none⟩) lG).trans HG5.out.1.1
  have g61 := (HB6.out.cell (p := ⟨w2.heap.size, 1, none⟩) lG).trans HG5.out.1.2
  have g6f := (HB6.out.frozen (p := ⟨w2.heap.size, 1, none⟩) lG).trans HG5.out.2
  have HX6 : Hid (BoxN w6 w.heap.size (.slice ao m acap) (.slice (some ⟨b, off, none⟩) n ccap)) := HX5.out.at' HB6.out (by have := HGw.out; omega)
  obtain ⟨w7, hw7⟩ : ∃ w7, w7 = w6.setCell ⟨w2.heap.size, 1, none⟩ (.slice (some ⟨g6, 0, none⟩) (n + 1) cap6) := ⟨_, rfl⟩
  have HX7 : Hid (BoxN w7 w.heap.size (.slice ao m acap) (.slice (some ⟨b, off, none⟩) n ccap)) := by unfold Hid; rw [hw7]; exact HX6.out.far (by have := HGw.out; omega) (by have := HGw.out; omega)
  have HO7 : Hid (w7.ownsRow (w2.heap.size + 1) 3 1 (.slice (some ⟨g6, 0, none⟩) (n + 1) cap6) (n + 1) ((c ++ [12]).map (Value.int .i64))) := by unfold Hid; rw [hw7, List.map_append]; exact ownsRow_set hown (by omega)
  have HB7 : Hid (Below w.heap.size w w7) := by unfold Hid; rw [hw7]; exact HB60.out.setCell (by have := HGw.out; simp; omega) _
  have q0 : w7.cell? ⟨w2.heap.size, 0, none⟩ = some (.slice ao m acap) := by rw [hw7]; exact (set_far2 (by decide)).trans g60
  have q1 : w7.cell? ⟨w2.heap.size, 1, none⟩ = some (.slice (some ⟨g6, 0, none⟩) (n + 1) cap6) := by rw [hw7]; exact World.cell?_setCell_same _ _ _ (by rw [g61])
  obtain ⟨_, ⟨y0, y1⟩, ⟨f0, f1⟩⟩ := HX7.out
  have s0 := y0
  have s1 := y1
  clear hown hgrow g60 x0 x1 z1 z2 z3 z4 z5
  rw [hw7] at q0 q1 s0 s1 f0 f1
  go_wp2_with fail
  rw [← hw7]
  obtain ⟨m0, m1⟩ := set2_cells (u0 := .slice ao m acap) (u1 := .slice (some ⟨g6, 0, none⟩) (n + 1) cap6) y0 y1
  have hld := load_form m0 m1
  have hR : w.heap.size + 1 < w2.heap.size + 1 := by have := HGw.out; omega
  refine bodyPost_ret (v := .tuple #[.agg #[.slice ao m acap, .slice (some ⟨g6, 0, none⟩) (n + 1) cap6], .int .i64 0]) ?_ rfl ⟨_, rfl, own_readsN (ownsRow_set (ownsRow_set HO7.out hR) hR) rfl (by omega), ?_⟩
  · rw [results_cell_tmp rfl]
    simp [asAddr, Result.andThen, hld]
  · exact (HB7.out.setCell (by simp) _).setCell (by simp) _
/-- vennref1.Negate, of any formula. -/
theorem refNegate_any (va vc : Value) (ats : List At) (c : List Int) (w : World) (hA : ReadsA w va ats) (hC : Reads w vc c) :
    Calls Tryd.prog 16 #[.agg #[va, vc]] w fun e w' => ∃ va' vc', e = .returned (.tuple #[.agg #[va', vc'], .int .i64 (negFault ats c)]) ∧ (negFault ats c = 0 → ReadsA w' va' ats ∧ Reads w' vc' (c ++ [12])) ∧ (¬ negFault ats c = 0 → va' = .slice none 0 0 ∧ vc' = .slice none 0 0) ∧ Below w.heap.size w w' := by
  by_cases hf : formFault ats c = 0
  · by_cases h19 : 19 < c.length
    · have e0 : negFault ats c = 4 := by unfold negFault; rw [if_pos hf, if_pos h19]
      have h20 : c.length = 20 := by have := (formFault_zero.1 hf).2.1; omega
      rw [e0]
      refine (refNegate_full va vc ats c w hA hC hf h20).mono ?_
      rintro e w' ⟨rfl, hb⟩
      exact ⟨_, _, rfl, fun h => (by cases h), fun _ => ⟨rfl, rfl⟩, hb⟩
    · have e0 : negFault ats c = 0 := by unfold negFault; rw [if_pos hf, if_neg h19]
      rw [e0]
      refine (refNegate_good va vc ats c w hA hC hf (by omega)).mono ?_
      rintro e w' ⟨vc', rfl, hr, hb⟩
      exact ⟨_, _, rfl, fun _ => ⟨hA.below hb, hr⟩, fun h => absurd rfl h, hb⟩
  · have e0 : negFault ats c = formFault ats c := by unfold negFault; rw [if_neg hf]
    rw [e0]
    refine (refNegate_bad va vc ats c w hA hC hf).mono ?_
    rintro e w' ⟨rfl, hb⟩
    exact ⟨_, _, rfl, fun h => absurd h hf, fun _ => ⟨rfl, rfl⟩, hb⟩
end Go.Proofs.YtenmheenieifpabDoor

namespace Go.Proofs.YtenmheenieifpabDoor
open Go.ChangeShapes Go.WideShapes Go.ChangeAt Go.RowKit
set_option maxRecDepth 100000

set_option maxHeartbeats 2000000 in
theorem refBoth_bad1 (va vc vb vd : Value) (ats bts : List At) (c d : List Int) (w : World) (hA : ReadsA w va ats) (hC : Reads w vc c) (hA2 : ReadsA w vb bts) (hC2 : Reads w vd d) (hf : ¬ formFault ats c = 0) :
    Calls Tryd.prog 19 #[.agg #[va, vc], .agg #[vb, vd]] w fun e w' => e = .returned (.tuple #[.agg #[.slice none 0 0, .slice none 0 0], .int .i64 (formFault ats c)]) ∧ Below w.heap.size w w' := by
  obtain ⟨ao, acap, rfl, _⟩ := hA.slice
  obtain ⟨co, ccap, rfl, _⟩ := hC.slice
  obtain ⟨bo, bcap, rfl, _⟩ := hA2.slice
  obtain ⟨eo, ecap, rfl, _⟩ := hC2.slice
  obtain ⟨m1, hm1⟩ : ∃ m1, m1 = ats.length := ⟨_, rfl⟩
  obtain ⟨n1, hn1⟩ : ∃ n1, n1 = c.length := ⟨_, rfl⟩
  obtain ⟨m2, hm2⟩ : ∃ m2, m2 = bts.length := ⟨_, rfl⟩
  obtain ⟨n2, hn2⟩ : ∃ n2, n2 = d.length := ⟨_, rfl⟩
  rw [← hm1] at hA ⊢
  rw [← hn1] at hC ⊢
  rw [← hm2] at hA2 ⊢
  rw [← hn2] at hC2 ⊢
  obtain ⟨w1, hw1⟩ : ∃ w1, w1 = ((w.alloc (.cells #[.slice ao m1 acap, .slice co n1 ccap] 40)).alloc (.cells #[.slice bo m2 bcap, .slice eo n2 ecap] 40)).alloc (.cells #[.slice none 0 0, .slice none 0 0] 40) := ⟨_, rfl⟩
  have HB1 : Hid (Below w.heap.size w w1) := by unfold Hid; rw [hw1]; exact below_three _ _ _ _
  have HS1 : Hid (w1.heap.size = w.heap.size + 3) := by unfold Hid; rw [hw1]; simp
  have HX : Hid (∀ W, Below w1.heap.size w1 W → BoxB W w.heap.size (.slice ao m1 acap) (.slice co n1 ccap) (.slice bo m2 bcap) (.slice eo n2 ecap)) := fun W hW => BoxB.below (W := w1) (by rw [hw1]; exact boxB_alloc w _ _ _ _) (by have := HS1.out; omega) hW
  have HC1 : Hid (∀ W, Below w.heap.size w W → Calls Tryd.prog 11 #[.agg #[.slice ao m1 acap, .slice co n1 ccap]] W fun e w' => e = .returned (.int .i64 (formFault ats c)) ∧ Below W.heap.size W w') := fun W hW => by
    have := refForm_any _ _ ats c W (hA.below hW) (hC.below hW)
    exact this
  clear hA hC hA2 hC2 hm1 hn1 hm2 hn2
  obtain ⟨F, hF⟩ : ∃ F, F = (formFault ats c) := ⟨_, rfl⟩
  rw [← hF] at HC1 hf ⊢
  have hF0 : (F == 0) = false := by simpa using hf
  have hF1 : (F != 0) = true := by simpa using hf
  clear hF hf
  obtain ⟨⟨x0, x1⟩, ⟨y0, y1⟩, _, _⟩ := HX.out w1 (Below.refl _ _)
  rw [hw1] at x0 x1 y0 y1
  go_enter Tryd.func19, Tryd.ntmps19
  go_wp2_with fail
  rw [← hw1]
  clear hw1 x0 x1 y0 y1
  go_at_call 11
  refine (HC1.out _ HB1.out).mono ?_
  rintro e w2 ⟨rfl, hb⟩
  have HB2 : Hid (Below w1.heap.size w1 w2) := hb
  clear hb
  obtain ⟨⟨x0, x1⟩, ⟨y0, y1⟩, ⟨z0, z1⟩, ⟨f0, f1⟩⟩ := HX.out w2 HB2.out
  go_wp2_with fail
  obtain ⟨k0, k1⟩ := set2_cells (u0 := .slice none 0 0) (u1 := .slice none 0 0) z0 z1
  have hld := load_form k0 k1
  refine bodyPost_ret (v := .tuple #[.agg #[.slice none 0 0, .slice none 0 0], .int .i64 F]) ?_ rfl ⟨rfl, ?_⟩
  · rw [results_cell_tmp rfl]
    simp [asAddr, Result.andThen, hld]
  · exact ((HB1.out.trans (HB2.out.mono HB1.out.size)).setCell (show w.heap.size ≤ w.heap.size + 2 by omega) _).setCell (show w.heap.size ≤ w.heap.size + 2 by omega) _

set_option maxHeartbeats 2000000 in
theorem refBoth_bad2 (va vc vb vd : Value) (ats bts : List At) (c d : List Int) (w : World) (hA : ReadsA w va ats) (hC : Reads w vc c) (hA2 : ReadsA w vb bts) (hC2 : Reads w vd d) (hf : formFault ats c = 0) (hg : ¬ formFault bts d = 0) :
    Calls Tryd.prog 19 #[.agg #[va, vc], .agg #[vb, vd]] w fun e w' => e = .returned (.tuple #[.agg #[.slice none 0 0, .slice none 0 0], .int .i64 (formFault bts d)]) ∧ Below w.heap.size w w' := by
  obtain ⟨ao, acap, rfl, _⟩ := hA.slice
  obtain ⟨co, ccap, rfl, _⟩ := hC.slice
  obtain ⟨bo, bcap, rfl, _⟩ := hA2.slice
  obtain ⟨eo, ecap, rfl, _⟩ := hC2.slice
  obtain ⟨m1, hm1⟩ : ∃ m1, m1 = ats.length := ⟨_, rfl⟩
  obtain ⟨n1, hn1⟩ : ∃ n1, n1 = c.length := ⟨_, rfl⟩
  obtain ⟨m2, hm2⟩ : ∃ m2, m2 = bts.length := ⟨_, rfl⟩
  obtain ⟨n2, hn2⟩ : ∃ n2, n2 = d.length := ⟨_, rfl⟩
  rw [← hm1] at hA ⊢
  rw [← hn1] at hC ⊢
  rw [← hm2] at hA2 ⊢
  rw [← hn2] at hC2 ⊢
  obtain ⟨w1, hw1⟩ : ∃ w1, w1 = ((w.alloc (.cells #[.slice ao m1 acap, .slice co n1 ccap] 40)).alloc (.cells #[.slice bo m2 bcap, .slice eo n2 ecap] 40)).alloc (.cells #[.slice none 0 0, .slice none 0 0] 40) := ⟨_, rfl⟩
  have HB1 : Hid (Below w.heap.size w w1) := by unfold Hid; rw [hw1]; exact below_three _ _ _ _
  have HS1 : Hid (w1.heap.size = w.heap.size + 3) := by unfold Hid; rw [hw1]; simp
  have HX : Hid (∀ W, Below w1.heap.size w1 W → BoxB W w.heap.size (.slice ao m1 acap) (.slice co n1 ccap) (.slice bo m2 bcap) (.slice eo n2 ecap)) := fun W hW => BoxB.below (W := w1) (by rw [hw1]; exact boxB_alloc w _ _ _ _) (by have := HS1.out; omega) hW
  have HC1 : Hid (∀ W, Below w.heap.size w W → Calls Tryd.prog 11 #[.agg #[.slice ao m1 acap, .slice co n1 ccap]] W fun e w' => e = .returned (.int .i64 0) ∧ Below W.heap.size W w') := fun W hW => by
    have := refForm_any _ _ ats c W (hA.below hW) (hC.below hW)
    rw [hf] at this
    exact this
  have HC2 : Hid (∀ W, Below w.heap.size w W → Calls Tryd.prog 11 #[.agg #[.slice bo m2 bcap, .slice eo n2 ecap]] W fun e w' => e = .returned (.int .i64 (formFault bts d)) ∧ Below W.heap.size W w') := fun W hW => by
    have := refForm_any _ _ bts d W (hA2.below hW) (hC2.below hW)
    exact this
  clear hA hC hA2 hC2 hm1 hn1 hm2 hn2
  obtain ⟨F, hF⟩ : ∃ F, F = (formFault bts d) := ⟨_, rfl⟩
  rw [← hF] at HC2 hg ⊢
  have hF0 : (F == 0) = false := by simpa using hg
  have hF1 : (F != 0) = true := by simpa using hg
  clear hF hg
  obtain ⟨⟨x0, x1⟩, ⟨y0, y1⟩, _, _⟩ := HX.out w1 (Below.refl _ _)
  rw [hw1] at x0 x1 y0 y1
  go_enter Tryd.func19, Tryd.ntmps19
  go_wp2_with fail
  rw [← hw1]
  clear hw1 x0 x1 y0 y1
  go_at_call 11
  refine (HC1.out _ HB1.out).mono ?_
  rintro e w2 ⟨rfl, hb⟩
  have HB2 : Hid (Below w1.heap.size w1 w2) := hb
  clear hb
  obtain ⟨⟨x0, x1⟩, ⟨y0, y1⟩, ⟨z0, z1⟩, ⟨f0, f1⟩⟩ := HX.out w2 HB2.out
  go_wp2_with fail
  go_at_call 11
  refine (HC2.out _ (HB1.out.trans (HB2.out.mono HB1.out.size))).mono ?_
  rintro e w3 ⟨rfl, hb⟩
  have HB2 : Hid (Below w1.heap.size w1 w3) := HB2.out.trans (hb.mono HB2.out.size)
  clear hb x0 x1 y0 y1 z0 z1 f0 f1
  obtain ⟨⟨x0, x1⟩, ⟨y0, y1⟩, ⟨z0, z1⟩, ⟨f0, f1⟩⟩ := HX.out w3 HB2.out
  go_wp2_with fail
  obtain ⟨k0, k1⟩ := set2_cells (u0 := .slice none 0 0) (u1 := .slice none 0 0) z0 z1
  have hld := load_form k0 k1
  refine bodyPost_ret (v := .tuple #[.agg #[.slice none 0 0, .slice none 0 0], .int .i64 F]) ?_ rfl ⟨rfl, ?_⟩
  · rw [results_cell_tmp rfl]
    simp [asAddr, Result.andThen, hld]
  · exact ((HB1.out.trans (HB2.out.mono HB1.out.size)).setCell (show w.heap.size ≤ w.heap.size + 2 by omega) _).setCell (show w.heap.size ≤ w.heap.size + 2 by omega) _

set_option maxHeartbeats 2000000 in
theorem refBoth_fullA (va vc vb vd : Value) (ats bts : List At) (c d : List Int) (w : World) (hA : ReadsA w va ats) (hC : Reads w vc c) (hA2 : ReadsA w vb bts) (hC2 : Reads w vd d) (hf : formFault ats c = 0) (hg : formFault bts d = 0) (hq : 6 < ats.length + bts.length) :
    Calls Tryd.prog 19 #[.agg #[va, vc], .agg #[vb, vd]] w fun e w' => e = .returned (.tuple #[.agg #[.slice none 0 0, .slice none 0 0], .int .i64 4]) ∧ Below w.heap.size w w' := by
  obtain ⟨ao, acap, rfl, _⟩ := hA.slice
  obtain ⟨co, ccap, rfl, _⟩ := hC.slice
  obtain ⟨bo, bcap, rfl, _⟩ := hA2.slice
  obtain ⟨eo, ecap, rfl, _⟩ := hC2.slice
  obtain ⟨m1, hm1⟩ : ∃ m1, m1 = ats.length := ⟨_, rfl⟩
  obtain ⟨n1, hn1⟩ : ∃ n1, n1 = c.length := ⟨_, rfl⟩
  obtain ⟨m2, hm2⟩ : ∃ m2, m2 = bts.length := ⟨_, rfl⟩
  obtain ⟨n2, hn2⟩ : ∃ n2, n2 = d.length := ⟨_, rfl⟩
  obtain ⟨⟨_, a6⟩, ⟨_, c20⟩, _⟩ := formFault_zero.1 hf
  obtain ⟨⟨_, b6⟩, ⟨_, d20⟩, _⟩ := formFault_zero.1 hg
  rw [← hm1] at a6
  rw [← hm2] at b6
  rw [← hn1] at c20
  rw [← hn2] at d20
  have hq' : (6 : Int) < (m1 : Int) + (m2 : Int) := by omega
  rw [← hm1] at hA ⊢
  rw [← hn1] at hC ⊢
  rw [← hm2] at hA2 ⊢
  rw [← hn2] at hC2 ⊢
  obtain ⟨w1, hw1⟩ : ∃ w1, w1 = ((w.alloc (.cells #[.slice ao m1 acap, .slice co n1 ccap] 40)).alloc (.cells #[.slice bo m2 bcap, .slice eo n2 ecap] 40)).alloc (.cells #[.slice none 0 0, .slice none 0 0] 40) := ⟨_, rfl⟩
  have HB1 : Hid (Below w.heap.size w w1) := by unfold Hid; rw [hw1]; exact below_three _ _ _ _
  have HS1 : Hid (w1.heap.size = w.heap.size + 3) := by unfold Hid; rw [hw1]; simp
  have HX : Hid (∀ W, Below w1.heap.size w1 W → BoxB W w.heap.size (.slice ao m1 acap) (.slice co n1 ccap) (.slice bo m2 bcap) (.slice eo n2 ecap)) := fun W hW => BoxB.below (W := w1) (by rw [hw1]; exact boxB_alloc w _ _ _ _) (by have := HS1.out; omega) hW
  have HC1 : Hid (∀ W, Below w.heap.size w W → Calls Tryd.prog 11 #[.agg #[.slice ao m1 acap, .slice co n1 ccap]] W fun e w' => e = .returned (.int .i64 0) ∧ Below W.heap.size W w') := fun W hW => by
    have := refForm_any _ _ ats c W (hA.below hW) (hC.below hW)
    rw [hf] at this
    exact this
  have HC2 : Hid (∀ W, Below w.heap.size w W → Calls Tryd.prog 11 #[.agg #[.slice bo m2 bcap, .slice eo n2 ecap]] W fun e w' => e = .returned (.int .i64 0) ∧ Below W.heap.size W w') := fun W hW => by
    have := refForm_any _ _ bts d W (hA2.below hW) (hC2.below hW)
    rw [hg] at this
    exact this
  clear hA hC hA2 hC2 hm1 hn1 hm2 hn2
  obtain ⟨⟨x0, x1⟩, ⟨y0, y1⟩, _, _⟩ := HX.out w1 (Below.refl _ _)
  rw [hw1] at x0 x1 y0 y1
  go_enter Tryd.func19, Tryd.ntmps19
  go_wp2_with fail
  rw [← hw1]
  clear hw1 x0 x1 y0 y1
  go_at_call 11
  refine (HC1.out _ HB1.out).mono ?_
  rintro e w2 ⟨rfl, hb⟩
  have HB2 : Hid (Below w1.heap.size w1 w2) := hb
  clear hb
  obtain ⟨⟨x0, x1⟩, ⟨y0, y1⟩, ⟨z0, z1⟩, ⟨f0, f1⟩⟩ := HX.out w2 HB2.out
  go_wp2_with fail
  go_at_call 11
  refine (HC2.out _ (HB1.out.trans (HB2.out.mono HB1.out.size))).mono ?_
  rintro e w3 ⟨rfl, hb⟩
  have HB2 : Hid (Below w1.heap.size w1 w3) := HB2.out.trans (hb.mono HB2.out.size)
  clear hb x0 x1 y0 y1 z0 z1 f0 f1
  obtain ⟨⟨x0, x1⟩, ⟨y0, y1⟩, ⟨z0, z1⟩, ⟨f0, f1⟩⟩ := HX.out w3 HB2.out
  go_wp2_with fail
  obtain ⟨k0, k1⟩ := set2_cells (u0 := .slice none 0 0) (u1 := .slice none 0 0) z0 z1
  have hld := load_form k0 k1
  refine bodyPost_ret (v := .tuple #[.agg #[.slice none 0 0, .slice none 0 0], .int .i64 4]) ?_ rfl ⟨rfl, ?_⟩
  · rw [results_cell_tmp rfl]
    simp [asAddr, Result.andThen, hld]
  · exact ((HB1.out.trans (HB2.out.mono HB1.out.size)).setCell (show w.heap.size ≤ w.heap.size + 2 by omega) _).setCell (show w.heap.size ≤ w.heap.size + 2 by omega) _

set_option maxHeartbeats 2000000 in
theorem refBoth_fullB (va vc vb vd : Value) (ats bts : List At) (c d : List Int) (w : World) (hA : ReadsA w va ats) (hC : Reads w vc c) (hA2 : ReadsA w vb bts) (hC2 : Reads w vd d) (hf : formFault ats c = 0) (hg : formFault bts d = 0) (hp : ¬ 6 < ats.length + bts.length) (hq : 19 < c.length + d.length) :
    Calls Tryd.prog 19 #[.agg #[va, vc], .agg #[vb, vd]] w fun e w' => e = .returned (.tuple #[.agg #[.slice none 0 0, .slice none 0 0], .int .i64 4]) ∧ Below w.heap.size w w' := by
  obtain ⟨ao, acap, rfl, _⟩ := hA.slice
  obtain ⟨co, ccap, rfl, _⟩ := hC.slice
  obtain ⟨bo, bcap, rfl, _⟩ := hA2.slice
  obtain ⟨eo, ecap, rfl, _⟩ := hC2.slice
  obtain ⟨m1, hm1⟩ : ∃ m1, m1 = ats.length := ⟨_, rfl⟩
  obtain ⟨n1, hn1⟩ : ∃ n1, n1 = c.length := ⟨_, rfl⟩
  obtain ⟨m2, hm2⟩ : ∃ m2, m2 = bts.length := ⟨_, rfl⟩
  obtain ⟨n2, hn2⟩ : ∃ n2, n2 = d.length := ⟨_, rfl⟩
  obtain ⟨⟨_, a6⟩, ⟨_, c20⟩, _⟩ := formFault_zero.1 hf
  obtain ⟨⟨_, b6⟩, ⟨_, d20⟩, _⟩ := formFault_zero.1 hg
  rw [← hm1] at a6
  rw [← hm2] at b6
  rw [← hn1] at c20
  rw [← hn2] at d20
  have hq0 : ¬ (6 : Int) < (m1 : Int) + (m2 : Int) := by omega
  have hq' : (19 : Int) < (n1 : Int) + (n2 : Int) := by omega
  rw [← hm1] at hA ⊢
  rw [← hn1] at hC ⊢
  rw [← hm2] at hA2 ⊢
  rw [← hn2] at hC2 ⊢
  obtain ⟨w1, hw1⟩ : ∃ w1, w1 = ((w.alloc (.cells #[.slice ao m1 acap, .slice co n1 ccap] 40)).alloc (.cells #[.slice bo m2 bcap, .slice eo n2 ecap] 40)).alloc (.cells #[.slice none 0 0, .slice none 0 0] 40) := ⟨_, rfl⟩
  have HB1 : Hid (Below w.heap.size w w1) := by unfold Hid; rw [hw1]; exact below_three _ _ _ _
  have HS1 : Hid (w1.heap.size = w.heap.size + 3) := by unfold Hid; rw [hw1]; simp
  have HX : Hid (∀ W, Below w1.heap.size w1 W → BoxB W w.heap.size (.slice ao m1 acap) (.slice co n1 ccap) (.slice bo m2 bcap) (.slice eo n2 ecap)) := fun W hW => BoxB.below (W := w1) (by rw [hw1]; exact boxB_alloc w _ _ _ _) (by have := HS1.out; omega) hW
  have HC1 : Hid (∀ W, Below w.heap.size w W → Calls Tryd.prog 11 #[.agg #[.slice ao m1 acap, .slice co n1 ccap]] W fun e w' => e = .returned (.int .i64 0) ∧ Below W.heap.size W w') := fun W hW => by
    have := refForm_any _ _ ats c W (hA.below hW) (hC.below hW)
    rw [hf] at this
    exact this
  have HC2 : Hid (∀ W, Below w.heap.size w W → Calls Tryd.prog 11 #[.agg #[.slice bo m2 bcap, .slice eo n2 ecap]] W fun e w' => e = .returned (.int .i64 0) ∧ Below W.heap.size W w') := fun W hW => by
    have := refForm_any _ _ bts d W (hA2.below hW) (hC2.below hW)
    rw [hg] at this
    exact this
  clear hA hC hA2 hC2 hm1 hn1 hm2 hn2
  obtain ⟨⟨x0, x1⟩, ⟨y0, y1⟩, _, _⟩ := HX.out w1 (Below.refl _ _)
  rw [hw1] at x0 x1 y0 y1
  go_enter Tryd.func19, Tryd.ntmps19
  go_wp2_with fail
  rw [← hw1]
  clear hw1 x0 x1 y0 y1
  go_at_call 11
  refine (HC1.out _ HB1.out).mono ?_
  rintro e w2 ⟨rfl, hb⟩
  have HB2 : Hid (Below w1.heap.size w1 w2) := hb
  clear hb
  obtain ⟨⟨x0, x1⟩, ⟨y0, y1⟩, ⟨z0, z1⟩, ⟨f0, f1⟩⟩ := HX.out w2 HB2.out
  go_wp2_with fail
  go_at_call 11
  refine (HC2.out _ (HB1.out.trans (HB2.out.mono HB1.out.size))).mono ?_
  rintro e w3 ⟨rfl, hb⟩
  have HB2 : Hid (Below w1.heap.size w1 w3) := HB2.out.trans (hb.mono HB2.out.size)
  clear hb x0 x1 y0 y1 z0 z1 f0 f1
  obtain ⟨⟨x0, x1⟩, ⟨y0, y1⟩, ⟨z0, z1⟩, ⟨f0, f1⟩⟩ := HX.out w3 HB2.out
  go_wp2_with fail
  obtain ⟨k0, k1⟩ := set2_cells (u0 := .slice none 0 0) (u1 := .slice none 0 0) z0 z1
  have hld := load_form k0 k1
  refine bodyPost_ret (v := .tuple #[.agg #[.slice none 0 0, .slice none 0 0], .int .i64 4]) ?_ rfl ⟨rfl, ?_⟩
  · rw [results_cell_tmp rfl]
    simp [asAddr, Result.andThen, hld]
  · exact ((HB1.out.trans (HB2.out.mono HB1.out.size)).setCell (show w.heap.size ≤ w.heap.size + 2 by omega) _).setCell (show w.heap.size ≤ w.heap.size + 2 by omega) _
end Go.Proofs.YtenmheenieifpabDoor

namespace Go.Proofs.YtenmheenieifpabDoor
open Go.ChangeShapes Go.WideShapes Go.ChangeAt Go.RowKit
set_option maxRecDepth 100000

/-- the four values from 4 i on are those of an atom. -/
def AtomV (w : World) (xs : List Value) (i : Nat) (a : At) : Prop :=
  ∃ vs vt, xs[i * 4]? = some (.int .i64 a.k) ∧ xs[i * 4 + 1]? = some vs ∧ xs[i * 4 + 2]? = some vt ∧ xs[i * 4 + 3]? = some (.int .i64 a.n) ∧ Reads w vs a.s ∧ Reads w vt a.t
theorem reads_one {w : World} {v : Value} {t : List Int} (h : Reads w v t) : v.oneCell' = true := by
  rcases h with ⟨_, _, rfl, _⟩ | ⟨_, _, _, rfl, _⟩ <;> rfl
theorem AtomV.to {w w' : World} {xs : List Value} {i : Nat} {a : At} (h : AtomV w xs i a) (hr : ∀ v t, Reads w v t → Reads w' v t) : AtomV w' xs i a := by
  obtain ⟨vs, vt, e1, e2, e3, e4, f1, f2⟩ := h
  exact ⟨vs, vt, e1, e2, e3, e4, hr _ _ f1, hr _ _ f2⟩
theorem cell_atoms {w : World} {b off : Nat} {ats : List At} (h : ∀ i a, ats[i]? = some a → AtomAt w b (off + i * 4) a) {j : Nat} (hj : j < ats.length * 4) : ∃ u, w.cell? ⟨b, off + j, none⟩ = some u ∧ u.oneCell' = true := by
  have hj4 : j / 4 < ats.length := by omega
  obtain ⟨vs, vt, e1, e2, e3, e4, f1, f2⟩ := h (j / 4) ats[j / 4] (List.getElem?_eq_getElem hj4)
  have hr : j % 4 = 0 ∨ j % 4 = 1 ∨ j % 4 = 2 ∨ j % 4 = 3 := by omega
  rcases hr with r | r | r | r
  · rw [show off + j / 4 * 4 = off + j by omega] at e1; exact ⟨_, e1, rfl⟩
  · rw [show off + j / 4 * 4 + 1 = off + j by omega] at e2; exact ⟨_, e2, reads_one f1⟩
  · rw [show off + j / 4 * 4 + 2 = off + j by omega] at e3; exact ⟨_, e3, reads_one f2⟩
  · rw [show off + j / 4 * 4 + 3 = off + j by omega] at e4; exact ⟨_, e4, rfl⟩
/-- the values of a row of atoms. -/
theorem atoms_row {w : World} {b off : Nat} {ats : List At} (h : ∀ i a, ats[i]? = some a → AtomAt w b (off + i * 4) a) :
    ∃ xs : List Value, xs.length = ats.length * 4 ∧ (∀ j u, xs[j]? = some u → w.cell? ⟨b, off + j, none⟩ = some u) ∧ (∀ u ∈ xs, u.oneCell' = true) ∧ ∀ i a, ats[i]? = some a → AtomV w xs i a := by
  refine ⟨(List.range (ats.length * 4)).map (fun j => (w.cell? ⟨b, off + j, none⟩).getD (.int .i64 0)), by simp, ?_, ?_, ?_⟩
  · intro j u hu
    rw [List.getElem?_map] at hu
    cases hr : (List.range (ats.length * 4))[j]? with
    | none => rw [hr] at hu; cases hu
    | some k =>
      rw [hr] at hu
      obtain ⟨hk, e⟩ := List.getElem?_eq_some_iff.1 hr
      have e' : k = j := by simpa using e.symm
      subst e'
      obtain ⟨x, hx, _⟩ := cell_atoms h (by simpa using hk)
      simp only [Option.map_some, hx, Option.getD_some, Option.some.injEq] at hu
      rw [hx, hu]
  · intro u hu
    obtain ⟨k, hk, rfl⟩ := List.mem_map.1 hu
    obtain ⟨x, hx, h1⟩ := cell_atoms h (List.mem_range.1 hk)
    rw [hx]; exact h1
  · intro i a ha
    have hi := (List.getElem?_eq_some_iff.1 ha).1
    obtain ⟨vs, vt, e1, e2, e3, e4, f1, f2⟩ := h i a ha
    have g : ∀ (j : Nat) (u : Value), j < ats.length * 4 → w.cell? ⟨b, off + j, none⟩ = some u → ((List.range (ats.length * 4)).map (fun j => (w.cell? ⟨b, off + j, none⟩).getD (.int .i64 0)))[j]? = some u := by
      intro j u hj hu
      rw [List.getElem?_map, List.getElem?_range hj]
      simp [hu]
    exact ⟨vs, vt, g _ _ (by omega) e1, g _ _ (by omega) (by rw [← Nat.add_assoc]; exact e2), g _ _ (by omega) (by rw [← Nat.add_assoc]; exact e3), g _ _ (by omega) (by rw [← Nat.add_assoc]; exact e4), f1, f2⟩
theorem atomV_append {w : World} {xs ys : List Value} {ats bts : List At} (hl : xs.length = ats.length * 4) (h1 : ∀ i a, ats[i]? = some a → AtomV w xs i a) (h2 : ∀ i a, bts[i]? = some a → AtomV w ys i a) : ∀ i a, (ats ++ bts)[i]? = some a → AtomV w (xs ++ ys) i a := by
  intro i a ha
  by_cases hi : i < ats.length
  · rw [List.getElem?_append_left hi] at ha
    obtain ⟨vs, vt, e1, e2, e3, e4, f1, f2⟩ := h1 i a ha
    exact ⟨vs, vt, by rw [List.getElem?_append_left (by omega)]; exact e1, by rw [List.getElem?_append_left (by omega)]; exact e2, by rw [List.getElem?_append_left (by omega)]; exact e3, by rw [List.getElem?_append_left (by omega)]; exact e4, f1, f2⟩
  · rw [List.getElem?_append_right (by omega)] at ha
    obtain ⟨vs, vt, e1, e2, e3, e4, f1, f2⟩ := h2 _ a ha
    exact ⟨vs, vt, by rw [List.getElem?_append_right (by omega), show i * 4 - xs.length = (i - ats.length) * 4 by omega]; exact e1, by rw [List.getElem?_append_right (by omega), show i * 4 + 1 - xs.length = (i - ats.length) * 4 + 1 by omega]; exact e2, by rw [List.getElem?_append_right (by omega), show i * 4 + 2 - xs.length = (i - ats.length) * 4 + 2 by omega]; exact e3, by rw [List.getElem?_append_right (by omega), show i * 4 + 3 - xs.length = (i - ats.length) * 4 + 3 by omega]; exact e4, f1, f2⟩
/-- a new row of such values reads as the atoms. -/
theorem own_readsA {w : World} {base : Nat} {v : Value} {n : Nat} {xs : List Value} {ats : List At} (h : w.ownsRow base 37 4 v n xs) (hn : n = ats.length) (hx : ∀ i a, ats[i]? = some a → AtomV w xs i a) (hm : n ≤ 9223372036854775807) : ReadsA w v ats := by
  rcases h.2 with ⟨rfl, h0⟩ | ⟨g, cap, cur, rfl, hg, hh, hc, _⟩
  · exact Or.inl ⟨_, _, rfl, List.eq_nil_of_length_eq_zero (by omega)⟩
  · rcases Nat.eq_zero_or_pos n with h0 | h0
    · exact Or.inl ⟨_, cap, by rw [h0], List.eq_nil_of_length_eq_zero (by omega)⟩
    · refine Or.inr ⟨g, 0, cap, by rw [hn], (Array.getElem?_eq_some_iff.1 hh).1, by omega, ⟨by omega, by omega⟩, fun i a ha => ?_⟩
      have hi := (List.getElem?_eq_some_iff.1 ha).1
      obtain ⟨vs, vt, e1, e2, e3, e4, f1, f2⟩ := hx i a ha
      rw [Nat.zero_add]
      exact ⟨vs, vt, by rw [h.cellAt _ (by omega)]; exact e1, by rw [h.cellAt _ (by omega)]; exact e2, by rw [h.cellAt _ (by omega)]; exact e3, by rw [h.cellAt _ (by omega)]; exact e4, f1, f2⟩
end Go.Proofs.YtenmheenieifpabDoor

namespace Go.Proofs.YtenmheenieifpabDoor
open Go.ChangeShapes Go.WideShapes Go.ChangeAt Go.RowKit
set_option maxRecDepth 100000

/-- the place of the answer that is being made, and what stood ahead of it. -/
def InB (G : Nat) (w3 W : World) (va vq : Value) : Prop :=
  ((W.cell? ⟨G, 0, none⟩ = some va ∧ W.cell? ⟨G, 1, none⟩ = some vq) ∧ (W.frozen? ⟨G, 0, none⟩ = false ∧ W.frozen? ⟨G, 1, none⟩ = false)) ∧ Below G w3 W ∧ G < W.heap.size
theorem InB.alloc {G : Nat} {w3 W : World} {va vq : Value} (h : InB G w3 W va vq) (o : Obj) : InB G w3 (W.alloc o) va vq := by
  obtain ⟨⟨⟨a0, a1⟩, f0, f1⟩, hb, hG⟩ := h
  have b := below_alloc1 W o
  exact ⟨⟨⟨(b.cell hG).trans a0, (b.cell hG).trans a1⟩, (b.frozen hG).trans f0, (b.frozen hG).trans f1⟩, hb.trans (b.mono (by omega)), by simp; omega⟩
theorem InB.grown {G : Nat} {w3 W W' : World} {va vq : Value} {row : Option Nat} (h : InB G w3 W va vq) (hg : W.grownBy W' row) (hr : ∀ k, row = some k → G < k) : InB G w3 W' va vq := by
  obtain ⟨⟨⟨a0, a1⟩, f0, f1⟩, hb, hG⟩ := h
  have e : W'.heap[G]? = W.heap[G]? := hg.block G hG (fun e => by have := hr G e.symm; omega)
  have c : ∀ j, W'.cell? ⟨G, j, none⟩ = W.cell? ⟨G, j, none⟩ := fun j => World.cell?_of_block (w := W) (a := ⟨G, j, none⟩) e
  have d : ∀ j, W'.frozen? ⟨G, j, none⟩ = W.frozen? ⟨G, j, none⟩ := fun j => World.frozen?_of_block (w := W) (a := ⟨G, j, none⟩) e
  exact ⟨⟨⟨(c 0).trans a0, (c 1).trans a1⟩, (d 0).trans f0, (d 1).trans f1⟩, hb.grown hg (by omega) (fun k hk => by have := hr k hk; omega), by have := hg.size; omega⟩
theorem InB.set0 {G : Nat} {w3 W : World} {va vq : Value} (h : InB G w3 W va vq) (u : Value) : InB G w3 (W.setCell ⟨G, 0, none⟩ u) u vq := by
  obtain ⟨⟨⟨a0, a1⟩, f0, f1⟩, hb, hG⟩ := h
  exact ⟨⟨⟨World.cell?_setCell_same _ _ _ (by rw [a0]), (set_far2 (by decide)).trans a1⟩, by simp [f0], by simp [f1]⟩, hb.setCell (Nat.le_refl _) _, by simpa using hG⟩
theorem InB.set1 {G : Nat} {w3 W : World} {va vq : Value} (h : InB G w3 W va vq) (u : Value) : InB G w3 (W.setCell ⟨G, 1, none⟩ u) va u := by
  obtain ⟨⟨⟨a0, a1⟩, f0, f1⟩, hb, hG⟩ := h
  exact ⟨⟨⟨(set_far2 (by decide)).trans a0, World.cell?_setCell_same _ _ _ (by rw [a1])⟩, by simp [f0], by simp [f1]⟩, hb.setCell (Nat.le_refl _) _, by simpa using hG⟩
theorem row_form {w : World} {base : Nat} {e : TypeId} {size n : Nat} {v : Value} {xs : List Value} (h : w.ownsRow base e size v n xs) (h0 : 0 < n) : ∃ g cap, v = .slice (some ⟨g, 0, none⟩) n cap := by
  rcases h.2 with ⟨_, hz⟩ | ⟨g, cap, cur, rfl, _⟩
  · omega
  · exact ⟨g, cap, rfl⟩
theorem movedF_low (m : Nat) {s : Int} (h0 : 0 ≤ s ∧ s ≤ 6) : movedF m s = s + m := by unfold movedF; rw [if_pos (takesF_low (by omega))]
theorem movedF_op (m : Nat) {s : Int} (h : takesF s ≠ 0) : movedF m s = s ∧ 10 ≤ s := by
  refine ⟨by unfold movedF; rw [if_neg h], ?_⟩
  by_cases h10 : s < 10
  · exact absurd (takesF_low h10) h
  · omega

set_option maxHeartbeats 8000000 in
theorem refBoth_good (va vc vb vd : Value) (ats bts : List At) (c d : List Int) (w : World) (hA : ReadsA w va ats) (hC : Reads w vc c) (hA2 : ReadsA w vb bts) (hC2 : Reads w vd d) (hf : formFault ats c = 0) (hg : formFault bts d = 0) (hp : ¬ 6 < ats.length + bts.length) (hq : ¬ 19 < c.length + d.length) :
    Calls Tryd.prog 19 #[.agg #[va, vc], .agg #[vb, vd]] w fun e w' => ∃ va' vc', e = .returned (.tuple #[.agg #[va', vc'], .int .i64 0]) ∧ ReadsA w' va' (ats ++ bts) ∧ Reads w' vc' (c ++ (d.map (movedF ats.length) ++ [10])) ∧ Below w.heap.size w w' := by
  obtain ⟨i0, hi, hz0, hz1, hz2⟩ := info_parts infoInt
  obtain ⟨iA, hiA, hA0, hA1, hA2'⟩ := info_parts infoA
  obtain ⟨ao, acap, rfl, _⟩ := hA.slice
  obtain ⟨co, ccap, rfl, _⟩ := hC.slice
  obtain ⟨bo, bcap, rfl, _⟩ := hA2.slice
  obtain ⟨eo, ecap, rfl, _⟩ := hC2.slice
  obtain ⟨m1, hm1⟩ : ∃ m1, m1 = ats.length := ⟨_, rfl⟩
  obtain ⟨n1, hn1⟩ : ∃ n1, n1 = c.length := ⟨_, rfl⟩
  obtain ⟨m2, hm2⟩ : ∃ m2, m2 = bts.length := ⟨_, rfl⟩
  obtain ⟨n2, hn2⟩ : ∃ n2, n2 = d.length := ⟨_, rfl⟩
  obtain ⟨⟨a1, a6⟩, ⟨c1, c20⟩, _⟩ := formFault_zero.1 hf
  obtain ⟨⟨b1, b6⟩, ⟨d1, d20⟩, _, hsg, _⟩ := formFault_zero.1 hg
  rw [← hm1] at a1 a6
  rw [← hm2] at b1 b6
  rw [← hn1] at c1 c20
  rw [← hn2] at d1 d20
  have hq0 : ¬ (6 : Int) < (m1 : Int) + (m2 : Int) := by omega
  have hq' : ¬ (19 : Int) < (n1 : Int) + (n2 : Int) := by omega
  rw [← hm1] at hA ⊢
  rw [← hn1] at hC ⊢
  rw [← hm2] at hA2 ⊢
  rw [← hn2] at hC2 ⊢
  obtain ⟨w1, hw1⟩ : ∃ w1, w1 = ((w.alloc (.cells #[.slice ao m1 acap, .slice co n1 ccap] 40)).alloc (.cells #[.slice bo m2 bcap, .slice eo n2 ecap] 40)).alloc (.cells #[.slice none 0 0, .slice none 0 0] 40) := ⟨_, rfl⟩
  have HB1 : Hid (Below w.heap.size w w1) := by unfold Hid; rw [hw1]; exact below_three _ _ _ _
  have HS1 : Hid (w1.heap.size = w.heap.size + 3) := by unfold Hid; rw [hw1]; simp
  have HX : Hid (∀ W, Below w1.heap.size w1 W → BoxB W w.heap.size (.slice ao m1 acap) (.slice co n1 ccap) (.slice bo m2 bcap) (.slice eo n2 ecap)) := fun W hW => BoxB.below (W := w1) (by rw [hw1]; exact boxB_alloc w _ _ _ _) (by have := HS1.out; omega) hW
  have HC1 : Hid (∀ W, Below w.heap.size w W → Calls Tryd.prog 11 #[.agg #[.slice ao m1 acap, .slice co n1 ccap]] W fun e w' => e = .returned (.int .i64 0) ∧ Below W.heap.size W w') := fun W hW => by
    have := refForm_any _ _ ats c W (hA.below hW) (hC.below hW)
    rw [hf] at this
    exact this
  have HC2 : Hid (∀ W, Below w.heap.size w W → Calls Tryd.prog 11 #[.agg #[.slice bo m2 bcap, .slice eo n2 ecap]] W fun e w' => e = .returned (.int .i64 0) ∧ Below W.heap.size W w') := fun W hW => by
    have := refForm_any _ _ bts d W (hA2.below hW) (hC2.below hW)
    rw [hg] at this
    exact this
  have HRA : Hid (∀ W, Below w.heap.size w W → ReadsA W (.slice ao m1 acap) ats ∧ Reads W (.slice co n1 ccap) c ∧ ReadsA W (.slice bo m2 bcap) bts ∧ Reads W (.slice eo n2 ecap) d) := fun W hW => ⟨hA.below hW, hC.below hW, hA2.below hW, hC2.below hW⟩
  have HL : Hid (m1 = ats.length ∧ n1 = c.length ∧ m2 = bts.length ∧ n2 = d.length) := ⟨hm1, hn1, hm2, hn2⟩
  have HSG : Hid (∀ s ∈ d, takesF s = 0 → 0 ≤ s ∧ s ≤ 6) := fun s hs h0 => by
    rcases signF_iff.1 (List.all_eq_true.1 hsg s hs) with h | h
    · exact absurd h0 h
    · rw [← hm2] at h; omega
  clear hA hC hA2 hC2 hm1 hn1 hm2 hn2 hsg
  obtain ⟨⟨x0, x1⟩, ⟨y0, y1⟩, _, _⟩ := HX.out w1 (Below.refl _ _)
  rw [hw1] at x0 x1 y0 y1
  go_enter Tryd.func19, Tryd.ntmps19
  go_wp2_with fail
  rw [← hw1]
  clear hw1 x0 x1 y0 y1
  go_at_call 11
  refine (HC1.out _ HB1.out).mono ?_
  rintro e w2 ⟨rfl, hb⟩
  have HB2 : Hid (Below w1.heap.size w1 w2) := hb
  clear hb
  obtain ⟨⟨x0, x1⟩, ⟨y0, y1⟩, ⟨z0, z1⟩, ⟨f0, f1⟩⟩ := HX.out w2 HB2.out
  go_wp2_with fail
  go_at_call 11
  refine (HC2.out _ (HB1.out.trans (HB2.out.mono HB1.out.size))).mono ?_
  rintro e w3 ⟨rfl, hb⟩
  have HB2 : Hid (Below w1.heap.size w1 w3) := HB2.out.trans (hb.mono HB2.out.size)
  clear hb x0 x1 y0 y1 z0 z1 f0 f1
  obtain ⟨G, hG⟩ : ∃ G, G = w3.heap.size := ⟨_, rfl⟩
  have HBw : Hid (Below w.heap.size w w3 ∧ w.heap.size + 3 ≤ G) := ⟨HB1.out.trans (HB2.out.mono HB1.out.size), by have := HS1.out; have := HB2.out.size; rw [hG]; omega⟩
  have HBW : Hid (∀ W, Below G w3 W → Below w.heap.size w W) := fun W hW => HBw.out.1.trans (hW.mono (by have := HBw.out.2; omega))
  have HXW : Hid (∀ W, Below G w3 W → BoxB W w.heap.size (.slice ao m1 acap) (.slice co n1 ccap) (.slice bo m2 bcap) (.slice eo n2 ecap)) := fun W hW => HX.out W (HB2.out.trans (hW.mono (by rw [hG]; exact HB2.out.size)))
  clear HX HC1 HC2
  -- the rows
  rcases (HRA.out w (Below.refl _ _)).1 with ⟨_, _, hv, hn0⟩ | ⟨ab, aoff, acap', hv, hab, _, _, hac⟩
  · have := HL.out.1; rw [hn0] at this; simp at this; omega
  obtain ⟨rfl, rfl⟩ : ao = some ⟨ab, aoff, none⟩ ∧ acap = acap' := by cases hv; exact ⟨rfl, rfl⟩
  clear hv
  rcases (HRA.out w (Below.refl _ _)).2.2.1 with ⟨_, _, hv, hn0⟩ | ⟨bb, boff, bcap', hv, hbb, _, _, hbc⟩
  · have := HL.out.2.2.1; rw [hn0] at this; simp at this; omega
  obtain ⟨rfl, rfl⟩ : bo = some ⟨bb, boff, none⟩ ∧ bcap = bcap' := by cases hv; exact ⟨rfl, rfl⟩
  clear hv
  rcases (HRA.out w (Below.refl _ _)).2.1 with ⟨_, _, hv, hn0⟩ | ⟨cb, coff, ccap', hv, hcb, _, _, hcc⟩
  · have := HL.out.2.1; rw [hn0] at this; simp at this; omega
  obtain ⟨rfl, rfl⟩ : co = some ⟨cb, coff, none⟩ ∧ ccap = ccap' := by cases hv; exact ⟨rfl, rfl⟩
  clear hv
  rcases (HRA.out w (Below.refl _ _)).2.2.2 with ⟨_, _, hv, hn0⟩ | ⟨db, doff, ecap', hv, hdb, _, _, hdc⟩
  · have := HL.out.2.2.2; rw [hn0] at this; simp at this; omega
  obtain ⟨rfl, rfl⟩ : eo = some ⟨db, doff, none⟩ ∧ ecap = ecap' := by cases hv; exact ⟨rfl, rfl⟩
  clear hv
  obtain ⟨xs1, hx1l, hx1c, hx1o, hx1v⟩ := atoms_row hac
  obtain ⟨xs2, hx2l, hx2c, hx2o, hx2v⟩ := atoms_row hbc
  have HN1 : Hid (∀ W, Below G w3 W → ∀ j u, xs1[j]? = some u → W.cell? ((⟨ab, aoff, none⟩ : Addr).add j) = some u) := fun W hW j u hu => by
    rw [show (⟨ab, aoff, none⟩ : Addr).add j = ⟨ab, aoff + j, none⟩ by simp [Addr.add], (HBW.out W hW).cell (show (⟨ab, aoff + j, none⟩ : Addr).block < w.heap.size from hab)]; exact hx1c j u hu
  have HN2 : Hid (∀ W, Below G w3 W → ∀ j u, xs2[j]? = some u → W.cell? ((⟨bb, boff, none⟩ : Addr).add j) = some u) := fun W hW j u hu => by
    rw [show (⟨bb, boff, none⟩ : Addr).add j = ⟨bb, boff + j, none⟩ by simp [Addr.add], (HBW.out W hW).cell (show (⟨bb, boff + j, none⟩ : Addr).block < w.heap.size from hbb)]; exact hx2c j u hu
  have HN3 : Hid (∀ W, Below G w3 W → ∀ j u, (c.map (Value.int .i64))[j]? = some u → W.cell? ((⟨cb, coff, none⟩ : Addr).add j) = some u) := fun W hW j u hu => by
    rw [show (⟨cb, coff, none⟩ : Addr).add j = ⟨cb, coff + j, none⟩ by simp [Addr.add], (HBW.out W hW).cell (show (⟨cb, coff + j, none⟩ : Addr).block < w.heap.size from hcb)]
    rw [List.getElem?_map] at hu
    cases hcj : c[j]? with
    | none => rw [hcj] at hu; cases hu
    | some s =>
      rw [hcj] at hu
      have hjl := (List.getElem?_eq_some_iff.1 hcj).1
      rw [hcc j hjl, List.getD_eq_getElem?_getD, hcj]
      simpa using hu
  have HDC : Hid (∀ W, Below G w3 W → ∀ k, k < d.length → W.cell? ⟨db, doff + k, none⟩ = some (.int .i64 (d.getD k 0))) := fun W hW k hk => by rw [(HBW.out W hW).cell (show (⟨db, doff + k, none⟩ : Addr).block < w.heap.size from hdb)]; exact hdc k hk
  have HO1 : Hid ((xs1.length = m1 * 4 ∧ ∀ u ∈ xs1, u.oneCell' = true) ∧ (xs2.length = m2 * 4 ∧ ∀ u ∈ xs2, u.oneCell' = true)) := ⟨⟨by rw [hx1l, HL.out.1], hx1o⟩, ⟨by rw [hx2l, HL.out.2.2.1], hx2o⟩⟩
  have HAV : Hid (∀ W, Below w.heap.size w W → ∀ i a, (ats ++ bts)[i]? = some a → AtomV W (xs1 ++ xs2) i a) := fun W hW i a ha => (atomV_append hx1l hx1v hx2v i a ha).to fun v t hr => hr.below hW
  clear hac hbc hcc hdc hx1l hx1c hx1o hx1v hx2l hx2c hx2o hx2v hab hbb hcb hdb HRA
  -- the answer's place
  obtain ⟨w4, hw4⟩ : ∃ w4, w4 = w3.alloc (.cells #[.slice none 0 0, .slice none 0 0] 40) := ⟨_, rfl⟩
  have HI4 : Hid (InB G w3 w4 (.slice none 0 0) (.slice none 0 0) ∧ w4.heap.size = G + 1) := by
    unfold Hid; rw [hw4, hG]
    exact ⟨⟨by simp, below_alloc1 _ _, by simp⟩, by simp⟩
  obtain ⟨⟨x0, x1⟩, ⟨y0, y1⟩, _, _⟩ := HXW.out w4 HI4.out.1.2.1
  obtain ⟨⟨⟨z0, z1⟩, _⟩, _⟩ := HI4.out.1
  rw [hw4] at x0 x1 y0 y1 z0 z1
  have u0 := (HXW.out w3 (Below.refl _ _))
  obtain ⟨⟨u0, u1⟩, ⟨u2, u3⟩, _, _⟩ := u0
  rw [hG] at z0 z1
  go_wp2_with (first | (at_builtin; rw [← hG]; refine wpList_append_own_at _ rfl (.tmp 43) (.tmp 45) 38 rfl (G + 1) 37 iA (.agg #[.int .i64 0, .slice none 0 0, .slice none 0 0, .int .i64 0]) 4 64 Tryd.underlying38 hiA hA0 hA1 hA2' rfl (by decide) (.slice none 0 0) 0 [] rfl (World.ownsRow_nil _ _ _ _) ⟨ab, aoff, none⟩ m1 acap xs1 rfl ?a0 ?a1 ?a2 ?a3 ?a4 ?a5 ?_))
  case a0 => exact HO1.out.1.1
  case a1 => rw [← hw4]; exact HN1.out _ HI4.out.1.2.1
  case a2 => exact HO1.out.1.2
  case a3 => unfold maxLen; omega
  case a4 => omega
  case a5 => rw [← hw4, HI4.out.2]; exact Nat.le_refl _
  intro v5 w5 hown hgrow _ hat
  rw [← hw4] at hgrow
  rw [← hG] at hown ⊢
  clear hG
  have HI5 : Hid (InB G w3 w5 (.slice none 0 0) (.slice none 0 0)) := HI4.out.1.grown hgrow (fun k hk => by cases hk)
  obtain ⟨g1, cap1, rfl⟩ := row_form hown (by omega)
  obtain ⟨w6, hw6⟩ : ∃ w6, w6 = w5.setCell ⟨G, 0, none⟩ (.slice (some ⟨g1, 0, none⟩) m1 cap1) := ⟨_, rfl⟩
  have HI6 : Hid (InB G w3 w6 (.slice (some ⟨g1, 0, none⟩) m1 cap1) (.slice none 0 0)) := by unfold Hid; rw [hw6]; exact HI5.out.set0 _
  have HO6 : Hid (w6.ownsRow (G + 1) 37 4 (.slice (some ⟨g1, 0, none⟩) m1 cap1) m1 xs1 ∧ G + 1 ≤ g1) := by unfold Hid; rw [hw6]; exact ⟨ownsRow_set hown (by omega), (hown.lt g1 rfl).1⟩
  clear hown hgrow hat
  obtain ⟨⟨⟨p0, p1⟩, ⟨p2, p3⟩⟩, _⟩ := HI5.out
  obtain ⟨⟨⟨q0, q1⟩, ⟨q2, q3⟩⟩, _⟩ := HI6.out
  obtain ⟨⟨x0, x1⟩, ⟨y0, y1⟩, _, _⟩ := HXW.out w6 HI6.out.2.1
  rw [hw6] at q0 q1 q2 q3 x0 x1 y0 y1
  go_wp2_with (first | (at_builtin; refine wpList_append_own_at _ rfl (.tmp 49) (.tmp 51) 38 rfl (G + 1) 37 iA (.agg #[.int .i64 0, .slice none 0 0, .slice none 0 0, .int .i64 0]) 4 64 Tryd.underlying38 hiA hA0 hA1 hA2' rfl (by decide) (.slice (some ⟨g1, 0, none⟩) m1 cap1) m1 xs1 rfl (by rw [← hw6]; exact HO6.out.1) ⟨bb, boff, none⟩ m2 bcap xs2 rfl ?b0 ?b1 ?b2 ?b3 ?b4 ?b5 ?_))
  case b0 => exact HO1.out.2.1
  case b1 => rw [← hw6]; exact HN2.out _ HI6.out.2.1
  case b2 => exact HO1.out.2.2
  case b3 => unfold maxLen; omega
  case b4 => omega
  case b5 => rw [← hw6]; have := HI6.out.2.2; omega
  intro v7 w7 hown hgrow _ hat
  rw [← hw6] at hgrow
  clear x0 x1 y0 y1 p0 p1 p2 p3 q0 q1 q2 q3
  have HI7 : Hid (InB G w3 w7 (.slice (some ⟨g1, 0, none⟩) m1 cap1) (.slice none 0 0)) := HI6.out.grown hgrow (fun k hk => by have := HO6.out.2; have e : g1 = k := Option.some.inj hk; omega)
  obtain ⟨g2, cap2, rfl⟩ := row_form hown (by omega)
  obtain ⟨w8, hw8⟩ : ∃ w8, w8 = w7.setCell ⟨G, 0, none⟩ (.slice (some ⟨g2, 0, none⟩) (m1 + m2) cap2) := ⟨_, rfl⟩
  have HI8 : Hid (InB G w3 w8 (.slice (some ⟨g2, 0, none⟩) (m1 + m2) cap2) (.slice none 0 0)) := by unfold Hid; rw [hw8]; exact HI7.out.set0 _
  have HO8 : Hid (w8.ownsRow (G + 1) 37 4 (.slice (some ⟨g2, 0, none⟩) (m1 + m2) cap2) (m1 + m2) (xs1 ++ xs2) ∧ g2 < w8.heap.size) := by
    unfold Hid; rw [hw8]
    exact ⟨ownsRow_set hown (by omega), by simpa using (hown.lt g2 rfl).2⟩
  clear hown hgrow hat
  obtain ⟨⟨⟨p0, p1⟩, ⟨p2, p3⟩⟩, _⟩ := HI7.out
  obtain ⟨⟨⟨q0, q1⟩, ⟨q2, q3⟩⟩, _⟩ := HI8.out
  obtain ⟨⟨x0, x1⟩, ⟨y0, y1⟩, _, _⟩ := HXW.out w8 HI8.out.2.1
  rw [hw8] at q0 q1 q2 q3 x0 x1 y0 y1
  go_wp2_with (first | (at_builtin; refine wpList_append_own_at _ rfl (.tmp 55) (.tmp 57) 22 rfl (G + 1) 3 i0 (.int .i64 0) 1 8 Tryd.underlying22 hi hz0 hz1 hz2 rfl (by decide) (.slice none 0 0) 0 [] rfl (World.ownsRow_nil _ _ _ _) ⟨cb, coff, none⟩ n1 ccap (c.map (Value.int .i64)) rfl ?c0 ?c1 ?c2 ?c3 ?c4 ?c5 ?_))
  case c0 => have := HL.out.2.1; simp; omega
  case c1 => rw [← hw8]; exact HN3.out _ HI8.out.2.1
  case c2 => intro y hy; obtain ⟨s, _, rfl⟩ := List.mem_map.1 hy; rfl
  case c3 => unfold maxLen; omega
  case c4 => omega
  case c5 => rw [← hw8]; have := HI8.out.2.2; omega
  intro v9 w9 hown hgrow _ hat
  rw [← hw8] at hgrow
  have h8s : w8.heap.size = w7.heap.size := by rw [hw8]; simp
  clear x0 x1 y0 y1 p0 p1 p2 p3 q0 q1 q2 q3
  have HI9 : Hid (InB G w3 w9 (.slice (some ⟨g2, 0, none⟩) (m1 + m2) cap2) (.slice none 0 0)) := HI8.out.grown hgrow (fun k hk => by cases hk)
  obtain ⟨g3, cap3, rfl⟩ := row_form hown (by omega)
  have hg3 : g3 = w8.heap.size := by
    rcases hat with h | h
    · cases h
    · rw [h8s]; exact Option.some.inj h
  clear h8s
  obtain ⟨w10, hw10⟩ : ∃ w10, w10 = w9.setCell ⟨G, 1, none⟩ (.slice (some ⟨g3, 0, none⟩) n1 cap3) := ⟨_, rfl⟩
  have HI10 : Hid (InB G w3 w10 (.slice (some ⟨g2, 0, none⟩) (m1 + m2) cap2) (.slice (some ⟨g3, 0, none⟩) n1 cap3)) := by unfold Hid; rw [hw10]; exact HI9.out.set1 _
  have HO10 : Hid (w10.ownsRow (G + 1) 3 1 (.slice (some ⟨g3, 0, none⟩) n1 cap3) n1 (c.map (Value.int .i64)) ∧ w10.ownsRow (G + 1) 37 4 (.slice (some ⟨g2, 0, none⟩) (m1 + m2) cap2) (m1 + m2) (xs1 ++ xs2) ∧ (g2 ≠ g3 ∧ g2 < w10.heap.size)) := by
    unfold Hid; rw [hw10]
    refine ⟨ownsRow_set hown (by omega), ownsRow_set (HO8.out.1.kept hgrow (Or.inr (by simp [Value.ownBlock]))) (by omega), ?_, ?_⟩
    · have := HO8.out.2; omega
    · have h1 := HO8.out.2; have h2 := hgrow.size; simp; omega
  clear hown hgrow hat hg3 HO6 HI4 HI6 HI7 HI8 HO8 hw4 HN1 HN2 HN3
  obtain ⟨⟨⟨p0, p1⟩, ⟨p2, p3⟩⟩, _⟩ := HI9.out
  go_wp2_with fail
  rw [← hw10]
  clear hw10 p0 p1 p2 p3 HI9 hw6 hw8
  go_loopw [8, 9] (fun i _ wr => ∃ (k g cap : Nat), k ≤ n2 ∧ i = .int .i64 k ∧ InB G w3 wr (.slice (some ⟨g2, 0, none⟩) (m1 + m2) cap2) (.slice (some ⟨g, 0, none⟩) (n1 + k) cap) ∧ wr.ownsRow (G + 1) 3 1 (.slice (some ⟨g, 0, none⟩) (n1 + k) cap) (n1 + k) ((c ++ (d.take k).map (movedF m1)).map (Value.int .i64)) ∧ wr.ownsRow (G + 1) 37 4 (.slice (some ⟨g2, 0, none⟩) (m1 + m2) cap2) (m1 + m2) (xs1 ++ xs2) ∧ (g2 ≠ g ∧ g2 < wr.heap.size))
    (fun i _ _ => n2 - (intOf i).toNat)
  case atStart => exact ⟨0, g3, cap3, Nat.zero_le _, rfl, HI10.out, by simpa using HO10.out.1, HO10.out.2.1, HO10.out.2.2⟩
  case round =>
    obtain ⟨k, g, cap, hk, rfl, hI, hO, hOA, hne⟩ := hrel
    have HI : Hid (InB G w3 wr (.slice (some ⟨g2, 0, none⟩) (m1 + m2) cap2) (.slice (some ⟨g, 0, none⟩) (n1 + k) cap)) := hI
    have HO : Hid (wr.ownsRow (G + 1) 3 1 (.slice (some ⟨g, 0, none⟩) (n1 + k) cap) (n1 + k) ((c ++ (d.take k).map (movedF m1)).map (Value.int .i64)) ∧ wr.ownsRow (G + 1) 37 4 (.slice (some ⟨g2, 0, none⟩) (m1 + m2) cap2) (m1 + m2) (xs1 ++ xs2) ∧ (g2 ≠ g ∧ g2 < wr.heap.size)) := ⟨hO, hOA, hne⟩
    clear hI hO hOA hne
    by_cases hlt : k < n2
    · obtain ⟨s, hs⟩ : ∃ s, s = d.getD k 0 := ⟨_, rfl⟩
      have hkd : k < d.length := by rw [← HL.out.2.2.2]; exact hlt
      have hcell := HDC.out wr HI.out.2.1 k hkd
      rw [← hs] at hcell
      have hsg := HSG.out s (by rw [hs, List.getD_eq_getElem?_getD, List.getElem?_eq_getElem hkd]; exact List.getElem_mem hkd)
      obtain ⟨s', hs'⟩ : ∃ s', s' = movedF m1 s := ⟨_, rfl⟩
      have HE : Hid ((c ++ (d.take (k + 1)).map (movedF m1)).map (Value.int .i64) = (c ++ (d.take k).map (movedF m1)).map (Value.int .i64) ++ [.int .i64 s']) := by
        unfold Hid; rw [takeF_succ d hkd, ← hs, hs']; simp
      clear hs hkd
      obtain ⟨⟨⟨p0, p1⟩, ⟨p2, p3⟩⟩, _⟩ := HI.out
      obtain ⟨⟨x0, x1⟩, ⟨y0, y1⟩, _, _⟩ := HXW.out wr HI.out.2.1
      obtain ⟨wa, hwa⟩ : ∃ wa, wa = wr.alloc (.cells #[.int .i64 s'] 3) := ⟨_, rfl⟩
      have HIa : Hid (InB G w3 wa (.slice (some ⟨g2, 0, none⟩) (m1 + m2) cap2) (.slice (some ⟨g, 0, none⟩) (n1 + k) cap)) := by unfold Hid; rw [hwa]; exact HI.out.alloc _
      have HOa : Hid (wa.ownsRow (G + 1) 3 1 (.slice (some ⟨g, 0, none⟩) (n1 + k) cap) (n1 + k) ((c ++ (d.take k).map (movedF m1)).map (Value.int .i64)) ∧ wa.ownsRow (G + 1) 37 4 (.slice (some ⟨g2, 0, none⟩) (m1 + m2) cap2) (m1 + m2) (xs1 ++ xs2) ∧ (g2 ≠ g ∧ g2 < wa.heap.size)) := by
        unfold Hid; rw [hwa]; exact ⟨HO.out.1.alloc _, HO.out.2.1.alloc _, HO.out.2.2.1, by have := HO.out.2.2.2; simp; omega⟩
      have hca : wa.cell? ((⟨wr.heap.size, 0, none⟩ : Addr).add 0) = some (.int .i64 s') := by rw [hwa]; simp [Addr.add]
      have HCa : Hid (∀ j u, ([Value.int .i64 s'] : List Value)[j]? = some u → wa.cell? ((⟨wr.heap.size, 0, none⟩ : Addr).add j) = some u) := fun j u hu => by
        match j, hu with
        | 0, hu => simp at hu; subst hu; exact hca
      clear hca
      by_cases h0 : takesF s = 0
      · have hr := hsg h0
        rw [movedF_low m1 hr] at hs'
        obtain ⟨r0, r6⟩ := hr
        have hlt10 : s < 10 := by omega
        go_wp2_with (first | (at_builtin; (try rw [← hs']); rw [← hwa]; refine wpList_append_own_at _ rfl (.tmp 80) (.tmp 82) 22 rfl (G + 1) 3 i0 (.int .i64 0) 1 8 Tryd.underlying22 hi hz0 hz1 hz2 rfl (by decide) (.slice (some ⟨g, 0, none⟩) (n1 + k) cap) (n1 + k) ((c ++ (d.take k).map (movedF m1)).map (Value.int .i64)) rfl HOa.out.1 ⟨wr.heap.size, 0, none⟩ 1 1 [.int .i64 s'] rfl rfl HCa.out ?d2 ?d3 ?d4 ?d5 ?_))
        case d2 => first | rfl | (intro y hy; simp at hy; subst hy; rfl)
        case d3 => unfold maxLen; omega
        case d4 => omega
        case d5 => have := HIa.out.2.2; omega
        intro v' w' hown hgrow _ hat
        rw [← hs'] at hown hgrow
        rw [← hwa] at hgrow
        have hwas : wa.heap.size = wr.heap.size + 1 := by rw [hwa]; simp
        clear x0 x1 y0 y1 p0 p1 p2 p3
        have HIb : Hid (InB G w3 w' (.slice (some ⟨g2, 0, none⟩) (m1 + m2) cap2) (.slice (some ⟨g, 0, none⟩) (n1 + k) cap)) := HIa.out.grown hgrow (fun j hj => by have := (HOa.out.1.lt g rfl).1; have e : g = j := Option.some.inj hj; omega)
        obtain ⟨g', cap', rfl⟩ := row_form hown (by omega)
        have hne' : g2 ≠ g' := by
          have h1 := HOa.out.2.2
          rcases hat with h | h
          · have e : g' = g := Option.some.inj h
            omega
          · have e : g' = wa.heap.size := by first | exact Option.some.inj h | (rw [hwas]; exact Option.some.inj h)
            omega
        have HIc : Hid (InB G w3 (w'.setCell ⟨G, 1, none⟩ (.slice (some ⟨g', 0, none⟩) (n1 + k + 1) cap')) (.slice (some ⟨g2, 0, none⟩) (m1 + m2) cap2) (.slice (some ⟨g', 0, none⟩) (n1 + k + 1) cap')) := HIb.out.set1 _
        have HOc : Hid ((w'.setCell ⟨G, 1, none⟩ (.slice (some ⟨g', 0, none⟩) (n1 + k + 1) cap')).ownsRow (G + 1) 3 1 (.slice (some ⟨g', 0, none⟩) (n1 + k + 1) cap') (n1 + k + 1) ((c ++ (d.take (k + 1)).map (movedF m1)).map (Value.int .i64)) ∧ (w'.setCell ⟨G, 1, none⟩ (.slice (some ⟨g', 0, none⟩) (n1 + k + 1) cap')).ownsRow (G + 1) 37 4 (.slice (some ⟨g2, 0, none⟩) (m1 + m2) cap2) (m1 + m2) (xs1 ++ xs2) ∧ (g2 ≠ g' ∧ g2 < (w'.setCell ⟨G, 1, none⟩ (.slice (some ⟨g', 0, none⟩) (n1 + k + 1) cap')).heap.size)) := by
          refine ⟨ownsRow_set (by rw [HE.out]; simpa using hown) (by omega), ownsRow_set (HOa.out.2.1.kept hgrow (Or.inr (by have := HOa.out.2.2.1; simpa [Value.ownBlock] using this))) (by omega), hne', ?_⟩
          have h1 := HOa.out.2.2.2; have h2 := hgrow.size; simp; omega
        clear hown hgrow hat hne'
        obtain ⟨⟨⟨p0, p1⟩, ⟨p2, p3⟩⟩, _⟩ := HIb.out
        go_wp2_with fail
        go_roundw
        case rel => exact ⟨k + 1, g', cap', by omega, by go_num, HIc.out, HOc.out.1, HOc.out.2.1, HOc.out.2.2⟩
        case measure => simp [intOf]; omega
      · obtain ⟨hmv, h10⟩ := movedF_op m1 h0
        rw [hmv] at hs'
        have hlt10 : ¬ s < 10 := by omega
        go_wp2_with (first | (at_builtin; (try rw [← hs']); rw [← hwa]; refine wpList_append_own_at _ rfl (.tmp 80) (.tmp 82) 22 rfl (G + 1) 3 i0 (.int .i64 0) 1 8 Tryd.underlying22 hi hz0 hz1 hz2 rfl (by decide) (.slice (some ⟨g, 0, none⟩) (n1 + k) cap) (n1 + k) ((c ++ (d.take k).map (movedF m1)).map (Value.int .i64)) rfl HOa.out.1 ⟨wr.heap.size, 0, none⟩ 1 1 [.int .i64 s'] rfl rfl HCa.out ?d2 ?d3 ?d4 ?d5 ?_))
        case d2 => first | rfl | (intro y hy; simp at hy; subst hy; rfl)
        case d3 => unfold maxLen; omega
        case d4 => omega
        case d5 => have := HIa.out.2.2; omega
        intro v' w' hown hgrow _ hat
        rw [← hs'] at hown hgrow
        rw [← hwa] at hgrow
        have hwas : wa.heap.size = wr.heap.size + 1 := by rw [hwa]; simp
        clear x0 x1 y0 y1 p0 p1 p2 p3
        have HIb : Hid (InB G w3 w' (.slice (some ⟨g2, 0, none⟩) (m1 + m2) cap2) (.slice (some ⟨g, 0, none⟩) (n1 + k) cap)) := HIa.out.grown hgrow (fun j hj => by have := (HOa.out.1.lt g rfl).1; have e : g = j := Option.some.inj hj; omega)
        obtain ⟨g', cap', rfl⟩ := row_form hown (by omega)
        have hne' : g2 ≠ g' := by
          have h1 := HOa.out.2.2
          rcases hat with h | h
          · have e : g' = g := Option.some.inj h
            omega
          · have e : g' = wa.heap.size := by first | exact Option.some.inj h | (rw [hwas]; exact Option.some.inj h)
            omega
        have HIc : Hid (InB G w3 (w'.setCell ⟨G, 1, none⟩ (.slice (some ⟨g', 0, none⟩) (n1 + k + 1) cap')) (.slice (some ⟨g2, 0, none⟩) (m1 + m2) cap2) (.slice (some ⟨g', 0, none⟩) (n1 + k + 1) cap')) := HIb.out.set1 _
        have HOc : Hid ((w'.setCell ⟨G, 1, none⟩ (.slice (some ⟨g', 0, none⟩) (n1 + k + 1) cap')).ownsRow (G + 1) 3 1 (.slice (some ⟨g', 0, none⟩) (n1 + k + 1) cap') (n1 + k + 1) ((c ++ (d.take (k + 1)).map (movedF m1)).map (Value.int .i64)) ∧ (w'.setCell ⟨G, 1, none⟩ (.slice (some ⟨g', 0, none⟩) (n1 + k + 1) cap')).ownsRow (G + 1) 37 4 (.slice (some ⟨g2, 0, none⟩) (m1 + m2) cap2) (m1 + m2) (xs1 ++ xs2) ∧ (g2 ≠ g' ∧ g2 < (w'.setCell ⟨G, 1, none⟩ (.slice (some ⟨g', 0, none⟩) (n1 + k + 1) cap')).heap.size)) := by
          refine ⟨ownsRow_set (by rw [HE.out]; simpa using hown) (by omega), ownsRow_set (HOa.out.2.1.kept hgrow (Or.inr (by have := HOa.out.2.2.1; simpa [Value.ownBlock] using this))) (by omega), hne', ?_⟩
          have h1 := HOa.out.2.2.2; have h2 := hgrow.size; simp; omega
        clear hown hgrow hat hne'
        obtain ⟨⟨⟨p0, p1⟩, ⟨p2, p3⟩⟩, _⟩ := HIb.out
        go_wp2_with fail
        go_roundw
        case rel => exact ⟨k + 1, g', cap', by omega, by go_num, HIc.out, HOc.out.1, HOc.out.2.1, HOc.out.2.2⟩
        case measure => simp [intOf]; omega
    · obtain rfl : k = n2 := by omega
      have hall : d.take k = d := List.take_of_length_le (by have := HL.out.2.2.2; omega)
      rw [hall] at HO
      clear hall
      obtain ⟨⟨⟨p0, p1⟩, ⟨p2, p3⟩⟩, _⟩ := HI.out
      obtain ⟨⟨x0, x1⟩, ⟨y0, y1⟩, _, _⟩ := HXW.out wr HI.out.2.1
      obtain ⟨wa, hwa⟩ : ∃ wa, wa = wr.alloc (.cells #[.int .i64 10] 3) := ⟨_, rfl⟩
      have HIa : Hid (InB G w3 wa (.slice (some ⟨g2, 0, none⟩) (m1 + m2) cap2) (.slice (some ⟨g, 0, none⟩) (n1 + k) cap)) := by unfold Hid; rw [hwa]; exact HI.out.alloc _
      have HOa : Hid (wa.ownsRow (G + 1) 3 1 (.slice (some ⟨g, 0, none⟩) (n1 + k) cap) (n1 + k) ((c ++ d.map (movedF m1)).map (Value.int .i64)) ∧ wa.ownsRow (G + 1) 37 4 (.slice (some ⟨g2, 0, none⟩) (m1 + m2) cap2) (m1 + m2) (xs1 ++ xs2) ∧ (g2 ≠ g ∧ g2 < wa.heap.size)) := by
        unfold Hid; rw [hwa]; exact ⟨HO.out.1.alloc _, HO.out.2.1.alloc _, HO.out.2.2.1, by have := HO.out.2.2.2; simp; omega⟩
      have hca : wa.cell? ((⟨wr.heap.size, 0, none⟩ : Addr).add 0) = some (.int .i64 10) := by rw [hwa]; simp [Addr.add]
      have HCa : Hid (∀ j u, ([Value.int .i64 10] : List Value)[j]? = some u → wa.cell? ((⟨wr.heap.size, 0, none⟩ : Addr).add j) = some u) := fun j u hu => by
        match j, hu with
        | 0, hu => simp at hu; subst hu; exact hca
      clear hca
      go_wp2_with (first | (at_builtin; rw [← hwa]; refine wpList_append_own_at _ rfl (.tmp 86) (.tmp 87) 22 rfl (G + 1) 3 i0 (.int .i64 0) 1 8 Tryd.underlying22 hi hz0 hz1 hz2 rfl (by decide) (.slice (some ⟨g, 0, none⟩) (n1 + k) cap) (n1 + k) ((c ++ d.map (movedF m1)).map (Value.int .i64)) rfl HOa.out.1 ⟨wr.heap.size, 0, none⟩ 1 1 [.int .i64 10] rfl rfl HCa.out ?e2 ?e3 ?e4 ?e5 ?_))
      case e2 => first | rfl | (intro y hy; simp at hy; subst hy; rfl)
      case e3 => unfold maxLen; omega
      case e4 => omega
      case e5 => have := HIa.out.2.2; omega
      intro v' w' hown hgrow _ hat
      rw [← hwa] at hgrow
      clear x0 x1 y0 y1 p0 p1 p2 p3
      have HIb : Hid (InB G w3 w' (.slice (some ⟨g2, 0, none⟩) (m1 + m2) cap2) (.slice (some ⟨g, 0, none⟩) (n1 + k) cap)) := HIa.out.grown hgrow (fun j hj => by have := (HOa.out.1.lt g rfl).1; have e : g = j := Option.some.inj hj; omega)
      obtain ⟨g', cap', rfl⟩ := row_form hown (by omega)
      obtain ⟨wc, hwc⟩ : ∃ wc, wc = w'.setCell ⟨G, 1, none⟩ (.slice (some ⟨g', 0, none⟩) (n1 + k + 1) cap') := ⟨_, rfl⟩
      have HIc : Hid (InB G w3 wc (.slice (some ⟨g2, 0, none⟩) (m1 + m2) cap2) (.slice (some ⟨g', 0, none⟩) (n1 + k + 1) cap')) := by unfold Hid; rw [hwc]; exact HIb.out.set1 _
      have HOc : Hid (wc.ownsRow (G + 1) 3 1 (.slice (some ⟨g', 0, none⟩) (n1 + k + 1) cap') (n1 + k + 1) ((c ++ (d.map (movedF m1) ++ [10])).map (Value.int .i64)) ∧ wc.ownsRow (G + 1) 37 4 (.slice (some ⟨g2, 0, none⟩) (m1 + m2) cap2) (m1 + m2) (xs1 ++ xs2)) := by
        unfold Hid; rw [hwc]
        refine ⟨ownsRow_set (by simpa using hown) (by omega), ownsRow_set (HOa.out.2.1.kept hgrow (Or.inr (by have := HOa.out.2.2.1; simpa [Value.ownBlock] using this))) (by omega)⟩
      clear hown hgrow hat
      obtain ⟨⟨⟨p0, p1⟩, ⟨p2, p3⟩⟩, _⟩ := HIb.out
      obtain ⟨⟨⟨q0, q1⟩, ⟨q2, q3⟩⟩, _⟩ := HIc.out
      obtain ⟨_, _, ⟨y0, y1⟩, ⟨f0, f1⟩⟩ := HXW.out wc HIc.out.2.1
      have s0 := y0
      have s1 := y1
      rw [hwc] at q0 q1 q2 q3 s0 s1 f0 f1
      go_wp2_with fail
      rw [← hwc]
      obtain ⟨r0, r1⟩ := set2_cells (u0 := .slice (some ⟨g2, 0, none⟩) (m1 + m2) cap2) (u1 := .slice (some ⟨g', 0, none⟩) (n1 + k + 1) cap') y0 y1
      have hld := load_form r0 r1
      have hR : w.heap.size + 2 < G + 1 := by have := HBw.out.2; omega
      have hbw : Below w.heap.size w ((wc.setCell ⟨w.heap.size + 2, 0, none⟩ (.slice (some ⟨g2, 0, none⟩) (m1 + m2) cap2)).setCell ⟨w.heap.size + 2, 1, none⟩ (.slice (some ⟨g', 0, none⟩) (n1 + k + 1) cap')) := ((HBW.out _ HIc.out.2.1).setCell (show w.heap.size ≤ w.heap.size + 2 by omega) _).setCell (show w.heap.size ≤ w.heap.size + 2 by omega) _
      refine bodyPost_ret (v := .tuple #[.agg #[.slice (some ⟨g2, 0, none⟩) (m1 + m2) cap2, .slice (some ⟨g', 0, none⟩) (n1 + k + 1) cap'], .int .i64 0]) ?_ rfl ⟨_, _, rfl, ?_, own_readsN (ownsRow_set (ownsRow_set HOc.out.1 hR) hR) rfl (by omega), hbw⟩
      · rw [results_cell_tmp rfl]
        simp [asAddr, Result.andThen, hld]
      · exact own_readsA (ownsRow_set (ownsRow_set HOc.out.2 hR) hR) (by have := HL.out; simp; omega) (HAV.out _ hbw) (by omega)
/-- vennref1.Both, of any two formulas. -/
theorem refBoth_any (va vc vb vd : Value) (ats bts : List At) (c d : List Int) (w : World) (hA : ReadsA w va ats) (hC : Reads w vc c) (hA2 : ReadsA w vb bts) (hC2 : Reads w vd d) :
    Calls Tryd.prog 19 #[.agg #[va, vc], .agg #[vb, vd]] w fun e w' => ∃ va' vc', e = .returned (.tuple #[.agg #[va', vc'], .int .i64 (bothFault ats bts c d)]) ∧ (bothFault ats bts c d = 0 → ReadsA w' va' (ats ++ bts) ∧ Reads w' vc' (c ++ (d.map (movedF ats.length) ++ [10]))) ∧ (¬ bothFault ats bts c d = 0 → va' = .slice none 0 0 ∧ vc' = .slice none 0 0) ∧ Below w.heap.size w w' := by
  by_cases hf : formFault ats c = 0
  · by_cases hg : formFault bts d = 0
    · by_cases hp : 6 < ats.length + bts.length
      · have e0 : bothFault ats bts c d = 4 := by unfold bothFault; rw [if_pos hf, if_pos hg, if_pos (Or.inl hp)]
        rw [e0]
        refine (refBoth_fullA va vc vb vd ats bts c d w hA hC hA2 hC2 hf hg hp).mono ?_
        rintro e w' ⟨rfl, hb⟩
        exact ⟨_, _, rfl, fun h => (by cases h), fun _ => ⟨rfl, rfl⟩, hb⟩
      · by_cases hq : 19 < c.length + d.length
        · have e0 : bothFault ats bts c d = 4 := by unfold bothFault; rw [if_pos hf, if_pos hg, if_pos (Or.inr hq)]
          rw [e0]
          refine (refBoth_fullB va vc vb vd ats bts c d w hA hC hA2 hC2 hf hg hp hq).mono ?_
          rintro e w' ⟨rfl, hb⟩
          exact ⟨_, _, rfl, fun h => (by cases h), fun _ => ⟨rfl, rfl⟩, hb⟩
        · have e0 : bothFault ats bts c d = 0 := by unfold bothFault; rw [if_pos hf, if_pos hg, if_neg (by omega)]
          rw [e0]
          refine (refBoth_good va vc vb vd ats bts c d w hA hC hA2 hC2 hf hg hp hq).mono ?_
          rintro e w' ⟨va', vc', rfl, h1, h2, hb⟩
          exact ⟨_, _, rfl, fun _ => ⟨h1, h2⟩, fun h => absurd rfl h, hb⟩
    · have e0 : bothFault ats bts c d = formFault bts d := by unfold bothFault; rw [if_pos hf, if_neg hg]
      rw [e0]
      refine (refBoth_bad2 va vc vb vd ats bts c d w hA hC hA2 hC2 hf hg).mono ?_
      rintro e w' ⟨rfl, hb⟩
      exact ⟨_, _, rfl, fun h => absurd h hg, fun _ => ⟨rfl, rfl⟩, hb⟩
  · have e0 : bothFault ats bts c d = formFault ats c := by unfold bothFault; rw [if_neg hf]
    rw [e0]
    refine (refBoth_bad1 va vc vb vd ats bts c d w hA hC hA2 hC2 hf).mono ?_
    rintro e w' ⟨rfl, hb⟩
    exact ⟨_, _, rfl, fun h => absurd h hf, fun _ => ⟨rfl, rfl⟩, hb⟩
end Go.Proofs.YtenmheenieifpabDoor
