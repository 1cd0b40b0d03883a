/-
  Proved: what form.Negate returns, of any formula: its opposite, in new rows; what was in memory is as it was (a contract that the statements lean on).
  Proved: what form.Negate returns, of any formula: its opposite, in new rows; what was in memory is as it was (a contract that the statements lean on).
  Plain facts on a formula of an atom alone, and on two formulas together (chapters 3, 4, 13). No program is read here.
  Plain facts on between how many things all, nothing, and a name have in the worlds of so many things (chapter 14). No program is read here.
  Plain facts on what 'a name has so many' says of 'it has so many others' (chapter 18). No program is read here.
-/
import Derived.Test.YtjaedfjfcghgcaaDoorLibA25
import Derived.Laws.ResultCell
import Derived.Laws.World
import Derived.Test.YtjaedfjfcghgcaaDoorLibA5
import Derived.Test.YtjaedfjfcghgcaaDoorLibA22
namespace Go.Proofs.YtjaedfjfcghgcaaDoor
open Go.ChangeShapes Go.WideShapes Go.ChangeAt Go.RowKit
set_option maxRecDepth 100000

theorem load_form {W : World} {R : Nat} {c0 c1 : Value} (h0 : W.cell? ⟨R, 0, none⟩ = some c0) (h1 : W.cell? ⟨R, 1, none⟩ = some c1) : (loadVar 42 ⟨R, 0, none⟩).run Tryd.prog W = .ok (.agg #[c0, c1]) W := by
  have hl := run_loadCells_list (P := Tryd.prog) W ⟨R, 0, none⟩ [c0, c1] (fun j v hj => by
    match j, hj with
    | 0, hj => simp at hj; subst hj; simpa [Addr.add] using h0
    | 1, hj => simp at hj; subst hj; simpa [Addr.add] using h1)
  simp [loadVar, Tryd.isAgg42, Tryd.sizeOf42, Result.andThen] at hl ⊢
  simp [hl]
theorem FillA.far {G R j : Nat} {w : World} {ats : List At} {m k : Nat} (h : FillA G w ats m k) (hR : R < G) (u : Value) : FillA G (w.setCell ⟨R, j, none⟩ u) ats m k := by
  obtain ⟨xs, ⟨h1, h2⟩, h3⟩ := h
  refine ⟨xs, ⟨h1, ?_⟩, fun i a hi ha => (h3 i a hi ha).set (by omega) u⟩
  rcases h2 with h2 | ⟨g, cap, cur, hv, hg, hh, r⟩
  · exact .inl h2
  · refine .inr ⟨g, cap, cur, hv, hg, ?_, r⟩
    rw [RowKit.Below.heap_setCell _ _ _ _ (by simp; omega)]; exact hh
/-- two cells that are written: what lies in them, and elsewhere. -/
theorem set2_cells {w : World} {R : Nat} {z0 z1 u0 u1 : Value} (h0 : w.cell? ⟨R, 0, none⟩ = some z0) (h1 : w.cell? ⟨R, 1, none⟩ = some z1) : ((w.setCell ⟨R, 0, none⟩ u0).setCell ⟨R, 1, none⟩ u1).cell? ⟨R, 0, none⟩ = some u0 ∧ ((w.setCell ⟨R, 0, none⟩ u0).setCell ⟨R, 1, none⟩ u1).cell? ⟨R, 1, none⟩ = some u1 := by
  have n1 : (⟨R, 1, none⟩ : Addr) ≠ ⟨R, 0, none⟩ := by intro e; injection e with _ e; omega
  refine ⟨?_, ?_⟩
  · rw [World.cell?_setCell_other (w.setCell ⟨R, 0, none⟩ u0) _ _ _ n1]
    exact World.cell?_setCell_same _ _ _ h0
  · exact World.cell?_setCell_same _ _ _ ((World.cell?_setCell_other w _ _ _ n1.symm).trans h1)
theorem set2_far {w : World} {R B o0 o1 j : Nat} {u0 u1 : Value} (h : R ≠ B) : ((w.setCell ⟨R, o0, none⟩ u0).setCell ⟨R, o1, none⟩ u1).cell? ⟨B, j, none⟩ = w.cell? ⟨B, j, none⟩ := by
  have e : ∀ (W : World) (o : Nat) (u : Value), (W.setCell ⟨R, o, none⟩ u).cell? ⟨B, j, none⟩ = W.cell? ⟨B, j, none⟩ := fun W o u => by
    apply World.cell?_setCell_other
    intro e
    injection e with e1
    exact h e1
  rw [e, e]

/-- the two places that Negate makes: the formula's, and the answer's. -/
def BoxN (W : World) (S0 : Nat) (va vc : Value) : Prop :=
  (W.cell? ⟨S0, 0, none⟩ = some va ∧ W.cell? ⟨S0, 1, none⟩ = some vc) ∧ (W.cell? ⟨S0 + 1, 0, none⟩ = some (.slice none 0 0) ∧ W.cell? ⟨S0 + 1, 1, none⟩ = some (.slice none 0 0)) ∧ (W.frozen? ⟨S0 + 1, 0, none⟩ = false ∧ W.frozen? ⟨S0 + 1, 1, none⟩ = false)
theorem boxN_alloc (w : World) (va vc : Value) : BoxN ((w.alloc (.cells #[va, vc] 42)).alloc (.cells #[.slice none 0 0, .slice none 0 0] 42)) w.heap.size va vc := by
  have r : ∀ o j, ((w.alloc (.cells #[va, vc] 42)).alloc o).cell? ⟨w.heap.size, j, none⟩ = (w.alloc (.cells #[va, vc] 42)).cell? ⟨w.heap.size, j, none⟩ := fun o j => World.cell?_alloc_lt _ _ ⟨w.heap.size, j, none⟩ (by simp)
  have q : w.heap.size + 1 = (w.alloc (.cells #[va, vc] 42)).heap.size := by simp
  unfold BoxN
  simp only [r]
  rw [q]
  simp
theorem BoxN.below {W W' : World} {S0 : Nat} {va vc : Value} (h : BoxN W S0 va vc) (hS : S0 + 1 < W.heap.size) (hb : Below W.heap.size W W') : BoxN W' S0 va vc := by
  obtain ⟨⟨a0, a1⟩, ⟨b0, b1⟩, f0, f1⟩ := h
  have h0 : S0 < W.heap.size := by omega
  exact ⟨⟨(hb.cell h0).trans a0, (hb.cell h0).trans a1⟩, ⟨(hb.cell hS).trans b0, (hb.cell hS).trans b1⟩, (hb.frozen hS).trans f0, (hb.frozen hS).trans f1⟩

set_option maxHeartbeats 2000000 in
theorem negate_bad (va vc : Value) (ats : List At) (c : List Int) (w : World) (hA : ReadsA w va ats) (hC : Reads w vc c) (hK : KindsLaid w) (hf : ¬ formFault ats c = 0) :
    Calls Tryd.prog 23 #[.agg #[va, vc]] w fun e w' => e = .returned (.tuple #[.agg #[.slice none 0 0, .slice none 0 0], .iface 64 (.int .i64 (formFault ats c))]) ∧ Below w.heap.size w w' := by
  obtain ⟨ao, acap, rfl, _⟩ := hA.slice
  obtain ⟨co, ccap, rfl, _⟩ := hC.slice
  obtain ⟨w1, hw1⟩ : ∃ w1, w1 = (w.alloc (.cells #[.slice ao ats.length acap, .slice co c.length ccap] 42)).alloc (.cells #[.slice none 0 0, .slice none 0 0] 42) := ⟨_, rfl⟩
  have HB1 : Hid (Below w.heap.size w w1) := by unfold Hid; rw [hw1]; exact (below_alloc1 _ _).trans ((below_alloc1 _ _).mono (by simp))
  have HS1 : Hid (w1.heap.size = w.heap.size + 2) := by unfold Hid; rw [hw1]; simp
  have HX1 : Hid (BoxN w1 w.heap.size (.slice ao ats.length acap) (.slice co c.length ccap)) := by unfold Hid; rw [hw1]; exact boxN_alloc w _ _
  have HC : Hid (Calls Tryd.prog 33 #[.agg #[.slice ao ats.length acap, .slice co c.length ccap]] w1 fun e w' => e = .returned (.iface 64 (.int .i64 (formFault ats c))) ∧ Below w1.heap.size w1 w') := by
    have := fcheck_any _ _ ats c w1 (hA.below HB1.out) (hC.below HB1.out) (hK.below HB1.out)
    rw [errV_no hf] at this
    exact this
  clear hA hC hK
  obtain ⟨F, hF⟩ : ∃ F, F = formFault ats c := ⟨_, rfl⟩
  rw [← hF] at HC ⊢
  clear hF hf
  obtain ⟨m, hm⟩ : ∃ m, m = ats.length := ⟨_, rfl⟩
  obtain ⟨n, hn⟩ : ∃ n, n = c.length := ⟨_, rfl⟩
  rw [← hm, ← hn] at HC hw1 HX1 ⊢
  clear hm hn
  obtain ⟨⟨x0, x1⟩, _, _⟩ := HX1.out
  rw [hw1] at x0 x1
  go_enter Tryd.func23, Tryd.ntmps23
  go_wp2_with fail
  rw [← hw1]
  clear hw1 x0 x1
  go_at_call 33
  refine HC.out.mono ?_
  rintro e w2 ⟨rfl, hb⟩
  have HB2 : Hid (Below w.heap.size w w2) := HB1.out.trans (hb.mono HB1.out.size)
  obtain ⟨⟨x0, x1⟩, ⟨y0, y1⟩, ⟨f0, f1⟩⟩ := HX1.out.below (by have := HS1.out; omega) hb
  clear hb
  go_wp2_with fail
  obtain ⟨m0, m1⟩ := set2_cells (u0 := .slice none 0 0) (u1 := .slice none 0 0) y0 y1
  have hld := load_form m0 m1
  refine bodyPost_ret (v := .tuple #[.agg #[.slice none 0 0, .slice none 0 0], .iface 64 (.int .i64 F)]) ?_ rfl ⟨rfl, ?_⟩
  · rw [results_cell_tmp rfl]
    simp [asAddr, Result.andThen, hld]
  · exact (HB2.out.setCell (by simp) _).setCell (by simp) _

set_option maxHeartbeats 2000000 in
theorem negate_full (va vc : Value) (ats : List At) (c : List Int) (w : World) (hA : ReadsA w va ats) (hC : Reads w vc c) (hK : KindsLaid w) (hf : formFault ats c = 0) (h20 : c.length = 20) :
    Calls Tryd.prog 23 #[.agg #[va, vc]] w fun e w' => e = .returned (.tuple #[.agg #[.slice none 0 0, .slice none 0 0], .iface 64 (.int .i64 4)]) ∧ Below w.heap.size w w' := by
  obtain ⟨⟨m1, m6⟩, _, _⟩ := formFault_zero.1 hf
  obtain ⟨ao, acap, rfl, _⟩ := hA.slice
  obtain ⟨co, ccap, rfl, _⟩ := hC.slice
  obtain ⟨w1, hw1⟩ : ∃ w1, w1 = (w.alloc (.cells #[.slice ao ats.length acap, .slice co c.length ccap] 42)).alloc (.cells #[.slice none 0 0, .slice none 0 0] 42) := ⟨_, rfl⟩
  have HB1 : Hid (Below w.heap.size w w1) := by unfold Hid; rw [hw1]; exact (below_alloc1 _ _).trans ((below_alloc1 _ _).mono (by simp))
  have HS1 : Hid (w1.heap.size = w.heap.size + 2) := by unfold Hid; rw [hw1]; simp
  have HX1 : Hid (BoxN w1 w.heap.size (.slice ao ats.length acap) (.slice co c.length ccap)) := by unfold Hid; rw [hw1]; exact boxN_alloc w _ _
  have HC : Hid (Calls Tryd.prog 33 #[.agg #[.slice ao ats.length acap, .slice co c.length ccap]] w1 fun e w' => e = .returned .nilIface ∧ Below w1.heap.size w1 w') := by
    have := fcheck_any _ _ ats c w1 (hA.below HB1.out) (hC.below HB1.out) (hK.below HB1.out)
    rw [hf, errV_0] at this
    exact this
  clear hA hC hK hf
  obtain ⟨m, hm⟩ : ∃ m, m = ats.length := ⟨_, rfl⟩
  rw [← hm] at HC hw1 HX1 m6 ⊢
  rw [h20] at HC hw1 HX1 ⊢
  clear hm h20 m1
  have HT : Hid (∀ W, Calls Tryd.prog 44 #[.int .i64 m, .int .i64 21] W fun e w' => e = .returned (.bool true) ∧ W = w') := fun W => by
    have := tooMany_any m 21 W
    rw [show (decide (6 < (m : Int)) || decide ((20 : Int) < 21)) = true by simp] at this
    exact this
  obtain ⟨⟨x0, x1⟩, _, _⟩ := HX1.out
  rw [hw1] at x0 x1
  go_enter Tryd.func23, Tryd.ntmps23
  go_wp2_with fail
  rw [← hw1]
  clear hw1 x0 x1
  go_at_call 33
  refine HC.out.mono ?_
  rintro e w2 ⟨rfl, hb⟩
  have HB2 : Hid (Below w.heap.size w w2) := HB1.out.trans (hb.mono HB1.out.size)
  obtain ⟨⟨x0, x1⟩, ⟨y0, y1⟩, ⟨f0, f1⟩⟩ := HX1.out.below (by have := HS1.out; omega) hb
  clear hb
  go_wp2_with fail
  go_at_call 44
  refine (HT.out _).mono ?_
  rintro e w' ⟨rfl, rfl⟩
  go_wp2_with fail
  obtain ⟨m0, m1⟩ := set2_cells (u0 := .slice none 0 0) (u1 := .slice none 0 0) y0 y1
  have hld := load_form m0 m1
  refine bodyPost_ret (v := .tuple #[.agg #[.slice none 0 0, .slice none 0 0], .iface 64 (.int .i64 4)]) ?_ rfl ⟨rfl, ?_⟩
  · rw [results_cell_tmp rfl]
    simp [asAddr, Result.andThen, hld]
  · exact (HB2.out.setCell (by simp) _).setCell (by simp) _
end Go.Proofs.YtjaedfjfcghgcaaDoor

namespace Go.Proofs.YtjaedfjfcghgcaaDoor
open Go.ChangeShapes Go.WideShapes Go.ChangeAt Go.RowKit
set_option maxRecDepth 100000

/-- a row of numbers as one of those that are put together. -/
def rowI (b off cap : Nat) (t : List Int) : RowI := ⟨b, off, cap, t.length, t.map (Value.int .i64)⟩
theorem rowI_lies {w : World} {b off cap : Nat} {t : List Int} (hb : b < w.heap.size) (h0 : 0 < t.length) (hc : t.length ≤ cap) (h : ∀ k, k < t.length → w.cell? ⟨b, off + k, none⟩ = some (.int .i64 (t.getD k 0))) : (rowI b off cap t).Lies w := by
  refine ⟨hb, h0, hc, by simp [rowI], fun u hu => ?_, fun j u hu => ?_⟩
  · simp [rowI] at hu
    obtain ⟨_, _, rfl⟩ := hu
    rfl
  · simp only [rowI] at hu ⊢
    have hj : j < t.length := by have := (List.getElem?_eq_some_iff.1 hu).1; simpa using this
    rw [h j hj, ← hu]
    simp [List.getElem?_eq_getElem hj]

set_option maxHeartbeats 4000000 in
theorem negate_good (va vc : Value) (ats : List At) (c : List Int) (w : World) (hA : ReadsA w va ats) (hC : Reads w vc c) (hK : KindsLaid w) (hf : formFault ats c = 0) (h19 : c.length ≤ 19) :
    Calls Tryd.prog 23 #[.agg #[va, vc]] w fun e w' => ∃ va' vc', e = .returned (.tuple #[.agg #[va', vc'], .nilIface]) ∧ ReadsA w' va' ats ∧ Reads w' vc' (c ++ [12]) ∧ Below w.heap.size w w' := by
  obtain ⟨⟨m1, m6⟩, ⟨n1, _⟩, hall, _, _⟩ := formFault_zero.1 hf
  have hAl : ∀ a ∈ ats, a.s.length ≤ 40 ∧ a.t.length ≤ 40 := fun a ha => by
    have h0 := hall a ha
    obtain ⟨_, hs, ht, _⟩ := atomFault_zero.1 h0
    have h1 := (fault_zero.1 hs).2.1
    refine ⟨by omega, ?_⟩
    unfold secondFault at ht
    split at ht
    · have := (fault_zero.1 ht).2.1; omega
    · split at ht
      · cases ht
      · omega
  obtain ⟨ao, acap, rfl, _⟩ := hA.slice
  obtain ⟨co, ccap, rfl, _⟩ := hC.slice
  obtain ⟨w1, hw1⟩ : ∃ w1, w1 = (w.alloc (.cells #[.slice ao ats.length acap, .slice co c.length ccap] 42)).alloc (.cells #[.slice none 0 0, .slice none 0 0] 42) := ⟨_, rfl⟩
  have HB1 : Hid (Below w.heap.size w w1) := by unfold Hid; rw [hw1]; exact (below_alloc1 _ _).trans ((below_alloc1 _ _).mono (by simp))
  have HS1 : Hid (w1.heap.size = w.heap.size + 2) := by unfold Hid; rw [hw1]; simp
  have HX1 : Hid (BoxN w1 w.heap.size (.slice ao ats.length acap) (.slice co c.length ccap)) := by unfold Hid; rw [hw1]; exact boxN_alloc w _ _
  have HX : Hid (∀ W, Below w1.heap.size w1 W → BoxN W w.heap.size (.slice ao ats.length acap) (.slice co c.length ccap)) := fun W hW => HX1.out.below (by have := HS1.out; omega) hW
  have HCk : Hid (Calls Tryd.prog 33 #[.agg #[.slice ao ats.length acap, .slice co c.length ccap]] w1 fun e w' => e = .returned .nilIface ∧ Below w1.heap.size w1 w') := by
    have := fcheck_any _ _ ats c w1 (hA.below HB1.out) (hC.below HB1.out) (hK.below HB1.out)
    rw [hf, errV_0] at this
    exact this
  have HCp : Hid (∀ W, Below w1.heap.size w1 W → Calls Tryd.prog 45 #[.slice ao ats.length acap] W fun e w' => ∃ G, e = .returned (.slice (some ⟨G, 0, none⟩) ats.length ats.length) ∧ (w1.heap.size ≤ G ∧ FillA G w' ats ats.length ats.length) ∧ Below W.heap.size W w' ∧ Below w1.heap.size w1 w' ∧ BoxN w' w.heap.size (.slice ao ats.length acap) (.slice co c.length ccap)) := fun W hW => by
    refine (copies_any ats _ W ((hA.below HB1.out).below hW) (by omega) m6 hAl).mono ?_
    rintro e w' ⟨G, hG, rfl, hfill, hb⟩
    have hb1 : Below w1.heap.size w1 w' := hW.trans (hb.mono hW.size)
    exact ⟨G, rfl, ⟨Nat.le_trans hW.size hG, hfill⟩, hb, hb1, HX.out w' hb1⟩
  have HCc : Hid (∀ (W : World) (A D : Nat), Below w1.heap.size w1 W → A < W.heap.size → D < W.heap.size → W.cell? ⟨A, 0, none⟩ = some (.slice co c.length ccap) → W.cell? ⟨A, 1, none⟩ = some (.slice (some ⟨D, 0, none⟩) 1 1) → W.cell? ⟨D, 0, none⟩ = some (.int .i64 12) → Calls Tryd.prog 46 #[.slice (some ⟨A, 0, none⟩) 2 2] W fun e w' => ∃ o q, e = .returned (.slice o (c.length + 1) q) ∧ Fresh w1.heap.size w' (.slice o (c.length + 1) q) (c ++ [12]) ∧ Below W.heap.size W w' ∧ Below w1.heap.size w1 w' ∧ BoxN w' w.heap.size (.slice ao ats.length acap) (.slice co c.length ccap)) := fun W A D hW hA' hD c0 c1 d0 => by
    rcases (hC.below HB1.out).below hW with ⟨_, _, _, hcn⟩ | ⟨B, off, cap, hv, hb, _, ⟨_, hcc⟩, hc⟩
    · rw [hcn] at n1; simp at n1
    cases hv
    have hl : ∀ r ∈ [rowI B off ccap c, rowI D 0 1 [12]], r.Lies W := fun r hr => by
      simp only [List.mem_cons, List.mem_nil_iff, or_false] at hr
      rcases hr with rfl | rfl
      · exact rowI_lies hb (by omega) hcc hc
      · refine rowI_lies hD (by simp) (by simp) (fun k hk => ?_)
        obtain rfl : k = 0 := by simpa using hk
        exact d0
    have hlen : (c ++ [(12 : Int)]).length = c.length + 1 := by simp
    have hmany : manyI [rowI B off ccap c, rowI D 0 1 [12]] = c.length + 1 := by simp [manyI, rowI]
    have hallI : allI [rowI B off ccap c, rowI D 0 1 [12]] = (c ++ [12]).map (Value.int .i64) := by simp [allI, rowI]
    refine (concatI [rowI B off ccap c, rowI D 0 1 [12]] A 2 W (by simp) hA' (fun k r hr => ?_) hl (by rw [hmany]; omega) (by rw [hmany]; omega)).mono ?_
    · match k, hr with
      | 0, hr => simp at hr; subst hr; exact c0
      | 1, hr => simp at hr; subst hr; exact c1
    · rintro e w' ⟨v, rfl, hown, hb'⟩
      rw [hmany, hallI] at hown
      have hfr : Fresh W.heap.size w' v (c ++ [12]) := by
        unfold Fresh
        rw [hlen]
        exact hown
      obtain ⟨o, q, rfl⟩ := fresh_slice hfr
      have hb1 : Below w1.heap.size w1 w' := hW.trans (hb'.mono hW.size)
      rw [hlen] at hfr ⊢
      exact ⟨o, q, rfl, World.ownsRow.mono hfr hW.size, hb', hb1, HX.out w' hb1⟩
  clear hA hC hK hf hall hAl HX1
  obtain ⟨m, hm⟩ : ∃ m, m = ats.length := ⟨_, rfl⟩
  obtain ⟨n, hn⟩ : ∃ n, n = c.length := ⟨_, rfl⟩
  have HM : Hid (m = ats.length) := hm
  rw [← hm] at HCk HCp HCc HX hw1 m1 m6 ⊢
  rw [← hn] at HCk HCp HCc HX hw1 n1 h19 ⊢
  clear hm hn
  have HT : Hid (∀ W, Calls Tryd.prog 44 #[.int .i64 m, .int .i64 ((n : Int) + 1)] W fun e w' => e = .returned (.bool false) ∧ W = w') := fun W => by
    have := tooMany_any m ((n : Int) + 1) W
    rw [show (decide (6 < (m : Int)) || decide (20 < (n : Int) + 1)) = false by simp; omega] at this
    exact this
  have hn1 : (n : Int) ≤ 19 := by omega
  obtain ⟨⟨x0, x1⟩, _, _⟩ := HX.out w1 (Below.refl _ _)
  rw [hw1] at x0 x1
  go_enter Tryd.func23, Tryd.ntmps23
  go_wp2_with fail
  rw [← hw1]
  clear hw1 x0 x1
  go_at_call 33
  refine HCk.out.mono ?_
  rintro e w2 ⟨rfl, hb⟩
  have HB2 : Hid (Below w1.heap.size w1 w2) := hb
  obtain ⟨⟨x0, x1⟩, _, _⟩ := HX.out w2 hb
  clear hb HCk
  have HwA : Hid (∀ w5, Below w1.heap.size w1 w5 → Calls Tryd.prog 46 #[.slice (some ⟨w5.heap.size + 1, 0, none⟩) 2 2] ((w5.alloc (.cells #[.int .i64 12] 3)).alloc (.cells #[.slice co n ccap, .slice (some ⟨w5.heap.size, 0, none⟩) 1 1] 30)) fun e w' => ∃ o q, e = .returned (.slice o (n + 1) q) ∧ Fresh w1.heap.size w' (.slice o (n + 1) q) (c ++ [12]) ∧ Below w5.heap.size w5 w' ∧ Below w1.heap.size w1 w' ∧ BoxN w' w.heap.size (.slice ao m acap) (.slice co n ccap)) := fun w5 hb => by
    have q : w5.heap.size + 1 = (w5.alloc (.cells #[.int .i64 12] 3)).heap.size := by simp
    have hb5 : Below w5.heap.size w5 ((w5.alloc (.cells #[.int .i64 12] 3)).alloc (.cells #[.slice co n ccap, .slice (some ⟨w5.heap.size, 0, none⟩) 1 1] 30)) := (below_alloc1 _ _).trans ((below_alloc1 _ _).mono (by simp))
    refine (HCc.out _ (w5.heap.size + 1) w5.heap.size (hb.trans (hb5.mono hb.size)) (by simp) (by simp; omega) ?_ ?_ ?_).mono ?_
    · rw [q]; simp
    · rw [q]; simp
    · rw [World.cell?_alloc_lt _ _ ⟨w5.heap.size, 0, none⟩ (by simp)]; simp
    · rintro e w' ⟨o, q, h1, h2, h3, h4, h5⟩
      exact ⟨o, q, h1, h2, hb5.trans (h3.mono hb5.size), h4, h5⟩
  have HwB : Hid (∀ w5, Below w1.heap.size w1 w5 → Below (w2.alloc (.cells #[.int .i64 12] 3)).drew.heap.size (w2.alloc (.cells #[.int .i64 12] 3)).drew w5 → Calls Tryd.prog 46 #[.slice (some ⟨w5.heap.size, 0, none⟩) 2 2] (w5.alloc (.cells #[.slice co n ccap, .slice (some ⟨w2.heap.size, 0, none⟩) 1 1] 30)) fun e w' => ∃ o q, e = .returned (.slice o (n + 1) q) ∧ Fresh w1.heap.size w' (.slice o (n + 1) q) (c ++ [12]) ∧ Below w5.heap.size w5 w' ∧ Below w1.heap.size w1 w' ∧ BoxN w' w.heap.size (.slice ao m acap) (.slice co n ccap)) := fun w5 hb hd => by
    have hlt : w2.heap.size < w5.heap.size := by have := hd.size; simp at this; omega
    have hb5 : Below w5.heap.size w5 (w5.alloc (.cells #[.slice co n ccap, .slice (some ⟨w2.heap.size, 0, none⟩) 1 1] 30)) := below_alloc1 _ _
    refine (HCc.out _ w5.heap.size w2.heap.size (hb.trans (hb5.mono hb.size)) (by simp) (by simp; omega) (by simp) (by simp) ?_).mono ?_
    · rw [World.cell?_alloc_lt _ _ ⟨w2.heap.size, 0, none⟩ hlt, hd.cell (show (⟨w2.heap.size, 0, none⟩ : Addr).block < _ by simp)]; simp
    · rintro e w' ⟨o, q, h1, h2, h3, h4, h5⟩
      exact ⟨o, q, h1, h2, hb5.trans (h3.mono hb5.size), h4, h5⟩
  have HwC : Hid (∀ w5, Below w1.heap.size w1 w5 → Below ((w2.alloc (.cells #[.int .i64 12] 3)).alloc (.cells #[.slice co n ccap, .slice (some ⟨w2.heap.size, 0, none⟩) 1 1] 30)).drew.heap.size ((w2.alloc (.cells #[.int .i64 12] 3)).alloc (.cells #[.slice co n ccap, .slice (some ⟨w2.heap.size, 0, none⟩) 1 1] 30)).drew w5 → Calls Tryd.prog 46 #[.slice (some ⟨w2.heap.size + 1, 0, none⟩) 2 2] w5 fun e w' => ∃ o q, e = .returned (.slice o (n + 1) q) ∧ Fresh w1.heap.size w' (.slice o (n + 1) q) (c ++ [12]) ∧ Below w5.heap.size w5 w' ∧ Below w1.heap.size w1 w' ∧ BoxN w' w.heap.size (.slice ao m acap) (.slice co n ccap)) := fun w5 hb hd => by
    have hlt : w2.heap.size + 1 < w5.heap.size := by have := hd.size; simp at this; omega
    have q : w2.heap.size + 1 = (w2.alloc (.cells #[.int .i64 12] 3)).heap.size := by simp
    refine (HCc.out _ (w2.heap.size + 1) w2.heap.size hb hlt (by omega) ?_ ?_ ?_).mono ?_
    · rw [hd.cell (show (⟨w2.heap.size + 1, 0, none⟩ : Addr).block < _ by simp), q]; simp
    · rw [hd.cell (show (⟨w2.heap.size + 1, 1, none⟩ : Addr).block < _ by simp), q]; simp
    · rw [hd.cell (show (⟨w2.heap.size, 0, none⟩ : Addr).block < _ by simp; omega)]
      show ((w2.alloc (.cells #[.int .i64 12] 3)).alloc (.cells #[.slice co n ccap, .slice (some ⟨w2.heap.size, 0, none⟩) 1 1] 30)).cell? _ = _
      rw [World.cell?_alloc_lt _ _ ⟨w2.heap.size, 0, none⟩ (by simp)]; simp
    · rintro e w' ⟨o, q, h1, h2, h3, h4, h5⟩
      exact ⟨o, q, h1, h2, h3, h4, h5⟩
  have HpA : Hid (Below w1.heap.size w1 w2.drew) := HB2.out.drew
  have HpB : Hid (Below w1.heap.size w1 (w2.alloc (.cells #[.int .i64 12] 3)).drew) := (HB2.out.alloc HB2.out.size _).drew
  have HpC : Hid (Below w1.heap.size w1 ((w2.alloc (.cells #[.int .i64 12] 3)).alloc (.cells #[.slice co n ccap, .slice (some ⟨w2.heap.size, 0, none⟩) 1 1] 30)).drew) := ((HB2.out.alloc HB2.out.size _).alloc (by have := HB2.out.size; simp; omega) _).drew
  go_wp2_with fail
  go_at_call 44
  refine (HT.out _).mono ?_
  rintro e w' ⟨rfl, rfl⟩
  go_wp2_with fail
  go_region_held3 (fun w' => w'.cell? ⟨w.heap.size, 0, none⟩ = some (.slice ao m acap) ∧ w'.cell? ⟨w.heap.size, 1, none⟩ = some (.slice co n ccap)) (first | go_keep | (go_split_ands; refine ⟨?_, ?_⟩ <;> (rw [set2_far (by omega)]; assumption)))
    (first
      | (go_at_call 45; refine (HCp.out _ ?_).mono ?_; (first | exact HpA.out | exact HpB.out | exact HpC.out); rintro e w5 ⟨G, rfl, hfill, hb5, hb15, ⟨⟨_, _⟩, _⟩⟩)
      | (go_at_call 46; (with_reducible have hh := HwB.out w5 hb15 hb5); refine hh.mono ?_; clear hh; rintro e w6 ⟨o, q, rfl, hfr, hb6, hb16, ⟨⟨_, _⟩, ⟨y0, y1⟩, ⟨f0, f1⟩⟩⟩)
      | (go_at_call 46; (with_reducible have hh := HwC.out w5 hb15 hb5); refine hh.mono ?_; clear hh; rintro e w6 ⟨o, q, rfl, hfr, hb6, hb16, ⟨⟨_, _⟩, ⟨y0, y1⟩, ⟨f0, f1⟩⟩⟩)
      | (go_at_call 46; refine (HwA.out w5 hb15).mono ?_; rintro e w6 ⟨o, q, rfl, hfr, hb6, hb16, ⟨⟨_, _⟩, ⟨y0, y1⟩, ⟨f0, f1⟩⟩⟩))
  all_goals
    have hR : w.heap.size + 1 < w1.heap.size := by have := HS1.out; omega
    have HRA : Hid (ReadsA ((w6.setCell ⟨w.heap.size + 1, 0, none⟩ (.slice (some ⟨G, 0, none⟩) m m)).setCell ⟨w.heap.size + 1, 1, none⟩ (.slice o (n + 1) q)) (.slice (some ⟨G, 0, none⟩) m m) ats) := by
      have h1 := ((hfill.2.below hb6).far (j := 0) (Nat.lt_of_lt_of_le hR hfill.1) (.slice (some ⟨G, 0, none⟩) m m)).far (j := 1) (Nat.lt_of_lt_of_le hR hfill.1) (.slice o (n + 1) q)
      have h2 := HM.out
      unfold Hid
      rw [h2] at h1 ⊢
      exact h1.reads (by omega) (by omega)
    have HRC : Hid (Reads ((w6.setCell ⟨w.heap.size + 1, 0, none⟩ (.slice (some ⟨G, 0, none⟩) m m)).setCell ⟨w.heap.size + 1, 1, none⟩ (.slice o (n + 1) q)) (.slice o (n + 1) q) (c ++ [12])) := ((hfr.set hR).set hR).reads
    have HBE : Hid (Below w.heap.size w w6) := HB1.out.trans (hb16.mono HB1.out.size)
    clear hfill hb5 hb15 hfr hb6 hb16
    go_wp2_with fail
    obtain ⟨m0, m1'⟩ := set2_cells (u0 := .slice (some ⟨G, 0, none⟩) m m) (u1 := .slice o (n + 1) q) y0 y1
    have hld := load_form m0 m1'
    refine bodyPost_ret (v := .tuple #[.agg #[.slice (some ⟨G, 0, none⟩) m m, .slice o (n + 1) q], .nilIface]) ?_ rfl ⟨_, _, rfl, HRA.out, HRC.out, ?_⟩
    · rw [results_cell_tmp rfl]
      simp [asAddr, Result.andThen, hld]
    · exact (HBE.out.setCell (by simp) _).setCell (by simp) _

/-- Negate, whatever the formula. -/
theorem negate_any (va vc : Value) (ats : List At) (c : List Int) (w : World) (hA : ReadsA w va ats) (hC : Reads w vc c) (hK : KindsLaid w) :
    Calls Tryd.prog 23 #[.agg #[va, vc]] w fun e w' => ∃ va' vc', e = .returned (.tuple #[.agg #[va', vc'], errV (negFault ats c)]) ∧ (negFault ats c = 0 → ReadsA w' va' ats ∧ Reads w' vc' (c ++ [12])) ∧ (¬ negFault ats c = 0 → va' = .slice none 0 0 ∧ vc' = .slice none 0 0) ∧ Below w.heap.size w w' := by
  by_cases hf : formFault ats c = 0
  · by_cases h19 : 19 < c.length
    · have e0 : negFault ats c = 4 := by unfold negFault; rw [if_pos hf, if_pos h19]
      have h20 : c.length = 20 := by have := (formFault_zero.1 hf).2.1; omega
      rw [e0]
      refine (negate_full va vc ats c w hA hC hK hf h20).mono ?_
      rintro e w' ⟨rfl, hb⟩
      exact ⟨_, _, rfl, fun h => (by cases h), fun _ => ⟨rfl, rfl⟩, hb⟩
    · have e0 : negFault ats c = 0 := by unfold negFault; rw [if_pos hf, if_neg h19]
      rw [e0, errV_0]
      refine (negate_good va vc ats c w hA hC hK hf (by omega)).mono ?_
      rintro e w' ⟨va', vc', rfl, h1, h2, hb⟩
      exact ⟨_, _, rfl, fun _ => ⟨h1, h2⟩, fun h => absurd rfl h, hb⟩
  · have e0 : negFault ats c = formFault ats c := by unfold negFault; rw [if_neg hf]
    rw [e0, errV_no hf]
    refine (negate_bad va vc ats c w hA hC hK hf).mono ?_
    rintro e w' ⟨rfl, hb⟩
    exact ⟨_, _, rfl, fun h => absurd h hf, fun _ => ⟨rfl, rfl⟩, hb⟩
end Go.Proofs.YtjaedfjfcghgcaaDoor

namespace Go.Proofs.YtjaedfjfcghgcaaDoor
open Go.RowKit

/-- an atom alone: what is wrong, and whether it holds. -/
theorem alone_fault {k n : Int} {t : List Int} (h : atomFault k t [] n = 0) : formFault [⟨k, t, [], n⟩] [0] = 0 := by
  refine formFault_zero.2 ⟨⟨by simp, by simp⟩, ⟨by simp, by simp⟩, fun a ha => ?_, by simp; decide, by decide⟩
  obtain rfl : a = ⟨k, t, [], n⟩ := by simpa using ha
  exact h
theorem alone_is {k n : Int} {t : List Int} (h : atomFault k t [] n = 0) {D : Wd} (hok : D.ok = true) : D.formIs [⟨k, t, [], n⟩] [0] = D.holds k t [] n := by
  have hb : ∀ b : Bool, valF [b] [0] = b := by intro b; cases b <;> rfl
  unfold Wd.formIs
  rw [if_pos (wdForm_zero.2 ⟨alone_fault h, hok⟩)]
  exact hb _
theorem many_fault {k n : Int} {t : List Int} (ht : faultN t = 0) (hk : k = 3 ∨ k = 4) (h0 : -20 ≤ n) (h1 : n ≤ 20) : atomFault k t [] n = 0 := by
  rcases hk with rfl | rfl
  · refine atomFault_zero.2 ⟨⟨by decide, by decide⟩, ht, by decide, ?_, ?_⟩
    · show -(20 : Int) ≤ n; omega
    · show n ≤ (20 : Int); omega
  · refine atomFault_zero.2 ⟨⟨by decide, by decide⟩, ht, by decide, ?_, ?_⟩
    · show -(20 : Int) ≤ n; omega
    · show n ≤ (20 : Int); omega
theorem least_is {n : Int} {t : List Int} (ht : faultN t = 0) (h0 : -20 ≤ n) (h1 : n ≤ 20) {D : Wd} (hok : D.ok = true) : D.formIs [⟨3, t, [], n⟩] [0] = decide (n ≤ pcN (D.val t)) := by
  rw [alone_is (many_fault ht (Or.inl rfl) h0 h1) hok]
  unfold Wd.holds saysB
  simp
theorem most_is {n : Int} {t : List Int} (ht : faultN t = 0) (h0 : -20 ≤ n) (h1 : n ≤ 20) {D : Wd} (hok : D.ok = true) : D.formIs [⟨4, t, [], n⟩] [0] = decide (pcN (D.val t) ≤ n) := by
  rw [alone_is (many_fault ht (Or.inr rfl) h0 h1) hok]
  unfold Wd.holds saysB
  simp
/-- two formulas are open just if there is a world in which both hold. -/
theorem open_two {f g : Fm} {u : Int} (hf : f.fault = 0) (hg : g.fault = 0) (hu : 0 ≤ u ∧ u ≤ 6) : formsFault [f, g] u = 0 ∧ (openB [f, g] u = true ↔ ∃ D : Wd, D.ok = true ∧ D.u = u ∧ D.formIs f.ats f.c = true ∧ D.formIs g.ats g.c = true) := by
  have hz : formsFault [f, g] u = 0 := by
    refine forms_zero.2 ⟨⟨by simp, by simp⟩, fun x hx => ?_, hu⟩
    rcases List.mem_cons.1 hx with rfl | hx
    · exact hf
    · obtain rfl : x = g := by simpa using hx
      exact hg
  refine ⟨hz, ?_⟩
  have eo : openB [f, g] u = openN [f, g] u.toNat := by unfold openB; rw [if_pos hz]
  rw [eo]
  constructor
  · intro h
    obtain ⟨D, h1, h2, h3⟩ := open_has (by omega) h
    unfold Wd.so at h3
    simp at h3
    exact ⟨D, h1, by omega, h3.1, h3.2⟩
  · rintro ⟨D, h1, h2, h3, h4⟩
    refine open_of h1 h2 ?_
    unfold Wd.so
    simp [h3, h4]
end Go.Proofs.YtjaedfjfcghgcaaDoor

namespace Go.Proofs.YtjaedfjfcghgcaaDoor
open Go.RowKit

theorem all_wrong (t : List Int) (u : Int) (ht : faultN t = 0) (hu : u < 0 ∨ 6 < u) : spanFault (manyA 4 0) [0] t u = 1 := by
  unfold spanFault
  rw [if_pos (by decide), if_pos ht, if_neg (by omega)]
theorem all_is {D : Wd} (hok : D.ok = true) : D.formIs (manyA 4 0) [0] = true := by
  unfold manyA
  rw [least_is (by decide) (by decide) (by decide) hok]
  exact decide_eq_true (pcN_le _).1
theorem none_ok (u : Nat) (hu : u ≤ 6) : (Wd.mk (u : Int) 0 0 0).ok = true := by
  have h : okB (u : Int) 0 = true := ok_zero (by omega) (by omega)
  exact Wd.ok_iff.2 ⟨h, h, h⟩
theorem full_ok (u : Nat) (hu : u ≤ 6) : (Wd.mk (u : Int) (allN u) (allN u) (allN u)).ok = true := by
  have h : okB (u : Int) (allN u) = true := okB_iff.2 ⟨by omega, by omega, (allN_le (by omega) (by omega)).1, Int.le_refl _⟩
  exact Wd.ok_iff.2 ⟨h, h, h⟩
theorem size_all : ∀ u : Nat, u < 7 → pcN (allN (u : Int)) = u := by decide
theorem size_four : ∀ u : Nat, u < 7 → pcN (doN 8 (u : Int) 0 0) = u := by decide
theorem size_le {u x : Int} (h : okB u x = true) : pcN x ≤ u := uptoSets (P := fun u x _ => pcN x ≤ u) (by decide +kernel) u x x h h
theorem all_zero {t : List Int} (ht : faultN t = 0) (u : Nat) (hu : u ≤ 6) : spanFault (manyA 4 0) [0] t (u : Int) = 0 := by
  refine span_zero.2 ⟨by decide, ht, ⟨by omega, by omega⟩, ?_⟩
  rw [Int.toNat_natCast]
  obtain ⟨D, hD, hl⟩ := worldsL_like (none_ok u hu) (u := u) rfl
  rcases span_hit (ats := manyA 4 0) (c := [0]) (t := t) (worldsL u) with ⟨_, h⟩ | ⟨_, ⟨E, _, _, e⟩⟩
  · have := h D hD
    rw [all_is (worldsL_ok hu hD)] at this
    exact absurd this (by decide)
  · have := (pcN_le (E.val t)).1
    show ¬ (spanOver (manyA 4 0) [0] t (worldsL u)).2 < 0
    omega
theorem all_four (u : Nat) (hu : u ≤ 6) : spanLo (manyA 4 0) [0] [4] (u : Int) = u ∧ spanHi (manyA 4 0) [0] [4] (u : Int) = u := by
  obtain ⟨_, ⟨D, d1, d2, _, d4⟩, ⟨E, e1, e2, _, e4⟩⟩ := span_ends (all_zero (t := [4]) (by decide) u hu)
  have h : ∀ F : Wd, F.u = u → pcN (F.val [4]) = u := fun F hF => by
    have : F.val [4] = doN 8 F.u 0 0 := rfl
    rw [this, hF]; exact size_four u (by omega)
  exact ⟨by rw [← d4, h D d2], by rw [← e4, h E e2]⟩
theorem all_three (u : Nat) (hu : u ≤ 6) : spanLo (manyA 4 0) [0] [3] (u : Int) = 0 ∧ spanHi (manyA 4 0) [0] [3] (u : Int) = 0 := by
  obtain ⟨_, ⟨D, d1, d2, _, d4⟩, ⟨E, e1, e2, _, e4⟩⟩ := span_ends (all_zero (t := [3]) (by decide) u hu)
  have h : ∀ F : Wd, pcN (F.val [3]) = 0 := fun F => by
    have : F.val [3] = 0 := rfl
    rw [this]; decide
  exact ⟨by rw [← d4, h D], by rw [← e4, h E]⟩
theorem all_name (k : Nat) (hk : k < 3) (ht : faultN [(k : Int)] = 0) (u : Nat) (hu : u ≤ 6) : spanLo (manyA 4 0) [0] [(k : Int)] (u : Int) = 0 ∧ spanHi (manyA 4 0) [0] [(k : Int)] (u : Int) = u := by
  have hz := all_zero ht u hu
  obtain ⟨⟨l0, _, _⟩, _, ⟨E, e1, e2, _, e4⟩⟩ := span_ends hz
  have a := span_world hz (none_ok u hu) rfl (all_is (none_ok u hu))
  have b := span_world hz (full_ok u hu) rfl (all_is (full_ok u hu))
  have v0 : pcN ((Wd.mk (u : Int) 0 0 0).val [(k : Int)]) = 0 := by
    rcases (by omega : k = 0 ∨ k = 1 ∨ k = 2) with rfl | rfl | rfl <;> rfl
  have v1 : pcN ((Wd.mk (u : Int) (allN u) (allN u) (allN u)).val [(k : Int)]) = u := by
    have : (Wd.mk (u : Int) (allN u) (allN u) (allN u)).val [(k : Int)] = allN u := by
      rcases (by omega : k = 0 ∨ k = 1 ∨ k = 2) with rfl | rfl | rfl <;> rfl
    rw [this]; exact size_all u (by omega)
  have h2 := size_le (ok_val e1 [(k : Int)])
  rw [e2] at h2
  exact ⟨by omega, by omega⟩
end Go.Proofs.YtjaedfjfcghgcaaDoor

namespace Go.Proofs.YtjaedfjfcghgcaaDoor
open Go.RowKit
set_option maxRecDepth 100000

theorem three_fault {k : Nat} (hk : k < 3) : faultN [(k : Int)] = 0 := by
  rcases (by omega : k = 0 ∨ k = 1 ∨ k = 2) with rfl | rfl | rfl <;> decide
theorem three_is {k : Nat} (hk : k < 3) {n : Int} (h0 : 0 ≤ n) (h1 : n ≤ 20) {D : Wd} (hok : D.ok = true) : D.formIs (manyA (k : Int) n) [0] = decide (n ≤ pcN (D.val [(k : Int)])) := by
  unfold manyA
  exact least_is (three_fault hk) (by omega) h1 hok
/-- a world in which a name has just so many things. -/
theorem some_many {k : Nat} (hk : k < 3) (u n : Nat) (hu : u ≤ 6) (hn : n ≤ u) : ∃ D : Wd, D.ok = true ∧ D.u = u ∧ pcN (D.val [(k : Int)]) = n := by
  have hle : allN (n : Int) ≤ allN (u : Int) := by
    rcases (by omega : u = 0 ∨ u = 1 ∨ u = 2 ∨ u = 3 ∨ u = 4 ∨ u = 5 ∨ u = 6) with rfl | rfl | rfl | rfl | rfl | rfl | rfl <;> rcases (by omega : n = 0 ∨ n = 1 ∨ n = 2 ∨ n = 3 ∨ n = 4 ∨ n = 5 ∨ n = 6) with rfl | rfl | rfl | rfl | rfl | rfl | rfl <;> first | decide | omega
  have h : okB (u : Int) (allN (n : Int)) = true := okB_iff.2 ⟨by omega, by omega, (allN_le (by omega) (by omega)).1, hle⟩
  refine ⟨⟨u, allN (n : Int), allN (n : Int), allN (n : Int)⟩, Wd.ok_iff.2 ⟨h, h, h⟩, rfl, ?_⟩
  have e : (Wd.mk (u : Int) (allN (n : Int)) (allN (n : Int)) (allN (n : Int))).val [(k : Int)] = allN (n : Int) := by
    rcases (by omega : k = 0 ∨ k = 1 ∨ k = 2) with rfl | rfl | rfl <;> rfl
  rw [e]
  exact size_all n (by omega)
theorem many_answer {k : Nat} (hk : k < 3) {n m u : Nat} (hn : n ≤ u) (hu : u ≤ 6) (hm : m ≤ 20) :
    askFault [⟨manyA (k : Int) (n : Int), [0]⟩] (manyA (k : Int) (m : Int)) [0] (u : Int) = 0 ∧ askN [⟨manyA (k : Int) (n : Int), [0]⟩] (manyA (k : Int) (m : Int)) [0] (u : Int) = if (m : Int) ≤ (n : Int) then 1 else if (u : Int) < (m : Int) then -1 else 0 := by
  have hso : ∀ D : Wd, D.ok = true → (D.so [⟨manyA (k : Int) (n : Int), [0]⟩] = true ↔ (n : Int) ≤ pcN (D.val [(k : Int)])) := fun D hok => by
    unfold Wd.so
    simp only [List.all_cons, List.all_nil, Bool.and_true]
    rw [three_is hk (by omega) (by omega) hok, decide_eq_true_iff]
  have his : ∀ D : Wd, D.ok = true → (D.formIs (manyA (k : Int) (m : Int)) [0] = true ↔ (m : Int) ≤ pcN (D.val [(k : Int)])) := fun D hok => by
    rw [three_is hk (by omega) (by omega) hok, decide_eq_true_iff]
  have ff : ∀ x : Nat, x ≤ 20 → formFault (manyA (k : Int) (x : Int)) [0] = 0 := fun x hx => alone_fault (many_fault (three_fault hk) (Or.inl rfl) (by omega) (by omega))
  have h1 : formsFault [⟨manyA (k : Int) (n : Int), [0]⟩] (u : Int) = 0 := forms_zero.2 ⟨⟨by simp, by simp⟩, fun f hf => by
    obtain rfl : f = ⟨manyA (k : Int) (n : Int), [0]⟩ := by simpa using hf
    exact ff n (by omega), by omega, by omega⟩
  obtain ⟨D1, d1, d2, d3⟩ := some_many hk u u hu (Nat.le_refl _)
  obtain ⟨D2, e1, e2, e3⟩ := some_many hk u n hu hn
  have hs1 := (hso D1 d1).2 (by rw [d3]; omega)
  have hs2 := (hso D2 e1).2 (by rw [e3]; omega)
  have hopen : ¬ (askP [⟨manyA (k : Int) (n : Int), [0]⟩] (manyA (k : Int) (m : Int)) [0] ((u : Int)).toNat).1 + (askP [⟨manyA (k : Int) (n : Int), [0]⟩] (manyA (k : Int) (m : Int)) [0] ((u : Int)).toNat).2 = 0 := fun h => by
    have h' := ask_open.1 h
    rw [open_of d1 (u := (u : Int)) d2 hs1] at h'
    exact absurd h' (by decide)
  have h0 : askFault [⟨manyA (k : Int) (n : Int), [0]⟩] (manyA (k : Int) (m : Int)) [0] (u : Int) = 0 := ask_zero.2 ⟨h1, ff m hm, hopen⟩
  refine ⟨h0, ?_⟩
  unfold askN
  rw [if_pos h0, Int.toNat_natCast]
  by_cases c1 : (m : Int) ≤ (n : Int)
  · rw [if_pos c1]
    refine answer_one.2 ((ask_no _ _ _ _).2 fun D hD hs => ?_)
    have hok := worldsL_ok hu hD
    exact (his D hok).2 (by have := (hso D hok).1 hs; omega)
  · rw [if_neg c1]
    have hno : ¬ (askP [⟨manyA (k : Int) (n : Int), [0]⟩] (manyA (k : Int) (m : Int)) [0] u).2 = 0 := fun h => by
      have := (his D2 e1).1 (ask_all_no h e1 e2 hs2)
      rw [e3] at this
      omega
    unfold answerN
    rw [if_neg hno]
    by_cases c2 : (u : Int) < (m : Int)
    · rw [if_pos c2, if_pos]
      refine (ask_yes _ _ _ _).2 fun D hD hs => ?_
      have hok := worldsL_ok hu hD
      cases hx : D.formIs (manyA (k : Int) (m : Int)) [0]
      · rfl
      · have h3 := (his D hok).1 hx
        have h4 := size_le (ok_val hok [(k : Int)])
        rw [worldsL_u hu hD] at h4
        omega
    · rw [if_neg c2, if_neg]
      intro h
      have h3 := ask_all_yes h d1 d2 hs1
      rw [(his D1 d1).2 (by rw [d3]; omega)] at h3
      exact absurd h3 (by decide)
end Go.Proofs.YtjaedfjfcghgcaaDoor
