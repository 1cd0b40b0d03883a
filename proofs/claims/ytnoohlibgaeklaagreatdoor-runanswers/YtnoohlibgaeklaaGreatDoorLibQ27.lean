/-
  Facts and contracts that the statement leans on.
-/
import Derived.Test.YtnoohlibgaeklaaGreatDoorLibQ26
import Derived.Test.YtnoohlibgaeklaaGreatDoorLibQ9
import Derived.Test.YtnoohlibgaeklaaGreatDoorLibQ10
import Derived.Test.YtnoohlibgaeklaaGreatDoorLibQ19
import Derived.Test.YtnoohlibgaeklaaGreatDoorLibQ4
import Derived.Test.YtnoohlibgaeklaaGreatDoorLibQ1
import Derived.Test.YtnoohlibgaeklaaGreatDoorLibQ23
import Derived.Test.YtnoohlibgaeklaaGreatDoorLibQ22
import Derived.Deep.Cut
namespace Go.Proofs.YtnoohlibgaeklaaGreatDoor
open Go.ChangeShapes Go.WideShapes Go.ChangeAt Go.RowKit
set_option maxRecDepth 100000
set_option maxHeartbeats 16000000
def FillB (R : Nat) (w : World) (v : Value) (ats : List At) : Prop := ∃ xs, w.ownsRow (R + 1) 71 4 v ats.length xs ∧ ∀ i a, ats[i]? = some a → AtomOf (R + 1) w xs i a
theorem FillB.below {R : Nat} {w w' : World} {v : Value} {ats : List At} (h : FillB R w v ats) (hb : Bw w w') : FillB R w' v ats := by
 obtain ⟨xs, h1, h2⟩ := h
 exact ⟨xs, ownsRow_below h1 hb, fun i a ha => (h2 i a ha).below hb⟩
theorem FillB.far {R j : Nat} {w : World} {v : Value} {ats : List At} (h : FillB R w v ats) (u : Value) : FillB R (w.setCell ⟨R, j, none⟩ u) v ats := by
 obtain ⟨xs, ⟨h1, h2⟩, h3⟩ := h
 refine ⟨xs, ⟨h1, ?_⟩, fun i a ha => (h3 i a ha).set (by omega) u⟩
 rcases h2 with h2 | ⟨g, cap, cur, hv, hg, hh, r⟩
 ·exact .inl h2
 ·refine .inr ⟨g, cap, cur, hv, hg, ?_, r⟩
  rw [RowKit.Below.heap_setCell _ _ _ _ (by simp; omega)]; exact hh
theorem FillB.reads {R : Nat} {w : World} {v : Value} {ats : List At} (h : FillB R w v ats) (h0 : 0 < ats.length) (h6 : ats.length ≤ 40) : ReadsA w v ats := by
 obtain ⟨xs, h1, h2⟩ := h
 rcases h1.2 with ⟨_, hz⟩ | ⟨g, cap, cur, rfl, hg, hh, hn, hm, _⟩
 ·omega
 refine Or.inr ⟨g, 0, cap, rfl, (ownsRow_block h1).2.1, h0, ⟨by omega, hn⟩, fun i a ha => ?_⟩
 have hi : i < ats.length := (List.getElem?_eq_some_iff.1 ha).1
 obtain ⟨vs, vt, e1, e2, e3, e4, f1, f2⟩ := h2 i a ha
 rw [Nat.zero_add]
 exact ⟨vs, vt, by rw [h1.cellAt _ (by omega)]; exact e1, by rw [h1.cellAt _ (by omega)]; exact e2, by rw [h1.cellAt _ (by omega)]; exact e3, by rw [h1.cellAt _ (by omega)]; exact e4, f1.reads, f2.reads⟩
theorem fresh_one {K : Nat} {w : World} {v : Value} {t : List Int} (h : Fresh K w v t) : v.oneCell' = true := by
 obtain ⟨o, c, rfl⟩ := fresh_slice h; rfl
theorem fillA_row {G : Nat} {w : World} {ats : List At} {m : Nat} (hm : m = ats.length) (h : FillA G w ats m m) (h0 : 0 < m) : ∃ xs, (⟨G, 0, m, m, xs⟩ : RowA).Lies w ∧ xs.length = m * 4 ∧ ∀ i a, ats[i]? = some a → AtomOf (G + 1) w xs i a := by
 obtain ⟨xs, h1, h2⟩ := h
 have hl : xs.length = m * 4 := h1.1
 refine ⟨xs, ⟨(ownsRow_block h1).2.1, h0, Nat.le_refl _, hl, fun x hx => ?_, fun j x hx => ?_⟩, hl, fun i a ha => h2 i a (by rw [hm]; exact (List.getElem?_eq_some_iff.1 ha).1) ha⟩
 ·have hx' : x ∈ xs := hx
  obtain ⟨j, hj, rfl⟩ := List.getElem_of_mem hx'
  have hj4 : j / 4 < ats.length := by omega
  obtain ⟨vs, vt, e1, e2, e3, e4, f1, f2⟩ := h2 (j / 4) ats[j / 4] (by omega) (List.getElem?_eq_getElem hj4)
  have hr : j % 4 = 0 ∨ j % 4 = 1 ∨ j % 4 = 2 ∨ j % 4 = 3 := by omega
  have hjj := List.getElem?_eq_getElem hj
  rcases hr with r | r | r | r
  ·rw [show j / 4 * 4 = j by omega] at e1
   rw [Option.some.inj (hjj.symm.trans e1)]; rfl
  ·rw [show j / 4 * 4 + 1 = j by omega] at e2
   rw [Option.some.inj (hjj.symm.trans e2)]; exact fresh_one f1
  ·rw [show j / 4 * 4 + 2 = j by omega] at e3
   rw [Option.some.inj (hjj.symm.trans e3)]; exact fresh_one f2
  ·rw [show j / 4 * 4 + 3 = j by omega] at e4
   rw [Option.some.inj (hjj.symm.trans e4)]; rfl
 ·have hx' : xs[j]? = some x := hx
  have hj : j < m * 4 := by have := (List.getElem?_eq_some_iff.1 hx').1; omega
  show w.cell? ⟨G, 0 + j, none⟩ = some x
  rw [Nat.zero_add, h1.cellAt j hj]; exact hx'
theorem atomOf_append {K1 K2 R : Nat} {w : World} {xs ys : List Value} {ats bts : List At} (hl : xs.length = ats.length * 4) (k1 : R + 1 ≤ K1) (k2 : R + 1 ≤ K2) (h1 : ∀ i a, ats[i]? = some a → AtomOf K1 w xs i a) (h2 : ∀ i a, bts[i]? = some a → AtomOf K2 w ys i a) : ∀ i a, (ats ++ bts)[i]? = some a → AtomOf (R + 1) w (xs ++ ys) i a := by
 intro i a ha
 by_cases hi : i < ats.length
 ·rw [List.getElem?_append_left hi] at ha
  obtain ⟨vs, vt, e1, e2, e3, e4, f1, f2⟩ := (h1 i a ha).mono k1
  exact ⟨vs, vt, by rw [List.getElem?_append_left (by omega)]; exact e1, by rw [List.getElem?_append_left (by omega)]; exact e2, by rw [List.getElem?_append_left (by omega)]; exact e3, by rw [List.getElem?_append_left (by omega)]; exact e4, f1, f2⟩
 ·rw [List.getElem?_append_right (by omega)] at ha
  obtain ⟨vs, vt, e1, e2, e3, e4, f1, f2⟩ := (h2 _ a ha).mono k2
  exact ⟨vs, vt, by rw [List.getElem?_append_right (by omega), show i * 4 - xs.length = (i - ats.length) * 4 by omega]; exact e1, by rw [List.getElem?_append_right (by omega), show i * 4 + 1 - xs.length = (i - ats.length) * 4 + 1 by omega]; exact e2, by rw [List.getElem?_append_right (by omega), show i * 4 + 2 - xs.length = (i - ats.length) * 4 + 2 by omega]; exact e3, by rw [List.getElem?_append_right (by omega), show i * 4 + 3 - xs.length = (i - ats.length) * 4 + 3 by omega]; exact e4, f1, f2⟩
theorem short_atoms {ats : List At} (hall : ∀ a ∈ ats, a.fault = 0) : ∀ a ∈ ats, a.s.length ≤ 40 ∧ a.t.length ≤ 40 := fun a ha => by
 have h0 := hall a ha
 obtain ⟨_, hs, ht, _⟩ := atomFault_zero.1 h0
 have h1 := (fault_zero.1 hs).2.1
 refine ⟨by omega, ?_⟩
 unfold secondFault at ht
 split at ht
 ·have := (fault_zero.1 ht).2.1; omega
 ·split at ht
  ·cases ht
  ·omega
theorem both_good (va vc vb vd : Value) (ats bts : List At) (c d : List Int) (w : World) (hA : ReadsA w va ats) (hC : Reads w vc c) (hA2 : ReadsA w vb bts) (hC2 : Reads w vd d) (hK : KindsLaid w) (hf : formFault ats c = 0) (hg : formFault bts d = 0) (hq : ¬ (6 < ats.length + bts.length ∨ 19 < c.length + d.length)) :
    Calls Tryz.prog 77 #[.agg #[va, vc], .agg #[vb, vd]] w fun e w' => ∃ va' vc', e = .returned (.tuple #[.agg #[va', vc'], .nilIface]) ∧ ReadsA w' va' (ats ++ bts) ∧ Reads w' vc' (c ++ (d.map (movedF ats.length) ++ [10])) ∧ Bw w w' := by
 obtain ⟨⟨a1, a6⟩, ⟨b1, _⟩, hall1, _, _⟩ := formFault_zero.1 hf
 obtain ⟨⟨a1', a6'⟩, ⟨b1', _⟩, hall2, hsg2, _⟩ := formFault_zero.1 hg
 have hs1 := short_atoms hall1
 have hs2 := short_atoms hall2
 have hmv : ∀ s ∈ d, takesF s = 0 → 0 ≤ s ∧ s ≤ 6 := fun s hs h0 => by
  rcases signF_iff.1 (List.all_eq_true.1 hsg2 s hs) with h | h
  ·exact absurd h0 h
  ·omega
 obtain ⟨ao, acap, rfl, _⟩ := hA.slice
 obtain ⟨co, ccap, rfl, _⟩ := hC.slice
 obtain ⟨bo, bcap, rfl, _⟩ := hA2.slice
 obtain ⟨eo, ecap, rfl, _⟩ := hC2.slice
 obtain ⟨m1, hm1⟩ := nm ats.length
 obtain ⟨n1, hn1⟩ := nm c.length
 obtain ⟨m2, hm2⟩ := nm bts.length
 obtain ⟨n2, hn2⟩ := nm d.length
 rw [← hm1] at hA ⊢
 rw [← hn1] at hC ⊢
 rw [← hm2] at hA2 ⊢
 rw [← hn2] at hC2 ⊢
 obtain ⟨w1, hw1⟩ := nm (((w.alloc (.cells #[.slice ao m1 acap, .slice co n1 ccap] 78)).alloc (.cells #[.slice bo m2 bcap, .slice eo n2 ecap] 78)).alloc (.cells #[.slice none 0 0, .slice none 0 0] 78))
 have HB1 : Hid (Bw w w1) := by unfold Hid; rw [hw1]; exact below_three _ _ _ _
 have HS1 : Hid (w1.heap.size = w.heap.size + 3) := by unfold Hid; rw [hw1]; simp
 have HX : Hid (∀ W, Bw w1 W → BoxB W w.heap.size (.slice ao m1 acap) (.slice co n1 ccap) (.slice bo m2 bcap) (.slice eo n2 ecap)) := fun W hW => BoxB.below (W := w1) (by rw [hw1]; exact boxB_alloc w _ _ _ _) (by have := HS1.out; omega) hW
 have HC1 : Hid (Calls Tryz.prog 78 #[.agg #[.slice ao m1 acap, .slice co n1 ccap]] w1 (Bk w1 (errV (formFault ats c)))) := fcheck_any _ _ ats c w1 (hA.below HB1.out) (hC.below HB1.out) (hK.below HB1.out)
 have HC2 : Hid (∀ W, Bw w1 W → Calls Tryz.prog 78 #[.agg #[.slice bo m2 bcap, .slice eo n2 ecap]] W (Bk W (errV (formFault bts d)))) := fun W hW => fcheck_any _ _ bts d W ((hA2.below HB1.out).below hW) ((hC2.below HB1.out).below hW) ((hK.below HB1.out).below hW)
 rw [hf, errV_0] at HC1
 rw [hg, errV_0] at HC2
 rw [← hm1] at a1 a6 hq
 rw [← hn1] at b1 hq
 rw [← hm2] at a1' a6' hq
 rw [← hn2] at b1' hq
 obtain ⟨R, hR⟩ := nm (w.heap.size + 2)
 have HR : Hid (R < w1.heap.size ∧ R = w.heap.size + 2) := ⟨by have := HS1.out; omega, hR⟩
 have HP1 : Hid (∀ W, Bw w1 W → Calls Tryz.prog 111 #[.slice ao m1 acap] W fun e w' => ∃ G1, e = .returned (.slice (some ⟨G1, 0, none⟩) m1 m1) ∧ (R < G1 ∧ FillA G1 w' ats m1 m1) ∧ Bw W w' ∧ Bw w1 w' ∧ BoxB w' w.heap.size (.slice ao m1 acap) (.slice co n1 ccap) (.slice bo m2 bcap) (.slice eo n2 ecap)) := fun W hW => by
  have := copies_any ats _ W ((hA.below HB1.out).below hW) (by omega) (by omega) hs1
  rw [← hm1] at this
  refine this.mono ?_
  rintro e w' ⟨G, hG, rfl, hfill, hb⟩
  have hb1 : Bw w1 w' := hW.trans (hb.mono hW.size)
  exact ⟨G, rfl, ⟨by have := HR.out.1; have := hW.size; omega, hfill⟩, hb, hb1, HX.out w' hb1⟩
 have HP2 : Hid (∀ W, Bw w1 W → Calls Tryz.prog 111 #[.slice bo m2 bcap] W fun e w' => ∃ G2, e = .returned (.slice (some ⟨G2, 0, none⟩) m2 m2) ∧ (R < G2 ∧ FillA G2 w' bts m2 m2) ∧ Bw W w' ∧ Bw w1 w' ∧ BoxB w' w.heap.size (.slice ao m1 acap) (.slice co n1 ccap) (.slice bo m2 bcap) (.slice eo n2 ecap)) := fun W hW => by
  have := copies_any bts _ W ((hA2.below HB1.out).below hW) (by omega) (by omega) hs2
  rw [← hm2] at this
  refine this.mono ?_
  rintro e w' ⟨G, hG, rfl, hfill, hb⟩
  have hb1 : Bw w1 w' := hW.trans (hb.mono hW.size)
  exact ⟨G, rfl, ⟨by have := HR.out.1; have := hW.size; omega, hfill⟩, hb, hb1, HX.out w' hb1⟩
 have HcA : Hid (∀ (W : World) (A G1 G2 : Nat), Bw w1 W → A < W.heap.size → W.cell? ⟨A, 0, none⟩ = some (.slice (some ⟨G1, 0, none⟩) m1 m1) → W.cell? ⟨A, 1, none⟩ = some (.slice (some ⟨G2, 0, none⟩) m2 m2) → (R < G1 ∧ FillA G1 W ats m1 m1) → (R < G2 ∧ FillA G2 W bts m2 m2) → Calls Tryz.prog 110 #[.slice (some ⟨A, 0, none⟩) 2 2] W fun e w' => ∃ oA qA, e = .returned (.slice oA (m1 + m2) qA) ∧ FillB R w' (.slice oA (m1 + m2) qA) (ats ++ bts) ∧ Bw W w' ∧ Bw w1 w' ∧ BoxB w' w.heap.size (.slice ao m1 acap) (.slice co n1 ccap) (.slice bo m2 bcap) (.slice eo n2 ecap)) := fun W A G1 G2 hW hA' c0 c1 hf1 hf2 => by
  obtain ⟨xs, lx, hxl, ax⟩ := fillA_row hm1 hf1.2 (by omega)
  obtain ⟨ys, ly, _, ay⟩ := fillA_row hm2 hf2.2 (by omega)
  have hmany : manyRA [⟨G1, 0, m1, m1, xs⟩, ⟨G2, 0, m2, m2, ys⟩] = m1 + m2 := by simp [manyRA]
  have hallA : allA [⟨G1, 0, m1, m1, xs⟩, ⟨G2, 0, m2, m2, ys⟩] = xs ++ ys := by simp [allA]
  refine (concatA [⟨G1, 0, m1, m1, xs⟩, ⟨G2, 0, m2, m2, ys⟩] A 2 W (by simp) hA' (fun k r hr => ?_) (fun r hr => ?_) (by rw [hmany]; omega) (by rw [hmany]; omega)).mono ?_
  ·match k, hr with
   | 0, hr => simp at hr; subst hr; exact c0
   | 1, hr => simp at hr; subst hr; exact c1
  ·simp only [List.mem_cons, List.mem_nil_iff, or_false] at hr
   rcases hr with rfl | rfl
   ·exact lx
   ·exact ly
  ·rintro e w' ⟨v, rfl, hown, hb'⟩
   rw [hmany, hallA] at hown
   have hb1 : Bw w1 w' := hW.trans (hb'.mono hW.size)
   have hlen : (ats ++ bts).length = m1 + m2 := by rw [List.length_append, ← hm1, ← hm2]
   have hv : ∃ oA qA, v = .slice oA (m1 + m2) qA := by
    rcases hown.2 with ⟨_, hz⟩ | ⟨g, cap, cur, rfl, _⟩
    ·omega
    ·exact ⟨_, cap, rfl⟩
   obtain ⟨oA, qA, rfl⟩ := hv
   refine ⟨oA, qA, rfl, ⟨xs ++ ys, ?_, ?_⟩, hb', hb1, HX.out w' hb1⟩
   ·rw [hlen]; exact World.ownsRow.mono hown (by have := HR.out.1; have := hW.size; omega)
   ·exact atomOf_append (K1 := G1 + 1) (K2 := G2 + 1) (by rw [hxl, hm1]) (by omega) (by omega) (fun i a ha => (ax i a ha).below hb') (fun i a ha => (ay i a ha).below hb')
 have HMv : Hid (∀ W, Bw w1 W → Calls Tryz.prog 113 #[.slice eo n2 ecap, .int .i64 m1] W fun e w' => ∃ om qm, e = .returned (.slice om n2 qm) ∧ Reads w' (.slice om n2 qm) (d.map (movedF m1)) ∧ Bw W w' ∧ Bw w1 w' ∧ BoxB w' w.heap.size (.slice ao m1 acap) (.slice co n1 ccap) (.slice bo m2 bcap) (.slice eo n2 ecap)) := fun W hW => by
  have := moved_any d _ m1 W ((hC2.below HB1.out).below hW) (by omega) (by omega) (by omega) hmv
  rw [← hn2] at this
  refine this.mono ?_
  rintro e w' ⟨om, qm, rfl, hfr, hb⟩
  have hb1 : Bw w1 w' := hW.trans (hb.mono hW.size)
  exact ⟨om, qm, rfl, hfr.reads, hb, hb1, HX.out w' hb1⟩
 have HcI : Hid (∀ (W : World) (A D : Nat) (om : Option Addr) (qm : Nat), Bw w1 W → A < W.heap.size → D < W.heap.size → W.cell? ⟨A, 0, none⟩ = some (.slice co n1 ccap) → W.cell? ⟨A, 1, none⟩ = some (.slice om n2 qm) → W.cell? ⟨A, 2, none⟩ = some (.slice (some ⟨D, 0, none⟩) 1 1) → W.cell? ⟨D, 0, none⟩ = some (.int .i64 10) → Reads W (.slice om n2 qm) (d.map (movedF m1)) → Calls Tryz.prog 112 #[.slice (some ⟨A, 0, none⟩) 3 3] W fun e w' => ∃ oI qI, e = .returned (.slice oI (n1 + n2 + 1) qI) ∧ Fresh (R + 1) w' (.slice oI (n1 + n2 + 1) qI) (c ++ (d.map (movedF m1) ++ [10])) ∧ Bw W w' ∧ Bw w1 w' ∧ BoxB w' w.heap.size (.slice ao m1 acap) (.slice co n1 ccap) (.slice bo m2 bcap) (.slice eo n2 ecap)) := fun W A D om qm hW hA' hD c0 c1 c2 d0 hrm => by
  have hml : (d.map (movedF m1)).length = n2 := by rw [List.length_map, ← hn2]
  rcases (hC.below HB1.out).below hW with ⟨_, _, _, hcn⟩ | ⟨B, off, cap, hv, hb, hb0, ⟨_, hcc⟩, hc⟩
  ·rw [hcn] at hn1; simp at hn1; omega
  rcases hrm with ⟨_, _, _, hmn⟩ | ⟨B', off', cap', hv', hb', hb0', ⟨_, hcc'⟩, hc'⟩
  ·rw [hmn] at hml; simp at hml; omega
  have ec : co = some ⟨B, off, none⟩ ∧ ccap = cap := by cases hv; exact ⟨rfl, rfl⟩
  have em : om = some ⟨B', off', none⟩ ∧ qm = cap' := by cases hv'; exact ⟨rfl, rfl⟩
  obtain ⟨rfl, rfl⟩ := ec
  obtain ⟨rfl, rfl⟩ := em
  have hl : ∀ r ∈ [rowI B off ccap c, rowI B' off' qm (d.map (movedF m1)), rowI D 0 1 [10]], r.Lies W := fun r hr => by
   simp only [List.mem_cons, List.mem_nil_iff, or_false] at hr
   rcases hr with rfl | rfl | rfl
   ·exact rowI_lies hb hb0 hcc hc
   ·exact rowI_lies hb' hb0' hcc' hc'
   ·refine rowI_lies hD (by simp) (by simp) (fun k hk => ?_)
    obtain rfl : k = 0 := by simpa using hk
    exact d0
  have hmany : manyI [rowI B off ccap c, rowI B' off' qm (d.map (movedF m1)), rowI D 0 1 [10]] = n1 + n2 + 1 := by
   simp [manyI, rowI, ← hn1, ← hn2]; omega
  have hallI : allI [rowI B off ccap c, rowI B' off' qm (d.map (movedF m1)), rowI D 0 1 [10]] = (c ++ (d.map (movedF m1) ++ [10])).map (Value.int .i64) := by simp [allI, rowI]
  refine (concatI [rowI B off ccap c, rowI B' off' qm (d.map (movedF m1)), rowI D 0 1 [10]] A 3 W (by simp) hA' (fun k r hr => ?_) hl (by rw [hmany]; omega) (by rw [hmany]; omega)).mono ?_
  ·match k, hr with
   | 0, hr => simp at hr; subst hr; simp only [rowI, ← hn1]; exact c0
   | 1, hr => simp at hr; subst hr; simp only [rowI, hml]; exact c1
   | 2, hr => simp at hr; subst hr; exact c2
  ·rintro e w' ⟨v, rfl, hown, hb''⟩
   rw [hmany, hallI] at hown
   have hlen : (c ++ (d.map (movedF m1) ++ [(10 : Int)])).length = n1 + n2 + 1 := by simp [← hn1, ← hn2]; omega
   have hfr : Fresh (R + 1) w' v (c ++ (d.map (movedF m1) ++ [10])) := by
    unfold Fresh
    rw [hlen]
    exact World.ownsRow.mono hown (by have := HR.out.1; have := hW.size; omega)
   obtain ⟨oI, qI, rfl⟩ := fresh_slice hfr
   have hb1 : Bw w1 w' := hW.trans (hb''.mono hW.size)
   rw [hlen] at hfr ⊢
   exact ⟨oI, qI, rfl, hfr, hb'', hb1, HX.out w' hb1⟩
 have HT : Hid (∀ W, Calls Tryz.prog 109 #[.int .i64 ((m1 : Int) + m2), .int .i64 ((n1 : Int) + n2 + 1)] W (Sk W (.bool false))) := fun W => by
  have := tooMany_any ((m1 : Int) + m2) ((n1 : Int) + n2 + 1) W
  rw [show (decide (6 < (m1 : Int) + m2) || decide (20 < (n1 : Int) + n2 + 1)) = false by simp; omega] at this
  exact this
 have HLn : Hid ((ats ++ bts).length = m1 + m2 ∧ 0 < m1 + m2 ∧ m1 + m2 ≤ 40) := ⟨by rw [List.length_append, ← hm1, ← hm2], by omega, by omega⟩
 have q1 : m1 ≤ 6 := by omega
 have q2 : m2 ≤ 6 := by omega
 have q3 : n1 ≤ 19 := by omega
 have q4 : n2 ≤ 19 := by omega
 clear hA hC hA2 hC2 hK hm1 hn1 hm2 hn2 hf hg hall1 hall2 hsg2 hs1 hs2 hmv hR a1 a6 b1 a1' a6' b1' hq
 obtain ⟨⟨x0, x1⟩, ⟨y0, y1⟩, _, _⟩ := HX.out w1 (Below.refl _ _)
 rw [hw1] at x0 x1 y0 y1
 go_enter Tryz.func77, Tryz.ntmps77
 go_wp2_with fail
 rw [← hw1]
 clear hw1 x0 x1 y0 y1
 go_at_call 78
 refine HC1.out.mono ?_
 rintro e w2 ⟨rfl, hb⟩
 have HB2 := hide hb
 clear hb
 obtain ⟨_, ⟨y0, y1⟩, _, _⟩ := HX.out w2 HB2.out
 go_wp2_with fail
 go_at_call 78
 refine (HC2.out _ HB2.out).mono ?_
 rintro e w3 ⟨rfl, hb⟩
 have HB3 := bt HB2 hb
 clear hb y0 y1 HC1 HC2
 obtain ⟨⟨x0, x1⟩, ⟨y0, y1⟩, _, _⟩ := HX.out w3 HB3.out
 go_wp2_with fail
 go_at_call 109
 refine (HT.out _).mono ?_
 rintro e w' ⟨rfl, rfl⟩
 clear HT
 have HA1 : Hid (∀ w6 G1 G2, Bw w1 w6 → (R < G1 ∧ FillA G1 w6 ats m1 m1) → (R < G2 ∧ FillA G2 w6 bts m2 m2) → Calls Tryz.prog 110 #[.slice (some ⟨w6.heap.size, 0, none⟩) 2 2] (w6.alloc (.cells #[.slice (some ⟨G1, 0, none⟩) m1 m1, .slice (some ⟨G2, 0, none⟩) m2 m2] 76)) (fun e w' => (∃ oA qA, e = .returned (.slice oA (m1 + m2) qA) ∧ FillB R w' (.slice oA (m1 + m2) qA) (ats ++ bts) ∧ Below (w6.alloc (.cells #[.slice (some ⟨G1, 0, none⟩) m1 m1, .slice (some ⟨G2, 0, none⟩) m2 m2] 76)).heap.size (w6.alloc (.cells #[.slice (some ⟨G1, 0, none⟩) m1 m1, .slice (some ⟨G2, 0, none⟩) m2 m2] 76)) w' ∧ Bw w1 w' ∧ BoxB w' w.heap.size (.slice ao m1 acap) (.slice co n1 ccap) (.slice bo m2 bcap) (.slice eo n2 ecap)))) := fun w6 G1 G2 hb h1 h2 => by
  have hb6 : Bw w6 (w6.alloc (.cells #[.slice (some ⟨G1, 0, none⟩) m1 m1, .slice (some ⟨G2, 0, none⟩) m2 m2] 76)) := below_alloc1 _ _
  exact HcA.out _ (w6.heap.size) G1 G2 (hb.trans (hb6.mono hb.size)) (by simp) (by simp) (by simp) ⟨h1.1, h1.2.below hb6⟩ ⟨h2.1, h2.2.below hb6⟩
 have HA2 : Hid (∀ w6 G1 G2, Bw w1 w6 → (R < G1 ∧ FillA G1 w6 ats m1 m1) → (R < G2 ∧ FillA G2 w6 bts m2 m2) → Calls Tryz.prog 110 #[.slice (some ⟨w6.heap.size + 1, 0, none⟩) 2 2] ((w6.alloc (.cells #[.int .i64 10] 3)).alloc (.cells #[.slice (some ⟨G1, 0, none⟩) m1 m1, .slice (some ⟨G2, 0, none⟩) m2 m2] 76)) (fun e w' => (∃ oA qA, e = .returned (.slice oA (m1 + m2) qA) ∧ FillB R w' (.slice oA (m1 + m2) qA) (ats ++ bts) ∧ Below ((w6.alloc (.cells #[.int .i64 10] 3)).alloc (.cells #[.slice (some ⟨G1, 0, none⟩) m1 m1, .slice (some ⟨G2, 0, none⟩) m2 m2] 76)).heap.size ((w6.alloc (.cells #[.int .i64 10] 3)).alloc (.cells #[.slice (some ⟨G1, 0, none⟩) m1 m1, .slice (some ⟨G2, 0, none⟩) m2 m2] 76)) w' ∧ Bw w1 w' ∧ BoxB w' w.heap.size (.slice ao m1 acap) (.slice co n1 ccap) (.slice bo m2 bcap) (.slice eo n2 ecap)))) := fun w6 G1 G2 hb h1 h2 => by
  have hb6 : Bw w6 ((w6.alloc (.cells #[.int .i64 10] 3)).alloc (.cells #[.slice (some ⟨G1, 0, none⟩) m1 m1, .slice (some ⟨G2, 0, none⟩) m2 m2] 76)) := (below_alloc1 _ _).trans ((below_alloc1 _ _).mono (by simp))
  have q : w6.heap.size + 1 = (w6.alloc (.cells #[.int .i64 10] 3)).heap.size := by simp
  exact HcA.out _ (w6.heap.size + 1) G1 G2 (hb.trans (hb6.mono hb.size)) (by simp) (by rw [q]; simp) (by rw [q]; simp) ⟨h1.1, h1.2.below hb6⟩ ⟨h2.1, h2.2.below hb6⟩
 have HA3 : Hid (∀ w6 G1 G2, Bw w1 w6 → (R < G1 ∧ FillA G1 w6 ats m1 m1) → (R < G2 ∧ FillA G2 w6 bts m2 m2) → Calls Tryz.prog 110 #[.slice (some ⟨w6.heap.size, 0, none⟩) 2 2] ((w6.alloc (.cells #[.slice (some ⟨G1, 0, none⟩) m1 m1, .slice (some ⟨G2, 0, none⟩) m2 m2] 76)).alloc (.cells #[.int .i64 10] 3)) (fun e w' => (∃ oA qA, e = .returned (.slice oA (m1 + m2) qA) ∧ FillB R w' (.slice oA (m1 + m2) qA) (ats ++ bts) ∧ Below ((w6.alloc (.cells #[.slice (some ⟨G1, 0, none⟩) m1 m1, .slice (some ⟨G2, 0, none⟩) m2 m2] 76)).alloc (.cells #[.int .i64 10] 3)).heap.size ((w6.alloc (.cells #[.slice (some ⟨G1, 0, none⟩) m1 m1, .slice (some ⟨G2, 0, none⟩) m2 m2] 76)).alloc (.cells #[.int .i64 10] 3)) w' ∧ Bw w1 w' ∧ BoxB w' w.heap.size (.slice ao m1 acap) (.slice co n1 ccap) (.slice bo m2 bcap) (.slice eo n2 ecap)))) := fun w6 G1 G2 hb h1 h2 => by
  have hb6 : Bw w6 ((w6.alloc (.cells #[.slice (some ⟨G1, 0, none⟩) m1 m1, .slice (some ⟨G2, 0, none⟩) m2 m2] 76)).alloc (.cells #[.int .i64 10] 3)) := (below_alloc1 _ _).trans ((below_alloc1 _ _).mono (by simp))
  exact HcA.out _ (w6.heap.size) G1 G2 (hb.trans (hb6.mono hb.size)) (by simp; omega) (by rw [World.cell?_alloc_lt _ _ ⟨w6.heap.size, 0, none⟩ (by simp)]; simp) (by rw [World.cell?_alloc_lt _ _ ⟨w6.heap.size, 1, none⟩ (by simp)]; simp) ⟨h1.1, h1.2.below hb6⟩ ⟨h2.1, h2.2.below hb6⟩
 have HI1 : Hid (∀ (w5 w6 w7 w8 : World) (G1 G2 : Nat) (om : Option Addr) (qm : Nat), Bw w1 w8 → Below ((w3.alloc (.cells #[.int .i64 10] 3)).drew).heap.size ((w3.alloc (.cells #[.int .i64 10] 3)).drew) w5 → Below (w5).heap.size (w5) w6 → Below (w6.alloc (.cells #[.slice (some ⟨G1, 0, none⟩) m1 m1, .slice (some ⟨G2, 0, none⟩) m2 m2] 76)).heap.size (w6.alloc (.cells #[.slice (some ⟨G1, 0, none⟩) m1 m1, .slice (some ⟨G2, 0, none⟩) m2 m2] 76)) w7 → Below (w7).heap.size (w7) w8 → Reads w8 (.slice om n2 qm) (d.map (movedF m1)) → Calls Tryz.prog 112 #[.slice (some ⟨w8.heap.size, 0, none⟩) 3 3] (w8.alloc (.cells #[.slice co n1 ccap, .slice om n2 qm, .slice (some ⟨w3.heap.size, 0, none⟩) 1 1] 62)) (fun e w' => ∃ oI qI, e = .returned (.slice oI (n1 + n2 + 1) qI) ∧ Fresh (R + 1) w' (.slice oI (n1 + n2 + 1) qI) (c ++ (d.map (movedF m1) ++ [10])) ∧ Bw w8 w' ∧ Bw w1 w' ∧ BoxB w' w.heap.size (.slice ao m1 acap) (.slice co n1 ccap) (.slice bo m2 bcap) (.slice eo n2 ecap))) := fun w5 w6 w7 w8 G1 G2 om qm hb k5 k6 k7 k8 hr => by
  have hlt : w3.heap.size < w8.heap.size := (by have := k5.size; have := k6.size; have := k7.size; have := k8.size; simp at *; omega)
  have hd : w8.cell? ⟨w3.heap.size, 0, none⟩ = some (.int .i64 10) := by
   rw [k8.cell (show (⟨w3.heap.size, 0, none⟩ : Addr).block < _ by have := k5.size; have := k6.size; have := k7.size; simp at *; omega)]
   rw [k7.cell (show (⟨w3.heap.size, 0, none⟩ : Addr).block < _ by have := k5.size; have := k6.size; simp at *; omega)]
   rw [World.cell?_alloc_lt _ _ ⟨w3.heap.size, 0, none⟩ (by have := k5.size; have := k6.size; simp at *; omega)]
   rw [k6.cell (show (⟨w3.heap.size, 0, none⟩ : Addr).block < _ by have := k5.size; simp at *; omega)]
   rw [k5.cell (show (⟨w3.heap.size, 0, none⟩ : Addr).block < _ by simp)]
   simp
  have hb8 : Bw w8 (w8.alloc (.cells #[.slice co n1 ccap, .slice om n2 qm, .slice (some ⟨w3.heap.size, 0, none⟩) 1 1] 62)) := below_alloc1 _ _
  refine (HcI.out _ w8.heap.size (w3.heap.size) om qm (hb.trans (hb8.mono hb.size)) (by simp) (by simp; omega) (by simp) (by simp) (by simp) ?_ (hr.below hb8)).mono ?_
  ·rw [World.cell?_alloc_lt _ _ ⟨w3.heap.size, 0, none⟩ hlt]; exact hd
  ·rintro e w' ⟨o, q, h1, h2, h3, h4, h5⟩
   exact ⟨o, q, h1, h2, hb8.trans (h3.mono hb8.size), h4, h5⟩
 have HI2 : Hid (∀ (w5 w6 w7 w8 : World) (G1 G2 : Nat) (om : Option Addr) (qm : Nat), Bw w1 w8 → Below (w5.alloc (.cells #[.int .i64 10] 3)).heap.size (w5.alloc (.cells #[.int .i64 10] 3)) w6 → Below (w6.alloc (.cells #[.slice (some ⟨G1, 0, none⟩) m1 m1, .slice (some ⟨G2, 0, none⟩) m2 m2] 76)).heap.size (w6.alloc (.cells #[.slice (some ⟨G1, 0, none⟩) m1 m1, .slice (some ⟨G2, 0, none⟩) m2 m2] 76)) w7 → Below (w7).heap.size (w7) w8 → Reads w8 (.slice om n2 qm) (d.map (movedF m1)) → Calls Tryz.prog 112 #[.slice (some ⟨w8.heap.size, 0, none⟩) 3 3] (w8.alloc (.cells #[.slice co n1 ccap, .slice om n2 qm, .slice (some ⟨w5.heap.size, 0, none⟩) 1 1] 62)) (fun e w' => ∃ oI qI, e = .returned (.slice oI (n1 + n2 + 1) qI) ∧ Fresh (R + 1) w' (.slice oI (n1 + n2 + 1) qI) (c ++ (d.map (movedF m1) ++ [10])) ∧ Bw w8 w' ∧ Bw w1 w' ∧ BoxB w' w.heap.size (.slice ao m1 acap) (.slice co n1 ccap) (.slice bo m2 bcap) (.slice eo n2 ecap))) := fun w5 w6 w7 w8 G1 G2 om qm hb k6 k7 k8 hr => by
  have hlt : w5.heap.size < w8.heap.size := (by have := k6.size; have := k7.size; have := k8.size; simp at *; omega)
  have hd : w8.cell? ⟨w5.heap.size, 0, none⟩ = some (.int .i64 10) := by
   rw [k8.cell (show (⟨w5.heap.size, 0, none⟩ : Addr).block < _ by have := k6.size; have := k7.size; simp at *; omega)]
   rw [k7.cell (show (⟨w5.heap.size, 0, none⟩ : Addr).block < _ by have := k6.size; simp at *; omega)]
   rw [World.cell?_alloc_lt _ _ ⟨w5.heap.size, 0, none⟩ (by have := k6.size; simp at *; omega)]
   rw [k6.cell (show (⟨w5.heap.size, 0, none⟩ : Addr).block < _ by simp)]
   simp
  have hb8 : Bw w8 (w8.alloc (.cells #[.slice co n1 ccap, .slice om n2 qm, .slice (some ⟨w5.heap.size, 0, none⟩) 1 1] 62)) := below_alloc1 _ _
  refine (HcI.out _ w8.heap.size (w5.heap.size) om qm (hb.trans (hb8.mono hb.size)) (by simp) (by simp; omega) (by simp) (by simp) (by simp) ?_ (hr.below hb8)).mono ?_
  ·rw [World.cell?_alloc_lt _ _ ⟨w5.heap.size, 0, none⟩ hlt]; exact hd
  ·rintro e w' ⟨o, q, h1, h2, h3, h4, h5⟩
   exact ⟨o, q, h1, h2, hb8.trans (h3.mono hb8.size), h4, h5⟩
 have HI3 : Hid (∀ (w6 w7 w8 : World) (G1 G2 : Nat) (om : Option Addr) (qm : Nat), Bw w1 w8 → Below ((w6.alloc (.cells #[.int .i64 10] 3)).alloc (.cells #[.slice (some ⟨G1, 0, none⟩) m1 m1, .slice (some ⟨G2, 0, none⟩) m2 m2] 76)).heap.size ((w6.alloc (.cells #[.int .i64 10] 3)).alloc (.cells #[.slice (some ⟨G1, 0, none⟩) m1 m1, .slice (some ⟨G2, 0, none⟩) m2 m2] 76)) w7 → Below (w7).heap.size (w7) w8 → Reads w8 (.slice om n2 qm) (d.map (movedF m1)) → Calls Tryz.prog 112 #[.slice (some ⟨w8.heap.size, 0, none⟩) 3 3] (w8.alloc (.cells #[.slice co n1 ccap, .slice om n2 qm, .slice (some ⟨w6.heap.size, 0, none⟩) 1 1] 62)) (fun e w' => ∃ oI qI, e = .returned (.slice oI (n1 + n2 + 1) qI) ∧ Fresh (R + 1) w' (.slice oI (n1 + n2 + 1) qI) (c ++ (d.map (movedF m1) ++ [10])) ∧ Bw w8 w' ∧ Bw w1 w' ∧ BoxB w' w.heap.size (.slice ao m1 acap) (.slice co n1 ccap) (.slice bo m2 bcap) (.slice eo n2 ecap))) := fun w6 w7 w8 G1 G2 om qm hb k7 k8 hr => by
  have hlt : w6.heap.size < w8.heap.size := (by have := k7.size; have := k8.size; simp at *; omega)
  have hd : w8.cell? ⟨w6.heap.size, 0, none⟩ = some (.int .i64 10) := by
   rw [k8.cell (show (⟨w6.heap.size, 0, none⟩ : Addr).block < _ by have := k7.size; simp at *; omega)]
   rw [k7.cell (show (⟨w6.heap.size, 0, none⟩ : Addr).block < _ by simp; omega)]
   rw [World.cell?_alloc_lt _ _ ⟨w6.heap.size, 0, none⟩ (by simp)]
   simp
  have hb8 : Bw w8 (w8.alloc (.cells #[.slice co n1 ccap, .slice om n2 qm, .slice (some ⟨w6.heap.size, 0, none⟩) 1 1] 62)) := below_alloc1 _ _
  refine (HcI.out _ w8.heap.size (w6.heap.size) om qm (hb.trans (hb8.mono hb.size)) (by simp) (by simp; omega) (by simp) (by simp) (by simp) ?_ (hr.below hb8)).mono ?_
  ·rw [World.cell?_alloc_lt _ _ ⟨w6.heap.size, 0, none⟩ hlt]; exact hd
  ·rintro e w' ⟨o, q, h1, h2, h3, h4, h5⟩
   exact ⟨o, q, h1, h2, hb8.trans (h3.mono hb8.size), h4, h5⟩
 have HI4 : Hid (∀ (w6 w7 w8 : World) (G1 G2 : Nat) (om : Option Addr) (qm : Nat), Bw w1 w8 → Below ((w6.alloc (.cells #[.slice (some ⟨G1, 0, none⟩) m1 m1, .slice (some ⟨G2, 0, none⟩) m2 m2] 76)).alloc (.cells #[.int .i64 10] 3)).heap.size ((w6.alloc (.cells #[.slice (some ⟨G1, 0, none⟩) m1 m1, .slice (some ⟨G2, 0, none⟩) m2 m2] 76)).alloc (.cells #[.int .i64 10] 3)) w7 → Below (w7).heap.size (w7) w8 → Reads w8 (.slice om n2 qm) (d.map (movedF m1)) → Calls Tryz.prog 112 #[.slice (some ⟨w8.heap.size, 0, none⟩) 3 3] (w8.alloc (.cells #[.slice co n1 ccap, .slice om n2 qm, .slice (some ⟨w6.heap.size + 1, 0, none⟩) 1 1] 62)) (fun e w' => ∃ oI qI, e = .returned (.slice oI (n1 + n2 + 1) qI) ∧ Fresh (R + 1) w' (.slice oI (n1 + n2 + 1) qI) (c ++ (d.map (movedF m1) ++ [10])) ∧ Bw w8 w' ∧ Bw w1 w' ∧ BoxB w' w.heap.size (.slice ao m1 acap) (.slice co n1 ccap) (.slice bo m2 bcap) (.slice eo n2 ecap))) := fun w6 w7 w8 G1 G2 om qm hb k7 k8 hr => by
  have hlt : w6.heap.size + 1 < w8.heap.size := (by have := k7.size; have := k8.size; simp at *; omega)
  have hd : w8.cell? ⟨w6.heap.size + 1, 0, none⟩ = some (.int .i64 10) := by
   have q : w6.heap.size + 1 = (w6.alloc (.cells #[.slice (some ⟨G1, 0, none⟩) m1 m1, .slice (some ⟨G2, 0, none⟩) m2 m2] 76)).heap.size := by simp
   rw [k8.cell (show (⟨w6.heap.size + 1, 0, none⟩ : Addr).block < _ by have := k7.size; simp at *; omega)]
   rw [k7.cell (show (⟨w6.heap.size + 1, 0, none⟩ : Addr).block < _ by simp)]
   rw [q]; simp
  have hb8 : Bw w8 (w8.alloc (.cells #[.slice co n1 ccap, .slice om n2 qm, .slice (some ⟨w6.heap.size + 1, 0, none⟩) 1 1] 62)) := below_alloc1 _ _
  refine (HcI.out _ w8.heap.size (w6.heap.size + 1) om qm (hb.trans (hb8.mono hb.size)) (by simp) (by simp; omega) (by simp) (by simp) (by simp) ?_ (hr.below hb8)).mono ?_
  ·rw [World.cell?_alloc_lt _ _ ⟨w6.heap.size + 1, 0, none⟩ hlt]; exact hd
  ·rintro e w' ⟨o, q, h1, h2, h3, h4, h5⟩
   exact ⟨o, q, h1, h2, hb8.trans (h3.mono hb8.size), h4, h5⟩
 have HI5 : Hid (∀ (w7 w8 : World) (om : Option Addr) (qm : Nat), Bw w1 w8 → Below (w7.alloc (.cells #[.int .i64 10] 3)).heap.size (w7.alloc (.cells #[.int .i64 10] 3)) w8 → Reads w8 (.slice om n2 qm) (d.map (movedF m1)) → Calls Tryz.prog 112 #[.slice (some ⟨w8.heap.size, 0, none⟩) 3 3] (w8.alloc (.cells #[.slice co n1 ccap, .slice om n2 qm, .slice (some ⟨w7.heap.size, 0, none⟩) 1 1] 62)) (fun e w' => ∃ oI qI, e = .returned (.slice oI (n1 + n2 + 1) qI) ∧ Fresh (R + 1) w' (.slice oI (n1 + n2 + 1) qI) (c ++ (d.map (movedF m1) ++ [10])) ∧ Bw w8 w' ∧ Bw w1 w' ∧ BoxB w' w.heap.size (.slice ao m1 acap) (.slice co n1 ccap) (.slice bo m2 bcap) (.slice eo n2 ecap))) := fun w7 w8 om qm hb k8 hr => by
  have hlt : w7.heap.size < w8.heap.size := (by have := k8.size; simp at *; omega)
  have hd : w8.cell? ⟨w7.heap.size, 0, none⟩ = some (.int .i64 10) := by
   rw [k8.cell (show (⟨w7.heap.size, 0, none⟩ : Addr).block < _ by simp)]
   simp
  have hb8 : Bw w8 (w8.alloc (.cells #[.slice co n1 ccap, .slice om n2 qm, .slice (some ⟨w7.heap.size, 0, none⟩) 1 1] 62)) := below_alloc1 _ _
  refine (HcI.out _ w8.heap.size (w7.heap.size) om qm (hb.trans (hb8.mono hb.size)) (by simp) (by simp; omega) (by simp) (by simp) (by simp) ?_ (hr.below hb8)).mono ?_
  ·rw [World.cell?_alloc_lt _ _ ⟨w7.heap.size, 0, none⟩ hlt]; exact hd
  ·rintro e w' ⟨o, q, h1, h2, h3, h4, h5⟩
   exact ⟨o, q, h1, h2, hb8.trans (h3.mono hb8.size), h4, h5⟩
 have HI6 : Hid (∀ (w8 : World) (om : Option Addr) (qm : Nat), Bw w1 w8 → Reads w8 (.slice om n2 qm) (d.map (movedF m1)) → Calls Tryz.prog 112 #[.slice (some ⟨w8.heap.size + 1, 0, none⟩) 3 3] ((w8.alloc (.cells #[.int .i64 10] 3)).alloc (.cells #[.slice co n1 ccap, .slice om n2 qm, .slice (some ⟨w8.heap.size, 0, none⟩) 1 1] 62)) (fun e w' => ∃ oI qI, e = .returned (.slice oI (n1 + n2 + 1) qI) ∧ Fresh (R + 1) w' (.slice oI (n1 + n2 + 1) qI) (c ++ (d.map (movedF m1) ++ [10])) ∧ Bw w8 w' ∧ Bw w1 w' ∧ BoxB w' w.heap.size (.slice ao m1 acap) (.slice co n1 ccap) (.slice bo m2 bcap) (.slice eo n2 ecap))) := fun w8 om qm hb hr => by
  have q : w8.heap.size + 1 = (w8.alloc (.cells #[.int .i64 10] 3)).heap.size := by simp
  have hb8 : Bw w8 ((w8.alloc (.cells #[.int .i64 10] 3)).alloc (.cells #[.slice co n1 ccap, .slice om n2 qm, .slice (some ⟨w8.heap.size, 0, none⟩) 1 1] 62)) := (below_alloc1 _ _).trans ((below_alloc1 _ _).mono (by simp))
  refine (HcI.out _ (w8.heap.size + 1) w8.heap.size om qm (hb.trans (hb8.mono hb.size)) (by simp) (by simp; omega) (by rw [q]; simp) (by rw [q]; simp) (by rw [q]; simp) ?_ (hr.below hb8)).mono ?_
  ·rw [World.cell?_alloc_lt _ _ ⟨w8.heap.size, 0, none⟩ (by simp)]; simp
  ·rintro e w' ⟨o, q, h1, h2, h3, h4, h5⟩
   exact ⟨o, q, h1, h2, hb8.trans (h3.mono hb8.size), h4, h5⟩
 have Hp1 := hide (HB3.out.drew)
 have Hp2 : Hid (Bw w1 (w3.alloc (.cells #[.int .i64 10] 3)).drew) := (HB3.out.alloc HB3.out.size _).drew
 have Hal : Hid (∀ W, Bw w1 W → Bw w1 (W.alloc (.cells #[.int .i64 10] 3))) := fun W h => h.alloc h.size _
 have HBl : Hid (∀ W, Bw W (W.alloc (.cells #[.int .i64 10] 3))) := fun W => below_alloc1 _ _
 clear HcA HcI
 go_wp2_with fail
 go_region_held3 (fun w' => w'.cell? ⟨w.heap.size, 0, none⟩ = some (.slice ao m1 acap) ∧ w'.cell? ⟨w.heap.size, 1, none⟩ = some (.slice co n1 ccap) ∧ w'.cell? ⟨w.heap.size + 1, 0, none⟩ = some (.slice bo m2 bcap) ∧ w'.cell? ⟨w.heap.size + 1, 1, none⟩ = some (.slice eo n2 ecap)) (first | (go_keep; done) | ((try dsimp only); (repeat' apply And.intro) <;> (first | (go_keep; done) | (go_split_ands; rw [set2_far (by omega)]; assumption))))
  (first
   | (go_at_call_of 111 ao; refine (HP1.out _ ?_).mono ?_; (first | (with_reducible exact Hp1.out) | (with_reducible exact Hp2.out)); rintro e w5 ⟨G1, rfl, hf1, hb5, hb15, ⟨⟨_, _⟩, ⟨_, _⟩, _⟩⟩)
   | (go_at_call_of 111 bo; refine (HP2.out _ ?_).mono ?_; (first | (with_reducible exact hb15) | (with_reducible exact Hal.out _ hb15)); rintro e w6 ⟨G2, rfl, hf2, hb6, hb16, ⟨⟨_, _⟩, ⟨_, _⟩, _⟩⟩; (first | (with_reducible have hb56 : Bw w5 w6 := hb6) | (have hb56 : Bw w5 w6 := (HBl.out w5).trans (hb6.mono (HBl.out w5).size))); have hf1' : R < G1 ∧ FillA G1 w6 ats m1 m1 := ⟨hf1.1, hf1.2.below hb56⟩)
   | (go_at_call 110; (with_reducible refine (HA2.out w6 G1 G2 hb16 hf1' hf2).mono ?_); rintro e w7 ⟨oA, qA, rfl, hfA, hb7, hb17, ⟨⟨_, _⟩, ⟨_, _⟩, _⟩⟩)
   | (go_at_call 110; (with_reducible refine (HA1.out w6 G1 G2 hb16 hf1' hf2).mono ?_); rintro e w7 ⟨oA, qA, rfl, hfA, hb7, hb17, ⟨⟨_, _⟩, ⟨_, _⟩, _⟩⟩)
   | (go_at_call 110; (with_reducible refine (HA3.out w6 G1 G2 hb16 hf1' hf2).mono ?_); rintro e w7 ⟨oA, qA, rfl, hfA, hb7, hb17, ⟨⟨_, _⟩, ⟨_, _⟩, _⟩⟩)
   | (go_at_call 113; refine (HMv.out _ ?_).mono ?_; (first | (with_reducible exact hb17) | (with_reducible exact Hal.out _ hb17)); rintro e w8 ⟨om, qm, rfl, hrm, hb8, hb18, ⟨⟨_, _⟩, ⟨_, _⟩, _⟩⟩)
   | (go_at_call 112; (with_reducible have hh := HI1.out w5 w6 w7 w8 G1 G2 om qm hb18 hb5 hb6 hb7 hb8 hrm); refine hh.mono ?_; clear hh; rintro e w9 ⟨oI, qI, rfl, hfI, hb9, hb19, ⟨⟨_, _⟩, ⟨_, _⟩, ⟨z0, z1⟩, ⟨f0, f1⟩⟩⟩)
   | (go_at_call 112; (with_reducible have hh := HI2.out w5 w6 w7 w8 G1 G2 om qm hb18 hb6 hb7 hb8 hrm); refine hh.mono ?_; clear hh; rintro e w9 ⟨oI, qI, rfl, hfI, hb9, hb19, ⟨⟨_, _⟩, ⟨_, _⟩, ⟨z0, z1⟩, ⟨f0, f1⟩⟩⟩)
   | (go_at_call 112; (with_reducible have hh := HI3.out w6 w7 w8 G1 G2 om qm hb18 hb7 hb8 hrm); refine hh.mono ?_; clear hh; rintro e w9 ⟨oI, qI, rfl, hfI, hb9, hb19, ⟨⟨_, _⟩, ⟨_, _⟩, ⟨z0, z1⟩, ⟨f0, f1⟩⟩⟩)
   | (go_at_call 112; (with_reducible have hh := HI4.out w6 w7 w8 G1 G2 om qm hb18 hb7 hb8 hrm); refine hh.mono ?_; clear hh; rintro e w9 ⟨oI, qI, rfl, hfI, hb9, hb19, ⟨⟨_, _⟩, ⟨_, _⟩, ⟨z0, z1⟩, ⟨f0, f1⟩⟩⟩)
   | (go_at_call 112; (with_reducible have hh := HI5.out w7 w8 om qm hb18 hb8 hrm); refine hh.mono ?_; clear hh; rintro e w9 ⟨oI, qI, rfl, hfI, hb9, hb19, ⟨⟨_, _⟩, ⟨_, _⟩, ⟨z0, z1⟩, ⟨f0, f1⟩⟩⟩)
   | (go_at_call 112; (with_reducible refine (HI6.out w8 om qm hb18 hrm).mono ?_); rintro e w9 ⟨oI, qI, rfl, hfI, hb9, hb19, ⟨⟨_, _⟩, ⟨_, _⟩, ⟨z0, z1⟩, ⟨f0, f1⟩⟩⟩))
 all_goals
  have hb78 : Bw w7 w8 := by first | (with_reducible exact hb8) | exact (HBl.out w7).trans (hb8.mono (HBl.out w7).size)
  have hR2 : R = w.heap.size + 1 + 1 := HR.out.2
  have HRA : Hid (ReadsA ((w9.setCell ⟨w.heap.size + 1 + 1, 0, none⟩ (.slice oA (m1 + m2) qA)).setCell ⟨w.heap.size + 1 + 1, 1, none⟩ (.slice oI (n1 + n2 + 1) qI)) (.slice oA (m1 + m2) qA) (ats ++ bts)) := by
   have h1 := ((hfA.below (hb78.trans (hb9.mono hb78.size))).far (j := 0) (.slice oA (m1 + m2) qA)).far (j := 1) (.slice oI (n1 + n2 + 1) qI)
   have h2 := HLn.out
   rw [hR2] at h1
   exact h1.reads (by omega) (by omega)
  have HRC : Hid (Reads ((w9.setCell ⟨w.heap.size + 1 + 1, 0, none⟩ (.slice oA (m1 + m2) qA)).setCell ⟨w.heap.size + 1 + 1, 1, none⟩ (.slice oI (n1 + n2 + 1) qI)) (.slice oI (n1 + n2 + 1) qI) (c ++ (d.map (movedF m1) ++ [10]))) := by
   rw [hR2] at hfI
   exact ((hfI.set (by omega)).set (by omega)).reads
  have HBE := bt HB1 hb19
  clear hfA hfI hb5 hb6 hb7 hb8 hb9 hb15 hb16 hb17 hb18 hb19 hf1 hf2 hf1' hrm hb78 hR2
  go_wp2_with fail
  obtain ⟨k0, k1⟩ := set2_cells (w := w9) (R := w.heap.size + 1 + 1) (u0 := .slice oA (m1 + m2) qA) (u1 := .slice oI (n1 + n2 + 1) qI) z0 z1
  have hld := load_form k0 k1
  refine bodyPost_ret (v := .tuple #[.agg #[.slice oA (m1 + m2) qA, .slice oI (n1 + n2 + 1) qI], .nilIface]) ?_ rfl ⟨_, _, rfl, HRA.out, HRC.out, ?_⟩
  ·rw [results_cell_tmp rfl]
   simp [asAddr, Result.andThen, hld]
  ·exact (HBE.out.setCell (show w.heap.size ≤ w.heap.size + 1 + 1 by omega) _).setCell (show w.heap.size ≤ w.heap.size + 1 + 1 by omega) _
def bothFault (ats bts : List At) (c d : List Int) : Int := if formFault ats c = 0 then (if formFault bts d = 0 then (if 6 < ats.length + bts.length ∨ 19 < c.length + d.length then 4 else 0) else formFault bts d) else formFault ats c
structure LogOk (w : World) (Rep : Addr → Lg → (Nat → Prop) → World → Prop) : Prop where
 same : ∀ p l S W W', Rep p l S W → W.heap.size ≤ W'.heap.size → (∀ b, S b → W'.heap[b]? = W.heap[b]?) → Rep p l S W'
 lt : ∀ p l S W, Rep p l S W → ∀ b, S b → b < W.heap.size
 new : ∀ (u : Int) W, Bw w W → 0 ≤ u ∧ u ≤ 6 → Calls Tryz.prog 10 #[.int .i64 u] W fun e w' => ∃ p S, e = .returned (.tuple #[.pointer (some p), .nilIface]) ∧ Rep p (lg0 u) S w' ∧ (∀ b, S b → W.heap.size ≤ b) ∧ Bw W w'
 newE : ∀ (u : Int) W, Bw w W → ¬ (0 ≤ u ∧ u ≤ 6) → Calls Tryz.prog 10 #[.int .i64 u] W fun e w' => ∃ q, e = .returned (.tuple #[.pointer q, .iface 91 (.int .i64 1)]) ∧ Bw W w'
 say : ∀ p l S W (a : At) (h : Bool) vs vt, Bw w W → Rep p l S W → Reads W vs a.s → Reads W vt a.t → Calls Tryz.prog 62 #[.pointer (some p), .agg #[.int .i64 a.k, vs, vt, .int .i64 a.n], .bool h] W fun e w' => ∃ n S', (2 ≤ n ∧ n ≤ 1000000) ∧ e = .returned (errV (l.sayE a h)) ∧ Rep p (l.say a h n) S' w' ∧ LKeep S W w' ∧ Grows S S' W
 all : ∀ p l S W, Bw w W → Rep p l S W → Calls Tryz.prog 37 #[.pointer (some p)] W fun e w' => ∃ v, e = .returned v ∧ ReadsF w' v l.fs ∧ Rep p l S w' ∧ Bw W w'
theorem LogOk.step {w : World} {Rep : Addr → Lg → (Nat → Prop) → World → Prop} (h : LogOk w Rep) {p : Addr} {l : Lg} {S : Nat → Prop} {W W' : World} (hr : Rep p l S W) (hb : Bw W W') : Rep p l S W' :=
 h.same p l S W W' hr hb.size fun b hs => hb.block b (h.lt p l S W hr b hs)
theorem cell_off {w : World} {G : Nat} {T : TypeId} {o1 o2 : Option Addr} {l1 c1 l2 c2 : Nat} (hb : Blk w G T #[.slice o1 l1 c1, .slice o2 l2 c2]) {b off : Nat} {n : Int} (h : w.cell? ⟨b, off, none⟩ = some (.int .i64 n)) : b ≠ G := fun e => by
 subst e
 have hc := hb.cell off
 rw [h] at hc
 rcases (by omega : off = 0 ∨ off = 1 ∨ 2 ≤ off) with rfl | rfl | h2
 ·simp at hc
 ·simp at hc
 ·rw [Array.getElem?_eq_none (by simpa using h2)] at hc; cases hc
theorem cell_put {w : World} {G j b off : Nat} (u : Value) (h : b ≠ G) : (w.setCell ⟨G, j, none⟩ u).cell? ⟨b, off, none⟩ = w.cell? ⟨b, off, none⟩ := World.cell?_of_block (Below.heap_setCell _ _ _ _ h)
theorem size_put (w : World) (p : Addr) (u : Value) : (w.setCell p u).heap.size = w.heap.size := by simp [World.setCell]
theorem Reads.put {w : World} {v : Value} {t : List Int} (h : Reads w v t) {G : Nat} {T : TypeId} {o1 o2 : Option Addr} {l1 c1 l2 c2 : Nat} (hb : Blk w G T #[.slice o1 l1 c1, .slice o2 l2 c2]) (j : Nat) (u : Value) : Reads (w.setCell ⟨G, j, none⟩ u) v t := by
 rcases h with h | ⟨b, off, cap, h1, h2, h3, h4, h5⟩
 ·exact Or.inl h
 ·exact Or.inr ⟨b, off, cap, h1, by rw [size_put]; exact h2, h3, h4, fun k hk => by rw [cell_put u (cell_off hb (h5 k hk))]; exact h5 k hk⟩
theorem ReadsA.put {w : World} {v : Value} {ats : List At} (h : ReadsA w v ats) {G : Nat} {T : TypeId} {o1 o2 : Option Addr} {l1 c1 l2 c2 : Nat} (hb : Blk w G T #[.slice o1 l1 c1, .slice o2 l2 c2]) (j : Nat) (u : Value) : ReadsA (w.setCell ⟨G, j, none⟩ u) v ats := by
 rcases h with h | ⟨b, off, cap, h1, h2, h3, h4, h5⟩
 ·exact Or.inl h
 ·refine Or.inr ⟨b, off, cap, h1, by rw [size_put]; exact h2, h3, h4, fun i a hi => ?_⟩
  obtain ⟨vs, vt, k0, k1, k2, k3, r1, r2⟩ := h5 i a hi
  have hne := cell_off hb k0
  exact ⟨vs, vt, by rw [cell_put u hne]; exact k0, by rw [cell_put u hne]; exact k1, by rw [cell_put u hne]; exact k2, by rw [cell_put u hne]; exact k3, r1.put hb j u, r2.put hb j u⟩
def BoxF (w : World) (G : Nat) (f : Fm) : Prop := ∃ o1 l1 c1 o2 l2 c2, Blk w G 78 #[.slice o1 l1 c1, .slice o2 l2 c2] ∧ ReadsA w (.slice o1 l1 c1) f.ats ∧ Reads w (.slice o2 l2 c2) f.c
theorem BoxF.below {w w' : World} {G : Nat} {f : Fm} (h : BoxF w G f) (hb : Bw w w') : BoxF w' G f := by
 obtain ⟨o1, l1, c1, o2, l2, c2, h1, h2, h3⟩ := h
 exact ⟨o1, l1, c1, o2, l2, c2, h1.below hb, h2.below hb, h3.below hb⟩
theorem BoxF.put {w : World} {G : Nat} {o1 o2 p1 p2 : Option Addr} {l1 c1 l2 c2 m1 d1 m2 d2 : Nat} {f : Fm} (hb : Blk w G 78 #[.slice p1 m1 d1, .slice p2 m2 d2]) (hA : ReadsA w (.slice o1 l1 c1) f.ats) (hC : Reads w (.slice o2 l2 c2) f.c) :
    BoxF ((w.setCell ⟨G, 0, none⟩ (.slice o1 l1 c1)).setCell ⟨G, 1, none⟩ (.slice o2 l2 c2)) G f := by
 have hb1 : Blk (w.setCell ⟨G, 0, none⟩ (.slice o1 l1 c1)) G 78 #[.slice o1 l1 c1, .slice p2 m2 d2] := hb.set 0 _
 exact ⟨o1, l1, c1, o2, l2, c2, hb1.set 1 _, (hA.put hb 0 _).put hb1 1 _, (hC.put hb 0 _).put hb1 1 _⟩
structure LS2 (w : World) (Rep : Addr → Lg → (Nat → Prop) → World → Prop) (p : Addr) (l : Lg) (S : Nat → Prop) (W : World) : Prop where
 bel : Bw w W
 rep : Rep p l S W
 ge : ∀ b, S b → w.heap.size ≤ b
theorem LS2.step {w : World} {Rep : Addr → Lg → (Nat → Prop) → World → Prop} (hok : LogOk w Rep) {p : Addr} {l : Lg} {S : Nat → Prop} {W W' : World} (h : LS2 w Rep p l S W) (hb : Bw W W') : LS2 w Rep p l S W' :=
 ⟨h.bel.trans (hb.mono h.bel.size), hok.step h.rep hb, h.ge⟩
theorem LS2.move {w : World} {Rep : Addr → Lg → (Nat → Prop) → World → Prop} {p : Addr} {l l' : Lg} {S S' : Nat → Prop} {W W' : World} (h : LS2 w Rep p l S W) (hr : Rep p l' S' W') (hk : LKeep S W W') (hg : Grows S S' W) : LS2 w Rep p l' S' W' :=
 ⟨h.bel.trans (hk.below h.ge h.bel.size), hr, hg.ge h.ge h.bel.size⟩
theorem wcheck_ok (n : Nat) (hn : n ≤ 6) (w : World) : Calls Tryz.prog 79 #[.int .i64 n] w (Sk w .nilIface) := by
 have h : okB (n : Int) 0 = true := ok_zero (by omega) (by omega)
 go_enter Tryz.func79, Tryz.ntmps79
 go_wp2_with fail
 go_at_call 32
 refine (check_ok _ _ h _).mono ?_
 rintro e w' ⟨rfl, rfl⟩
 go_wp2
 go_ret
 exact ⟨rfl, rfl⟩
theorem wcheck_no (u : Int) (hu : ¬ (0 ≤ u ∧ u ≤ 6)) (w : World) : Calls Tryz.prog 79 #[.int .i64 u] w (Sk w (.iface 91 (.int .i64 1))) := by
 have h : okB u 0 = false := okB_not.2 fun h => hu ⟨h.1, h.2.1⟩
 go_enter Tryz.func79, Tryz.ntmps79
 go_wp2_with fail
 go_at_call 32
 refine (check_no _ _ h _).mono ?_
 rintro e w' ⟨rfl, rfl⟩
 go_wp2
 go_ret
 exact ⟨rfl, rfl⟩
theorem walike_any (N : Nat → Int) (h0 : countsFault N = 0) (w : World) :
    Calls Tryz.prog 82 #[.agg #[.int .i64 (N 0), .int .i64 (N 1), .int .i64 (N 2), .int .i64 (N 3), .int .i64 (N 4), .int .i64 (N 5), .int .i64 (N 6), .int .i64 (N 7)]] w (Bk w (.int .i64 (likeN N))) := by
 obtain ⟨hlk, hlay⟩ := lay_right h0
 have HLK := hide hlk
 have HLY := hide hlay
 have HN : Hid (∀ f, f < 8 → 0 ≤ N f ∧ N f ≤ 6) := (counts_zero.1 h0).1
 clear h0 hlk hlay
 obtain ⟨w1, hw1⟩ := nm (w.alloc (.cells #[.int .i64 (N 0), .int .i64 (N 1), .int .i64 (N 2), .int .i64 (N 3), .int .i64 (N 4), .int .i64 (N 5), .int .i64 (N 6), .int .i64 (N 7)] 60))
 have HB1 : Hid (Bw w w1) := by unfold Hid; rw [hw1]; exact below_alloc1 _ _
 have HK1 : Hid (∀ k, k < 8 → w1.cell? ⟨w.heap.size, k, none⟩ = some (.int .i64 (N k))) := fun k hk => by
  have hb : Blk w1 w.heap.size 60 (arr8 N) := by rw [hw1]; exact Blk.new _ _ _
  rw [hb.cell, arr8_get _ hk]
 go_enter Tryz.func82, Tryz.ntmps82
 go_wp2_with fail
 rw [← hw1]
 clear hw1
 go_loop [3, 4, 7] (fun m p i => ∃ k : Nat, k ≤ 8 ∧ i = .int .i64 k ∧ m = .int .i64 (layTo N k) ∧ p = .int .i64 (sumN N k)) (fun _ _ i => 8 - (intOf i).toNat)
 case atStart => exact ⟨0, Nat.zero_le _, rfl, rfl, rfl⟩
 case round =>
  obtain ⟨k, hk, rfl, rfl, rfl⟩ := hrel
  by_cases hlt : k < 8
  ·have c := HK1.out k hlt
   have hN := HN.out k hlt
   obtain ⟨hp0, hp1, hf⟩ := HLY.out k hlt
   obtain ⟨n, hn⟩ : ∃ n : Nat, N k = n := ⟨(N k).toNat, by omega⟩
   have HLk : Hid (layTo N (k + 1) = fillN (layTo N k) (sumN N k) n) := by unfold Hid; rw [lay_step, hn]; rfl
   have HSk : Hid (sumN N (k + 1) = sumN N k + n) := by unfold Hid; rw [← hn]; rfl
   rw [hn] at c hN hp1 hf
   obtain ⟨m, hm⟩ := nm (layTo N k)
   obtain ⟨p, hp⟩ := nm (sumN N k)
   rw [← hm, ← hp] at HLk
   rw [← hp] at HSk hp0 hp1
   rw [← hm, ← hp] at hf ⊢
   have HF := hide hf
   have HF0 : Hid (fillN m p 0 = m) := rfl
   clear hm hp hn hN hf
   have hn6 : n ≤ 6 := by omega
   go_wp2
   go_loop [3, 4, 13] (fun x q i => ∃ j : Nat, j ≤ n ∧ i = .int .i64 j ∧ x = .int .i64 (fillN m p j) ∧ q = .int .i64 (p + j)) (fun _ _ i => n - (intOf i).toNat)
   case atStart => exact ⟨0, Nat.zero_le _, rfl, rfl, by simp⟩
   case round =>
    obtain ⟨j, hj, rfl, rfl, rfl⟩ := hrel
    by_cases hl2 : j < n
    ·have h1 := HF.out j (by omega)
     have h2 := HF.out (j + 1) (by omega)
     have HS : Hid (fillN m p (j + 1) = (fillN m p j * (p + j + 1)).tdiv ((j : Int) + 1)) := rfl
     rw [HS.out] at h2
     obtain ⟨y, hy⟩ := nm (fillN m p j)
     rw [← hy] at HS h1 h2 ⊢
     have hq : 0 ≤ y * (p + j + 1) := Int.mul_nonneg h1.1 (by omega)
     have hq2 : y * (p + j + 1) ≤ 720 * 6 := Int.mul_le_mul h1.2 (by omega) (by omega) (by omega)
     have hz : ¬ ((j : Int) + 1 = 0) := by omega
     clear hy
     go_wp2
     go_round
     case rel => exact ⟨j + 1, by omega, by go_num, by rw [HS.out], by go_num⟩
     case measure => simp [intOf]; omega
    ·obtain rfl : j = n := by omega
     go_wp2
     go_round
     case rel => exact ⟨k + 1, by omega, by go_num, by rw [HLk.out], by rw [HSk.out]⟩
     case measure => simp [intOf]; omega
  ·obtain rfl : k = 8 := by omega
   go_wp2
   go_ret
   exact ⟨back_i HLK.out, HB1.out⟩
theorem wholds_in (ao : Option Addr) (al acap : Nat) (co : Option Addr) (cl ccap : Nat) (N : Nat → Int) (D : Wd) (q : Bool) (w : World)
    (hW : ∀ W, Calls Tryz.prog 121 #[.agg #[.int .i64 (N 0), .int .i64 (N 1), .int .i64 (N 2), .int .i64 (N 3), .int .i64 (N 4), .int .i64 (N 5), .int .i64 (N 6), .int .i64 (N 7)]] W (Bk W (.tuple #[.agg #[.int .i64 D.u, .int .i64 D.a, .int .i64 D.b, .int .i64 D.c], .nilIface])))
    (hH : ∀ W, Bw w W → Calls Tryz.prog 122 #[.agg #[.slice ao al acap, .slice co cl ccap], .agg #[.int .i64 D.u, .int .i64 D.a, .int .i64 D.b, .int .i64 D.c]] W (Bk W (.tuple #[.bool q, .nilIface]))) :
    Calls Tryz.prog 81 #[.agg #[.slice ao al acap, .slice co cl ccap], .agg #[.int .i64 (N 0), .int .i64 (N 1), .int .i64 (N 2), .int .i64 (N 3), .int .i64 (N 4), .int .i64 (N 5), .int .i64 (N 6), .int .i64 (N 7)]] w (Bk w (.tuple #[.bool q, .nilIface])) := by
 have HWo := hide hW
 have HH := hide hH
 clear hW hH
 obtain ⟨w1, hw1⟩ := nm ((w.alloc (.cells #[.slice ao al acap, .slice co cl ccap] 78)).alloc (.cells #[.int .i64 (N 0), .int .i64 (N 1), .int .i64 (N 2), .int .i64 (N 3), .int .i64 (N 4), .int .i64 (N 5), .int .i64 (N 6), .int .i64 (N 7)] 60))
 have HB1 : Hid (Bw w w1) := by unfold Hid; rw [hw1]; exact (below_alloc1 _ _).alloc (by simp) _
 have HF1 : Hid (Blk w1 w.heap.size 78 #[.slice ao al acap, .slice co cl ccap]) := by unfold Hid; rw [hw1]; exact (Blk.new _ _ _).old _
 have HN1 : Hid (Blk w1 (w.heap.size + 1) 60 (arr8 N)) := by
  unfold Hid; rw [hw1]
  have := Blk.new (w.alloc (.cells #[.slice ao al acap, .slice co cl ccap] 78)) 60 (arr8 N)
  simp only [World.size_alloc] at this
  exact this
 go_enter Tryz.func81, Tryz.ntmps81
 go_upto_region 1 with fail
 rw [← hw1]
 clear hw1
 obtain ⟨x0, x1, x2, x3, x4, x5, x6, x7⟩ := HN1.out.cells8
 go_wp2_with fail
 go_at_call 121
 refine (HWo.out _).mono ?_
 rintro e w3 ⟨rfl, hb3⟩
 have HB3 := bt HB1 hb3
 have HF3 := hide (HF1.out.below hb3)
 clear hb3 x0 x1 x2 x3 x4 x5 x6 x7
 obtain ⟨w4, hw4⟩ := nm (w3.alloc (.cells #[.int .i64 D.u, .int .i64 D.a, .int .i64 D.b, .int .i64 D.c] 58))
 obtain ⟨G, hG⟩ := nm w3.heap.size
 have HB4 : Hid (Bw w w4) := by unfold Hid; rw [hw4]; exact HB3.out.alloc HB3.out.size _
 have HF4 : Hid (Blk w4 w.heap.size 78 #[.slice ao al acap, .slice co cl ccap]) := by unfold Hid; rw [hw4]; exact HF3.out.old _
 have HG4 : Hid (Blk w4 G 58 #[.int .i64 D.u, .int .i64 D.a, .int .i64 D.b, .int .i64 D.c]) := by unfold Hid; rw [hw4, hG]; exact Blk.new _ _ _
 go_upto_region 2 with fail
 rw [← hw4, ← hG]
 clear hw4 hG
 have y0 : w4.cell? ⟨w.heap.size, 0, none⟩ = some (.slice ao al acap) := HF4.out.cell 0
 have y1 : w4.cell? ⟨w.heap.size, 1, none⟩ = some (.slice co cl ccap) := HF4.out.cell 1
 have z0 : w4.cell? ⟨G, 0, none⟩ = some (.int .i64 D.u) := HG4.out.cell 0
 have z1 : w4.cell? ⟨G, 1, none⟩ = some (.int .i64 D.a) := HG4.out.cell 1
 have z2 : w4.cell? ⟨G, 2, none⟩ = some (.int .i64 D.b) := HG4.out.cell 2
 have z3 : w4.cell? ⟨G, 3, none⟩ = some (.int .i64 D.c) := HG4.out.cell 3
 go_wp2_with fail
 go_at_call 122
 refine (HH.out _ HB4.out).mono ?_
 rintro e w5 ⟨rfl, hb5⟩
 have HB5 := bt HB4 hb5
 go_wp2
 go_ret2
 exact ⟨rfl, HB5.out⟩
theorem wholds_any (va vc : Value) (ats : List At) (c : List Int) (N : Nat → Int) (w : World) (hA : ReadsA w va ats) (hC : Reads w vc c) (hK : KindsLaid w) (hf : formFault ats c = 0) (h0 : countsFault N = 0) :
    Calls Tryz.prog 81 #[.agg #[va, vc], .agg #[.int .i64 (N 0), .int .i64 (N 1), .int .i64 (N 2), .int .i64 (N 3), .int .i64 (N 4), .int .i64 (N 5), .int .i64 (N 6), .int .i64 (N 7)]] w (Bk w (.tuple #[.bool ((madeN N 8).formIs ats c), .nilIface])) := by
 have hH := fun (D : Wd) W hW => fholds_any va vc ats c D.u D.a D.b D.c W (hA.below hW) (hC.below hW) (hK.below hW)
 obtain ⟨ao, acap, rfl, _⟩ := hA.slice
 obtain ⟨co, ccap, rfl, _⟩ := hC.slice
 refine wholds_in ao _ acap co _ ccap N (madeN N 8) _ w (fun W => ?_) fun W hW => ?_
 ·have h := fworld_any N W
  have e : madeW N = madeN N 8 := by unfold madeW; rw [if_pos h0]
  rw [h0, e] at h
  exact h
 ·have h := hH (madeN N 8) W hW
  have eD : ∀ D : Wd, Wd.mk D.u D.a D.b D.c = D := fun _ => rfl
  have e : (madeN N 8).formFault ats c = 0 := wdForm_zero.2 ⟨hf, made_ok h0⟩
  rw [eD, e] at h
  exact h
end Go.Proofs.YtnoohlibgaeklaaGreatDoor
