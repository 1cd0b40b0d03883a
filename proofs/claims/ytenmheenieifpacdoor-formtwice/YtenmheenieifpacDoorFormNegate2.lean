/-
  Proved: what form.Negate returns, of any formula: its opposite, in new rows; what was in memory is as it was (a contract that the statements lean on).
-/
import Derived.Test.YtenmheenieifpacDoorFormNegate
namespace Go.Proofs.YtenmheenieifpacDoor
open Go.ChangeShapes Go.WideShapes Go.ChangeAt Go.RowKit
set_option maxRecDepth 100000

/-- a row of numbers as one of those that are put together. -/
def rowI (b off cap : Nat) (t : List Int) : RowI := ⟨b, off, cap, t.length, t.map (Value.int .i64)⟩
theorem rowI_lies {w : World} {b off cap : Nat} {t : List Int} (hb : b < w.heap.size) (h0 : 0 < t.length) (hc : t.length ≤ cap) (h : ∀ k, k < t.length → w.cell? ⟨b, off + k, none⟩ = some (.int .i64 (t.getD k 0))) : (rowI b off cap t).Lies w := by
  refine ⟨hb, h0, hc, by simp [rowI], fun u hu => ?_, fun j u hu => ?_⟩
  · simp [rowI] at hu
    obtain ⟨_, _, rfl⟩ := hu
    rfl
  · simp only [rowI] at hu ⊢
    have hj : j < t.length := by have := (List.getElem?_eq_some_iff.1 hu).1; simpa using this
    rw [h j hj, ← hu]
    simp [List.getElem?_eq_getElem hj]

set_option maxHeartbeats 4000000 in
theorem negate_good (va vc : Value) (ats : List At) (c : List Int) (w : World) (hA : ReadsA w va ats) (hC : Reads w vc c) (hK : KindsLaid w) (hf : formFault ats c = 0) (h19 : c.length ≤ 19) :
    Calls Tryd.prog 9 #[.agg #[va, vc]] w fun e w' => ∃ va' vc', e = .returned (.tuple #[.agg #[va', vc'], .nilIface]) ∧ ReadsA w' va' ats ∧ Reads w' vc' (c ++ [12]) ∧ Below w.heap.size w w' := by
  obtain ⟨⟨m1, m6⟩, ⟨n1, _⟩, hall, _, _⟩ := formFault_zero.1 hf
  have hAl : ∀ a ∈ ats, a.s.length ≤ 40 ∧ a.t.length ≤ 40 := fun a ha => by
    have h0 := hall a ha
    obtain ⟨_, hs, ht, _⟩ := atomFault_zero.1 h0
    have h1 := (fault_zero.1 hs).2.1
    refine ⟨by omega, ?_⟩
    unfold secondFault at ht
    split at ht
    · have := (fault_zero.1 ht).2.1; omega
    · split at ht
      · cases ht
      · omega
  obtain ⟨ao, acap, rfl, _⟩ := hA.slice
  obtain ⟨co, ccap, rfl, _⟩ := hC.slice
  obtain ⟨w1, hw1⟩ : ∃ w1, w1 = (w.alloc (.cells #[.slice ao ats.length acap, .slice co c.length ccap] 25)).alloc (.cells #[.slice none 0 0, .slice none 0 0] 25) := ⟨_, rfl⟩
  have HB1 : Hid (Below w.heap.size w w1) := by unfold Hid; rw [hw1]; exact (below_alloc1 _ _).trans ((below_alloc1 _ _).mono (by simp))
  have HS1 : Hid (w1.heap.size = w.heap.size + 2) := by unfold Hid; rw [hw1]; simp
  have HX1 : Hid (BoxN w1 w.heap.size (.slice ao ats.length acap) (.slice co c.length ccap)) := by unfold Hid; rw [hw1]; exact boxN_alloc w _ _
  have HX : Hid (∀ W, Below w1.heap.size w1 W → BoxN W w.heap.size (.slice ao ats.length acap) (.slice co c.length ccap)) := fun W hW => HX1.out.below (by have := HS1.out; omega) hW
  have HCk : Hid (Calls Tryd.prog 28 #[.agg #[.slice ao ats.length acap, .slice co c.length ccap]] w1 fun e w' => e = .returned .nilIface ∧ Below w1.heap.size w1 w') := by
    have := fcheck_any _ _ ats c w1 (hA.below HB1.out) (hC.below HB1.out) (hK.below HB1.out)
    rw [hf, errV_0] at this
    exact this
  have HCp : Hid (∀ W, Below w1.heap.size w1 W → Calls Tryd.prog 32 #[.slice ao ats.length acap] W fun e w' => ∃ G, e = .returned (.slice (some ⟨G, 0, none⟩) ats.length ats.length) ∧ (w1.heap.size ≤ G ∧ FillA G w' ats ats.length ats.length) ∧ Below W.heap.size W w' ∧ Below w1.heap.size w1 w' ∧ BoxN w' w.heap.size (.slice ao ats.length acap) (.slice co c.length ccap)) := fun W hW => by
    refine (copies_any ats _ W ((hA.below HB1.out).below hW) (by omega) m6 hAl).mono ?_
    rintro e w' ⟨G, hG, rfl, hfill, hb⟩
    have hb1 : Below w1.heap.size w1 w' := hW.trans (hb.mono hW.size)
    exact ⟨G, rfl, ⟨Nat.le_trans hW.size hG, hfill⟩, hb, hb1, HX.out w' hb1⟩
  have HCc : Hid (∀ (W : World) (A D : Nat), Below w1.heap.size w1 W → A < W.heap.size → D < W.heap.size → W.cell? ⟨A, 0, none⟩ = some (.slice co c.length ccap) → W.cell? ⟨A, 1, none⟩ = some (.slice (some ⟨D, 0, none⟩) 1 1) → W.cell? ⟨D, 0, none⟩ = some (.int .i64 12) → Calls Tryd.prog 33 #[.slice (some ⟨A, 0, none⟩) 2 2] W fun e w' => ∃ o q, e = .returned (.slice o (c.length + 1) q) ∧ Fresh w1.heap.size w' (.slice o (c.length + 1) q) (c ++ [12]) ∧ Below W.heap.size W w' ∧ Below w1.heap.size w1 w' ∧ BoxN w' w.heap.size (.slice ao ats.length acap) (.slice co c.length ccap)) := fun W A D hW hA' hD c0 c1 d0 => by
    rcases (hC.below HB1.out).below hW with ⟨_, _, _, hcn⟩ | ⟨B, off, cap, hv, hb, _, ⟨_, hcc⟩, hc⟩
    · rw [hcn] at n1; simp at n1
    cases hv
    have hl : ∀ r ∈ [rowI B off ccap c, rowI D 0 1 [12]], r.Lies W := fun r hr => by
      simp only [List.mem_cons, List.mem_nil_iff, or_false] at hr
      rcases hr with rfl | rfl
      · exact rowI_lies hb (by omega) hcc hc
      · refine rowI_lies hD (by simp) (by simp) (fun k hk => ?_)
        obtain rfl : k = 0 := by simpa using hk
        exact d0
    have hlen : (c ++ [(12 : Int)]).length = c.length + 1 := by simp
    have hmany : manyI [rowI B off ccap c, rowI D 0 1 [12]] = c.length + 1 := by simp [manyI, rowI]
    have hallI : allI [rowI B off ccap c, rowI D 0 1 [12]] = (c ++ [12]).map (Value.int .i64) := by simp [allI, rowI]
    refine (concatI [rowI B off ccap c, rowI D 0 1 [12]] A 2 W (by simp) hA' (fun k r hr => ?_) hl (by rw [hmany]; omega) (by rw [hmany]; omega)).mono ?_
    · match k, hr with
      | 0, hr => simp at hr; subst hr; exact c0
      | 1, hr => simp at hr; subst hr; exact c1
    · rintro e w' ⟨v, rfl, hown, hb'⟩
      rw [hmany, hallI] at hown
      have hfr : Fresh W.heap.size w' v (c ++ [12]) := by
        unfold Fresh
        rw [hlen]
        exact hown
      obtain ⟨o, q, rfl⟩ := fresh_slice hfr
      have hb1 : Below w1.heap.size w1 w' := hW.trans (hb'.mono hW.size)
      rw [hlen] at hfr ⊢
      exact ⟨o, q, rfl, World.ownsRow.mono hfr hW.size, hb', hb1, HX.out w' hb1⟩
  clear hA hC hK hf hall hAl HX1
  obtain ⟨m, hm⟩ : ∃ m, m = ats.length := ⟨_, rfl⟩
  obtain ⟨n, hn⟩ : ∃ n, n = c.length := ⟨_, rfl⟩
  have HM : Hid (m = ats.length) := hm
  rw [← hm] at HCk HCp HCc HX hw1 m1 m6 ⊢
  rw [← hn] at HCk HCp HCc HX hw1 n1 h19 ⊢
  clear hm hn
  have HT : Hid (∀ W, Calls Tryd.prog 31 #[.int .i64 m, .int .i64 ((n : Int) + 1)] W fun e w' => e = .returned (.bool false) ∧ W = w') := fun W => by
    have := tooMany_any m ((n : Int) + 1) W
    rw [show (decide (6 < (m : Int)) || decide (20 < (n : Int) + 1)) = false by simp; omega] at this
    exact this
  have hn1 : (n : Int) ≤ 19 := by omega
  obtain ⟨⟨x0, x1⟩, _, _⟩ := HX.out w1 (Below.refl _ _)
  rw [hw1] at x0 x1
  go_enter Tryd.func9, Tryd.ntmps9
  go_wp2_with fail
  rw [← hw1]
  clear hw1 x0 x1
  go_at_call 28
  refine HCk.out.mono ?_
  rintro e w2 ⟨rfl, hb⟩
  have HB2 : Hid (Below w1.heap.size w1 w2) := hb
  obtain ⟨⟨x0, x1⟩, _, _⟩ := HX.out w2 hb
  clear hb HCk
  have HwA : Hid (∀ w5, Below w1.heap.size w1 w5 → Calls Tryd.prog 33 #[.slice (some ⟨w5.heap.size + 1, 0, none⟩) 2 2] ((w5.alloc (.cells #[.int .i64 12] 3)).alloc (.cells #[.slice co n ccap, .slice (some ⟨w5.heap.size, 0, none⟩) 1 1] 23)) fun e w' => ∃ o q, e = .returned (.slice o (n + 1) q) ∧ Fresh w1.heap.size w' (.slice o (n + 1) q) (c ++ [12]) ∧ Below w5.heap.size w5 w' ∧ Below w1.heap.size w1 w' ∧ BoxN w' w.heap.size (.slice ao m acap) (.slice co n ccap)) := fun w5 hb => by
    have q : w5.heap.size + 1 = (w5.alloc (.cells #[.int .i64 12] 3)).heap.size := by simp
    have hb5 : Below w5.heap.size w5 ((w5.alloc (.cells #[.int .i64 12] 3)).alloc (.cells #[.slice co n ccap, .slice (some ⟨w5.heap.size, 0, none⟩) 1 1] 23)) := (below_alloc1 _ _).trans ((below_alloc1 _ _).mono (by simp))
    refine (HCc.out _ (w5.heap.size + 1) w5.heap.size (hb.trans (hb5.mono hb.size)) (by simp) (by simp; omega) ?_ ?_ ?_).mono ?_
    · rw [q]; simp
    · rw [q]; simp
    · rw [World.cell?_alloc_lt _ _ ⟨w5.heap.size, 0, none⟩ (by simp)]; simp
    · rintro e w' ⟨o, q, h1, h2, h3, h4, h5⟩
      exact ⟨o, q, h1, h2, hb5.trans (h3.mono hb5.size), h4, h5⟩
  have HwB : Hid (∀ w5, Below w1.heap.size w1 w5 → Below (w2.alloc (.cells #[.int .i64 12] 3)).drew.heap.size (w2.alloc (.cells #[.int .i64 12] 3)).drew w5 → Calls Tryd.prog 33 #[.slice (some ⟨w5.heap.size, 0, none⟩) 2 2] (w5.alloc (.cells #[.slice co n ccap, .slice (some ⟨w2.heap.size, 0, none⟩) 1 1] 23)) fun e w' => ∃ o q, e = .returned (.slice o (n + 1) q) ∧ Fresh w1.heap.size w' (.slice o (n + 1) q) (c ++ [12]) ∧ Below w5.heap.size w5 w' ∧ Below w1.heap.size w1 w' ∧ BoxN w' w.heap.size (.slice ao m acap) (.slice co n ccap)) := fun w5 hb hd => by
    have hlt : w2.heap.size < w5.heap.size := by have := hd.size; simp at this; omega
    have hb5 : Below w5.heap.size w5 (w5.alloc (.cells #[.slice co n ccap, .slice (some ⟨w2.heap.size, 0, none⟩) 1 1] 23)) := below_alloc1 _ _
    refine (HCc.out _ w5.heap.size w2.heap.size (hb.trans (hb5.mono hb.size)) (by simp) (by simp; omega) (by simp) (by simp) ?_).mono ?_
    · rw [World.cell?_alloc_lt _ _ ⟨w2.heap.size, 0, none⟩ hlt, hd.cell (show (⟨w2.heap.size, 0, none⟩ : Addr).block < _ by simp)]; simp
    · rintro e w' ⟨o, q, h1, h2, h3, h4, h5⟩
      exact ⟨o, q, h1, h2, hb5.trans (h3.mono hb5.size), h4, h5⟩
  have HwC : Hid (∀ w5, Below w1.heap.size w1 w5 → Below ((w2.alloc (.cells #[.int .i64 12] 3)).alloc (.cells #[.slice co n ccap, .slice (some ⟨w2.heap.size, 0, none⟩) 1 1] 23)).drew.heap.size ((w2.alloc (.cells #[.int .i64 12] 3)).alloc (.cells #[.slice co n ccap, .slice (some ⟨w2.heap.size, 0, none⟩) 1 1] 23)).drew w5 → Calls Tryd.prog 33 #[.slice (some ⟨w2.heap.size + 1, 0, none⟩) 2 2] w5 fun e w' => ∃ o q, e = .returned (.slice o (n + 1) q) ∧ Fresh w1.heap.size w' (.slice o (n + 1) q) (c ++ [12]) ∧ Below w5.heap.size w5 w' ∧ Below w1.heap.size w1 w' ∧ BoxN w' w.heap.size (.slice ao m acap) (.slice co n ccap)) := fun w5 hb hd => by
    have hlt : w2.heap.size + 1 < w5.heap.size := by have := hd.size; simp at this; omega
    have q : w2.heap.size + 1 = (w2.alloc (.cells #[.int .i64 12] 3)).heap.size := by simp
    refine (HCc.out _ (w2.heap.size + 1) w2.heap.size hb hlt (by omega) ?_ ?_ ?_).mono ?_
    · rw [hd.cell (show (⟨w2.heap.size + 1, 0, none⟩ : Addr).block < _ by simp), q]; simp
    · rw [hd.cell (show (⟨w2.heap.size + 1, 1, none⟩ : Addr).block < _ by simp), q]; simp
    · rw [hd.cell (show (⟨w2.heap.size, 0, none⟩ : Addr).block < _ by simp; omega)]
      show ((w2.alloc (.cells #[.int .i64 12] 3)).alloc (.cells #[.slice co n ccap, .slice (some ⟨w2.heap.size, 0, none⟩) 1 1] 23)).cell? _ = _
      rw [World.cell?_alloc_lt _ _ ⟨w2.heap.size, 0, none⟩ (by simp)]; simp
    · rintro e w' ⟨o, q, h1, h2, h3, h4, h5⟩
      exact ⟨o, q, h1, h2, h3, h4, h5⟩
  have HpA : Hid (Below w1.heap.size w1 w2.drew) := HB2.out.drew
  have HpB : Hid (Below w1.heap.size w1 (w2.alloc (.cells #[.int .i64 12] 3)).drew) := (HB2.out.alloc HB2.out.size _).drew
  have HpC : Hid (Below w1.heap.size w1 ((w2.alloc (.cells #[.int .i64 12] 3)).alloc (.cells #[.slice co n ccap, .slice (some ⟨w2.heap.size, 0, none⟩) 1 1] 23)).drew) := ((HB2.out.alloc HB2.out.size _).alloc (by have := HB2.out.size; simp; omega) _).drew
  go_wp2_with fail
  go_at_call 31
  refine (HT.out _).mono ?_
  rintro e w' ⟨rfl, rfl⟩
  go_wp2_with fail
  go_region_held3 (fun w' => w'.cell? ⟨w.heap.size, 0, none⟩ = some (.slice ao m acap) ∧ w'.cell? ⟨w.heap.size, 1, none⟩ = some (.slice co n ccap)) (first | go_keep | (go_split_ands; refine ⟨?_, ?_⟩ <;> (rw [set2_far (by omega)]; assumption)))
    (first
      | (go_at_call 32; refine (HCp.out _ ?_).mono ?_; (first | exact HpA.out | exact HpB.out | exact HpC.out); rintro e w5 ⟨G, rfl, hfill, hb5, hb15, ⟨⟨_, _⟩, _⟩⟩)
      | (go_at_call 33; (with_reducible have hh := HwB.out w5 hb15 hb5); refine hh.mono ?_; clear hh; rintro e w6 ⟨o, q, rfl, hfr, hb6, hb16, ⟨⟨_, _⟩, ⟨y0, y1⟩, ⟨f0, f1⟩⟩⟩)
      | (go_at_call 33; (with_reducible have hh := HwC.out w5 hb15 hb5); refine hh.mono ?_; clear hh; rintro e w6 ⟨o, q, rfl, hfr, hb6, hb16, ⟨⟨_, _⟩, ⟨y0, y1⟩, ⟨f0, f1⟩⟩⟩)
      | (go_at_call 33; refine (HwA.out w5 hb15).mono ?_; rintro e w6 ⟨o, q, rfl, hfr, hb6, hb16, ⟨⟨_, _⟩, ⟨y0, y1⟩, ⟨f0, f1⟩⟩⟩))
  all_goals
    have hR : w.heap.size + 1 < w1.heap.size := by have := HS1.out; omega
    have HRA : Hid (ReadsA ((w6.setCell ⟨w.heap.size + 1, 0, none⟩ (.slice (some ⟨G, 0, none⟩) m m)).setCell ⟨w.heap.size + 1, 1, none⟩ (.slice o (n + 1) q)) (.slice (some ⟨G, 0, none⟩) m m) ats) := by
      have h1 := ((hfill.2.below hb6).far (j := 0) (Nat.lt_of_lt_of_le hR hfill.1) (.slice (some ⟨G, 0, none⟩) m m)).far (j := 1) (Nat.lt_of_lt_of_le hR hfill.1) (.slice o (n + 1) q)
      have h2 := HM.out
      unfold Hid
      rw [h2] at h1 ⊢
      exact h1.reads (by omega) (by omega)
    have HRC : Hid (Reads ((w6.setCell ⟨w.heap.size + 1, 0, none⟩ (.slice (some ⟨G, 0, none⟩) m m)).setCell ⟨w.heap.size + 1, 1, none⟩ (.slice o (n + 1) q)) (.slice o (n + 1) q) (c ++ [12])) := ((hfr.set hR).set hR).reads
    have HBE : Hid (Below w.heap.size w w6) := HB1.out.trans (hb16.mono HB1.out.size)
    clear hfill hb5 hb15 hfr hb6 hb16
    go_wp2_with fail
    obtain ⟨m0, m1'⟩ := set2_cells (u0 := .slice (some ⟨G, 0, none⟩) m m) (u1 := .slice o (n + 1) q) y0 y1
    have hld := load_form m0 m1'
    refine bodyPost_ret (v := .tuple #[.agg #[.slice (some ⟨G, 0, none⟩) m m, .slice o (n + 1) q], .nilIface]) ?_ rfl ⟨_, _, rfl, HRA.out, HRC.out, ?_⟩
    · rw [results_cell_tmp rfl]
      simp [asAddr, Result.andThen, hld]
    · exact (HBE.out.setCell (by simp) _).setCell (by simp) _

/-- Negate, whatever the formula. -/
theorem negate_any (va vc : Value) (ats : List At) (c : List Int) (w : World) (hA : ReadsA w va ats) (hC : Reads w vc c) (hK : KindsLaid w) :
    Calls Tryd.prog 9 #[.agg #[va, vc]] w fun e w' => ∃ va' vc', e = .returned (.tuple #[.agg #[va', vc'], errV (negFault ats c)]) ∧ (negFault ats c = 0 → ReadsA w' va' ats ∧ Reads w' vc' (c ++ [12])) ∧ (¬ negFault ats c = 0 → va' = .slice none 0 0 ∧ vc' = .slice none 0 0) ∧ Below w.heap.size w w' := by
  by_cases hf : formFault ats c = 0
  · by_cases h19 : 19 < c.length
    · have e0 : negFault ats c = 4 := by unfold negFault; rw [if_pos hf, if_pos h19]
      have h20 : c.length = 20 := by have := (formFault_zero.1 hf).2.1; omega
      rw [e0]
      refine (negate_full va vc ats c w hA hC hK hf h20).mono ?_
      rintro e w' ⟨rfl, hb⟩
      exact ⟨_, _, rfl, fun h => (by cases h), fun _ => ⟨rfl, rfl⟩, hb⟩
    · have e0 : negFault ats c = 0 := by unfold negFault; rw [if_pos hf, if_neg h19]
      rw [e0, errV_0]
      refine (negate_good va vc ats c w hA hC hK hf (by omega)).mono ?_
      rintro e w' ⟨va', vc', rfl, h1, h2, hb⟩
      exact ⟨_, _, rfl, fun _ => ⟨h1, h2⟩, fun h => absurd rfl h, hb⟩
  · have e0 : negFault ats c = formFault ats c := by unfold negFault; rw [if_neg hf]
    rw [e0, errV_no hf]
    refine (negate_bad va vc ats c w hA hC hK hf).mono ?_
    rintro e w' ⟨rfl, hb⟩
    exact ⟨_, _, rfl, fun h => absurd h hf, fun _ => ⟨rfl, rfl⟩, hb⟩
end Go.Proofs.YtenmheenieifpacDoor
