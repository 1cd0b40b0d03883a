/-
  Proved: of a right formula of at most nine signs and a right world vennlaw4.FormTwice returns true, and what was in memory is as it was.
-/
import Derived.Test.YtenmheenieifpacDoorFormTwiceWalk
namespace Go.Proofs.YtenmheenieifpacDoor
open Go.ChangeShapes Go.WideShapes Go.ChangeAt Go.RowKit
set_option maxRecDepth 100000

/-- Negate of a right formula. -/
theorem negate_right (va vc : Value) (ats : List At) (c : List Int) (w : World) (hA : ReadsA w va ats) (hC : Reads w vc c) (hK : KindsLaid w) (hf : formFault ats c = 0) (h19 : c.length ≤ 19) (k : Nat) (hk : k = c.length + 1) :
    Calls Tryd.prog 9 #[.agg #[va, vc]] w fun e w' => ∃ o1 q1 o2 q2, e = .returned (.tuple #[.agg #[.slice o1 ats.length q1, .slice o2 k q2], .nilIface]) ∧ ReadsA w' (.slice o1 ats.length q1) ats ∧ Reads w' (.slice o2 k q2) (c ++ [12]) ∧ Below w.heap.size w w' := by
  refine (negate_good va vc ats c w hA hC hK hf h19).mono ?_
  rintro e w' ⟨va', vc', rfl, h1, h2, hb⟩
  obtain ⟨o1, q1, rfl, _⟩ := h1.slice
  obtain ⟨o2, q2, rfl, _⟩ := h2.slice
  have e : (c ++ [(12 : Int)]).length = k := by rw [hk]; simp
  rw [e] at h2 ⊢
  exact ⟨o1, q1, o2, q2, rfl, h1, h2, hb⟩
/-- Holds of a right formula in a right world. -/
theorem fholds_good (va vc : Value) (ats : List At) (c : List Int) (u a b d : Int) (w : World) (hA : ReadsA w va ats) (hC : Reads w vc c) (hK : KindsLaid w) (hf : formFault ats c = 0) (hok : (Wd.mk u a b d).ok = true) (X : Bool) (hX : valF ((Wd.mk u a b d).heldL ats) c = X) :
    Calls Tryd.prog 8 #[.agg #[va, vc], .agg #[.int .i64 u, .int .i64 a, .int .i64 b, .int .i64 d]] w fun e w' => e = .returned (.tuple #[.bool X, .nilIface]) ∧ Below w.heap.size w w' := by
  have := fholds_any va vc ats c u a b d w hA hC hK
  have e0 : (Wd.mk u a b d).formFault ats c = 0 := wdForm_zero.2 ⟨hf, hok⟩
  have e1 : (Wd.mk u a b d).formIs ats c = X := by unfold Wd.formIs; rw [if_pos e0, hX]
  rw [e0, e1, errV_0] at this
  exact this

set_option maxHeartbeats 8000000 in
theorem formTwice_in (va vc : Value) (ats : List At) (c : List Int) (u a b d : Int) (w : World) (hA : ReadsA w va ats) (hC : Reads w vc c) (hL : Laid w ∧ KindsLaid w) (hE : (Wd.mk u a b d).formFault ats c = 0) (h9 : c.length ≤ 9) :
    Calls Tryd.prog 3 #[.agg #[va, vc], .agg #[.int .i64 u, .int .i64 a, .int .i64 b, .int .i64 d]] w fun e w' => e = .returned (.bool true) ∧ Below w.heap.size w w' := by
  obtain ⟨i0, hi, hz0, hz1, hz2⟩ := info_parts infoInt
  obtain ⟨hf, hok⟩ := wdForm_zero.1 hE
  obtain ⟨_, ⟨n1, _⟩, _, _, hone⟩ := formFault_zero.1 hf
  obtain ⟨ao, acap, rfl, _⟩ := hA.slice
  obtain ⟨co, ccap, rfl, _⟩ := hC.slice
  obtain ⟨w1, hw1⟩ : ∃ w1, w1 = (w.alloc (.cells #[.slice ao ats.length acap, .slice co c.length ccap] 25)).alloc (.cells #[.int .i64 u, .int .i64 a, .int .i64 b, .int .i64 d] 28) := ⟨_, rfl⟩
  have HB1 : Hid (Below w.heap.size w w1) := by unfold Hid; rw [hw1]; exact (below_alloc1 _ _).trans ((below_alloc1 _ _).mono (by simp))
  have HS1 : Hid (w1.heap.size = w.heap.size + 2) := by unfold Hid; rw [hw1]; simp
  have HX1 : Hid (BoxFW w1 w.heap.size (.slice ao ats.length acap) (.slice co c.length ccap) u a b d) := by unfold Hid; rw [hw1]; exact boxFW_alloc w _ _ _ _ _ _
  have HX : Hid (∀ W, Below w1.heap.size w1 W → BoxFW W w.heap.size (.slice ao ats.length acap) (.slice co c.length ccap) u a b d) := fun W hW => HX1.out.below (by have := HS1.out; omega) hW
  have HKd : Hid (∀ W, Below w1.heap.size w1 W → KindsLaid W) := fun W hW => (hL.2.below HB1.out).below hW
  have HA : Hid (∀ W, Below w1.heap.size w1 W → ReadsA W (.slice ao ats.length acap) ats) := fun W hW => (hA.below HB1.out).below hW
  have HC : Hid (∀ W, Below w1.heap.size w1 W → Reads W (.slice co c.length ccap) c) := fun W hW => (hC.below HB1.out).below hW
  obtain ⟨X, hX⟩ : ∃ X, valF ((Wd.mk u a b d).heldL ats) c = X := ⟨_, rfl⟩
  have HH : Hid (∀ W, Below w1.heap.size w1 W → _) := fun W hW => fholds_good _ _ ats c u a b d W (HA.out W hW) (HC.out W hW) (HKd.out W hW) hf hok X hX
  have hg : formFault ats (c ++ [12]) = 0 := good_no hf (by omega)
  have HN1 : Hid (∀ W, Below w1.heap.size w1 W → _) := fun W hW => negate_right _ _ ats c W (HA.out W hW) (HC.out W hW) (HKd.out W hW) hf (by omega) (c.length + 1) rfl
  have HN2 : Hid (∀ va1 vc1 W, Below w1.heap.size w1 W → ReadsA W va1 ats → Reads W vc1 (c ++ [12]) → _) := fun va1 vc1 W hW r1 r2 => negate_right va1 vc1 ats (c ++ [12]) W r1 r2 (HKd.out W hW) hg (by simp; omega) (c.length + 2) (by simp)
  have HH2 : Hid (∀ va1 vc1 W, Below w1.heap.size w1 W → ReadsA W va1 ats → Reads W vc1 ((c ++ [12]) ++ [12]) → _) := fun va1 vc1 W hW r1 r2 => fholds_good va1 vc1 ats ((c ++ [12]) ++ [12]) u a b d W r1 r2 (HKd.out W hW) (good_no hg (by simp; omega)) hok X (by rw [val_no_no _ hone, hX])
  have HH3 : Hid (∀ vc1 W, Below w1.heap.size w1 W → Reads W vc1 (c ++ (c ++ [13])) → _) := fun vc1 W hW r2 => fholds_good (.slice ao ats.length acap) vc1 ats (c ++ (c ++ [13])) u a b d W (HA.out W hW) r2 (HKd.out W hW) (good_then hf h9) hok true (val_then _ hone)
  rcases HC.out w1 (Below.refl _ _) with ⟨_, _, _, hcn⟩ | ⟨Bc, off, cap, hv, hbc, _, ⟨_, hcc⟩, hcell⟩
  · rw [hcn] at n1; simp at n1
  obtain rfl : co = some ⟨Bc, off, none⟩ := by cases hv; rfl
  clear hv
  have HCe : Hid (∀ W, Below w1.heap.size w1 W → ∀ j x, (c.map (Value.int .i64))[j]? = some x → W.cell? ((⟨Bc, off, none⟩ : Addr).add j) = some x) := fun W hW j x hx => by
    rw [Go.WideShapes.add_plain]
    have hj : j < c.length := by have := (List.getElem?_eq_some_iff.1 hx).1; simpa using this
    rw [hW.cell (show (⟨Bc, off + j, none⟩ : Addr).block < _ from hbc), hcell j hj, ← hx]
    simp [List.getElem?_eq_getElem hj]
  clear hA hC hL HX1 hf hok hX hg hone hcell hbc hE
  obtain ⟨m, hm⟩ : ∃ m, m = ats.length := ⟨_, rfl⟩
  obtain ⟨n, hn⟩ : ∃ n, n = c.length := ⟨_, rfl⟩
  rw [← hm] at HH HN1 HN2 HH3 HX HA hw1 ⊢
  rw [← hn] at HH HN1 HN2 HX HC hw1 h9 n1 hcc ⊢
  have HN : Hid (n = c.length) := hn
  clear hm hn
  have h9' : ¬ ((9 : Int) < (n : Int)) := by omega
  obtain ⟨⟨x0, x1⟩, ⟨y0, y1, y2, y3⟩⟩ := HX.out w1 (Below.refl _ _)
  rw [hw1] at x0 x1 y0 y1 y2 y3
  go_enter Tryd.func3, Tryd.ntmps3
  go_wp2_with fail
  rw [← hw1]
  clear hw1 x0 x1 y0 y1 y2 y3
  go_at_call 8
  refine (HH.out w1 (Below.refl _ _)).mono ?_
  rintro e w2 ⟨rfl, hb⟩
  have HB2 : Hid (Below w1.heap.size w1 w2) := hb
  clear hb HH
  obtain ⟨⟨x0, x1⟩, ⟨y0, y1, y2, y3⟩⟩ := HX.out w2 HB2.out
  go_wp2_with fail
  go_at_call 9
  refine (HN1.out _ HB2.out).mono ?_
  rintro e w3 ⟨o1, q1, o2, q2, rfl, r1, r2, hb⟩
  have HB3 : Hid (Below w1.heap.size w1 w3) := HB2.out.trans (hb.mono HB2.out.size)
  clear hb HN1 x0 x1 y0 y1 y2 y3
  obtain ⟨w4, hw4⟩ : ∃ w4, w4 = w3.alloc (.cells #[.slice o1 m q1, .slice o2 (n + 1) q2] 25) := ⟨_, rfl⟩
  have HB4 : Hid (Below w1.heap.size w1 w4 ∧ Below w3.heap.size w3 w4) := by unfold Hid; rw [hw4]; exact ⟨HB3.out.trans ((below_alloc1 _ _).mono HB3.out.size), below_alloc1 _ _⟩
  have HR4 : Hid (ReadsA w4 (.slice o1 m q1) ats ∧ Reads w4 (.slice o2 (n + 1) q2) (c ++ [12])) := ⟨r1.below HB4.out.2, r2.below HB4.out.2⟩
  clear r1 r2
  go_wp2_with fail
  rw [← hw4]
  clear hw4
  go_at_call 9
  refine (HN2.out _ _ _ HB4.out.1 HR4.out.1 HR4.out.2).mono ?_
  rintro e w5 ⟨o3, q3, o4, q4, rfl, r1, r2, hb⟩
  have HB5 : Hid (Below w1.heap.size w1 w5) := HB4.out.1.trans (hb.mono HB4.out.1.size)
  clear hb HN2 HR4
  obtain ⟨w6, hw6⟩ : ∃ w6, w6 = w5.alloc (.cells #[.slice o3 m q3, .slice o4 (n + 2) q4] 25) := ⟨_, rfl⟩
  have HB6 : Hid (Below w1.heap.size w1 w6 ∧ Below w5.heap.size w5 w6) := by unfold Hid; rw [hw6]; exact ⟨HB5.out.trans ((below_alloc1 _ _).mono HB5.out.size), below_alloc1 _ _⟩
  have HR6 : Hid (ReadsA w6 (.slice o3 m q3) ats ∧ Reads w6 (.slice o4 (n + 2) q4) ((c ++ [12]) ++ [12])) := ⟨r1.below HB6.out.2, r2.below HB6.out.2⟩
  clear r1 r2
  obtain ⟨⟨x0, x1⟩, ⟨y0, y1, y2, y3⟩⟩ := HX.out w6 HB6.out.1
  rw [hw6] at x0 x1 y0 y1 y2 y3
  go_wp2_with fail
  rw [← hw6]
  clear hw6 x0 x1 y0 y1 y2 y3
  go_at_call 8
  refine (HH2.out _ _ _ HB6.out.1 HR6.out.1 HR6.out.2).mono ?_
  rintro e w7 ⟨rfl, hb⟩
  have HB7 : Hid (Below w1.heap.size w1 w7) := HB6.out.1.trans (hb.mono HB6.out.1.size)
  clear hb HH2 HR6
  have HS7 : Hid (w1.heap.size ≤ w7.heap.size ∧ w1.heap.size = w.heap.size + 2) := ⟨HB7.out.size, HS1.out⟩
  obtain ⟨w8, hw8⟩ : ∃ w8, w8 = w7.alloc (.cells #[.slice ao m acap, .slice none 0 0] 25) := ⟨_, rfl⟩
  have HB8 : Hid (Below w1.heap.size w1 w8) := by unfold Hid; rw [hw8]; exact HB7.out.trans ((below_alloc1 _ _).mono HB7.out.size)
  have HS8 : Hid (w8.heap.size = w7.heap.size + 1) := by unfold Hid; rw [hw8]; simp
  have HV8 : Hid (w8.cell? ⟨w7.heap.size, 0, none⟩ = some (.slice ao m acap) ∧ w8.cell? ⟨w7.heap.size, 1, none⟩ = some (.slice none 0 0) ∧ w8.frozen? ⟨w7.heap.size, 1, none⟩ = false) := by
    unfold Hid; rw [hw8]; simp
  obtain ⟨⟨x0, x1⟩, _⟩ := HX.out (w7.alloc (.cells #[.slice none 0 0, .slice none 0 0] 25)) (HB7.out.trans ((below_alloc1 _ _).mono HB7.out.size))
  obtain ⟨⟨x0', x1'⟩, _⟩ := HX.out w8 HB8.out
  rw [hw8] at x0' x1'
  have HCe8 : Hid (∀ j x, (c.map (Value.int .i64))[j]? = some x → (w7.alloc (.cells #[.slice ao m acap, .slice none 0 0] 25)).cell? ((⟨Bc, off, none⟩ : Addr).add j) = some x) := by
    unfold Hid; rw [← hw8]; exact HCe.out w8 HB8.out
  go_wp2_with (first | (at_builtin; refine wpList_append_own _ rfl (.tmp 71) (.tmp 73) 23 rfl (w7.heap.size + 1) 3 i0 (.int .i64 0) 1 8 Tryd.underlying23 hi hz0 hz1 hz2 rfl (by decide) (.slice none 0 0) 0 [] rfl (World.ownsRow_nil _ _ _ _) ⟨Bc, off, none⟩ n ccap (c.map (Value.int .i64)) rfl ?a0 ?a1 ?a2 ?a3 ?a4 ?a5 ?_))
  case a0 => rw [List.length_map, HN.out, Nat.mul_one]
  case a1 => exact HCe8.out
  case a2 => intro u hu; simp at hu; obtain ⟨_, _, rfl⟩ := hu; rfl
  case a3 => unfold maxLen; omega
  case a4 => omega
  case a5 => simp
  intro v1 w9 hown hgrow _
  rw [← hw8] at hgrow
  have HG9 : Hid (Below (w7.heap.size + 1) w8 w9) := (Below.refl _ w8).grown hgrow (by rw [HS8.out]; exact Nat.le_refl _) (fun k hk => by cases hk)
  have HF9 : Hid (Fresh (w7.heap.size + 1) w9 v1 c) := by
    unfold Hid Fresh
    rw [← HN.out]
    simpa using hown
  obtain ⟨oa, qa, rfl⟩ := fresh_slice HF9.out
  clear hown hgrow hw8 x0 x1 x0' x1' HCe8
  have HB9 : Hid (Below w1.heap.size w1 w9) := HB8.out.trans (HG9.out.mono (by have := HS7.out; omega))
  rw [← HN.out] at HF9 ⊢
  have c0 : w9.cell? ⟨w7.heap.size, 0, none⟩ = some (.slice ao m acap) := by rw [HG9.out.cell (show (⟨w7.heap.size, 0, none⟩ : Addr).block < _ by simp)]; exact HV8.out.1
  have c1 : w9.cell? ⟨w7.heap.size, 1, none⟩ = some (.slice none 0 0) := by rw [HG9.out.cell (show (⟨w7.heap.size, 1, none⟩ : Addr).block < _ by simp)]; exact HV8.out.2.1
  have f1 : w9.frozen? ⟨w7.heap.size, 1, none⟩ = false := by rw [HG9.out.frozen (show (⟨w7.heap.size, 1, none⟩ : Addr).block < _ by simp)]; exact HV8.out.2.2
  obtain ⟨w10, hw10⟩ : ∃ w10, w10 = w9.setCell ⟨w7.heap.size, 1, none⟩ (.slice oa n qa) := ⟨_, rfl⟩
  have HB10 : Hid (Below w1.heap.size w1 w10) := by unfold Hid; rw [hw10]; exact HB9.out.setCell (by have := HS7.out; simp; omega) _
  have HV10 : Hid (w10.cell? ⟨w7.heap.size, 0, none⟩ = some (.slice ao m acap) ∧ w10.cell? ⟨w7.heap.size, 1, none⟩ = some (.slice oa n qa) ∧ w10.frozen? ⟨w7.heap.size, 1, none⟩ = false ∧ w10.heap.size = w9.heap.size) := by
    unfold Hid; rw [hw10]
    refine ⟨?_, World.cell?_setCell_same _ _ _ c1, by simp [f1], by simp⟩
    rw [World.cell?_setCell_other _ _ _ _ (by intro e; injection e with _ e; omega)]; exact c0
  have HF10 : Hid (w10.ownsRow (w7.heap.size + 1) 3 1 (.slice oa n qa) n (c.map (Value.int .i64))) := by
    have h1 := HF9.out.set (G := w7.heap.size) (j := 1) (u := .slice oa n qa) (by omega)
    unfold Hid; rw [hw10]
    unfold Fresh at h1
    rw [← HN.out] at h1
    exact h1
  obtain ⟨⟨x0, x1⟩, _⟩ := HX.out w10 HB10.out
  rw [hw10] at x0 x1
  have HCe10 : Hid (∀ j x, (c.map (Value.int .i64))[j]? = some x → (w9.setCell ⟨w7.heap.size, 1, none⟩ (.slice oa n qa)).cell? ((⟨Bc, off, none⟩ : Addr).add j) = some x) := by
    unfold Hid; rw [← hw10]; exact HCe.out w10 HB10.out
  have HF10' : Hid ((w9.setCell ⟨w7.heap.size, 1, none⟩ (.slice oa n qa)).ownsRow (w7.heap.size + 1) 3 1 (.slice oa n qa) n (c.map (Value.int .i64))) := by unfold Hid; rw [← hw10]; exact HF10.out
  have HS9 : Hid (w7.heap.size + 1 ≤ w9.heap.size) := by have := HG9.out.size; have := HS8.out; unfold Hid; omega
  go_wp2_with (first | (at_builtin; refine wpList_append_own _ rfl (.tmp 77) (.tmp 79) 23 rfl (w7.heap.size + 1) 3 i0 (.int .i64 0) 1 8 Tryd.underlying23 hi hz0 hz1 hz2 rfl (by decide) (.slice oa n qa) n (c.map (Value.int .i64)) rfl HF10'.out ⟨Bc, off, none⟩ n ccap (c.map (Value.int .i64)) rfl ?b0 ?b1 ?b2 ?b3 ?b4 ?b5 ?_))
  case b0 => rw [List.length_map, HN.out, Nat.mul_one]
  case b1 => exact HCe10.out
  case b2 => intro u hu; simp at hu; obtain ⟨_, _, rfl⟩ := hu; rfl
  case b3 => unfold maxLen; omega
  case b4 => omega
  case b5 => have := HS9.out; simp; omega
  intro v2 w11 hown hgrow _
  rw [← hw10] at hgrow
  have HG11 : Hid (Below (w7.heap.size + 1) w10 w11) := (Below.refl _ w10).grown hgrow (by rw [HV10.out.2.2.2]; exact HS9.out) (fun k hk => (HF10.out.lt k hk).1)
  have HF11 : Hid (Fresh (w7.heap.size + 1) w11 v2 (c ++ c)) := by
    unfold Hid Fresh
    rw [List.length_append, ← HN.out, List.map_append]
    exact hown
  obtain ⟨ob, qb, rfl⟩ := fresh_slice HF11.out
  clear hown hgrow hw10 x0 x1 c0 c1 f1 HCe10 HF10' HF9
  have hl2 : (c ++ c).length = n + n := by rw [List.length_append, ← HN.out]
  rw [hl2] at HF11 ⊢
  have HB11 : Hid (Below w1.heap.size w1 w11) := HB10.out.trans (HG11.out.mono (by have := HS7.out; omega))
  have c0 : w11.cell? ⟨w7.heap.size, 0, none⟩ = some (.slice ao m acap) := by rw [HG11.out.cell (show (⟨w7.heap.size, 0, none⟩ : Addr).block < _ by simp)]; exact HV10.out.1
  have c1 : w11.cell? ⟨w7.heap.size, 1, none⟩ = some (.slice oa n qa) := by rw [HG11.out.cell (show (⟨w7.heap.size, 1, none⟩ : Addr).block < _ by simp)]; exact HV10.out.2.1
  have f1 : w11.frozen? ⟨w7.heap.size, 1, none⟩ = false := by rw [HG11.out.frozen (show (⟨w7.heap.size, 1, none⟩ : Addr).block < _ by simp)]; exact HV10.out.2.2.1
  have HS11 : Hid (w7.heap.size + 1 ≤ w11.heap.size) := by have := HG11.out.size; have := HV10.out.2.2.2; have := HS9.out; unfold Hid; omega
  obtain ⟨w12, hw12⟩ : ∃ w12, w12 = (w11.setCell ⟨w7.heap.size, 1, none⟩ (.slice ob (n + n) qb)).alloc (.cells #[.int .i64 13] 3) := ⟨_, rfl⟩
  have HB12 : Hid (Below w1.heap.size w1 w12) := by
    unfold Hid; rw [hw12]
    exact (HB11.out.setCell (by have := HS7.out; simp; omega) _).alloc (by have := HB11.out.size; simp; omega) _
  have HV12 : Hid (w12.cell? ⟨w7.heap.size, 0, none⟩ = some (.slice ao m acap) ∧ w12.cell? ⟨w7.heap.size, 1, none⟩ = some (.slice ob (n + n) qb) ∧ w12.frozen? ⟨w7.heap.size, 1, none⟩ = false ∧ w12.heap.size = w11.heap.size + 1) := by
    unfold Hid; rw [hw12]
    have hlt : w7.heap.size < (w11.setCell ⟨w7.heap.size, 1, none⟩ (.slice ob (n + n) qb)).heap.size := by have := HS11.out; simp; omega
    refine ⟨?_, ?_, ?_, by simp⟩
    · rw [World.cell?_alloc_lt _ _ ⟨w7.heap.size, 0, none⟩ hlt, World.cell?_setCell_other _ _ _ _ (by intro e; injection e with _ e; omega)]; exact c0
    · rw [World.cell?_alloc_lt _ _ ⟨w7.heap.size, 1, none⟩ hlt]; exact World.cell?_setCell_same _ _ _ c1
    · rw [World.frozen?_alloc_old _ _ ⟨w7.heap.size, 1, none⟩ (by simp; have := HS11.out; omega)]; simp [f1]
  have HF12 : Hid (((w11.setCell ⟨w7.heap.size, 1, none⟩ (.slice ob (n + n) qb)).alloc (.cells #[.int .i64 13] 3)).ownsRow (w7.heap.size + 1) 3 1 (.slice ob (n + n) qb) (n + n) ((c ++ c).map (Value.int .i64))) := by
    have h1 := HF11.out.set (G := w7.heap.size) (j := 1) (u := .slice ob (n + n) qb) (by omega)
    unfold Fresh at h1
    rw [hl2] at h1
    exact h1.alloc _
  go_wp2_with (first | (at_builtin; refine wpList_append_own _ rfl (.tmp 83) (.tmp 84) 23 rfl (w7.heap.size + 1) 3 i0 (.int .i64 0) 1 8 Tryd.underlying23 hi hz0 hz1 hz2 rfl (by decide) (.slice ob (n + n) qb) (n + n) ((c ++ c).map (Value.int .i64)) rfl HF12.out ⟨w11.heap.size, 0, none⟩ 1 1 [.int .i64 13] rfl rfl ?e1 ?e2 ?e3 ?e4 ?e5 ?_))
  case e1 =>
    refine World.news_of_block (cs := #[.int .i64 13]) (t := 3) (fr := (0, 0)) ?_
    have q : w11.heap.size = (w11.setCell ⟨w7.heap.size, 1, none⟩ (.slice ob (n + n) qb)).heap.size := by simp
    rw [q]
    exact heap_alloc_new _ _
  case e2 => intro y hy; simp at hy; subst hy; rfl
  case e3 => unfold maxLen; omega
  case e4 => omega
  case e5 => have := HS11.out; simp; omega
  intro v3 w13 hown hgrow _
  rw [← hw12] at hgrow
  have HG13 : Hid (Below (w7.heap.size + 1) w12 w13) := (Below.refl _ w12).grown hgrow (by rw [HV12.out.2.2.2]; have := HS11.out; omega) (fun k hk => by have h1 := HF12.out; exact (h1.lt k hk).1)
  have HF13 : Hid (Fresh (w7.heap.size + 1) w13 v3 (c ++ (c ++ [13]))) := by
    unfold Hid Fresh
    have e1 : (c ++ (c ++ [(13 : Int)])).length = n + n + 1 := by rw [HN.out]; simp; omega
    rw [e1]; simpa using hown
  obtain ⟨od, qd, rfl⟩ := fresh_slice HF13.out
  clear hown hgrow hw12 c0 c1 f1 HF12
  have hl3 : (c ++ (c ++ [(13 : Int)])).length = n + n + 1 := by rw [HN.out]; simp; omega
  rw [hl3] at HF13 ⊢
  have HB13 : Hid (Below w1.heap.size w1 w13) := HB12.out.trans (HG13.out.mono (by have := HS7.out; omega))
  have c0 : w13.cell? ⟨w7.heap.size, 0, none⟩ = some (.slice ao m acap) := by rw [HG13.out.cell (show (⟨w7.heap.size, 0, none⟩ : Addr).block < _ by simp)]; exact HV12.out.1
  have c1 : w13.cell? ⟨w7.heap.size, 1, none⟩ = some (.slice ob (n + n) qb) := by rw [HG13.out.cell (show (⟨w7.heap.size, 1, none⟩ : Addr).block < _ by simp)]; exact HV12.out.2.1
  have f1 : w13.frozen? ⟨w7.heap.size, 1, none⟩ = false := by rw [HG13.out.frozen (show (⟨w7.heap.size, 1, none⟩ : Addr).block < _ by simp)]; exact HV12.out.2.2.1
  obtain ⟨w14, hw14⟩ : ∃ w14, w14 = w13.setCell ⟨w7.heap.size, 1, none⟩ (.slice od (n + n + 1) qd) := ⟨_, rfl⟩
  have HB14 : Hid (Below w1.heap.size w1 w14) := by unfold Hid; rw [hw14]; exact HB13.out.setCell (by have := HS7.out; simp; omega) _
  have HR14 : Hid (Reads w14 (.slice od (n + n + 1) qd) (c ++ (c ++ [13]))) := by
    unfold Hid; rw [hw14]; exact (HF13.out.set (by omega)).reads
  have c0' : (w13.setCell ⟨w7.heap.size, 1, none⟩ (.slice od (n + n + 1) qd)).cell? ⟨w7.heap.size, 0, none⟩ = some (.slice ao m acap) := by
    rw [World.cell?_setCell_other _ _ _ _ (by intro e; injection e with _ e; omega)]; exact c0
  obtain ⟨_, ⟨y0, y1, y2, y3⟩⟩ := HX.out w14 HB14.out
  rw [hw14] at y0 y1 y2 y3
  go_wp2_with fail
  rw [← hw14]
  clear hw14 c0 c1 f1 c0' y0 y1 y2 y3
  go_at_call 8
  refine (HH3.out _ _ HB14.out HR14.out).mono ?_
  rintro e w15 ⟨rfl, hb⟩
  have HB15 : Hid (Below w1.heap.size w1 w15) := HB14.out.trans (hb.mono HB14.out.size)
  clear hb
  go_wp2
  go_ret
  exact ⟨rfl, HB1.out.trans (HB15.out.mono HB1.out.size)⟩

theorem formTwice_walk (va vc : Value) (ats : List At) (c : List Int) (u a b d : Int) (w : World) (hA : ReadsA w va ats) (hC : Reads w vc c) (hL : Laid w ∧ KindsLaid w) :
    Calls Tryd.prog 3 #[.agg #[va, vc], .agg #[.int .i64 u, .int .i64 a, .int .i64 b, .int .i64 d]] w fun e w' => e = .returned (.bool true) ∧ Below w.heap.size w w' := by
  by_cases hE : (Wd.mk u a b d).formFault ats c = 0
  · by_cases h9 : 9 < c.length
    · exact formTwice_out va vc ats c u a b d w hA hC hL (Or.inr ⟨hE, h9⟩)
    · exact formTwice_in va vc ats c u a b d w hA hC hL hE (by omega)
  · exact formTwice_out va vc ats c u a b d w hA hC hL (Or.inl hE)
end Go.Proofs.YtenmheenieifpacDoor
