/-
  Proved: vennlaw1.FormTurns returns true, by cases; what was in memory is as it was. Written by program.
-/
import Derived.Test.YtenmheenieifpabDoorFormTurnsHead
namespace Go.Proofs.YtenmheenieifpabDoor
open Go.ChangeShapes Go.WideShapes Go.ChangeAt Go.RowKit
set_option maxRecDepth 100000

set_option linter.unusedVariables false in
set_option maxHeartbeats 8000000 in
theorem formTurns_FE (ao co bo eo : Option Addr) (acap ccap bcap ecap : Nat) (ats bts : List At) (c d : List Int) (m1 n1 m2 n2 : Nat) (hm1 : m1 = ats.length) (hn1 : n1 = c.length) (hm2 : m2 = bts.length) (hn2 : n2 = d.length) (u a b e1 : Int) (w : World) (hA : ReadsA w (.slice ao m1 acap) ats) (hC : Reads w (.slice co n1 ccap) c) (hA2 : ReadsA w (.slice bo m2 bcap) bts) (hC2 : Reads w (.slice eo n2 ecap) d) (hK : KindsLaid w) (hf : (Wd.mk u a b e1).formFault ats c = 0) (hn : c.length = 20) (hg : ¬ (Wd.mk u a b e1).formFault bts d = 0) :
    Calls Tryd.prog 6 #[.agg #[.slice ao m1 acap, .slice co n1 ccap], .agg #[.int .i64 u, .int .i64 a, .int .i64 b, .int .i64 e1], .agg #[.slice bo m2 bcap, .slice eo n2 ecap]] w fun e w' => e = .returned (.bool true) ∧ Below w.heap.size w w' := by
  obtain ⟨w1, hw1⟩ : ∃ w1, w1 = ((w.alloc (.cells #[.slice ao m1 acap, .slice co n1 ccap] 40)).alloc (.cells #[.int .i64 u, .int .i64 a, .int .i64 b, .int .i64 e1] 25)).alloc (.cells #[.slice bo m2 bcap, .slice eo n2 ecap] 40) := ⟨_, rfl⟩
  have HB1 : Hid (Below w.heap.size w w1) := by unfold Hid; rw [hw1]; exact below_three _ _ _ _
  have HS1 : Hid (w1.heap.size = w.heap.size + 3) := by unfold Hid; rw [hw1]; simp
  have HX : Hid (∀ W, Below w1.heap.size w1 W → BoxT W w.heap.size (.slice ao m1 acap) (.slice co n1 ccap) (.slice bo m2 bcap) (.slice eo n2 ecap) u a b e1) := fun W hW => BoxT.below (W := w1) (by rw [hw1]; exact boxT_alloc w _ _ _ _ _ _ _ _) (by have := HS1.out; omega) hW
  have HKd : Hid (∀ W, Below w1.heap.size w1 W → KindsLaid W) := fun W hW => (hK.below HB1.out).below hW
  have HA : Hid (∀ W, Below w1.heap.size w1 W → ReadsA W (.slice ao m1 acap) ats ∧ Reads W (.slice co n1 ccap) c ∧ ReadsA W (.slice bo m2 bcap) bts ∧ Reads W (.slice eo n2 ecap) d) := fun W hW => ⟨(hA.below HB1.out).below hW, (hC.below HB1.out).below hW, (hA2.below HB1.out).below hW, (hC2.below HB1.out).below hW⟩
  clear hA hC hA2 hC2 hK
  obtain ⟨S, hS⟩ : ∃ S, S = w.heap.size + 1 + 1 + 1 := ⟨_, rfl⟩
  have HSS : Hid (w1.heap.size = S) := by unfold Hid; rw [HS1.out, hS]
  obtain ⟨w2, hw2⟩ : ∃ w2, w2 = (((w1.alloc (.cells #[.int .i64 0] 3)).alloc (.cells #[.int .i64 3, .slice (some ⟨S, 0, none⟩) 1 1, .slice none 0 0, .int .i64 1] 37)).alloc (.cells #[.int .i64 0] 3)).alloc (.cells #[.slice (some ⟨S + 1, 0, none⟩) 1 1, .slice (some ⟨S + 1 + 1, 0, none⟩) 1 1] 40) := ⟨_, rfl⟩
  have HB2 : Hid (Below w1.heap.size w1 w2 ∧ w2.heap.size = w1.heap.size + 4) := by
    unfold Hid; rw [hw2]
    exact ⟨(below_three _ _ _ _).trans ((below_alloc1 _ _).mono (by simp; omega)), by simp⟩
  have HR2 : Hid (∀ W, Below w2.heap.size w2 W → (ReadsA W (.slice (some ⟨S + 1, 0, none⟩) 1 1) [⟨3, [0], [], 1⟩] ∧ Reads W (.slice (some ⟨S + 1 + 1, 0, none⟩) 1 1) [0]) ∧ (W.cell? ⟨S + 1 + 1 + 1, 0, none⟩ = some (.slice (some ⟨S + 1, 0, none⟩) 1 1) ∧ W.cell? ⟨S + 1 + 1 + 1, 1, none⟩ = some (.slice (some ⟨S + 1 + 1, 0, none⟩) 1 1))) := fun W hW => by
    have s2 := HB2.out.2
    have hs := HSS.out
    obtain ⟨v1, hv1⟩ : ∃ v1, v1 = w1.alloc (.cells #[.int .i64 0] 3) := ⟨_, rfl⟩
    obtain ⟨v2, hv2⟩ : ∃ v2, v2 = v1.alloc (.cells #[.int .i64 3, .slice (some ⟨S, 0, none⟩) 1 1, .slice none 0 0, .int .i64 1] 37) := ⟨_, rfl⟩
    obtain ⟨v3, hv3⟩ : ∃ v3, v3 = v2.alloc (.cells #[.int .i64 0] 3) := ⟨_, rfl⟩
    have hw3 : w2 = v3.alloc (.cells #[.slice (some ⟨S + 1, 0, none⟩) 1 1, .slice (some ⟨S + 1 + 1, 0, none⟩) 1 1] 40) := by rw [hw2, hv3, hv2, hv1]
    have t1 : v1.heap.size = S + 1 := by rw [hv1]; simp [hs]
    have t2 : v2.heap.size = S + 1 + 1 := by rw [hv2]; simp [t1]
    have t3 : v3.heap.size = S + 1 + 1 + 1 := by rw [hv3]; simp [t2]
    have k1 : Below v1.heap.size v1 w2 := by rw [hw3, hv3, hv2]; exact below_three _ _ _ _
    have k2 : Below v2.heap.size v2 w2 := by rw [hw3, hv3]; exact (below_alloc1 _ _).trans ((below_alloc1 _ _).mono (by simp))
    have k3 : Below v3.heap.size v3 w2 := by rw [hw3]; exact below_alloc1 _ _
    have c1 : w2.cell? ⟨S, 0, none⟩ = some (.int .i64 0) := by rw [k1.cell (show (⟨S, 0, none⟩ : Addr).block < _ by simp; omega), hv1, ← hs]; simp
    have c2 : ∀ j, w2.cell? ⟨S + 1, j, none⟩ = (#[.int .i64 3, .slice (some ⟨S, 0, none⟩) 1 1, .slice none 0 0, .int .i64 1] : Array Value)[j]? := fun j => by rw [k2.cell (show (⟨S + 1, j, none⟩ : Addr).block < _ by simp; omega), hv2, ← t1]; simp
    have c3 : w2.cell? ⟨S + 1 + 1, 0, none⟩ = some (.int .i64 0) := by rw [k3.cell (show (⟨S + 1 + 1, 0, none⟩ : Addr).block < _ by simp; omega), hv3, ← t2]; simp
    have c4 : ∀ j, w2.cell? ⟨S + 1 + 1 + 1, j, none⟩ = (#[.slice (some ⟨S + 1, 0, none⟩) 1 1, .slice (some ⟨S + 1 + 1, 0, none⟩) 1 1] : Array Value)[j]? := fun j => by rw [hw3, ← t3]; simp
    have d1 : ∀ i j, i < S + 1 + 1 + 1 + 1 → W.cell? ⟨i, j, none⟩ = w2.cell? ⟨i, j, none⟩ := fun i j hi => hW.cell (show (⟨i, j, none⟩ : Addr).block < _ by simp; omega)
    refine ⟨one_reads ?_ ⟨?_, ?_, ?_, ?_⟩ ?_ (by have := hW.size; omega), ?_, ?_⟩
    · exact (d1 S 0 (by omega)).trans c1
    · rw [d1 (S + 1) 0 (by omega), c2]; rfl
    · rw [d1 (S + 1) 1 (by omega), c2]; rfl
    · rw [d1 (S + 1) 2 (by omega), c2]; rfl
    · rw [d1 (S + 1) 3 (by omega), c2]; rfl
    · rw [d1 (S + 1 + 1) 0 (by omega)]; exact c3
    · rw [d1 (S + 1 + 1 + 1) 0 (by omega), c4]; rfl
    · rw [d1 (S + 1 + 1 + 1) 1 (by omega), c4]; rfl
  have HB12 : Hid (∀ W, Below w2.heap.size w2 W → Below w1.heap.size w1 W) := fun W h => HB2.out.1.trans (h.mono HB2.out.1.size)
  have HO1 : Hid (∀ W, Below w2.heap.size w2 W → _) := fun W hW => fholds_good (.slice (some ⟨S + 1, 0, none⟩) 1 1) (.slice (some ⟨S + 1 + 1, 0, none⟩) 1 1) [⟨3, [0], [], 1⟩] [0] 1 1 0 0 W (HR2.out W hW).1.1 (HR2.out W hW).1.2 (HKd.out W (HB12.out W hW)) (by decide +kernel) (by decide +kernel) true (by decide +kernel)
  have HO2 : Hid (∀ W, Below w2.heap.size w2 W → _) := fun W hW => fholds_good (.slice (some ⟨S + 1, 0, none⟩) 1 1) (.slice (some ⟨S + 1 + 1, 0, none⟩) 1 1) [⟨3, [0], [], 1⟩] [0] 1 0 0 0 W (HR2.out W hW).1.1 (HR2.out W hW).1.2 (HKd.out W (HB12.out W hW)) (by decide +kernel) (by decide +kernel) false (by decide +kernel)
  obtain ⟨hf1, hok⟩ := wdForm_zero.1 hf
  obtain ⟨X, hX⟩ : ∃ X, valF ((Wd.mk u a b e1).heldL ats) c = X := ⟨_, rfl⟩
  have HHf : Hid (∀ W, Below w1.heap.size w1 W → _) := fun W hW => fholds_good _ _ ats c u a b e1 W (HA.out W hW).1 (HA.out W hW).2.1 (HKd.out W hW) hf1 hok X hX
  have hone := (formFault_zero.1 hf1).2.2.2.2
  have HNg : Hid (∀ W, Below w1.heap.size w1 W → _) := fun W hW => negate_full _ _ ats c W (HA.out W hW).1 (HA.out W hW).2.1 (HKd.out W hW) hf1 hn
  have HHg : Hid (∀ W, Below w1.heap.size w1 W → _) := fun W hW => fholds_none _ _ bts d u a b e1 W (HA.out W hW).2.2.1 (HA.out W hW).2.2.2 (HKd.out W hW) hg
  obtain ⟨Fg, hFg⟩ : ∃ Fg, Fg = (Wd.mk u a b e1).formFault bts d := ⟨_, rfl⟩
  rw [← hFg] at HHg
  clear hFg hg
  clear hm1 hn1 hm2 hn2 hf hf1 hok hX hone hn
  obtain ⟨_, ⟨p0, p1⟩⟩ := HR2.out w2 (Below.refl _ _)
  rw [hw2] at p0 p1
  subst hS
  go_enter Tryd.func6, Tryd.ntmps6
  go_wp2_with fail
  rw [← hw1, ← hw2]
  clear hw1 hw2 p0 p1
  go_at_call 15
  refine (HO1.out _ (Below.refl _ _)).mono ?_
  rintro e w3 ⟨rfl, hb⟩
  have HB3 : Hid (Below w2.heap.size w2 w3) := hb
  clear hb HO1
  obtain ⟨_, ⟨p0, p1⟩⟩ := HR2.out w3 HB3.out
  go_wp2_with fail
  go_at_call 15
  refine (HO2.out _ HB3.out).mono ?_
  rintro e w4 ⟨rfl, hb⟩
  have HB4 : Hid (Below w1.heap.size w1 w4) := HB12.out _ (HB3.out.trans (hb.mono HB3.out.size))
  clear hb HO2 p0 p1 HR2 HB12 HB3
  obtain ⟨⟨x0, x1⟩, ⟨y0, y1, y2, y3⟩, ⟨z0, z1⟩⟩ := HX.out w4 HB4.out
  go_wp2_with fail
  go_at_call 15
  refine (HHf.out _ HB4.out).mono ?_
  rintro e w5 ⟨rfl, hb⟩
  have HB5 : Hid (Below w1.heap.size w1 w5) := HB4.out.trans (hb.mono HB4.out.size)
  clear hb HHf
  clear x0 x1 y0 y1 y2 y3 z0 z1
  obtain ⟨⟨x0, x1⟩, ⟨y0, y1, y2, y3⟩, ⟨z0, z1⟩⟩ := HX.out w5 HB5.out
  go_wp2_with fail
  go_at_call 17
  refine (HNg.out _ HB5.out).mono ?_
  rintro e w6 ⟨rfl, hb⟩
  have HB6 : Hid (Below w1.heap.size w1 w6) := HB5.out.trans (hb.mono HB5.out.size)
  clear hb HNg
  clear x0 x1 y0 y1 y2 y3 z0 z1
  obtain ⟨w8, hw8⟩ : ∃ w8, w8 = w6.alloc (.cells #[.slice none 0 0, .slice none 0 0] 40) := ⟨_, rfl⟩
  have HB8 : Hid (Below w1.heap.size w1 w8) := by unfold Hid; rw [hw8]; exact HB6.out.trans ((below_alloc1 _ _).mono HB6.out.size)
  obtain ⟨⟨x0, x1⟩, ⟨y0, y1, y2, y3⟩, ⟨z0, z1⟩⟩ := HX.out w8 HB8.out
  rw [hw8] at x0 x1 y0 y1 y2 y3 z0 z1
  go_wp2_with fail
  rw [← hw8]
  clear hw8
  go_at_call 15
  refine (HHg.out _ HB8.out).mono ?_
  rintro e w9 ⟨rfl, hb⟩
  have HB9 : Hid (Below w1.heap.size w1 w9) := HB8.out.trans (hb.mono HB8.out.size)
  clear hb HHg
  clear x0 x1 y0 y1 y2 y3 z0 z1
  go_wp2
  go_ret
  exact ⟨rfl, HB1.out.trans (HB9.out.mono HB1.out.size)⟩

set_option linter.unusedVariables false in
set_option maxHeartbeats 8000000 in
theorem formTurns_F4 (ao co bo eo : Option Addr) (acap ccap bcap ecap : Nat) (ats bts : List At) (c d : List Int) (m1 n1 m2 n2 : Nat) (hm1 : m1 = ats.length) (hn1 : n1 = c.length) (hm2 : m2 = bts.length) (hn2 : n2 = d.length) (u a b e1 : Int) (w : World) (hA : ReadsA w (.slice ao m1 acap) ats) (hC : Reads w (.slice co n1 ccap) c) (hA2 : ReadsA w (.slice bo m2 bcap) bts) (hC2 : Reads w (.slice eo n2 ecap) d) (hK : KindsLaid w) (hf : (Wd.mk u a b e1).formFault ats c = 0) (hn : c.length = 20) (hg : (Wd.mk u a b e1).formFault bts d = 0) (hq : 6 < ats.length + bts.length ∨ 19 < c.length + d.length) :
    Calls Tryd.prog 6 #[.agg #[.slice ao m1 acap, .slice co n1 ccap], .agg #[.int .i64 u, .int .i64 a, .int .i64 b, .int .i64 e1], .agg #[.slice bo m2 bcap, .slice eo n2 ecap]] w fun e w' => e = .returned (.bool true) ∧ Below w.heap.size w w' := by
  obtain ⟨w1, hw1⟩ : ∃ w1, w1 = ((w.alloc (.cells #[.slice ao m1 acap, .slice co n1 ccap] 40)).alloc (.cells #[.int .i64 u, .int .i64 a, .int .i64 b, .int .i64 e1] 25)).alloc (.cells #[.slice bo m2 bcap, .slice eo n2 ecap] 40) := ⟨_, rfl⟩
  have HB1 : Hid (Below w.heap.size w w1) := by unfold Hid; rw [hw1]; exact below_three _ _ _ _
  have HS1 : Hid (w1.heap.size = w.heap.size + 3) := by unfold Hid; rw [hw1]; simp
  have HX : Hid (∀ W, Below w1.heap.size w1 W → BoxT W w.heap.size (.slice ao m1 acap) (.slice co n1 ccap) (.slice bo m2 bcap) (.slice eo n2 ecap) u a b e1) := fun W hW => BoxT.below (W := w1) (by rw [hw1]; exact boxT_alloc w _ _ _ _ _ _ _ _) (by have := HS1.out; omega) hW
  have HKd : Hid (∀ W, Below w1.heap.size w1 W → KindsLaid W) := fun W hW => (hK.below HB1.out).below hW
  have HA : Hid (∀ W, Below w1.heap.size w1 W → ReadsA W (.slice ao m1 acap) ats ∧ Reads W (.slice co n1 ccap) c ∧ ReadsA W (.slice bo m2 bcap) bts ∧ Reads W (.slice eo n2 ecap) d) := fun W hW => ⟨(hA.below HB1.out).below hW, (hC.below HB1.out).below hW, (hA2.below HB1.out).below hW, (hC2.below HB1.out).below hW⟩
  clear hA hC hA2 hC2 hK
  obtain ⟨S, hS⟩ : ∃ S, S = w.heap.size + 1 + 1 + 1 := ⟨_, rfl⟩
  have HSS : Hid (w1.heap.size = S) := by unfold Hid; rw [HS1.out, hS]
  obtain ⟨w2, hw2⟩ : ∃ w2, w2 = (((w1.alloc (.cells #[.int .i64 0] 3)).alloc (.cells #[.int .i64 3, .slice (some ⟨S, 0, none⟩) 1 1, .slice none 0 0, .int .i64 1] 37)).alloc (.cells #[.int .i64 0] 3)).alloc (.cells #[.slice (some ⟨S + 1, 0, none⟩) 1 1, .slice (some ⟨S + 1 + 1, 0, none⟩) 1 1] 40) := ⟨_, rfl⟩
  have HB2 : Hid (Below w1.heap.size w1 w2 ∧ w2.heap.size = w1.heap.size + 4) := by
    unfold Hid; rw [hw2]
    exact ⟨(below_three _ _ _ _).trans ((below_alloc1 _ _).mono (by simp; omega)), by simp⟩
  have HR2 : Hid (∀ W, Below w2.heap.size w2 W → (ReadsA W (.slice (some ⟨S + 1, 0, none⟩) 1 1) [⟨3, [0], [], 1⟩] ∧ Reads W (.slice (some ⟨S + 1 + 1, 0, none⟩) 1 1) [0]) ∧ (W.cell? ⟨S + 1 + 1 + 1, 0, none⟩ = some (.slice (some ⟨S + 1, 0, none⟩) 1 1) ∧ W.cell? ⟨S + 1 + 1 + 1, 1, none⟩ = some (.slice (some ⟨S + 1 + 1, 0, none⟩) 1 1))) := fun W hW => by
    have s2 := HB2.out.2
    have hs := HSS.out
    obtain ⟨v1, hv1⟩ : ∃ v1, v1 = w1.alloc (.cells #[.int .i64 0] 3) := ⟨_, rfl⟩
    obtain ⟨v2, hv2⟩ : ∃ v2, v2 = v1.alloc (.cells #[.int .i64 3, .slice (some ⟨S, 0, none⟩) 1 1, .slice none 0 0, .int .i64 1] 37) := ⟨_, rfl⟩
    obtain ⟨v3, hv3⟩ : ∃ v3, v3 = v2.alloc (.cells #[.int .i64 0] 3) := ⟨_, rfl⟩
    have hw3 : w2 = v3.alloc (.cells #[.slice (some ⟨S + 1, 0, none⟩) 1 1, .slice (some ⟨S + 1 + 1, 0, none⟩) 1 1] 40) := by rw [hw2, hv3, hv2, hv1]
    have t1 : v1.heap.size = S + 1 := by rw [hv1]; simp [hs]
    have t2 : v2.heap.size = S + 1 + 1 := by rw [hv2]; simp [t1]
    have t3 : v3.heap.size = S + 1 + 1 + 1 := by rw [hv3]; simp [t2]
    have k1 : Below v1.heap.size v1 w2 := by rw [hw3, hv3, hv2]; exact below_three _ _ _ _
    have k2 : Below v2.heap.size v2 w2 := by rw [hw3, hv3]; exact (below_alloc1 _ _).trans ((below_alloc1 _ _).mono (by simp))
    have k3 : Below v3.heap.size v3 w2 := by rw [hw3]; exact below_alloc1 _ _
    have c1 : w2.cell? ⟨S, 0, none⟩ = some (.int .i64 0) := by rw [k1.cell (show (⟨S, 0, none⟩ : Addr).block < _ by simp; omega), hv1, ← hs]; simp
    have c2 : ∀ j, w2.cell? ⟨S + 1, j, none⟩ = (#[.int .i64 3, .slice (some ⟨S, 0, none⟩) 1 1, .slice none 0 0, .int .i64 1] : Array Value)[j]? := fun j => by rw [k2.cell (show (⟨S + 1, j, none⟩ : Addr).block < _ by simp; omega), hv2, ← t1]; simp
    have c3 : w2.cell? ⟨S + 1 + 1, 0, none⟩ = some (.int .i64 0) := by rw [k3.cell (show (⟨S + 1 + 1, 0, none⟩ : Addr).block < _ by simp; omega), hv3, ← t2]; simp
    have c4 : ∀ j, w2.cell? ⟨S + 1 + 1 + 1, j, none⟩ = (#[.slice (some ⟨S + 1, 0, none⟩) 1 1, .slice (some ⟨S + 1 + 1, 0, none⟩) 1 1] : Array Value)[j]? := fun j => by rw [hw3, ← t3]; simp
    have d1 : ∀ i j, i < S + 1 + 1 + 1 + 1 → W.cell? ⟨i, j, none⟩ = w2.cell? ⟨i, j, none⟩ := fun i j hi => hW.cell (show (⟨i, j, none⟩ : Addr).block < _ by simp; omega)
    refine ⟨one_reads ?_ ⟨?_, ?_, ?_, ?_⟩ ?_ (by have := hW.size; omega), ?_, ?_⟩
    · exact (d1 S 0 (by omega)).trans c1
    · rw [d1 (S + 1) 0 (by omega), c2]; rfl
    · rw [d1 (S + 1) 1 (by omega), c2]; rfl
    · rw [d1 (S + 1) 2 (by omega), c2]; rfl
    · rw [d1 (S + 1) 3 (by omega), c2]; rfl
    · rw [d1 (S + 1 + 1) 0 (by omega)]; exact c3
    · rw [d1 (S + 1 + 1 + 1) 0 (by omega), c4]; rfl
    · rw [d1 (S + 1 + 1 + 1) 1 (by omega), c4]; rfl
  have HB12 : Hid (∀ W, Below w2.heap.size w2 W → Below w1.heap.size w1 W) := fun W h => HB2.out.1.trans (h.mono HB2.out.1.size)
  have HO1 : Hid (∀ W, Below w2.heap.size w2 W → _) := fun W hW => fholds_good (.slice (some ⟨S + 1, 0, none⟩) 1 1) (.slice (some ⟨S + 1 + 1, 0, none⟩) 1 1) [⟨3, [0], [], 1⟩] [0] 1 1 0 0 W (HR2.out W hW).1.1 (HR2.out W hW).1.2 (HKd.out W (HB12.out W hW)) (by decide +kernel) (by decide +kernel) true (by decide +kernel)
  have HO2 : Hid (∀ W, Below w2.heap.size w2 W → _) := fun W hW => fholds_good (.slice (some ⟨S + 1, 0, none⟩) 1 1) (.slice (some ⟨S + 1 + 1, 0, none⟩) 1 1) [⟨3, [0], [], 1⟩] [0] 1 0 0 0 W (HR2.out W hW).1.1 (HR2.out W hW).1.2 (HKd.out W (HB12.out W hW)) (by decide +kernel) (by decide +kernel) false (by decide +kernel)
  obtain ⟨hf1, hok⟩ := wdForm_zero.1 hf
  obtain ⟨X, hX⟩ : ∃ X, valF ((Wd.mk u a b e1).heldL ats) c = X := ⟨_, rfl⟩
  have HHf : Hid (∀ W, Below w1.heap.size w1 W → _) := fun W hW => fholds_good _ _ ats c u a b e1 W (HA.out W hW).1 (HA.out W hW).2.1 (HKd.out W hW) hf1 hok X hX
  have hone := (formFault_zero.1 hf1).2.2.2.2
  have HNg : Hid (∀ W, Below w1.heap.size w1 W → _) := fun W hW => negate_full _ _ ats c W (HA.out W hW).1 (HA.out W hW).2.1 (HKd.out W hW) hf1 hn
  obtain ⟨hg1, _⟩ := wdForm_zero.1 hg
  obtain ⟨Y, hY⟩ : ∃ Y, valF ((Wd.mk u a b e1).heldL bts) d = Y := ⟨_, rfl⟩
  have HHg : Hid (∀ W, Below w1.heap.size w1 W → _) := fun W hW => fholds_good _ _ bts d u a b e1 W (HA.out W hW).2.2.1 (HA.out W hW).2.2.2 (HKd.out W hW) hg1 hok Y hY
  have HBo : Hid (∀ W, Below w1.heap.size w1 W → _) := fun W hW => both_full _ _ _ _ ats bts c d W (HA.out W hW).1 (HA.out W hW).2.1 (HA.out W hW).2.2.1 (HA.out W hW).2.2.2 (HKd.out W hW) hf1 hg1 hq
  obtain ⟨⟨_, s1⟩, ⟨_, s2⟩, _⟩ := formFault_zero.1 hf1
  obtain ⟨⟨_, s3⟩, ⟨_, s4⟩, _⟩ := formFault_zero.1 hg1
  rw [← hm1] at s1 hq
  rw [← hn1] at s2 hq
  rw [← hm2] at s3 hq
  rw [← hn2] at s4 hq
  clear hm1 hn1 hm2 hn2 hf hf1 hok hX hone hn hg hg1 hY
  obtain ⟨_, ⟨p0, p1⟩⟩ := HR2.out w2 (Below.refl _ _)
  rw [hw2] at p0 p1
  subst hS
  go_enter Tryd.func6, Tryd.ntmps6
  go_wp2_with fail
  rw [← hw1, ← hw2]
  clear hw1 hw2 p0 p1
  go_at_call 15
  refine (HO1.out _ (Below.refl _ _)).mono ?_
  rintro e w3 ⟨rfl, hb⟩
  have HB3 : Hid (Below w2.heap.size w2 w3) := hb
  clear hb HO1
  obtain ⟨_, ⟨p0, p1⟩⟩ := HR2.out w3 HB3.out
  go_wp2_with fail
  go_at_call 15
  refine (HO2.out _ HB3.out).mono ?_
  rintro e w4 ⟨rfl, hb⟩
  have HB4 : Hid (Below w1.heap.size w1 w4) := HB12.out _ (HB3.out.trans (hb.mono HB3.out.size))
  clear hb HO2 p0 p1 HR2 HB12 HB3
  obtain ⟨⟨x0, x1⟩, ⟨y0, y1, y2, y3⟩, ⟨z0, z1⟩⟩ := HX.out w4 HB4.out
  go_wp2_with fail
  go_at_call 15
  refine (HHf.out _ HB4.out).mono ?_
  rintro e w5 ⟨rfl, hb⟩
  have HB5 : Hid (Below w1.heap.size w1 w5) := HB4.out.trans (hb.mono HB4.out.size)
  clear hb HHf
  clear x0 x1 y0 y1 y2 y3 z0 z1
  obtain ⟨⟨x0, x1⟩, ⟨y0, y1, y2, y3⟩, ⟨z0, z1⟩⟩ := HX.out w5 HB5.out
  go_wp2_with fail
  go_at_call 17
  refine (HNg.out _ HB5.out).mono ?_
  rintro e w6 ⟨rfl, hb⟩
  have HB6 : Hid (Below w1.heap.size w1 w6) := HB5.out.trans (hb.mono HB5.out.size)
  clear hb HNg
  clear x0 x1 y0 y1 y2 y3 z0 z1
  obtain ⟨w8, hw8⟩ : ∃ w8, w8 = w6.alloc (.cells #[.slice none 0 0, .slice none 0 0] 40) := ⟨_, rfl⟩
  have HB8 : Hid (Below w1.heap.size w1 w8) := by unfold Hid; rw [hw8]; exact HB6.out.trans ((below_alloc1 _ _).mono HB6.out.size)
  obtain ⟨⟨x0, x1⟩, ⟨y0, y1, y2, y3⟩, ⟨z0, z1⟩⟩ := HX.out w8 HB8.out
  rw [hw8] at x0 x1 y0 y1 y2 y3 z0 z1
  go_wp2_with fail
  rw [← hw8]
  clear hw8
  go_at_call 15
  refine (HHg.out _ HB8.out).mono ?_
  rintro e w9 ⟨rfl, hb⟩
  have HB9 : Hid (Below w1.heap.size w1 w9) := HB8.out.trans (hb.mono HB8.out.size)
  clear hb HHg
  clear x0 x1 y0 y1 y2 y3 z0 z1
  obtain ⟨⟨x0, x1⟩, ⟨y0, y1, y2, y3⟩, ⟨z0, z1⟩⟩ := HX.out w9 HB9.out
  go_wp2_with fail
  go_at_call 20
  refine (HBo.out _ HB9.out).mono ?_
  rintro e w10 ⟨rfl, hb⟩
  have HB10 : Hid (Below w1.heap.size w1 w10) := HB9.out.trans (hb.mono HB9.out.size)
  clear hb HBo
  clear x0 x1 y0 y1 y2 y3 z0 z1
  obtain ⟨w11, hw11⟩ : ∃ w11, w11 = w10.alloc (.cells #[.slice none 0 0, .slice none 0 0] 40) := ⟨_, rfl⟩
  have HB11 : Hid (Below w1.heap.size w1 w11) := by unfold Hid; rw [hw11]; exact HB10.out.trans ((below_alloc1 _ _).mono HB10.out.size)
  obtain ⟨⟨x0, x1⟩, ⟨y0, y1, y2, y3⟩, ⟨z0, z1⟩⟩ := HX.out w11 HB11.out
  rw [hw11] at x0 x1 y0 y1 y2 y3 z0 z1 HB11
  clear hw11
  by_cases h6 : (6 : Int) < (m1 : Int) + (m2 : Int)
  · go_wp2
    go_ret
    exact ⟨rfl, HB1.out.trans (HB11.out.mono HB1.out.size)⟩
  · have h19 : (19 : Int) < (n1 : Int) + (n2 : Int) := by omega
    go_wp2
    go_ret
    exact ⟨rfl, HB1.out.trans (HB11.out.mono HB1.out.size)⟩

set_option linter.unusedVariables false in
set_option maxHeartbeats 8000000 in
theorem formTurns_F0 (ao co bo eo : Option Addr) (acap ccap bcap ecap : Nat) (ats bts : List At) (c d : List Int) (m1 n1 m2 n2 : Nat) (hm1 : m1 = ats.length) (hn1 : n1 = c.length) (hm2 : m2 = bts.length) (hn2 : n2 = d.length) (u a b e1 : Int) (w : World) (hA : ReadsA w (.slice ao m1 acap) ats) (hC : Reads w (.slice co n1 ccap) c) (hA2 : ReadsA w (.slice bo m2 bcap) bts) (hC2 : Reads w (.slice eo n2 ecap) d) (hK : KindsLaid w) (hf : (Wd.mk u a b e1).formFault ats c = 0) (hn : c.length = 20) (hg : (Wd.mk u a b e1).formFault bts d = 0) (hq : ¬ (6 < ats.length + bts.length ∨ 19 < c.length + d.length)) :
    Calls Tryd.prog 6 #[.agg #[.slice ao m1 acap, .slice co n1 ccap], .agg #[.int .i64 u, .int .i64 a, .int .i64 b, .int .i64 e1], .agg #[.slice bo m2 bcap, .slice eo n2 ecap]] w fun e w' => e = .returned (.bool true) ∧ Below w.heap.size w w' := by
  obtain ⟨w1, hw1⟩ : ∃ w1, w1 = ((w.alloc (.cells #[.slice ao m1 acap, .slice co n1 ccap] 40)).alloc (.cells #[.int .i64 u, .int .i64 a, .int .i64 b, .int .i64 e1] 25)).alloc (.cells #[.slice bo m2 bcap, .slice eo n2 ecap] 40) := ⟨_, rfl⟩
  have HB1 : Hid (Below w.heap.size w w1) := by unfold Hid; rw [hw1]; exact below_three _ _ _ _
  have HS1 : Hid (w1.heap.size = w.heap.size + 3) := by unfold Hid; rw [hw1]; simp
  have HX : Hid (∀ W, Below w1.heap.size w1 W → BoxT W w.heap.size (.slice ao m1 acap) (.slice co n1 ccap) (.slice bo m2 bcap) (.slice eo n2 ecap) u a b e1) := fun W hW => BoxT.below (W := w1) (by rw [hw1]; exact boxT_alloc w _ _ _ _ _ _ _ _) (by have := HS1.out; omega) hW
  have HKd : Hid (∀ W, Below w1.heap.size w1 W → KindsLaid W) := fun W hW => (hK.below HB1.out).below hW
  have HA : Hid (∀ W, Below w1.heap.size w1 W → ReadsA W (.slice ao m1 acap) ats ∧ Reads W (.slice co n1 ccap) c ∧ ReadsA W (.slice bo m2 bcap) bts ∧ Reads W (.slice eo n2 ecap) d) := fun W hW => ⟨(hA.below HB1.out).below hW, (hC.below HB1.out).below hW, (hA2.below HB1.out).below hW, (hC2.below HB1.out).below hW⟩
  clear hA hC hA2 hC2 hK
  obtain ⟨S, hS⟩ : ∃ S, S = w.heap.size + 1 + 1 + 1 := ⟨_, rfl⟩
  have HSS : Hid (w1.heap.size = S) := by unfold Hid; rw [HS1.out, hS]
  obtain ⟨w2, hw2⟩ : ∃ w2, w2 = (((w1.alloc (.cells #[.int .i64 0] 3)).alloc (.cells #[.int .i64 3, .slice (some ⟨S, 0, none⟩) 1 1, .slice none 0 0, .int .i64 1] 37)).alloc (.cells #[.int .i64 0] 3)).alloc (.cells #[.slice (some ⟨S + 1, 0, none⟩) 1 1, .slice (some ⟨S + 1 + 1, 0, none⟩) 1 1] 40) := ⟨_, rfl⟩
  have HB2 : Hid (Below w1.heap.size w1 w2 ∧ w2.heap.size = w1.heap.size + 4) := by
    unfold Hid; rw [hw2]
    exact ⟨(below_three _ _ _ _).trans ((below_alloc1 _ _).mono (by simp; omega)), by simp⟩
  have HR2 : Hid (∀ W, Below w2.heap.size w2 W → (ReadsA W (.slice (some ⟨S + 1, 0, none⟩) 1 1) [⟨3, [0], [], 1⟩] ∧ Reads W (.slice (some ⟨S + 1 + 1, 0, none⟩) 1 1) [0]) ∧ (W.cell? ⟨S + 1 + 1 + 1, 0, none⟩ = some (.slice (some ⟨S + 1, 0, none⟩) 1 1) ∧ W.cell? ⟨S + 1 + 1 + 1, 1, none⟩ = some (.slice (some ⟨S + 1 + 1, 0, none⟩) 1 1))) := fun W hW => by
    have s2 := HB2.out.2
    have hs := HSS.out
    obtain ⟨v1, hv1⟩ : ∃ v1, v1 = w1.alloc (.cells #[.int .i64 0] 3) := ⟨_, rfl⟩
    obtain ⟨v2, hv2⟩ : ∃ v2, v2 = v1.alloc (.cells #[.int .i64 3, .slice (some ⟨S, 0, none⟩) 1 1, .slice none 0 0, .int .i64 1] 37) := ⟨_, rfl⟩
    obtain ⟨v3, hv3⟩ : ∃ v3, v3 = v2.alloc (.cells #[.int .i64 0] 3) := ⟨_, rfl⟩
    have hw3 : w2 = v3.alloc (.cells #[.slice (some ⟨S + 1, 0, none⟩) 1 1, .slice (some ⟨S + 1 + 1, 0, none⟩) 1 1] 40) := by rw [hw2, hv3, hv2, hv1]
    have t1 : v1.heap.size = S + 1 := by rw [hv1]; simp [hs]
    have t2 : v2.heap.size = S + 1 + 1 := by rw [hv2]; simp [t1]
    have t3 : v3.heap.size = S + 1 + 1 + 1 := by rw [hv3]; simp [t2]
    have k1 : Below v1.heap.size v1 w2 := by rw [hw3, hv3, hv2]; exact below_three _ _ _ _
    have k2 : Below v2.heap.size v2 w2 := by rw [hw3, hv3]; exact (below_alloc1 _ _).trans ((below_alloc1 _ _).mono (by simp))
    have k3 : Below v3.heap.size v3 w2 := by rw [hw3]; exact below_alloc1 _ _
    have c1 : w2.cell? ⟨S, 0, none⟩ = some (.int .i64 0) := by rw [k1.cell (show (⟨S, 0, none⟩ : Addr).block < _ by simp; omega), hv1, ← hs]; simp
    have c2 : ∀ j, w2.cell? ⟨S + 1, j, none⟩ = (#[.int .i64 3, .slice (some ⟨S, 0, none⟩) 1 1, .slice none 0 0, .int .i64 1] : Array Value)[j]? := fun j => by rw [k2.cell (show (⟨S + 1, j, none⟩ : Addr).block < _ by simp; omega), hv2, ← t1]; simp
    have c3 : w2.cell? ⟨S + 1 + 1, 0, none⟩ = some (.int .i64 0) := by rw [k3.cell (show (⟨S + 1 + 1, 0, none⟩ : Addr).block < _ by simp; omega), hv3, ← t2]; simp
    have c4 : ∀ j, w2.cell? ⟨S + 1 + 1 + 1, j, none⟩ = (#[.slice (some ⟨S + 1, 0, none⟩) 1 1, .slice (some ⟨S + 1 + 1, 0, none⟩) 1 1] : Array Value)[j]? := fun j => by rw [hw3, ← t3]; simp
    have d1 : ∀ i j, i < S + 1 + 1 + 1 + 1 → W.cell? ⟨i, j, none⟩ = w2.cell? ⟨i, j, none⟩ := fun i j hi => hW.cell (show (⟨i, j, none⟩ : Addr).block < _ by simp; omega)
    refine ⟨one_reads ?_ ⟨?_, ?_, ?_, ?_⟩ ?_ (by have := hW.size; omega), ?_, ?_⟩
    · exact (d1 S 0 (by omega)).trans c1
    · rw [d1 (S + 1) 0 (by omega), c2]; rfl
    · rw [d1 (S + 1) 1 (by omega), c2]; rfl
    · rw [d1 (S + 1) 2 (by omega), c2]; rfl
    · rw [d1 (S + 1) 3 (by omega), c2]; rfl
    · rw [d1 (S + 1 + 1) 0 (by omega)]; exact c3
    · rw [d1 (S + 1 + 1 + 1) 0 (by omega), c4]; rfl
    · rw [d1 (S + 1 + 1 + 1) 1 (by omega), c4]; rfl
  have HB12 : Hid (∀ W, Below w2.heap.size w2 W → Below w1.heap.size w1 W) := fun W h => HB2.out.1.trans (h.mono HB2.out.1.size)
  have HO1 : Hid (∀ W, Below w2.heap.size w2 W → _) := fun W hW => fholds_good (.slice (some ⟨S + 1, 0, none⟩) 1 1) (.slice (some ⟨S + 1 + 1, 0, none⟩) 1 1) [⟨3, [0], [], 1⟩] [0] 1 1 0 0 W (HR2.out W hW).1.1 (HR2.out W hW).1.2 (HKd.out W (HB12.out W hW)) (by decide +kernel) (by decide +kernel) true (by decide +kernel)
  have HO2 : Hid (∀ W, Below w2.heap.size w2 W → _) := fun W hW => fholds_good (.slice (some ⟨S + 1, 0, none⟩) 1 1) (.slice (some ⟨S + 1 + 1, 0, none⟩) 1 1) [⟨3, [0], [], 1⟩] [0] 1 0 0 0 W (HR2.out W hW).1.1 (HR2.out W hW).1.2 (HKd.out W (HB12.out W hW)) (by decide +kernel) (by decide +kernel) false (by decide +kernel)
  obtain ⟨hf1, hok⟩ := wdForm_zero.1 hf
  obtain ⟨X, hX⟩ : ∃ X, valF ((Wd.mk u a b e1).heldL ats) c = X := ⟨_, rfl⟩
  have HHf : Hid (∀ W, Below w1.heap.size w1 W → _) := fun W hW => fholds_good _ _ ats c u a b e1 W (HA.out W hW).1 (HA.out W hW).2.1 (HKd.out W hW) hf1 hok X hX
  have hone := (formFault_zero.1 hf1).2.2.2.2
  have HNg : Hid (∀ W, Below w1.heap.size w1 W → _) := fun W hW => negate_full _ _ ats c W (HA.out W hW).1 (HA.out W hW).2.1 (HKd.out W hW) hf1 hn
  obtain ⟨hg1, _⟩ := wdForm_zero.1 hg
  obtain ⟨Y, hY⟩ : ∃ Y, valF ((Wd.mk u a b e1).heldL bts) d = Y := ⟨_, rfl⟩
  have HHg : Hid (∀ W, Below w1.heap.size w1 W → _) := fun W hW => fholds_good _ _ bts d u a b e1 W (HA.out W hW).2.2.1 (HA.out W hW).2.2.2 (HKd.out W hW) hg1 hok Y hY
  obtain ⟨Z, hZ⟩ : ∃ Z, Z = (X && Y) := ⟨_, rfl⟩
  have HBo : Hid (∀ W, Below w1.heap.size w1 W → _) := fun W hW => both_right _ _ _ _ ats bts c d W (HA.out W hW).1 (HA.out W hW).2.1 (HA.out W hW).2.2.1 (HA.out W hW).2.2.2 (HKd.out W hW) hf1 hg1 hq
  have HHb : Hid (∀ va' vc' W, Below w1.heap.size w1 W → ReadsA W va' (ats ++ bts) → Reads W vc' (c ++ (d.map (movedF ats.length) ++ [10])) → _) := fun va' vc' W hW r1 r2 => fholds_good va' vc' (ats ++ bts) (c ++ (d.map (movedF ats.length) ++ [10])) u a b e1 W r1 r2 (HKd.out W hW) (good_both hf1 hg1 (by omega) (by omega)) hok Z (by
    have e : (Wd.mk u a b e1).heldL (ats ++ bts) = (Wd.mk u a b e1).heldL ats ++ (Wd.mk u a b e1).heldL bts := by simp [Wd.heldL]
    rw [e, val_both _ _ (by simp [Wd.heldL]) hf1 hg1 (by omega), hX, hY, hZ])
  clear hm1 hn1 hm2 hn2 hf hf1 hok hX hone hn hg hg1 hY hq
  obtain ⟨_, ⟨p0, p1⟩⟩ := HR2.out w2 (Below.refl _ _)
  rw [hw2] at p0 p1
  subst hS
  go_enter Tryd.func6, Tryd.ntmps6
  go_wp2_with fail
  rw [← hw1, ← hw2]
  clear hw1 hw2 p0 p1
  go_at_call 15
  refine (HO1.out _ (Below.refl _ _)).mono ?_
  rintro e w3 ⟨rfl, hb⟩
  have HB3 : Hid (Below w2.heap.size w2 w3) := hb
  clear hb HO1
  obtain ⟨_, ⟨p0, p1⟩⟩ := HR2.out w3 HB3.out
  go_wp2_with fail
  go_at_call 15
  refine (HO2.out _ HB3.out).mono ?_
  rintro e w4 ⟨rfl, hb⟩
  have HB4 : Hid (Below w1.heap.size w1 w4) := HB12.out _ (HB3.out.trans (hb.mono HB3.out.size))
  clear hb HO2 p0 p1 HR2 HB12 HB3
  obtain ⟨⟨x0, x1⟩, ⟨y0, y1, y2, y3⟩, ⟨z0, z1⟩⟩ := HX.out w4 HB4.out
  go_wp2_with fail
  go_at_call 15
  refine (HHf.out _ HB4.out).mono ?_
  rintro e w5 ⟨rfl, hb⟩
  have HB5 : Hid (Below w1.heap.size w1 w5) := HB4.out.trans (hb.mono HB4.out.size)
  clear hb HHf
  clear x0 x1 y0 y1 y2 y3 z0 z1
  obtain ⟨⟨x0, x1⟩, ⟨y0, y1, y2, y3⟩, ⟨z0, z1⟩⟩ := HX.out w5 HB5.out
  go_wp2_with fail
  go_at_call 17
  refine (HNg.out _ HB5.out).mono ?_
  rintro e w6 ⟨rfl, hb⟩
  have HB6 : Hid (Below w1.heap.size w1 w6) := HB5.out.trans (hb.mono HB5.out.size)
  clear hb HNg
  clear x0 x1 y0 y1 y2 y3 z0 z1
  obtain ⟨w8, hw8⟩ : ∃ w8, w8 = w6.alloc (.cells #[.slice none 0 0, .slice none 0 0] 40) := ⟨_, rfl⟩
  have HB8 : Hid (Below w1.heap.size w1 w8) := by unfold Hid; rw [hw8]; exact HB6.out.trans ((below_alloc1 _ _).mono HB6.out.size)
  obtain ⟨⟨x0, x1⟩, ⟨y0, y1, y2, y3⟩, ⟨z0, z1⟩⟩ := HX.out w8 HB8.out
  rw [hw8] at x0 x1 y0 y1 y2 y3 z0 z1
  go_wp2_with fail
  rw [← hw8]
  clear hw8
  go_at_call 15
  refine (HHg.out _ HB8.out).mono ?_
  rintro e w9 ⟨rfl, hb⟩
  have HB9 : Hid (Below w1.heap.size w1 w9) := HB8.out.trans (hb.mono HB8.out.size)
  clear hb HHg
  clear x0 x1 y0 y1 y2 y3 z0 z1
  obtain ⟨⟨x0, x1⟩, ⟨y0, y1, y2, y3⟩, ⟨z0, z1⟩⟩ := HX.out w9 HB9.out
  go_wp2_with fail
  go_at_call 20
  refine (HBo.out _ HB9.out).mono ?_
  rintro e w10 ⟨o1, l1, q1, o2, l2, q2, rfl, r1, r2, hb⟩
  have HB10 : Hid (Below w1.heap.size w1 w10) := HB9.out.trans (hb.mono HB9.out.size)
  clear hb HBo
  clear x0 x1 y0 y1 y2 y3 z0 z1
  obtain ⟨w11, hw11⟩ : ∃ w11, w11 = w10.alloc (.cells #[.slice o1 l1 q1, .slice o2 l2 q2] 40) := ⟨_, rfl⟩
  have HB11 : Hid (Below w1.heap.size w1 w11 ∧ Below w10.heap.size w10 w11) := by unfold Hid; rw [hw11]; exact ⟨HB10.out.trans ((below_alloc1 _ _).mono HB10.out.size), below_alloc1 _ _⟩
  have HR11 : Hid (ReadsA w11 (.slice o1 l1 q1) (ats ++ bts) ∧ Reads w11 (.slice o2 l2 q2) (c ++ (d.map (movedF ats.length) ++ [10]))) := ⟨r1.below HB11.out.2, r2.below HB11.out.2⟩
  clear r1 r2
  obtain ⟨⟨x0, x1⟩, ⟨y0, y1, y2, y3⟩, ⟨z0, z1⟩⟩ := HX.out w11 HB11.out.1
  rw [hw11] at x0 x1 y0 y1 y2 y3 z0 z1
  go_wp2_with fail
  rw [← hw11]
  clear hw11
  clear x0 x1 y0 y1 y2 y3 z0 z1
  go_at_call 15
  refine (HHb.out _ _ _ HB11.out.1 HR11.out.1 HR11.out.2).mono ?_
  rintro e w12 ⟨rfl, hb⟩
  have HB12 : Hid (Below w1.heap.size w1 w12) := HB11.out.1.trans (hb.mono HB11.out.1.size)
  clear hb HHb HR11
  subst hZ
  cases X <;> cases Y
  all_goals
    go_wp2
    go_ret
    exact ⟨rfl, HB1.out.trans (HB12.out.mono HB1.out.size)⟩

end Go.Proofs.YtenmheenieifpabDoor
