/-
  Proved: vennlaw2.AlikeWorlds returns true, of any two rows, any world and any two numbers, where alike's functions and model.Sure answer as chapters 9 and 12 say; what was in memory is as it was (the walk that the statement leans on).
-/
import Derived.Test.YtpdpnlpepfgknafGreatDoorAlikeWorldsWalkJ
import Derived.Test.YtpdpnlpepfgknafGreatDoorLibPB3
import Derived.Test.YtpdpnlpepfgknafGreatDoorRefJ
import Derived.Test.YtpdpnlpepfgknafGreatDoorIntsJ
namespace Go.Proofs.YtpdpnlpepfgknafGreatDoor
open Go.ChangeShapes Go.WideShapes Go.ChangeAt Go.RowKit
set_option maxRecDepth 100000

theorem fact_same : sameT [0, 1, 6] [1, 0, 6] = true ∧ alikeFault [0, 1, 6] [1, 0, 6] = 0 := by decide +kernel
theorem wdFault_zero {D : Wd} {r : List Int} (h : D.fault r = 0) : faultN r = 0 ∧ D.ok = true ∧ D.answer r = D.val r := by
  unfold Wd.fault at h
  by_cases h1 : faultN r = 0
  · rw [if_pos h1] at h
    by_cases h2 : D.ok = true
    · exact ⟨h1, h2, by unfold Wd.answer; rw [if_pos h1, if_pos h2]⟩
    · rw [if_neg h2] at h; exact absurd h (by decide)
  · rw [if_neg h1] at h; exact absurd h h1
theorem alike_back {s t : List Int} (h : alikeFault s t = 0) : alikeFault t s = 0 := alike_zero.2 ⟨(alike_zero.1 h).2, (alike_zero.1 h).1⟩

theorem alikeWorlds_of (vs vt : Value) (s t : List Int) (wu wa wb wc x y : Int) (w : World) (hS : Reads w vs s) (hT : Reads w vt t)
    (cSa : ∀ (vs vt : Value) (s t : List Int) (W : World), Below w.heap.size w W → Reads W vs s → Reads W vt t → Calls Tryz.prog 16 #[vs, vt] W fun e w' => e = .returned (.tuple #[.bool (sameT s t), errV (alikeFault s t)]) ∧ Below W.heap.size W w')
    (cPa : ∀ (vs vt : Value) (s t : List Int) (W : World), Below w.heap.size w W → Reads W vs s → Reads W vt t → Calls Tryz.prog 17 #[vs, vt] W fun e w' => e = .returned (.tuple #[.bool (partT s t), errV (alikeFault s t)]) ∧ Below W.heap.size W w')
    (cAp : ∀ (vs vt : Value) (s t : List Int) (W : World), Below w.heap.size w W → Reads W vs s → Reads W vt t → Calls Tryz.prog 18 #[vs, vt] W fun e w' => e = .returned (.tuple #[.bool (apartT s t), errV (alikeFault s t)]) ∧ Below W.heap.size W w')
    (cSw : ∀ (vs : Value) (s : List Int) (x y : Int) (W : World), Below w.heap.size w W → Reads W vs s → Calls Tryz.prog 22 #[vs, .int .i64 x, .int .i64 y] W fun e w' => (∃ v, e = .returned (.tuple #[v, errV (swapFault s x y)]) ∧ Reads w' v (swapL s x y)) ∧ Below W.heap.size W w')
    (cSu : ∀ (va vc : Value) (ats : List At) (c : List Int) (u : Int) (W : World), Below w.heap.size w W → ReadsA W va ats → Reads W vc c → Calls Tryz.prog 21 #[.agg #[va, vc], .int .i64 u] W fun e w' => e = .returned (.tuple #[.bool (sureB ats c u), errV (sureFault ats c u)]) ∧ Below W.heap.size W w') :
    Calls Tryz.prog 5 #[vs, vt, .agg #[.int .i64 wu, .int .i64 wa, .int .i64 wb, .int .i64 wc], .int .i64 x, .int .i64 y] w fun e w' => e = .returned (.bool true) ∧ Below w.heap.size w w' := by
  obtain ⟨ft1, ft2⟩ := fact_same
  obtain ⟨D, hD⟩ : ∃ D, D = Wd.mk wu wa wb wc := ⟨_, rfl⟩
  have eu : wu = D.u := by rw [hD]
  have hSa := fun W hW => cSa vs vt s t W hW (hS.below hW) (hT.below hW)
  have hPa := fun W hW => cPa vs vt s t W hW (hS.below hW) (hT.below hW)
  have hAp := fun W hW => cAp vs vt s t W hW (hS.below hW) (hT.below hW)
  have hPb : alikeFault s t = 0 → ∀ W, Below w.heap.size w W → Calls Tryz.prog 17 #[vt, vs] W fun e w' => e = .returned (.tuple #[.bool (partT t s), .nilIface]) ∧ Below W.heap.size W w' := fun h W hW => by
    have g := cPa vt vs t s W hW (hT.below hW) (hS.below hW)
    rw [alike_back h] at g
    exact g
  have hVs : ∀ W, Below w.heap.size w W → Calls Tryz.prog 19 #[vs, .agg #[.int .i64 wu, .int .i64 wa, .int .i64 wb, .int .i64 wc]] W fun e w' => e = .returned (.tuple #[.int .i64 (D.answer s), errV (D.fault s)]) ∧ Below W.heap.size W w' := fun W hW => by
    have g := value_any s vs wu wa wb wc W (hS.below hW)
    rw [← hD] at g
    exact g
  have hVt : ∀ W, Below w.heap.size w W → Calls Tryz.prog 19 #[vt, .agg #[.int .i64 wu, .int .i64 wa, .int .i64 wb, .int .i64 wc]] W fun e w' => e = .returned (.tuple #[.int .i64 (D.answer t), errV (D.fault t)]) ∧ Below W.heap.size W w' := fun W hW => by
    have g := value_any t vt wu wa wb wc W (hT.below hW)
    rw [← hD] at g
    exact g
  have hSw := fun W hW => cSw vs s x y W hW (hS.below hW)
  have hIn : ∀ W v, Below w.heap.size w W → Reads W v s → Calls Tryz.prog 23 #[v, vs] W fun e w' => e = .returned (.bool true) ∧ Below W.heap.size W w' := fun W v hW hv => ints_same s v vs W hv (hS.below hW)
  have key : ∀ r : List Int, D.fault r = 0 → faultN r = 0 ∧ D.ok = true ∧ D.answer r = D.val r := fun r h => wdFault_zero h
  obtain ⟨so, sc, rfl⟩ : ∃ so sc, vs = .slice so s.length sc := by
    rcases hS with ⟨ao, cap, rfl, rfl⟩ | ⟨b, off, cap, rfl, _⟩
    · exact ⟨ao, cap, rfl⟩
    · exact ⟨_, cap, rfl⟩
  obtain ⟨to_, tc, rfl⟩ : ∃ to_ tc, vt = .slice to_ t.length tc := by
    rcases hT with ⟨ao, cap, rfl, rfl⟩ | ⟨b, off, cap, rfl, _⟩
    · exact ⟨ao, cap, rfl⟩
    · exact ⟨_, cap, rfl⟩
  refine alikeWorlds_in so sc to_ tc s t wu wa wb wc x y (alikeFault s t) (D.fault s) (D.fault t) (D.answer s) (D.answer t) (doN 7 wu (D.answer s) (D.answer t)) (doN 6 wu (D.answer s) (D.answer t)) (swapFault s x y) (sameT s t) (partT s t) (apartT s t) (partT t s) w hS hT ?_ (fun W v1 v2 hW h1 h2 => ?_) hSa hPa hAp hPb hVs hVt (fun h1 h2 W => ?_) (fun h1 h2 W => ?_) (fun h W v1 v2 hW h1 h2 => ?_) (fun W hW => ?_) hIn
  · refine ⟨fun h => ?_, fun h h1 h2 hs => ?_, fun h h1 h2 hs => ?_, fun h h1 h2 hs => ?_⟩
    · unfold sameT partT
      rw [if_pos h, if_pos h, if_pos (alike_back h)]
      exact same_both s t
    · obtain ⟨a1, a2, a3⟩ := key s h1
      obtain ⟨b1, _, b3⟩ := key t h2
      unfold sameT at hs
      rw [if_pos h] at hs
      rw [a3, b3]
      exact same_world a1 b1 hs a2
    · obtain ⟨a1, a2, a3⟩ := key s h1
      obtain ⟨b1, _, b3⟩ := key t h2
      unfold partT at hs
      rw [if_pos h] at hs
      rw [a3, b3, eu]
      exact part_world a1 b1 hs a2
    · obtain ⟨a1, a2, a3⟩ := key s h1
      obtain ⟨b1, _, b3⟩ := key t h2
      unfold apartT at hs
      rw [if_pos h] at hs
      rw [a3, b3, eu]
      exact apart_world a1 b1 hs a2
  · have g := cSa v1 v2 [0, 1, 6] [1, 0, 6] W hW h1 h2
    rw [ft1, ft2] at g
    exact g
  · obtain ⟨_, a2, a3⟩ := key s h1
    obtain ⟨_, _, b3⟩ := key t h2
    rw [a3, b3, eu]
    exact refDo_any 7 D.u _ _ (by decide) (by decide) (ok_val a2 s) (ok_val a2 t) W
  · obtain ⟨_, a2, a3⟩ := key s h1
    obtain ⟨_, _, b3⟩ := key t h2
    rw [a3, b3, eu]
    exact refDo_any 6 D.u _ _ (by decide) (by decide) (ok_val a2 s) (ok_val a2 t) W
  · obtain ⟨z1, z2⟩ := alike_zero.1 h
    obtain ⟨g1, g2⟩ := sure_same z1 z2
    have g := cSu v1 v2 (sameA s t) [0] 1 W hW h1 h2
    have e : sameT s t = sameTo s t 8 := by unfold sameT; rw [if_pos h]
    rw [g1, g2, ← e] at g
    exact g
  · refine (hSw W hW).mono ?_
    rintro e w' ⟨⟨v, rfl, hr⟩, hb⟩
    obtain ⟨vo, vc, rfl⟩ : ∃ vo vc, v = .slice vo (swapL s x y).length vc := by
      rcases hr with ⟨ao, cap, rfl, h0⟩ | ⟨b, off, cap, rfl, _⟩
      · exact ⟨ao, cap, by rw [h0]; rfl⟩
      · exact ⟨_, cap, rfl⟩
    refine ⟨⟨vo, _, vc, rfl, fun hz W' hW' => ?_⟩, hb⟩
    obtain ⟨z1, z2⟩ := swap_twice hz
    have hb' := hW.trans (hb.mono hW.size)
    refine (cSw _ (swapL s x y) x y W' (hb'.trans (hW'.mono hb'.size)) (hr.below hW')).mono ?_
    rintro e2 w2 ⟨⟨v2, rfl, hr2⟩, hb2⟩
    rw [z1]
    rw [z2] at hr2
    obtain ⟨uo, uc, rfl⟩ : ∃ uo uc, v2 = .slice uo s.length uc := by
      rcases hr2 with ⟨ao, cap, rfl, h0⟩ | ⟨b, off, cap, rfl, _⟩
      · exact ⟨ao, cap, by rw [h0]; rfl⟩
      · exact ⟨_, cap, rfl⟩
    exact ⟨⟨uo, _, uc, rfl, hr2⟩, hb2⟩
end Go.Proofs.YtpdpnlpepfgknafGreatDoor
