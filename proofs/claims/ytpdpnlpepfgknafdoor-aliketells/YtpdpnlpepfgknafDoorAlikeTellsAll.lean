/-
  Proved: vennlaw2.AlikeTells returns true, of any two rows and any two numbers, where alike's functions answer as chapter 12 says; what was in memory is as it was (the walk that the statement leans on).
-/
import Derived.Test.YtpdpnlpepfgknafDoorAlikeTellsWalk
import Derived.Test.YtpdpnlpepfgknafDoorTermRefs
import Derived.Test.YtpdpnlpepfgknafDoorFieldsRefLies
import Derived.Test.YtpdpnlpepfgknafDoorInts
namespace Go.Proofs.YtpdpnlpepfgknafDoor
open Go.ChangeShapes Go.WideShapes Go.ChangeAt Go.RowKit
set_option maxRecDepth 100000

theorem alike_nums (s t : List Int) : AlikeN (faultN s) (faultN t) (alikeFault s t) (liesB s) (liesB t) (sameTo s t) (partTo s t) (apartTo s t) (sameT s t) (partT s t) (apartT s t) where
  form := rfl
  bad h := ⟨by unfold sameT; rw [if_neg h], by unfold partT; rw [if_neg h], by unfold apartT; rw [if_neg h]⟩
  good h := ⟨by unfold sameT; rw [if_pos h], by unfold partT; rw [if_pos h], by unfold apartT; rw [if_pos h]⟩
  start := ⟨rfl, rfl, rfl⟩
  step k := ⟨sameTo_step s t k, partTo_step s t k, apartTo_step s t k⟩

theorem alikeTells_of (vs vt : Value) (s t : List Int) (x y : Int) (w : World) (hS : Reads w vs s) (hT : Reads w vt t) (hg : Laid w)
    (cSa : ∀ (vs vt : Value) (s t : List Int) (W : World), Below w.heap.size w W → Reads W vs s → Reads W vt t → Calls Tryd.prog 20 #[vs, vt] W fun e w' => e = .returned (.tuple #[.bool (sameT s t), errV (alikeFault s t)]) ∧ Below W.heap.size W w')
    (cPa : ∀ (vs vt : Value) (s t : List Int) (W : World), Below w.heap.size w W → Reads W vs s → Reads W vt t → Calls Tryd.prog 21 #[vs, vt] W fun e w' => e = .returned (.tuple #[.bool (partT s t), errV (alikeFault s t)]) ∧ Below W.heap.size W w')
    (cAp : ∀ (vs vt : Value) (s t : List Int) (W : World), Below w.heap.size w W → Reads W vs s → Reads W vt t → Calls Tryd.prog 22 #[vs, vt] W fun e w' => e = .returned (.tuple #[.bool (apartT s t), errV (alikeFault s t)]) ∧ Below W.heap.size W w')
    (cSw : ∀ (vs : Value) (s : List Int) (x y : Int) (W : World), Below w.heap.size w W → Reads W vs s → Calls Tryd.prog 23 #[vs, .int .i64 x, .int .i64 y] W fun e w' => (∃ v, e = .returned (.tuple #[v, errV (swapFault s x y)]) ∧ Reads w' v (swapL s x y)) ∧ Below W.heap.size W w') :
    Calls Tryd.prog 5 #[vs, vt, .int .i64 x, .int .i64 y] w fun e w' => e = .returned (.bool true) ∧ Below w.heap.size w w' := by
  have hTs : ∀ W, Below w.heap.size w W → Calls Tryd.prog 18 #[vs] W fun r w' => r = .returned (.int .i64 (faultN s)) ∧ W = w' := fun W hW => refTerm_any s vs W (hS.below hW)
  have hTt : ∀ W, Below w.heap.size w W → Calls Tryd.prog 18 #[vt] W fun r w' => r = .returned (.int .i64 (faultN t)) ∧ W = w' := fun W hW => refTerm_any t vt W (hT.below hW)
  have hLs : alikeFault s t = 0 → ∀ k : Nat, k < 8 → ∀ W, Below w.heap.size w W → Calls Tryd.prog 19 #[vs, .int .i64 k] W fun r w' => r = .returned (.bool (liesB s k)) ∧ Below W.heap.size W w' := fun h k hk W hW => refLies_any s (alike_zero.1 h).1 vs k hk W (hS.below hW)
  have hLt : alikeFault s t = 0 → ∀ k : Nat, k < 8 → ∀ W, Below w.heap.size w W → Calls Tryd.prog 19 #[vt, .int .i64 k] W fun r w' => r = .returned (.bool (liesB t k)) ∧ Below W.heap.size W w' := fun h k hk W hW => refLies_any t (alike_zero.1 h).2 vt k hk W (hT.below hW)
  have hSa := fun W hW => cSa vs vt s t W hW (hS.below hW) (hT.below hW)
  have hPa := fun W hW => cPa vs vt s t W hW (hS.below hW) (hT.below hW)
  have hAp := fun W hW => cAp vs vt s t W hW (hS.below hW) (hT.below hW)
  have hSw := fun W hW => cSw vs s x y W hW (hS.below hW)
  obtain ⟨so, sc, rfl⟩ : ∃ so sc, vs = .slice so s.length sc := by
    rcases hS with ⟨ao, cap, rfl, rfl⟩ | ⟨b, off, cap, rfl, _⟩
    · exact ⟨ao, cap, rfl⟩
    · exact ⟨_, cap, rfl⟩
  obtain ⟨to_, tc, rfl⟩ : ∃ to_ tc, vt = .slice to_ t.length tc := by
    rcases hT with ⟨ao, cap, rfl, rfl⟩ | ⟨b, off, cap, rfl, _⟩
    · exact ⟨ao, cap, rfl⟩
    · exact ⟨_, cap, rfl⟩
  refine alikeTells_in so sc to_ _ tc s x y (faultN s) (faultN t) (alikeFault s t) (swapFault s x y) _ _ _ _ _ _ _ _ w hS (alike_nums s t) ?_ (fun h => (fault_zero.1 h).2.1) hTs hTt hLs hLt (fun n W hW => merr_any n W (hg.below hW)) hSa hPa hAp (fun W hW => ?_)
  · unfold swapFault
    by_cases h : faultN s = 0
    · right
      by_cases h2 : (0 ≤ x ∧ x ≤ 2) ∧ 0 ≤ y ∧ y ≤ 2
      · right; exact ⟨h, by rw [if_pos h, if_pos h2], h2⟩
      · left; exact ⟨h, by rw [if_pos h, if_neg h2], h2⟩
    · left; exact ⟨h, by rw [if_neg h]⟩
  · refine (hSw W hW).mono ?_
    rintro e w' ⟨⟨v, rfl, hr⟩, hb⟩
    obtain ⟨vo, vc, rfl⟩ : ∃ vo vc, v = .slice vo (swapL s x y).length vc := by
      rcases hr with ⟨ao, cap, rfl, h0⟩ | ⟨b, off, cap, rfl, _⟩
      · exact ⟨ao, cap, by rw [h0]; rfl⟩
      · exact ⟨_, cap, rfl⟩
    refine ⟨⟨vo, _, vc, rfl, fun W' v' hW' hr' => ints_same _ _ _ W' (hr.below hW') ?_⟩, hb⟩
    unfold swapL
    exact hr'
end Go.Proofs.YtpdpnlpepfgknafDoor
