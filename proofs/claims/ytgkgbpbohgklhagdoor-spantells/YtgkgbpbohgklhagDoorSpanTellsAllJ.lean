/-
  Proved: vennlaw2.SpanTells returns true, of any formula, any term and any number of things, where span's functions answer as chapter 14 says; what was in memory is as it was (the walk that the statement leans on).
-/
import Derived.Test.YtgkgbpbohgklhagDoorSpanTellsWalkJ
import Derived.Test.YtgkgbpbohgklhagDoorLibS16
namespace Go.Proofs.YtgkgbpbohgklhagDoor
open Go.ChangeShapes Go.WideShapes Go.ChangeAt Go.RowKit
set_option maxRecDepth 100000

theorem spanTells_of (va vc vt : Value) (ats : List At) (c t : List Int) (u : Int) (w : World) (hA : ReadsA w va ats) (hC : Reads w vc c) (hT : Reads w vt t) (hg : Laid w)
    (cOf : ∀ (va vc vt : Value) (ats : List At) (c t : List Int) (u : Int) (W : World), Below w.heap.size w W → ReadsA W va ats → Reads W vc c → Reads W vt t → Calls Tryd.prog 18 #[.agg #[va, vc], vt, .int .i64 u] W fun e w' => e = .returned (.tuple #[.agg (arrP (spanLo ats c t u, spanHi ats c t u)), errV (spanFault ats c t u)]) ∧ Below W.heap.size W w')
    (cEx : ∀ (va vc vt : Value) (ats : List At) (c t : List Int) (u : Int) (W : World), Below w.heap.size w W → ReadsA W va ats → Reads W vc c → Reads W vt t → Calls Tryd.prog 19 #[.agg #[va, vc], vt, .int .i64 u] W fun e w' => e = .returned (.tuple #[.int .i64 (exactN ats c t u), errV (exactFault ats c t u)]) ∧ Below W.heap.size W w') :
    Calls Tryd.prog 6 #[.agg #[va, vc], vt, .int .i64 u] w fun e w' => e = .returned (.bool true) ∧ Below w.heap.size w w' := by
  have hSp := fun W (hW : Below w.heap.size w W) => refSpan_any va vc vt ats c t u W (hA.below hW) (hC.below hW) (hT.below hW)
  have hOf := fun W hW => cOf va vc vt ats c t u W hW (hA.below hW) (hC.below hW) (hT.below hW)
  have hEx := fun W hW => cEx va vc vt ats c t u W hW (hA.below hW) (hC.below hW) (hT.below hW)
  obtain ⟨ao, acap, rfl, _⟩ := hA.slice
  obtain ⟨co, ccap, rfl, _⟩ := hC.slice
  exact spanTells_in ao _ acap co _ ccap vt u _ _ _ _ _ w rfl rfl hSp hOf hEx (fun n W hW => merr_any n W (hg.below hW))
end Go.Proofs.YtgkgbpbohgklhagDoor
