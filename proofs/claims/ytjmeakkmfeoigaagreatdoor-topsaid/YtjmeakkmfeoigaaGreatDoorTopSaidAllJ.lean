/-
  Proved: venntop.TopSaid returns true, of any numbers and any atoms, where what it calls answers as the chapters say; what was in memory is as it was (the walk that the statement leans on).
-/
import Derived.Test.YtjmeakkmfeoigaaGreatDoorTopSaidWalkJ
namespace Go.Proofs.YtjmeakkmfeoigaaGreatDoor
open Go.ChangeShapes Go.WideShapes Go.ChangeAt Go.RowKit

theorem topSaid_of (u keep : Int) (v : Value) (ats : List At) (w : World) (hA : ReadsA w v ats) (hg : Laid w) (Rep : Addr → Lg → (Nat → Prop) → World → Prop) (hok : LogOk w Rep)
    (cAs : ∀ (v va vc : Value) (fs : List Fm) (ats : List At) (c : List Int) (u : Int) (W : World), Below w.heap.size w W → ReadsF W v fs → ReadsA W va ats → Reads W vc c → Calls Tryz.prog 23 #[v, .agg #[va, vc], .int .i64 u] W fun e w' => e = .returned (.tuple #[.int .i64 (askN fs ats c u), errV (askFault fs ats c u)]) ∧ Below W.heap.size W w')
    (cBo : ∀ (va vc vb vd : Value) (f g : Fm) (W : World), Below w.heap.size w W → ReadsA W va f.ats → Reads W vc f.c → ReadsA W vb g.ats → Reads W vd g.c → f.fault = 0 → g.fault = 0 → f.ats.length + g.ats.length ≤ 6 → f.c.length + g.c.length ≤ 19 → Calls Tryz.prog 24 #[.agg #[va, vc], .agg #[vb, vd]] W fun e w' => ∃ va' vc', e = .returned (.tuple #[.agg #[va', vc'], .nilIface]) ∧ ReadsA w' va' (bothFm f g).ats ∧ Reads w' vc' (bothFm f g).c ∧ Below W.heap.size W w')
    (cMo : ∀ (va vc : Value) (ats : List At) (c : List Int) (u : Int) (W : World), Below w.heap.size w W → ReadsA W va ats → Reads W vc c → Calls Tryz.prog 25 #[.agg #[va, vc], .int .i64 u] W fun e w' => e = .returned (.tuple #[.agg (arrW (modelW ats c u)), errV (modelFault ats c u)]) ∧ Below W.heap.size W w')
    (cHo : ∀ (va vc : Value) (ats : List At) (c : List Int) (D : Wd) (W : World), Below w.heap.size w W → ReadsA W va ats → Reads W vc c → Calls Tryz.prog 26 #[.agg #[va, vc], .agg (arrW D)] W fun e w' => e = .returned (.tuple #[.bool (D.formIs ats c), errV (D.formFault ats c)]) ∧ Below W.heap.size W w') :
    Calls Tryz.prog 6 #[.int .i64 u, v, .int .i64 keep] w fun e w' => e = .returned (.bool true) ∧ Below w.heap.size w w' := by
  have hOn : ∀ W, Below w.heap.size w W → Calls Tryz.prog 22 #[] W fun e w' => e = .returned (.bool true) ∧ Below W.heap.size W w' := fun W hW => topOne_any W fun v va vc fs ats c u W' hW' => cAs v va vc fs ats c u W' (hW.trans (hW'.mono hW.size))
  obtain ⟨lo, lcap, rfl, h63⟩ := hA.slice
  by_cases hu : 0 ≤ u ∧ u ≤ 6
  · exact topSaid_in u keep hu ats lo lcap w h63 Rep hok hA hOn (fun v va vc fs f W hW h1 h2 h3 => cAs v va vc fs f.ats f.c u W hW h1 h2 h3) cBo (fun va vc f W hW h1 h2 => cMo va vc f.ats f.c u W hW h1 h2) (fun va vc f D W hW h1 h2 => cHo va vc f.ats f.c D W hW h1 h2) fun W hW => merr_any 4 W (hg.below hW)
  · exact topSaid_out u keep lo _ lcap w hOn fun W hW => hok.newE u W hW hu
end Go.Proofs.YtjmeakkmfeoigaaGreatDoor
