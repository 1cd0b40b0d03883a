/-
  Proved: venntop.TopSaid returns true, of any numbers and any atoms, where the functions of package log answer as chapter 19 says; what was in memory is as it was (the walk that the statement leans on).
-/
import Derived.Test.YtjmeakkmfeoigaaGreatDoorTopSaidAllJ
import Derived.Test.YtjmeakkmfeoigaaGreatDoorLibT17
import Derived.Test.YtjmeakkmfeoigaaGreatDoorLibT19
import Derived.Test.YtjmeakkmfeoigaaGreatDoorLibT21
import Derived.Test.YtjmeakkmfeoigaaGreatDoorLibT18
namespace Go.Proofs.YtjmeakkmfeoigaaGreatDoor
open Go.ChangeShapes Go.WideShapes Go.ChangeAt Go.RowKit

theorem topSaid_over (u keep : Int) (v : Value) (ats : List At) (w : World) (hA : ReadsA w v ats) (hg : Laid w ∧ KindsLaid w ∧ TimesLaid w) (Rep : Addr → Lg → (Nat → Prop) → World → Prop) (hok : LogOk w Rep) :
    Calls Tryz.prog 6 #[.int .i64 u, v, .int .i64 keep] w fun e w' => e = .returned (.bool true) ∧ Below w.heap.size w w' := by
  obtain ⟨hL, hK, hT⟩ := hg
  refine topSaid_of u keep v ats w hA hL Rep hok
    (fun v va vc fs ats c u W hW h0 h1 h2 => askOf_any v va vc fs ats c u W h0 h1 h2 (hK.below hW))
    (fun va vc vb vd f g W hW h1 h2 h3 h4 hf hg h6 h19 => ?_)
    (fun va vc ats c u W hW h1 h2 => modelOf_any va vc ats c u W h1 h2 (hK.below hW) (hT.below hW) (hL.below hW))
    (fun va vc ats c D W hW h1 h2 => fholds_any va vc ats c D.u D.a D.b D.c W h1 h2 (hK.below hW))
  have e0 : bothFault f.ats g.ats f.c g.c = 0 := by
    unfold bothFault
    rw [if_pos (show formFault f.ats f.c = 0 from hf), if_pos (show formFault g.ats g.c = 0 from hg), if_neg (by omega)]
  refine (both_any va vc vb vd f.ats g.ats f.c g.c W h1 h2 h3 h4 (hK.below hW)).mono ?_
  rintro e w' ⟨va', vc', he, ho, _, hb⟩
  rw [e0] at he ho
  obtain ⟨r1, r2⟩ := ho rfl
  exact ⟨va', vc', he, r1, r2, hb⟩
end Go.Proofs.YtjmeakkmfeoigaaGreatDoor
