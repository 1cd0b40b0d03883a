/-
  Proved: venntop.TopSome returns true, of any formula and any world, where ask.Of answers as chapter 18 says; what was in memory is as it was (the walk that the statement leans on).
-/
import Derived.Test.YtjaedfjfcghgcabDoorTopSomeAllJ
import Derived.Test.YtjaedfjfcghgcabDoorLibS11
import Derived.Test.YtjaedfjfcghgcabDoorLibS14
import Derived.Test.YtjaedfjfcghgcabDoorLibS12
import Derived.Test.YtjaedfjfcghgcabDoorLibS13
namespace Go.Proofs.YtjaedfjfcghgcabDoor
open Go.ChangeShapes Go.WideShapes Go.ChangeAt Go.RowKit

theorem topSome_over (va vc : Value) (ats : List At) (c : List Int) (wu wa wb wc : Int) (w : World) (hA : ReadsA w va ats) (hC : Reads w vc c) (hK : KindsLaid w)
    (cAs : ∀ (v va vc : Value) (fs : List Fm) (ats : List At) (c : List Int) (u : Int) (W : World), Below w.heap.size w W → ReadsF W v fs → ReadsA W va ats → Reads W vc c → Calls Tryd.prog 11 #[v, .agg #[va, vc], .int .i64 u] W fun e w' => e = .returned (.tuple #[.int .i64 (askN fs ats c u), errV (askFault fs ats c u)]) ∧ Below W.heap.size W w') :
    Calls Tryd.prog 3 #[.agg #[va, vc], .agg #[.int .i64 wu, .int .i64 wa, .int .i64 wb, .int .i64 wc]] w fun e w' => e = .returned (.bool true) ∧ Below w.heap.size w w' :=
  topSome_of va vc ats c wu wa wb wc w hA hC cAs Wd.cts (fun D h => by unfold Wd.cts; rw [if_pos h])
    (fun D W _ => (fieldsOf_any D.u D.a D.b D.c W).mono fun e w' h => ⟨by
      rw [h.1]
      have eD : Wd.mk D.u D.a D.b D.c = D := rfl
      rw [eD]
      rfl, h.2⟩)
    (fun N W _ h => by
      have g := fworld_any N W
      unfold madeW at g
      rw [if_pos h, h] at g
      exact g)
    (fun va vc ats c n D W hW h1 h2 => someIs_any va vc ats c n D W h1 h2 (hK.below hW))
    (fun va vc ats c n D W hW h1 h2 => someFirst_any va vc ats c n D W h1 h2 (hK.below hW))
    (fun va vc ats c D W hW h1 h2 => fholds_any va vc ats c D.u D.a D.b D.c W h1 h2 (hK.below hW))
    (fun va vc ats c u W hW h1 h2 => worldsOf_any va vc ats c u W h1 h2 (hK.below hW))
end Go.Proofs.YtjaedfjfcghgcabDoor
