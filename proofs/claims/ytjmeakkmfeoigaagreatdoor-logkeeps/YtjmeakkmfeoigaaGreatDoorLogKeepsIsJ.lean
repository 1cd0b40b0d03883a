/-
  Proved: vennlaw3.LogKeeps returns true, of any number of things, any atoms and any four rows of numbers; what was in memory is as it was (the walk that the statement leans on).
-/
import Derived.Test.YtjmeakkmfeoigaaGreatDoorLogKeepsAllJ
import Derived.Test.YtjmeakkmfeoigaaGreatDoorLibL2
namespace Go.Proofs.YtjmeakkmfeoigaaGreatDoor
open Go.ChangeShapes Go.WideShapes Go.ChangeAt Go.RowKit

theorem logKeeps_walk (u : Int) (ats : List At) (vl : Value) (dt : List Int) (vd : Value) (st : List Int) (vs : Value) (ft : List Int) (vf : Value) (kt : List Int) (vk : Value) (w : World) (hA : ReadsA w vl ats) (hD : Reads w vd dt) (hS : Reads w vs st) (hF : Reads w vf ft) (hK : Reads w vk kt) (hg : Laid w ∧ KindsLaid w ∧ LibLaid w) :
    Calls Tryz.prog 5 #[.int .i64 u, vl, vd, vs, vf, vk] w fun e w' => e = .returned (.bool true) ∧ Below w.heap.size w w' :=
  logKeeps_of u ats vl dt vd st vs ft vf kt vk w hA hD hS hF hK hg.1 LogRep (logOk_is w hg.2.1 hg.2.2)
end Go.Proofs.YtjmeakkmfeoigaaGreatDoor
