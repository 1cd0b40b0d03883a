/-
  Proved: vennlaw4.LogClash returns true, of any atom and any number of things; what was in memory is as it was (the walk that the statement leans on).
-/
import Derived.Test.YtjmeakkmfeoigaaGreatDoorLogClashWalkJ
import Derived.Test.YtjmeakkmfeoigaaGreatDoorLibL2
namespace Go.Proofs.YtjmeakkmfeoigaaGreatDoor
open Go.ChangeShapes Go.WideShapes Go.ChangeAt Go.RowKit

theorem logClash_walk (k n : Int) (vs vt : Value) (s t : List Int) (u : Int) (w : World) (hS : Reads w vs s) (hT : Reads w vt t) (hg : Laid w ∧ KindsLaid w ∧ LibLaid w) :
    Calls Tryz.prog 4 #[.agg #[.int .i64 k, vs, vt, .int .i64 n], .int .i64 u] w fun e w' => e = .returned (.bool true) ∧ Below w.heap.size w w' :=
  logClash_of ⟨k, s, t, n⟩ vs vt u w hS hT hg.1 LogRep (logOk_is w hg.2.1 hg.2.2)
end Go.Proofs.YtjmeakkmfeoigaaGreatDoor
