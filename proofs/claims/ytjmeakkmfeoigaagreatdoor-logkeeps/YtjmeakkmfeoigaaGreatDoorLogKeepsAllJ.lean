/-
  Proved: vennlaw3.LogKeeps returns true, of any number of things, any atoms and any numbers, where package log answers as chapter 19 says; what was in memory is as it was (the walk that the statement leans on, over values as they come in).
-/
import Derived.Test.YtjmeakkmfeoigaaGreatDoorLogKeepsWalkJ
namespace Go.Proofs.YtjmeakkmfeoigaaGreatDoor
open Go.ChangeShapes Go.WideShapes Go.ChangeAt Go.RowKit

theorem logKeeps_of (u : Int) (ats : List At) (vl : Value) (dt : List Int) (vd : Value) (st : List Int) (vs : Value) (ft : List Int) (vf : Value) (kt : List Int) (vk : Value) (w : World) (hA : ReadsA w vl ats) (hD : Reads w vd dt) (hS : Reads w vs st) (hF : Reads w vf ft) (hK : Reads w vk kt) (hg : Laid w) (Rep : Addr → Lg → (Nat → Prop) → World → Prop) (hok : LogOk w Rep) :
    Calls Tryz.prog 5 #[.int .i64 u, vl, vd, vs, vf, vk] w fun e w' => e = .returned (.bool true) ∧ Below w.heap.size w w' := by
  obtain ⟨lo, lcap, rfl, h63⟩ := hA.slice
  obtain ⟨do', dcap, rfl, _⟩ := hD.slice
  obtain ⟨so, scap, rfl, _⟩ := hS.slice
  obtain ⟨fo, fcap, rfl, _⟩ := hF.slice
  obtain ⟨ko, kcap, rfl, _⟩ := hK.slice
  exact logKeeps_in u ats lo lcap dt st ft kt do' so fo ko dcap scap fcap kcap w h63 Rep hok hA hD hS hF hK (fun n W => same_nil n W) (fun k n W hW => same_err k n W (hg.below hW))
end Go.Proofs.YtjmeakkmfeoigaaGreatDoor
