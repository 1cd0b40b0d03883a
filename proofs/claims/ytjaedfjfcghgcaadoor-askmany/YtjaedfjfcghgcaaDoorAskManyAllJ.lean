/-
  Proved: vennlaw4.AskMany returns true, of any name and any numbers, where ask.Of answers as chapter 18 says; what was in memory is as it was (the walk that the statement leans on).
-/
import Derived.Test.YtjaedfjfcghgcaaDoorAskManyWalkJ
import Derived.Test.YtjaedfjfcghgcaaDoorLibA26
namespace Go.Proofs.YtjaedfjfcghgcaaDoor
open Go.ChangeShapes Go.WideShapes Go.ChangeAt Go.RowKit
set_option maxRecDepth 100000

theorem askMany_of (name n m u : Int) (w : World)
    (cOf : ∀ (v va vc : Value) (fs : List Fm) (ats : List At) (c : List Int) (u : Int) (W : World), Below w.heap.size w W → ReadsF W v fs → ReadsA W va ats → Reads W vc c → Calls Tryd.prog 21 #[v, .agg #[va, vc], .int .i64 u] W fun e w' => e = .returned (.tuple #[.int .i64 (askN fs ats c u), errV (askFault fs ats c u)]) ∧ Below W.heap.size W w') :
    Calls Tryd.prog 8 #[.int .i64 name, .int .i64 n, .int .i64 m, .int .i64 u] w fun e w' => e = .returned (.bool true) ∧ Below w.heap.size w w' := by
  by_cases hout : name < 0 ∨ 2 < name ∨ n < 0 ∨ m < 0 ∨ 20 < n ∨ 20 < m ∨ u < 0 ∨ 6 < u ∨ u < n
  · exact askMany_out name n m u hout w
  · obtain ⟨k, rfl⟩ := Int.eq_ofNat_of_zero_le (by omega : 0 ≤ name)
    obtain ⟨n', rfl⟩ := Int.eq_ofNat_of_zero_le (by omega : 0 ≤ n)
    obtain ⟨m', rfl⟩ := Int.eq_ofNat_of_zero_le (by omega : 0 ≤ m)
    obtain ⟨u', rfl⟩ := Int.eq_ofNat_of_zero_le (by omega : 0 ≤ u)
    obtain ⟨e1, e2⟩ := many_answer (k := k) (by omega) (n := n') (m := m') (u := u') (by omega) (by omega) (by omega)
    refine askMany_in k _ _ _ _ (by omega) ⟨by omega, by omega⟩ ⟨by omega, by omega⟩ ⟨by omega, by omega⟩ w e2 (fun x W => atomOf_any (k : Int) x W) fun W v va vc hW h0 h1 h2 => ?_
    have h := cOf v va vc _ _ _ (u' : Int) W hW h0 h1 h2
    rw [e1] at h
    exact h
end Go.Proofs.YtjaedfjfcghgcaaDoor
