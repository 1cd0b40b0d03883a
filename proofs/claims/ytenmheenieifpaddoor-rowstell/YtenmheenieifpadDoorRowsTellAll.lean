/-
  Proved: vennlaw1.RowsTell returns true, of any atom, any rows and any counts; what was in memory is as it was (the walk that the statement leans on).
-/
import Derived.Test.YtenmheenieifpadDoorRowsTellWalkG
import Derived.Test.YtenmheenieifpadDoorRowsTellWalkB
import Derived.Test.YtenmheenieifpadDoorRowsOf
import Derived.Test.YtenmheenieifpadDoorRowsRef
import Derived.Test.YtenmheenieifpadDoorRowsFits
import Derived.Test.YtenmheenieifpadDoorRowsRefFits
import Derived.Test.YtenmheenieifpadDoorAtomRef
import Derived.Test.YtenmheenieifpadDoorSame
namespace Go.Proofs.YtenmheenieifpadDoor
open Go.ChangeShapes Go.WideShapes Go.ChangeAt Go.RowKit
set_option maxRecDepth 100000

theorem rerror_nil (w : World) : Calls Tryd.prog 11 #[.nilIface, .int .i64 0] w fun e w' => e = .returned (.bool true) ∧ Below w.heap.size w w' :=
  (same_nil 0 w).mono fun _ _ h => ⟨h.1, by rw [← h.2]; exact Below.refl _ _⟩
theorem rerror_no (n : Int) (w : World) (hg : Laid w) : Calls Tryd.prog 11 #[.iface 66 (.int .i64 n), .int .i64 n] w fun e w' => e = .returned (.bool true) ∧ Below w.heap.size w w' := by
  have := same_err n n w hg
  rw [beq_self_eq_true] at this; exact this

theorem rowsTell_walk (k n : Int) (vs vt : Value) (s t : List Int) (h : Bool) (l : List Rw) (v : Value) (N : Nat → Int) (w : World) (hS : Reads w vs s) (hT : Reads w vt t) (hR : ReadsR w v l) (hg : Laid w ∧ KindsLaid w ∧ TimesLaid w) :
    Calls Tryd.prog 3 #[.agg #[.int .i64 k, vs, vt, .int .i64 n], .bool h, v, .agg #[.int .i64 (N 0), .int .i64 (N 1), .int .i64 (N 2), .int .i64 (N 3), .int .i64 (N 4), .int .i64 (N 5), .int .i64 (N 6), .int .i64 (N 7)]] w fun e w' => e = .returned (.bool true) ∧ Below w.heap.size w w' := by
  have hAt : ∀ W, Below w.heap.size w W → Calls Tryd.prog 8 #[.agg #[.int .i64 k, vs, vt, .int .i64 n]] W fun e w' => e = .returned (.int .i64 (atomFault k s t n)) ∧ Below W.heap.size W w' := fun W hW => refAtom_any k n vs vt s t W (hS.below hW) (hT.below hW)
  have hOf : ∀ W, Below w.heap.size w W → Calls Tryd.prog 10 #[.agg #[.int .i64 k, vs, vt, .int .i64 n], .bool h] W fun e w' => e = .returned (.tuple #[.agg (arrR (ofT k s t n h) (ofM k s t n h)), errV (atomFault k s t n)]) ∧ Below W.heap.size W w' := fun W hW => rowsOf_any k n h vs vt s t W (hS.below hW) (hT.below hW) (hg.2.1.below hW) (hg.2.2.below hW)
  have hRo : atomFault k s t n = 0 → ∀ W, Below w.heap.size w W → Calls Tryd.prog 9 #[.agg #[.int .i64 k, vs, vt, .int .i64 n], .bool h] W fun e w' => e = .returned (.agg (arrR (rowT k s t h) (rowM k n h))) ∧ Below W.heap.size W w' := fun hf W hW => refRow_any k n h vs vt s t W (hS.below hW) (hT.below hW) hf
  have hRs : ∀ W, Below w.heap.size w W → Calls Tryd.prog 12 #[v] W fun e w' => e = .returned (.int .i64 (rowsFault l)) ∧ Below W.heap.size W w' := fun W hW => (refRows_any l v W (hR.below hW)).mono fun _ _ q => ⟨q.1, by rw [← q.2]; exact Below.refl _ _⟩
  have hCo : ∀ W, Below w.heap.size w W → Calls Tryd.prog 13 #[.agg #[.int .i64 (N 0), .int .i64 (N 1), .int .i64 (N 2), .int .i64 (N 3), .int .i64 (N 4), .int .i64 (N 5), .int .i64 (N 6), .int .i64 (N 7)]] W fun e w' => e = .returned (.int .i64 (countsFault N)) ∧ Below W.heap.size W w' := fun W _ => refCounts_any N W
  have hFi : fitsFault l N = 0 → ∀ W, Below w.heap.size w W → Calls Tryd.prog 14 #[v, .agg #[.int .i64 (N 0), .int .i64 (N 1), .int .i64 (N 2), .int .i64 (N 3), .int .i64 (N 4), .int .i64 (N 5), .int .i64 (N 6), .int .i64 (N 7)]] W fun e w' => e = .returned (.bool (fitsIs l N)) ∧ Below W.heap.size W w' := fun hf W hW => refFits_right l v N W (hR.below hW) hf
  have hFt : ∀ W, Below w.heap.size w W → Calls Tryd.prog 15 #[v, .agg #[.int .i64 (N 0), .int .i64 (N 1), .int .i64 (N 2), .int .i64 (N 3), .int .i64 (N 4), .int .i64 (N 5), .int .i64 (N 6), .int .i64 (N 7)]] W fun e w' => e = .returned (.tuple #[.bool (fitsIs l N), errV (fitsFault l N)]) ∧ Below W.heap.size W w' := fun W hW => rfits_any l v N W (hR.below hW)
  have hEn : ∀ W, Below w.heap.size w W → Calls Tryd.prog 11 #[.nilIface, .int .i64 0] W fun e w' => e = .returned (.bool true) ∧ Below W.heap.size W w' := fun W _ => rerror_nil W
  have hEr : ∀ n W, Below w.heap.size w W → Calls Tryd.prog 11 #[.iface 66 (.int .i64 n), .int .i64 n] W fun e w' => e = .returned (.bool true) ∧ Below W.heap.size W w' := fun n W hW => rerror_no n W (hg.1.below hW)
  obtain ⟨sao, scap, rfl, _⟩ := hS.slice
  obtain ⟨tao, tcap, rfl, _⟩ := hT.slice
  obtain ⟨lao, lcap, rfl, _⟩ := hR.slice
  by_cases hf : atomFault k s t n = 0
  · have e1 : ofT k s t n h = rowT k s t h := by unfold ofT; rw [if_pos hf]
    have e2 : ofM k s t n h = rowM k n h := by unfold ofM; rw [if_pos hf]
    have hRo := hRo hf
    simp only [e1, e2, hf] at hOf
    simp only [hf] at hAt
    by_cases hr : rowsFault l = 0
    · have ef : fitsFault l N = countsFault N := by unfold fitsFault; rw [if_pos hr]
      simp only [hr] at hRs
      by_cases hc : countsFault N = 0
      · rw [ef] at hFi
        have hFi := hFi hc
        simp only [ef, hc] at hFt
        simp only [hc] at hCo
        exact rowsTell_GG k n h N (rowT k s t h) (rowM k n h) (fitsIs l N) sao tao lao _ scap _ tcap _ lcap w hAt hRo hOf hEn hRs hCo hFi hFt hEn
      · have ei : fitsIs l N = false := by unfold fitsIs; rw [ef, if_neg hc]
        simp only [ei, ef, errV_no hc] at hFt
        exact rowsTell_GC k n h N (rowT k s t h) (rowM k n h) (countsFault N) hc sao tao lao _ scap _ tcap _ lcap w hAt hRo hOf hEn hRs hCo hFt (hEr _)
    · have ef : fitsFault l N = rowsFault l := by unfold fitsFault; rw [if_neg hr]
      have ei : fitsIs l N = false := by unfold fitsIs; rw [ef, if_neg hr]
      simp only [ei, ef, errV_no hr] at hFt
      exact rowsTell_GR k n h N (rowT k s t h) (rowM k n h) (rowsFault l) hr sao tao lao _ scap _ tcap _ lcap w hAt hRo hOf hEn hRs hFt (hEr _)
  · have e1 : ofT k s t n h = fun _ => 0 := by unfold ofT; rw [if_neg hf]
    have e2 : ofM k s t n h = 0 := by unfold ofM; rw [if_neg hf]
    simp only [e1, e2, errV_no hf] at hOf
    by_cases hr : rowsFault l = 0
    · have ef : fitsFault l N = countsFault N := by unfold fitsFault; rw [if_pos hr]
      simp only [hr] at hRs
      by_cases hc : countsFault N = 0
      · rw [ef] at hFi
        have hFi := hFi hc
        simp only [ef, hc] at hFt
        simp only [hc] at hCo
        exact rowsTell_BG k n h N (atomFault k s t n) hf (fitsIs l N) sao tao lao _ scap _ tcap _ lcap w hAt hOf (hEr _) hRs hCo hFi hFt hEn
      · have ei : fitsIs l N = false := by unfold fitsIs; rw [ef, if_neg hc]
        simp only [ei, ef, errV_no hc] at hFt
        exact rowsTell_BC k n h N (atomFault k s t n) hf (countsFault N) hc sao tao lao _ scap _ tcap _ lcap w hAt hOf (hEr _) hRs hCo hFt (hEr _)
    · have ef : fitsFault l N = rowsFault l := by unfold fitsFault; rw [if_neg hr]
      have ei : fitsIs l N = false := by unfold fitsIs; rw [ef, if_neg hr]
      simp only [ei, ef, errV_no hr] at hFt
      exact rowsTell_BR k n h N (atomFault k s t n) hf (rowsFault l) hr sao tao lao _ scap _ tcap _ lcap w hAt hOf (hEr _) hRs hFt (hEr _)
end Go.Proofs.YtenmheenieifpadDoor
