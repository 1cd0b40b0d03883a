/-
  Proved: what the reference's Row returns, of any right atom; what was in memory is as it was (contracts that the statements lean on). Written by program.
-/
import Derived.Test.YtenmheenieifpadDoorRowsRef1
import Derived.Test.YtenmheenieifpadDoorRowsRef2
import Derived.Test.YtenmheenieifpadDoorFieldsRefLies
namespace Go.Proofs.YtenmheenieifpadDoor
open Go.ChangeShapes Go.WideShapes Go.ChangeAt Go.RowKit
set_option maxRecDepth 100000

/-- the reference's Row, of a right atom. -/
theorem refRow_any (k n : Int) (h : Bool) (vs vt : Value) (s t : List Int) (w : World) (hS : Reads w vs s) (hT : Reads w vt t) (hf : atomFault k s t n = 0) :
    Calls Tryd.prog 9 #[.agg #[.int .i64 k, vs, vt, .int .i64 n], .bool h] w fun e w' => e = .returned (.agg (arrR (rowT k s t h) (rowM k n h))) ∧ Below w.heap.size w w' := by
  obtain ⟨hk, hs, ht, n0, n1⟩ := atomFault_zero.1 hf
  obtain ⟨sao, scap, rfl, _⟩ := hS.slice
  obtain ⟨tao, tcap, rfl, _⟩ := hT.slice
  have hm := mostN_le k
  have hls : ∀ W (f : Nat), Below w.heap.size w W → f < 8 → Calls Tryd.prog 24 #[.slice sao s.length scap, .int .i64 f] W fun e w' => e = .returned (.bool (liesB s f)) ∧ Below W.heap.size W w' := fun W f hW hf => refLies_any s hs _ f hf W (hS.below hW)
  have hlt : secondB k = true → ∀ W (f : Nat), Below w.heap.size w W → f < 8 → Calls Tryd.prog 24 #[.slice tao t.length tcap, .int .i64 f] W fun e w' => e = .returned (.bool (liesB t f)) ∧ Below W.heap.size W w' := fun h2 W f hW hf => refLies_any t (second_reads ht h2) _ f hf W (hT.below hW)
  rcases five hk.1 hk.2 with rfl | rfl | rfl | rfl | rfl
  · have en : n = 0 := by
      have : mostN 1 = 0 := by decide
      omega
    subst en
    exact refRow_1 0 h (liesB s) (liesB t) (rowT _ s t h) _ sao tao _ scap _ tcap w (fun f _ => rfl) rfl hls (hlt (by decide))
  · have en : n = 0 := by
      have : mostN 2 = 0 := by decide
      omega
    subst en
    exact refRow_2 0 h (liesB s) (liesB t) (rowT _ s t h) _ sao tao _ scap _ tcap w (fun f _ => rfl) rfl hls (hlt (by decide))
  · have et := second_none ht (by decide)
    exact refRow_3 n h (liesB s) (rowT _ s t h) _ (by omega) (by omega) sao tao _ scap _ tcap w (fun f _ => by unfold rowT baseT; rw [et, lies_none]) rfl hls
  · have et := second_none ht (by decide)
    exact refRow_4 n h (liesB s) (rowT _ s t h) _ (by omega) (by omega) sao tao _ scap _ tcap w (fun f _ => by unfold rowT baseT; rw [et, lies_none]) rfl hls
  · exact refRow_5 n h (liesB s) (liesB t) (rowT _ s t h) _ (by omega) (by omega) sao tao _ scap _ tcap w (fun f _ => rfl) rfl hls (hlt (by decide))
end Go.Proofs.YtenmheenieifpadDoor
