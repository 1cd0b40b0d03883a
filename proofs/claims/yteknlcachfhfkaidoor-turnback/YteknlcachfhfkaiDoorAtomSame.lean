/-
  Proved: vennsame.Atom of two atoms that read as the same returns true; what was in memory is as it was (a contract that the statements lean on).
-/
import Derived.Test.YteknlcachfhfkaiDoorInts
import Derived.Test.YteknlcachfhfkaiDoorAtomCheck
namespace Go.Proofs.YteknlcachfhfkaiDoor
open Go.ChangeShapes Go.WideShapes Go.ChangeAt Go.RowKit
set_option maxRecDepth 100000

set_option maxHeartbeats 2000000 in
theorem atom_same (k n : Int) (vs vt us ut : Value) (s t : List Int) (w : World) (hS : Reads w vs s) (hT : Reads w vt t) (hS' : Reads w us s) (hT' : Reads w ut t) :
    Calls Tryd.prog 18 #[.agg #[.int .i64 k, vs, vt, .int .i64 n], .agg #[.int .i64 k, us, ut, .int .i64 n]] w fun e w' => e = .returned (.bool true) ∧ Below w.heap.size w w' := by
  have h1 : ∀ W, Below w.heap.size w W → _ := fun W h => ints_same s vs us W (hS.below h) (hS'.below h)
  have h2 : ∀ W, Below w.heap.size w W → _ := fun W h => ints_same t vt ut W (hT.below h) (hT'.below h)
  obtain ⟨a0, b0, rfl, _⟩ := hS.slice
  obtain ⟨a1, b1, rfl, _⟩ := hT.slice
  obtain ⟨a2, b2, rfl, _⟩ := hS'.slice
  obtain ⟨a3, b3, rfl, _⟩ := hT'.slice
  clear hS hT hS' hT'
  obtain ⟨w1, hw1⟩ : ∃ w1, w1 = (w.alloc (.cells #[.int .i64 k, .slice a0 s.length b0, .slice a1 t.length b1, .int .i64 n] 44)).alloc (.cells #[.int .i64 k, .slice a2 s.length b2, .slice a3 t.length b3, .int .i64 n] 44) := ⟨_, rfl⟩
  have HB1 : Hid (Below w.heap.size w w1) := by unfold Hid; rw [hw1]; exact (below_alloc1 w _).trans ((below_alloc1 _ _).mono (by simp))
  have HX : Hid (w1.cell? ⟨w.heap.size, 2, none⟩ = some (.slice a1 t.length b1) ∧ w1.cell? ⟨w.heap.size + 1, 2, none⟩ = some (.slice a3 t.length b3) ∧ w.heap.size + 1 < w1.heap.size) := by
    unfold Hid; rw [hw1]
    refine ⟨?_, ?_, by simp⟩
    · rw [World.cell?_alloc_lt _ _ ⟨w.heap.size, 2, none⟩ (by simp)]; simp
    · rw [World.cell?_alloc_at _ _ _ _ (by simp)]; rfl
  have H1 : Hid (Calls Tryd.prog 19 #[.slice a0 s.length b0, .slice a2 s.length b2] w1 fun e w' => e = .returned (.bool true) ∧ Below w1.heap.size w1 w') := h1 w1 HB1.out
  have H2 : Hid (∀ W, Below w.heap.size w W → Calls Tryd.prog 19 #[.slice a1 t.length b1, .slice a3 t.length b3] W fun e w' => e = .returned (.bool true) ∧ Below W.heap.size W w') := h2
  clear h1 h2
  go_enter Tryd.func18, Tryd.ntmps18
  go_wp2_with fail
  rw [← hw1]
  clear hw1
  go_at_call 19
  refine H1.out.mono ?_
  rintro e w2 ⟨rfl, hb⟩
  have HB2 : Hid (Below w.heap.size w w2) := HB1.out.trans (hb.mono HB1.out.size)
  have x2 := (hb.cell (p := ⟨w.heap.size, 2, none⟩) (Nat.lt_of_succ_lt HX.out.2.2)).trans HX.out.1
  have y2 := (hb.cell (p := ⟨w.heap.size + 1, 2, none⟩) HX.out.2.2).trans HX.out.2.1
  clear hb
  go_wp2_with fail
  go_at_call 19
  refine (H2.out _ HB2.out).mono ?_
  rintro e w3 ⟨rfl, hb⟩
  have HB3 : Hid (Below w.heap.size w w3) := HB2.out.trans (hb.mono HB2.out.size)
  clear hb
  go_wp2
  go_ret
  exact ⟨rfl, HB3.out⟩
end Go.Proofs.YteknlcachfhfkaiDoor
