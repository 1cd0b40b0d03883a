/-
  Proved: whatever the numbers u and i, vennlaw4.SetsAll returns true, and what was in memory is as it was.
-/
import Derived.Test.YtenmheenieifpaaDoorSame
import Derived.Test.YtenmheenieifpaaDoorHas
namespace Go.Proofs.YtenmheenieifpaaDoor
open Go.ChangeShapes Go.WideShapes Go.ChangeAt Go.RowKit

theorem all_doN {u : Int} (h0 : 0 ≤ u) (h1 : u ≤ 6) : okB u (doN 8 u 0 0) = true ∧ pcN (doN 8 u 0 0) = u := by
  rcases seven h0 h1 with rfl | rfl | rfl | rfl | rfl | rfl | rfl <;> decide
theorem all_hasB {u i : Int} (h0 : 0 ≤ u) (h1 : u ≤ 6) (h2 : 0 ≤ i) (h3 : i < u) : hasB (doN 8 u 0 0) i = true := by
  have hi : i = 0 ∨ i = 1 ∨ i = 2 ∨ i = 3 ∨ i = 4 ∨ i = 5 := by omega
  rcases seven h0 h1 with rfl | rfl | rfl | rfl | rfl | rfl | rfl <;> rcases hi with rfl | rfl | rfl | rfl | rfl | rfl <;> first | omega | decide

set_option linter.unusedVariables false in
set_option maxRecDepth 100000 in
set_option maxHeartbeats 1000000 in
theorem setsAll_walk (u i : Int) (w0 : (Lit.int .i64 u).wf = true) (w1 : (Lit.int .i64 i).wf = true) (w : World) (hL : Laid w) :
    Calls Tryd.prog 4 #[.int .i64 u, .int .i64 i] w fun e w' => e = .returned (.bool true) ∧ Below w.heap.size w w' := by
  have HL : Hid (Laid w) := hL
  clear hL
  by_cases hu : 0 ≤ u ∧ u ≤ 6
  · obtain ⟨h0, h1⟩ := hu
    obtain ⟨k1, k2⟩ := all_doN h0 h1
    have z := ok_zero h0 h1
    by_cases hi : 0 ≤ i ∧ i < u
    · obtain ⟨i0, i1⟩ := hi
      have k3 := all_hasB h0 h1 i0 i1
      go_enter Tryd.func4, Tryd.ntmps4
      go_wp2_with (first | (go_at_call 14; refine (do_ok _ _ _ _ ?_ ?_ z z _).mono ?_; decide; decide; rintro e w' ⟨rfl, rfl⟩) | (go_at_call 11; refine (size_ok _ _ k1 _).mono ?_; rintro e w' ⟨rfl, rfl⟩) | (go_at_call 12; refine (has_ok _ _ _ k1 i0 i1 _).mono ?_; rintro e w' ⟨rfl, rfl⟩))
      go_ret
      exact ⟨rfl, Below.refl _ _⟩
    · by_cases i0 : i < 0
      · clear hi
        go_enter Tryd.func4, Tryd.ntmps4
        go_wp2_with (first | (go_at_call 14; refine (do_ok _ _ _ _ ?_ ?_ z z _).mono ?_; decide; decide; rintro e w' ⟨rfl, rfl⟩) | (go_at_call 11; refine (size_ok _ _ k1 _).mono ?_; rintro e w' ⟨rfl, rfl⟩) | (go_at_call 12; refine (has_no _ _ _ (Or.inr (Or.inl i0)) _).mono ?_; rintro e w' ⟨rfl, rfl⟩) | (go_at_call 7; refine (same_err _ _ _ HL.out).mono ?_; rintro e w' ⟨rfl, hb⟩))
        go_ret
        exact ⟨rfl, hb⟩
      · have i1 : u ≤ i := by omega
        clear hi
        go_enter Tryd.func4, Tryd.ntmps4
        go_wp2_with (first | (go_at_call 14; refine (do_ok _ _ _ _ ?_ ?_ z z _).mono ?_; decide; decide; rintro e w' ⟨rfl, rfl⟩) | (go_at_call 11; refine (size_ok _ _ k1 _).mono ?_; rintro e w' ⟨rfl, rfl⟩) | (go_at_call 12; refine (has_no _ _ _ (Or.inr (Or.inr i1)) _).mono ?_; rintro e w' ⟨rfl, rfl⟩) | (go_at_call 7; refine (same_err _ _ _ HL.out).mono ?_; rintro e w' ⟨rfl, hb⟩))
        go_ret
        exact ⟨rfl, hb⟩
  · have z : okB u 0 = false := by rw [okB_not]; omega
    by_cases h0 : u < 0
    · clear hu
      go_enter Tryd.func4, Tryd.ntmps4
      go_wp2_with (go_at_call 14; refine (do_no _ _ _ _ (Or.inl z) _).mono ?_; rintro e w' ⟨rfl, rfl⟩)
      go_ret
      exact ⟨rfl, Below.refl _ _⟩
    · have h1 : 6 < u := by omega
      clear hu
      go_enter Tryd.func4, Tryd.ntmps4
      go_wp2_with (go_at_call 14; refine (do_no _ _ _ _ (Or.inl z) _).mono ?_; rintro e w' ⟨rfl, rfl⟩)
      go_ret
      exact ⟨rfl, Below.refl _ _⟩
end Go.Proofs.YtenmheenieifpaaDoor
