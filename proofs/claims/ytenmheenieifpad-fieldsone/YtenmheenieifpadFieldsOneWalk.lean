/-
  Proved: vennlaw4.FieldsOne, called with any number, returns true, and what was in memory is as it was (the walk; the statement is in the frame behind it).
-/
import Derived.Test.YtenmheenieifpadFieldsMask
namespace Go.Proofs.Ytenmheenieifpad
open Go.ChangeShapes Go.WideShapes Go.ChangeAt Go.RowKit

theorem reads_one (w : World) (s : Int) : Reads (w.alloc (.cells #[.int .i64 s] 3)) (.slice (some ⟨w.heap.size, 0, none⟩) 1 1) [s] :=
  Or.inr ⟨w.heap.size, 0, 1, rfl, by simp, by simp, ⟨by simp, by simp⟩, fun k hk => by
    obtain rfl : k = 0 := by simp at hk; omega
    simp⟩
theorem mask_one (s : Int) (w : World) :
    Calls Try.prog 4 #[.slice (some ⟨w.heap.size, 0, none⟩) 1 1] (w.alloc (.cells #[.int .i64 s] 3)) fun e w' => e = .returned (.tuple #[.int .i64 (maskN [s]), errV (faultN [s])]) ∧ Below w.heap.size w w' :=
  (mask_any [s] _ _ (reads_one w s)).mono fun _ _ h => ⟨h.1, (below_alloc1 _ _).trans (h.2.mono (by simp))⟩
theorem mask_known (s M : Int) (w : World) (h : faultN [s] = 0 ∧ maskN [s] = M) :
    Calls Try.prog 4 #[.slice (some ⟨w.heap.size, 0, none⟩) 1 1] (w.alloc (.cells #[.int .i64 s] 3)) fun e w' => e = .returned (.tuple #[.int .i64 M, .nilIface]) ∧ Below w.heap.size w w' := by
  have := mask_one s w
  rw [h.1, h.2] at this
  exact this
theorem known4 : faultN [4] = 0 ∧ maskN [4] = 255 := by decide +kernel
theorem known3 : faultN [3] = 0 ∧ maskN [3] = 0 := by decide +kernel
theorem known0 : faultN [0] = 0 ∧ maskN [0] = 170 := by decide +kernel
theorem known1 : faultN [1] = 0 ∧ maskN [1] = 204 := by decide +kernel
theorem known2 : faultN [2] = 0 ∧ maskN [2] = 240 := by decide +kernel

set_option maxRecDepth 100000 in
set_option maxHeartbeats 4000000 in
theorem fieldsOne_walk (name : Int) (w : World) :
    Calls Try.prog 3 #[.int .i64 name] w fun e w' => e = .returned (.bool true) ∧ Below w.heap.size w w' := by
  by_cases h0 : name < 0 ∨ 2 < name
  · obtain ⟨M, hM⟩ : ∃ M, M = maskN [name] := ⟨_, rfl⟩
    obtain ⟨E, hE⟩ : ∃ E, E = errV (faultN [name]) := ⟨_, rfl⟩
    have HM : Hid (∀ W : World, Calls Try.prog 4 #[.slice (some ⟨W.heap.size, 0, none⟩) 1 1] (W.alloc (.cells #[.int .i64 name] 3)) fun e w' => e = .returned (.tuple #[.int .i64 M, E]) ∧ Below W.heap.size W w') := fun W => by
      rw [hM, hE]; exact mask_one name W
    clear hM hE
    rcases h0 with h0 | h0
    all_goals
      go_enter Try.func3, Try.ntmps3
      go_wp2_with fail
      go_at_call 4
      refine (mask_known 4 255 _ known4).mono ?_
      rintro e w1 ⟨rfl, hb⟩
      have HB1 : Hid (Below w.heap.size w w1) := hb
      clear hb
      go_wp2_with fail
      go_at_call 4
      refine (mask_known 3 0 _ known3).mono ?_
      rintro e w2 ⟨rfl, hb⟩
      have HB2 : Hid (Below w.heap.size w w2) := HB1.out.trans (hb.mono HB1.out.size)
      clear hb
      go_wp2_with fail
      go_at_call 4
      refine (mask_known 0 170 _ known0).mono ?_
      rintro e w3 ⟨rfl, hb⟩
      have HB3 : Hid (Below w.heap.size w w3) := HB2.out.trans (hb.mono HB2.out.size)
      clear hb
      go_wp2_with fail
      go_at_call 4
      refine (HM.out _).mono ?_
      rintro e w4 ⟨rfl, hb⟩
      have HB4 : Hid (Below w.heap.size w w4) := HB3.out.trans (hb.mono HB3.out.size)
      clear hb
      go_wp2
      go_ret
      exact ⟨rfl, HB4.out⟩
  · have hd : (name = 0 ∨ name = 1 ∨ name = 2) := by omega
    clear h0
    obtain ⟨M, HM, hM⟩ : ∃ M, Hid (faultN [name] = 0 ∧ maskN [name] = M) ∧ (M = 170 ∨ M = 204 ∨ M = 240) := by
      rcases hd with rfl | rfl | rfl
      · exact ⟨170, known0, Or.inl rfl⟩
      · exact ⟨204, known1, Or.inr (Or.inl rfl)⟩
      · exact ⟨240, known2, Or.inr (Or.inr rfl)⟩
    have hn0 : ¬ name < 0 := by omega
    have hn2 : ¬ 2 < name := by omega
    clear hd
    rcases hM with rfl | rfl | rfl
    all_goals
      go_enter Try.func3, Try.ntmps3
      go_wp2_with fail
      go_at_call 4
      refine (mask_known 4 255 _ known4).mono ?_
      rintro e w1 ⟨rfl, hb⟩
      have HB1 : Hid (Below w.heap.size w w1) := hb
      clear hb
      go_wp2_with fail
      go_at_call 4
      refine (mask_known 3 0 _ known3).mono ?_
      rintro e w2 ⟨rfl, hb⟩
      have HB2 : Hid (Below w.heap.size w w2) := HB1.out.trans (hb.mono HB1.out.size)
      clear hb
      go_wp2_with fail
      go_at_call 4
      refine (mask_known 0 170 _ known0).mono ?_
      rintro e w3 ⟨rfl, hb⟩
      have HB3 : Hid (Below w.heap.size w w3) := HB2.out.trans (hb.mono HB2.out.size)
      clear hb
      go_wp2_with fail
      go_at_call 4
      refine (mask_known name _ _ HM.out).mono ?_
      rintro e w4 ⟨rfl, hb⟩
      have HB4 : Hid (Below w.heap.size w w4) := HB3.out.trans (hb.mono HB3.out.size)
      clear hb
      go_wp2
      refine wp_loop_rounds 9 ?_
      rw [rounds_succ]
      go_wp2
      rw [rounds_succ]
      go_wp2
      rw [rounds_succ]
      go_wp2
      rw [rounds_succ]
      go_wp2
      rw [rounds_succ]
      go_wp2
      rw [rounds_succ]
      go_wp2
      rw [rounds_succ]
      go_wp2
      rw [rounds_succ]
      go_wp2
      rw [rounds_succ]
      go_wp2
      go_ret
      exact ⟨rfl, HB4.out⟩
end Go.Proofs.Ytenmheenieifpad
