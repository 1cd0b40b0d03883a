/-
  Proved: what turned, wrong, sum and mask of package rows return; what was in memory is as it was (contracts that the statements lean on). Written by program.
-/
import Derived.Test.YtedgbohobgnedaeDoorRowsBlk
import Derived.Test.YtedgbohobgnedaeDoorTermCheck
import Derived.Handy
namespace Go.Proofs.YtedgbohobgnedaeDoor
open Go.ChangeShapes Go.WideShapes Go.ChangeAt Go.RowKit

theorem ix8 (T : Nat → Int) {k : Nat} (hk : k < 8) (W : World) : (Instr.index 22 (.agg #[.int .i64 (T 0), .int .i64 (T 1), .int .i64 (T 2), .int .i64 (T 3), .int .i64 (T 4), .int .i64 (T 5), .int .i64 (T 6), .int .i64 (T 7)]) (.int .i64 k)).run Tryd.prog W = .ok (.int .i64 (T k)) W := by
  rcases eight hk with rfl | rfl | rfl | rfl | rfl | rfl | rfl | rfl <;> kernel_rfl

set_option maxRecDepth 100000 in
set_option maxHeartbeats 4000000 in
theorem wrong_any (T : Nat → Int) (m : Int) (w : World) :
    Calls Tryd.prog 16 #[.agg #[.int .i64 (T 0), .int .i64 (T 1), .int .i64 (T 2), .int .i64 (T 3), .int .i64 (T 4), .int .i64 (T 5), .int .i64 (T 6), .int .i64 (T 7), .int .i64 m]] w fun e w' => e = .returned (.bool (Rw.mk T m).wrong) ∧ Below w.heap.size w w' := by
  obtain ⟨w1, hw1⟩ : ∃ w1, w1 = w.alloc (.cells #[.int .i64 (T 0), .int .i64 (T 1), .int .i64 (T 2), .int .i64 (T 3), .int .i64 (T 4), .int .i64 (T 5), .int .i64 (T 6), .int .i64 (T 7), .int .i64 m] 50) := ⟨_, rfl⟩
  have HW : Hid (Below w.heap.size w w1) := by unfold Hid; rw [hw1]; exact below_alloc1 _ _
  have HK0 : Hid (Blk w1 w.heap.size 50 (arrR T m)) := by unfold Hid; rw [hw1]; exact Blk.new _ _ _
  obtain ⟨R, hR⟩ : ∃ R, R = (Rw.mk T m).wrong := ⟨_, rfl⟩
  have HR1 : Hid (∀ f, f < 8 → ¬ (-2 ≤ T f ∧ T f ≤ 2) → R = true) := fun f hf h => by rw [hR]; exact wrong_time hf h
  have HR2 : Hid (¬ (-100 ≤ m ∧ m ≤ 100) → R = true) := fun h => by rw [hR]; exact wrong_most h
  have HR3 : Hid ((∀ f, f < 8 → -2 ≤ T f ∧ T f ≤ 2) → (-100 ≤ m ∧ m ≤ 100) → R = false) := fun h h' => by rw [hR]; exact right_iff.2 ⟨h, h'⟩
  rw [← hR]
  clear hR
  obtain ⟨n0, n1, n2, n3, n4, n5, n6, n7, n8⟩ := HK0.out.cells9
  go_enter Tryd.func16, Tryd.ntmps16
  go_wp2_with fail
  rw [← hw1]
  clear hw1
  go_wp2_with fail
  go_loop [4, 7] (fun _ i => ∃ k : Nat, k ≤ 8 ∧ i = .int .i64 k ∧ ∀ f, f < k → -2 ≤ T f ∧ T f ≤ 2) (fun _ i => 8 - (intOf i).toNat)
  case atStart => exact ⟨0, Nat.zero_le _, rfl, fun f hf => by omega⟩
  case round =>
    obtain ⟨k, hk, rfl, hall⟩ := hrel
    have HA : Hid (∀ f, f < k → -2 ≤ T f ∧ T f ≤ 2) := hall
    clear hall
    by_cases hlt : k < 8
    · have hi := ix8 T hlt
      have HT1 : Hid (¬ (-2 ≤ T k ∧ T k ≤ 2) → R = true) := HR1.out k hlt
      have HN : Hid ((-2 ≤ T k ∧ T k ≤ 2) → ∀ f, f < k + 1 → -2 ≤ T f ∧ T f ≤ 2) := fun h f hf => by
        rcases Nat.lt_or_ge f k with h' | h'
        · exact HA.out f h'
        · obtain rfl : f = k := by omega
          exact h
      obtain ⟨x, hx⟩ : ∃ x, x = T k := ⟨_, rfl⟩
      rw [← hx] at hi HT1 HN
      clear hx
      by_cases h0 : x < -2
      · have HE : Hid (R = true) := HT1.out (by omega)
        go_wp2
        go_ret
        exact ⟨back_b HE.out.symm, HW.out⟩
      by_cases h2 : 2 < x
      · have HE : Hid (R = true) := HT1.out (by omega)
        go_wp2
        go_ret
        exact ⟨back_b HE.out.symm, HW.out⟩
      · have HE : Hid (∀ f, f < k + 1 → -2 ≤ T f ∧ T f ≤ 2) := HN.out (by omega)
        go_wp2
        go_round
        case rel => exact ⟨k + 1, by omega, by go_num, HE.out⟩
        case measure => simp [intOf]; omega
    · obtain rfl : k = 8 := by omega
      by_cases h0 : m < -100
      · have HE : Hid (R = true) := HR2.out (by omega)
        go_wp2
        go_ret
        exact ⟨back_b HE.out.symm, HW.out⟩
      by_cases h2 : 100 < m
      · have HE : Hid (R = true) := HR2.out (by omega)
        go_wp2
        go_ret
        exact ⟨back_b HE.out.symm, HW.out⟩
      · have HE : Hid (R = false) := HR3.out HA.out (by omega)
        go_wp2
        go_ret
        exact ⟨back_b HE.out.symm, HW.out⟩

set_option maxRecDepth 100000 in
set_option maxHeartbeats 4000000 in
theorem sum_any (T N : Nat → Int) (hT : ∀ f, f < 8 → -2 ≤ T f ∧ T f ≤ 2) (hN : ∀ f, f < 8 → 0 ≤ N f ∧ N f ≤ 6) (w : World) :
    Calls Tryd.prog 18 #[.agg #[.int .i64 (T 0), .int .i64 (T 1), .int .i64 (T 2), .int .i64 (T 3), .int .i64 (T 4), .int .i64 (T 5), .int .i64 (T 6), .int .i64 (T 7)], .agg #[.int .i64 (N 0), .int .i64 (N 1), .int .i64 (N 2), .int .i64 (N 3), .int .i64 (N 4), .int .i64 (N 5), .int .i64 (N 6), .int .i64 (N 7)]] w fun e w' => e = .returned (.int .i64 (sumT T N 8)) ∧ Below w.heap.size w w' := by
  obtain ⟨w1, hw1⟩ : ∃ w1, w1 = (w.alloc (.cells #[.int .i64 (T 0), .int .i64 (T 1), .int .i64 (T 2), .int .i64 (T 3), .int .i64 (T 4), .int .i64 (T 5), .int .i64 (T 6), .int .i64 (T 7)] 22)).alloc (.cells #[.int .i64 (N 0), .int .i64 (N 1), .int .i64 (N 2), .int .i64 (N 3), .int .i64 (N 4), .int .i64 (N 5), .int .i64 (N 6), .int .i64 (N 7)] 22) := ⟨_, rfl⟩
  have HW : Hid (Below w.heap.size w w1) := by unfold Hid; rw [hw1]; exact (below_alloc1 _ _).alloc (by simp) _
  have HK0 : Hid (Blk w1 w.heap.size 22 (arr8 T)) := by unfold Hid; rw [hw1]; exact (Blk.new _ _ _).old _
  have HK1 : Hid (Blk w1 (w.heap.size + 1) 22 (arr8 N)) := by
    unfold Hid; rw [hw1]
    have := Blk.new (w.alloc (.cells #[.int .i64 (T 0), .int .i64 (T 1), .int .i64 (T 2), .int .i64 (T 3), .int .i64 (T 4), .int .i64 (T 5), .int .i64 (T 6), .int .i64 (T 7)] 22)) 22 (arr8 N)
    simp only [World.size_alloc] at this
    exact this
  have HT : Hid (∀ f, f < 8 → -2 ≤ T f ∧ T f ≤ 2) := hT
  have HN : Hid (∀ f, f < 8 → 0 ≤ N f ∧ N f ≤ 6) := hN
  clear hT hN
  go_enter Tryd.func18, Tryd.ntmps18
  go_wp2
  rw [← hw1]
  clear hw1
  go_loopw [5, 7] (fun s i wr => ∃ k : Nat, k ≤ 8 ∧ i = .int .i64 k ∧ s = .int .i64 (sumT T N k) ∧ Below w1.heap.size w1 wr) (fun _ i _ => 8 - (intOf i).toNat)
  case atStart => exact ⟨0, Nat.zero_le _, rfl, rfl, Below.refl _ _⟩
  case round =>
    obtain ⟨k, hk, rfl, rfl, hb⟩ := hrel
    have HB1 : Hid (Below w1.heap.size w1 wr) := hb
    clear hb
    by_cases hlt : k < 8
    · have y : wr.cell? ⟨w.heap.size, k, none⟩ = some (.int .i64 (T k)) := by rw [(HK0.out.below HB1.out).cell, arr8_get _ hlt]
      have y' : wr.cell? ⟨w.heap.size + 1, k, none⟩ = some (.int .i64 (N k)) := by rw [(HK1.out.below HB1.out).cell, arr8_get _ hlt]
      have p1 := sumT_le (T := T) (N := N) (k := k) (fun f hf => HT.out f (by omega)) fun f hf => HN.out f (by omega)
      have p2 := mul_le (HT.out k hlt) (HN.out k hlt)
      have HS : Hid (sumT T N (k + 1) = sumT T N k + T k * N k) := rfl
      go_wp2
      go_region
      go_wp2
      go_roundw
      case rel => exact ⟨k + 1, by omega, by go_num, by rw [HS.out], HB1.out.drew⟩
      case measure => simp [intOf]; omega
    · obtain rfl : k = 8 := by omega
      go_wp2
      go_ret
      exact ⟨rfl, HW.out.trans (HB1.out.mono HW.out.size)⟩

end Go.Proofs.YtedgbohobgnedaeDoor
