/-
  Proved: what the reference's Counts and Fields return; what was in memory is as it was (contracts that the statements lean on).
-/
import Derived.Test.YtedgbohobgnedadDoorFieldsBlk
import Derived.Test.YtedgbohobgnedadDoorFieldsLies
import Derived.Test.YtedgbohobgnedadDoorRefHas
namespace Go.Proofs.YtedgbohobgnedadDoor
open Go.ChangeShapes Go.WideShapes Go.ChangeAt Go.RowKit

set_option maxRecDepth 100000 in
set_option maxHeartbeats 4000000 in
theorem refCounts_any (N : Nat → Int) (w : World) :
    Calls Tryd.prog 13 #[.agg #[.int .i64 (N 0), .int .i64 (N 1), .int .i64 (N 2), .int .i64 (N 3), .int .i64 (N 4), .int .i64 (N 5), .int .i64 (N 6), .int .i64 (N 7)]] w fun e w' => e = .returned (.int .i64 (countsFault N)) ∧ Below w.heap.size w w' := by
  obtain ⟨w1, hw1⟩ : ∃ w1, w1 = w.alloc (.cells #[.int .i64 (N 0), .int .i64 (N 1), .int .i64 (N 2), .int .i64 (N 3), .int .i64 (N 4), .int .i64 (N 5), .int .i64 (N 6), .int .i64 (N 7)] 26) := ⟨_, rfl⟩
  have HW : Hid (Below w.heap.size w w1) := by unfold Hid; rw [hw1]; exact below_alloc1 _ _
  have HK : Hid (Blk w1 w.heap.size 26 (arr8 N)) := by unfold Hid; rw [hw1]; exact Blk.new _ _ _
  obtain ⟨F, hF⟩ : ∃ F, F = countsFault N := ⟨_, rfl⟩
  have HF1 : Hid (∀ k, k < 8 → ¬ (0 ≤ N k ∧ N k ≤ 6) → F = 1) := fun k hk h => by
    rw [hF]; unfold countsFault; rw [if_neg (by rw [eachB_no hk h]; decide)]
  have HF2 : Hid ((∀ f, f < 8 → 0 ≤ N f ∧ N f ≤ 6) → (sumN N 8 ≤ 6 → F = 0) ∧ (6 < sumN N 8 → F = 4)) := fun h => by
    rw [hF]; unfold countsFault; rw [if_pos (eachB_iff.2 h)]
    exact ⟨fun h' => by rw [if_pos h'], fun h' => by rw [if_neg (by omega)]⟩
  rw [← hF]
  clear hF
  go_enter Tryd.func13, Tryd.ntmps13
  go_wp2
  rw [← hw1]
  clear hw1
  go_loop [3, 4] (fun s i => ∃ k : Nat, k ≤ 8 ∧ i = .int .i64 k ∧ s = .int .i64 (sumN N k) ∧ ∀ f, f < k → 0 ≤ N f ∧ N f ≤ 6) (fun _ i => 8 - (intOf i).toNat)
  case atStart => exact ⟨0, Nat.zero_le _, rfl, rfl, fun f hf => by omega⟩
  case round =>
    obtain ⟨k, hk, rfl, rfl, hall⟩ := hrel
    have HA : Hid (∀ f, f < k → 0 ≤ N f ∧ N f ≤ 6) := hall
    clear hall
    by_cases hlt : k < 8
    · have hc : w1.cell? ⟨w.heap.size, k, none⟩ = some (.int .i64 (N k)) := by rw [HK.out.cell, arr8_get _ hlt]
      have p1 := sumN_le (N := N) (k := k) HA.out
      have HS : Hid (sumN N (k + 1) = sumN N k + N k) := rfl
      by_cases h0 : N k < 0
      · have HE : Hid (F = 1) := HF1.out k hlt (by omega)
        go_wp2
        go_ret
        exact ⟨back_i HE.out.symm, HW.out⟩
      by_cases h6 : 6 < N k
      · have HE : Hid (F = 1) := HF1.out k hlt (by omega)
        go_wp2
        go_ret
        exact ⟨back_i HE.out.symm, HW.out⟩
      · have HN : Hid (∀ f, f < k + 1 → 0 ≤ N f ∧ N f ≤ 6) := fun f hf => by
          rcases Nat.lt_or_ge f k with h' | h'
          · exact HA.out f h'
          · obtain rfl : f = k := by omega
            omega
        go_wp2
        go_round
        case rel => exact ⟨k + 1, by omega, by go_num, by rw [HS.out], HN.out⟩
        case measure => simp [intOf]; omega
    · obtain rfl : k = 8 := by omega
      by_cases h6 : sumN N 8 ≤ 6
      · have HE : Hid (F = 0) := (HF2.out HA.out).1 h6
        go_wp2
        go_ret
        exact ⟨back_i HE.out.symm, HW.out⟩
      · have h6' : 6 < sumN N 8 := by omega
        have HE : Hid (F = 4) := (HF2.out HA.out).2 h6'
        go_wp2
        go_ret
        exact ⟨back_i HE.out.symm, HW.out⟩

theorem info8 : (Tryd.prog.info? 26).map (·.size) = some 8 := by kernel_rfl
theorem infoW : (Tryd.prog.info? 44).map (·.size) = some 4 := by kernel_rfl
theorem sum_three {x y z : Bool} : oneB x + 2 * oneB y + 4 * oneB z = oneB x + oneB y * 2 + oneB z * 4 := by omega

end Go.Proofs.YtedgbohobgnedadDoor
