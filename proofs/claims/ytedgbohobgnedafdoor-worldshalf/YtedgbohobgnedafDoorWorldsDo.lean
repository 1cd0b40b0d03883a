/-
  Proved: what worlds.check, worlds.All and worlds.alike return, of any number of things, and of right counts; what was in memory is as it was (contracts that the statements lean on).
-/
import Derived.Test.YtedgbohobgnedafDoorWorldsLike
import Derived.Test.YtedgbohobgnedafDoorSetsDo
import Derived.Test.YtedgbohobgnedafDoorFieldsBlk
import Derived.Test.YtedgbohobgnedafDoorTermCheck
namespace Go.Proofs.YtedgbohobgnedafDoor
open Go.ChangeShapes Go.WideShapes Go.ChangeAt Go.RowKit
set_option maxRecDepth 100000

theorem wcheck_ok (n : Nat) (hn : n ≤ 6) (w : World) : Calls Tryd.prog 17 #[.int .i64 n] w fun e w' => e = .returned .nilIface ∧ w = w' := by
  have h : okB (n : Int) 0 = true := ok_zero (by omega) (by omega)
  go_enter Tryd.func17, Tryd.ntmps17
  go_wp2_with fail
  go_at_call 30
  refine (check_ok _ _ h _).mono ?_
  rintro e w' ⟨rfl, rfl⟩
  go_wp2
  go_ret
  exact ⟨rfl, rfl⟩
theorem wcheck_no (u : Int) (hu : ¬ (0 ≤ u ∧ u ≤ 6)) (w : World) : Calls Tryd.prog 17 #[.int .i64 u] w fun e w' => e = .returned (.iface 51 (.int .i64 1)) ∧ w = w' := by
  have h : okB u 0 = false := okB_not.2 fun h => hu ⟨h.1, h.2.1⟩
  go_enter Tryd.func17, Tryd.ntmps17
  go_wp2_with fail
  go_at_call 30
  refine (check_no _ _ h _).mono ?_
  rintro e w' ⟨rfl, rfl⟩
  go_wp2
  go_ret
  exact ⟨rfl, rfl⟩

theorem wall_right (n : Nat) (hn : n ≤ 6) (w : World) : Calls Tryd.prog 5 #[.int .i64 n] w fun e w' => e = .returned (.tuple #[.int .i64 (eightN n), .nilIface]) ∧ w' = w := by
  have hb : ∀ k, k ≤ 6 → 1 ≤ eightN k ∧ eightN k ≤ 262144 := by decide
  have HB : Hid (∀ k, k ≤ 6 → 1 ≤ eightN k ∧ eightN k ≤ 262144) := hb
  have HCk : Hid (∀ W, Calls Tryd.prog 17 #[.int .i64 n] W fun e w' => e = .returned .nilIface ∧ W = w') := fun W => wcheck_ok n hn W
  clear hb
  go_enter Tryd.func5, Tryd.ntmps5
  go_wp2_with fail
  go_at_call 17
  refine (HCk.out _).mono ?_
  rintro e w1 ⟨rfl, rfl⟩
  go_wp2
  go_loop [5, 12] (fun p i => ∃ k : Nat, k ≤ n ∧ i = .int .i64 k ∧ p = .int .i64 (eightN k)) (fun _ i => n - (intOf i).toNat)
  case atStart => exact ⟨0, Nat.zero_le _, rfl, rfl⟩
  case round =>
    obtain ⟨k, hk, rfl, rfl⟩ := hrel
    by_cases hlt : k < n
    · have h1 := HB.out (k + 1) (by omega)
      have h2 := HB.out k (by omega)
      have HS : Hid (eightN (k + 1) = eightN k * 8) := rfl
      rw [HS.out] at h1
      go_wp2
      go_round
      case rel => exact ⟨k + 1, by omega, by go_num, by rw [HS.out]⟩
      case measure => simp [intOf]; omega
    · obtain rfl : k = n := by omega
      go_wp2
      go_ret2
      exact ⟨rfl, rfl⟩
theorem wall_wrong (u : Int) (hu : ¬ (0 ≤ u ∧ u ≤ 6)) (w : World) : Calls Tryd.prog 5 #[.int .i64 u] w fun e w' => e = .returned (.tuple #[.int .i64 0, .iface 51 (.int .i64 1)]) ∧ w' = w := by
  have HCk : Hid (∀ W, Calls Tryd.prog 17 #[.int .i64 u] W fun e w' => e = .returned (.iface 51 (.int .i64 1)) ∧ W = w') := fun W => wcheck_no u hu W
  clear hu
  go_enter Tryd.func5, Tryd.ntmps5
  go_wp2_with fail
  go_at_call 17
  refine (HCk.out _).mono ?_
  rintro e w1 ⟨rfl, rfl⟩
  go_wp2
  go_ret2
  exact ⟨rfl, rfl⟩
/-- how many worlds there are. -/
theorem worldsAll_any (u : Int) (w : World) : Calls Tryd.prog 5 #[.int .i64 u] w fun e w' => e = .returned (.tuple #[.int .i64 (allW u), errV (allFault u)]) ∧ Below w.heap.size w w' := by
  by_cases hu : 0 ≤ u ∧ u ≤ 6
  · obtain ⟨n, rfl⟩ := Int.eq_ofNat_of_zero_le hu.1
    refine (wall_right n (by omega) w).mono ?_
    rintro e w' ⟨rfl, rfl⟩
    unfold allW allFault
    rw [if_pos hu, if_pos hu]
    exact ⟨rfl, Below.refl _ _⟩
  · refine (wall_wrong u hu w).mono ?_
    rintro e w' ⟨rfl, rfl⟩
    unfold allW allFault
    rw [if_neg hu, if_neg hu]
    exact ⟨rfl, Below.refl _ _⟩

set_option maxHeartbeats 4000000 in
/-- how many worlds have so many things in each field. -/
theorem walike_any (N : Nat → Int) (h0 : countsFault N = 0) (w : World) :
    Calls Tryd.prog 23 #[.agg #[.int .i64 (N 0), .int .i64 (N 1), .int .i64 (N 2), .int .i64 (N 3), .int .i64 (N 4), .int .i64 (N 5), .int .i64 (N 6), .int .i64 (N 7)]] w fun e w' => e = .returned (.int .i64 (likeN N)) ∧ Below w.heap.size w w' := by
  obtain ⟨hlk, hlay⟩ := lay_right h0
  have HLK : Hid (layTo N 8 = likeN N) := hlk
  have HLY : Hid (∀ i, i < 8 → 0 ≤ sumN N i ∧ sumN N i + N i ≤ 6 ∧ ∀ k : Nat, (k : Int) ≤ N i → 0 ≤ fillN (layTo N i) (sumN N i) k ∧ fillN (layTo N i) (sumN N i) k ≤ 720) := hlay
  have HN : Hid (∀ f, f < 8 → 0 ≤ N f ∧ N f ≤ 6) := (counts_zero.1 h0).1
  clear h0 hlk hlay
  obtain ⟨w1, hw1⟩ : ∃ w1, w1 = w.alloc (.cells #[.int .i64 (N 0), .int .i64 (N 1), .int .i64 (N 2), .int .i64 (N 3), .int .i64 (N 4), .int .i64 (N 5), .int .i64 (N 6), .int .i64 (N 7)] 36) := ⟨_, rfl⟩
  have HB1 : Hid (Below w.heap.size w w1) := by unfold Hid; rw [hw1]; exact below_alloc1 _ _
  have HK1 : Hid (∀ k, k < 8 → w1.cell? ⟨w.heap.size, k, none⟩ = some (.int .i64 (N k))) := fun k hk => by
    have hb : Blk w1 w.heap.size 36 (arr8 N) := by rw [hw1]; exact Blk.new _ _ _
    rw [hb.cell, arr8_get _ hk]
  go_enter Tryd.func23, Tryd.ntmps23
  go_wp2_with fail
  rw [← hw1]
  clear hw1
  go_loop [3, 4, 7] (fun m p i => ∃ k : Nat, k ≤ 8 ∧ i = .int .i64 k ∧ m = .int .i64 (layTo N k) ∧ p = .int .i64 (sumN N k)) (fun _ _ i => 8 - (intOf i).toNat)
  case atStart => exact ⟨0, Nat.zero_le _, rfl, rfl, rfl⟩
  case round =>
    obtain ⟨k, hk, rfl, rfl, rfl⟩ := hrel
    by_cases hlt : k < 8
    · have c := HK1.out k hlt
      have hN := HN.out k hlt
      obtain ⟨hp0, hp1, hf⟩ := HLY.out k hlt
      obtain ⟨n, hn⟩ : ∃ n : Nat, N k = n := ⟨(N k).toNat, by omega⟩
      have HLk : Hid (layTo N (k + 1) = fillN (layTo N k) (sumN N k) n) := by unfold Hid; rw [lay_step, hn]; rfl
      have HSk : Hid (sumN N (k + 1) = sumN N k + n) := by unfold Hid; rw [← hn]; rfl
      rw [hn] at c hN hp1 hf
      obtain ⟨m, hm⟩ : ∃ m, m = layTo N k := ⟨_, rfl⟩
      obtain ⟨p, hp⟩ : ∃ p, p = sumN N k := ⟨_, rfl⟩
      rw [← hm, ← hp] at HLk
      rw [← hp] at HSk hp0 hp1
      rw [← hm, ← hp] at hf ⊢
      have HF : Hid (∀ j : Nat, (j : Int) ≤ n → 0 ≤ fillN m p j ∧ fillN m p j ≤ 720) := hf
      have HF0 : Hid (fillN m p 0 = m) := rfl
      clear hm hp hn hN hf
      have hn6 : n ≤ 6 := by omega
      go_wp2
      go_loop [3, 4, 13] (fun x q i => ∃ j : Nat, j ≤ n ∧ i = .int .i64 j ∧ x = .int .i64 (fillN m p j) ∧ q = .int .i64 (p + j)) (fun _ _ i => n - (intOf i).toNat)
      case atStart => exact ⟨0, Nat.zero_le _, rfl, rfl, by simp⟩
      case round =>
        obtain ⟨j, hj, rfl, rfl, rfl⟩ := hrel
        by_cases hl2 : j < n
        · have h1 := HF.out j (by omega)
          have h2 := HF.out (j + 1) (by omega)
          have HS : Hid (fillN m p (j + 1) = (fillN m p j * (p + j + 1)).tdiv ((j : Int) + 1)) := rfl
          rw [HS.out] at h2
          obtain ⟨y, hy⟩ : ∃ y, y = fillN m p j := ⟨_, rfl⟩
          rw [← hy] at HS h1 h2 ⊢
          have hq : 0 ≤ y * (p + j + 1) := Int.mul_nonneg h1.1 (by omega)
          have hq2 : y * (p + j + 1) ≤ 720 * 6 := Int.mul_le_mul h1.2 (by omega) (by omega) (by omega)
          have hz : ¬ ((j : Int) + 1 = 0) := by omega
          clear hy
          go_wp2
          go_round
          case rel => exact ⟨j + 1, by omega, by go_num, by rw [HS.out], by go_num⟩
          case measure => simp [intOf]; omega
        · obtain rfl : j = n := by omega
          go_wp2
          go_round
          case rel => exact ⟨k + 1, by omega, by go_num, by rw [HLk.out], by rw [HSk.out]⟩
          case measure => simp [intOf]; omega
    · obtain rfl : k = 8 := by omega
      go_wp2
      go_ret
      exact ⟨back_i HLK.out, HB1.out⟩
end Go.Proofs.YtedgbohobgnedafDoor
