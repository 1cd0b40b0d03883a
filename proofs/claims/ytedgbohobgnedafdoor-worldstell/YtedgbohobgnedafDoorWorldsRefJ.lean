/-
  Proved: what vennref2.Ways returns, of right counts; what was in memory is as it was (a contract that the statements lean on).
-/
import Derived.Test.YtedgbohobgnedafDoorLibPC1
import Derived.Test.YtedgbohobgnedafDoorLibPC2
import Derived.Test.YtedgbohobgnedafDoorLibPC3
namespace Go.Proofs.YtedgbohobgnedafDoor
open Go.ChangeShapes Go.WideShapes Go.ChangeAt Go.RowKit
set_option maxRecDepth 100000

set_option maxHeartbeats 4000000 in
theorem ways_right (N : Nat → Int) (w : World) (hf : countsFault N = 0) :
    Calls Tryd.prog 8 #[.agg #[.int .i64 (N 0), .int .i64 (N 1), .int .i64 (N 2), .int .i64 (N 3), .int .i64 (N 4), .int .i64 (N 5), .int .i64 (N 6), .int .i64 (N 7)]] w fun e w' => e = .returned (.int .i64 (likeN N)) ∧ Below w.heap.size w w' := by
  obtain ⟨hr, hs⟩ := counts_zero.1 hf
  have HR : Hid (∀ f, f < 8 → 0 ≤ N f ∧ N f ≤ 6) := hr
  have HS : Hid (∀ k, k ≤ 8 → 0 ≤ sumN N k ∧ sumN N k ≤ 6) := fun k hk => by
    have h1 := sumN_up (N := N) (k := 0) (l := k) (by omega) (fun g _ hg => (hr g (by omega)).1)
    have h2 := sumN_up (N := N) (k := k) (l := 8) hk (fun g _ hg => (hr g (by omega)).1)
    have h0 : sumN N 0 = 0 := rfl
    omega
  have HT : Hid (∀ i, 0 ≤ likeTo N i ∧ likeTo N i ≤ 720) := fun i => likeTo_range hf i
  obtain ⟨w1, hw1⟩ : ∃ w1, w1 = w.alloc (.cells #[.int .i64 (N 0), .int .i64 (N 1), .int .i64 (N 2), .int .i64 (N 3), .int .i64 (N 4), .int .i64 (N 5), .int .i64 (N 6), .int .i64 (N 7)] 36) := ⟨_, rfl⟩
  have HB1 : Hid (Below w.heap.size w w1) := by unfold Hid; rw [hw1]; exact below_alloc1 _ _
  have HP1 : Hid (Blk w1 w.heap.size 36 (arr8 N)) := by unfold Hid; rw [hw1]; exact Blk.new _ _ _
  clear hr hs hf
  go_enter Tryd.func8, Tryd.ntmps8
  go_wp2
  rw [← hw1]
  clear hw1
  go_loop [3, 4] (fun s i => ∃ k : Nat, k ≤ 8 ∧ i = .int .i64 k ∧ s = .int .i64 (sumN N k)) (fun _ i => 8 - (intOf i).toNat)
  case atStart => exact ⟨0, Nat.zero_le _, rfl, rfl⟩
  case round =>
    obtain ⟨k, hk, rfl, rfl⟩ := hrel
    by_cases hlt : k < 8
    · have c := HP1.out.at8 hlt
      have h1 := HS.out (k + 1) (by omega)
      have HN : Hid (sumN N (k + 1) = sumN N k + N k) := rfl
      rw [HN.out] at h1
      go_wp2
      go_round
      case rel => exact ⟨k + 1, by omega, by go_num, by rw [HN.out]⟩
      case measure => simp [intOf]; omega
    · obtain rfl : k = 8 := by omega
      have h8 := HS.out 8 (by omega)
      obtain ⟨S, hS⟩ : ∃ S : Nat, sumN N 8 = S := ⟨(sumN N 8).toNat, by omega⟩
      have HSe : Hid (sumN N 8 = S) := hS
      rw [hS] at h8 ⊢
      have hS6 : S ≤ 6 := by omega
      clear hS h8
      go_wp2
      go_loop [5, 6] (fun v i => ∃ j : Nat, j + 1 ≤ max S 1 ∧ i = .int .i64 ((j : Int) + 2) ∧ v = .int .i64 (facN (j + 1))) (fun _ i => 9 - (intOf i).toNat)
      case atStart => exact ⟨0, by omega, rfl, rfl⟩
      case round =>
        obtain ⟨j, hj, rfl, rfl⟩ := hrel
        by_cases hl : j + 2 ≤ S
        · have h1 := facN_range (j + 2) (by omega)
          have HN : Hid (facN (j + 2) = facN (j + 1) * ((j : Int) + 2)) := by
            show (((j + 1 : Nat) : Int) + 1) * facN (j + 1) = _
            rw [Int.mul_comm]; congr 1
          rw [HN.out] at h1
          have hl' : (j : Int) + 2 ≤ (S : Int) := by omega
          go_wp2
          go_round
          case rel => exact ⟨j + 1, by omega, by go_num, by rw [HN.out]⟩
          case measure => simp [intOf]; omega
        · have HF : Hid (facN (j + 1) = likeTo N 0) := by
            show facN (j + 1) = facN (sumN N 8).toNat
            rw [HSe.out]
            rcases (by omega : S = 0 ∨ j + 1 = S) with h | h
            · subst h
              obtain rfl : j = 0 := by omega
              rfl
            · rw [h]; rfl
          rw [HF.out]
          have hl' : (S : Int) < (j : Int) + 2 := by omega
          go_wp2
          go_loop [5, 7, 8] (fun v i _ => ∃ k : Nat, k ≤ 8 ∧ i = .int .i64 k ∧ v = .int .i64 (likeTo N k)) (fun _ i _ => 8 - (intOf i).toNat)
          case atStart => exact ⟨0, Nat.zero_le _, rfl, rfl⟩
          case round =>
            obtain ⟨k, hk, rfl, rfl⟩ := hrel
            by_cases hlt : k < 8
            · have c := HP1.out.at8 hlt
              have hN := HR.out k hlt
              obtain ⟨n, hn⟩ : ∃ n : Nat, N k = n := ⟨(N k).toNat, by omega⟩
              have HLk : Hid (likeTo N (k + 1) = downN (likeTo N k) n) := by show downN _ (N k).toNat = _; rw [hn]; rfl
              rw [hn] at c hN
              have hn6 : n ≤ 6 := by omega
              have hv := HT.out k
              obtain ⟨v, hve⟩ : ∃ v, v = likeTo N k := ⟨_, rfl⟩
              rw [← hve] at HLk hv ⊢
              clear hve hn hN
              go_wp2
              go_loop [5, 8] (fun x i => ∃ j : Nat, j + 1 ≤ max n 1 ∧ i = .int .i64 ((j : Int) + 2) ∧ x = .int .i64 (downN v (j + 1))) (fun _ i => 9 - (intOf i).toNat)
              case atStart => exact ⟨0, by omega, rfl, rfl⟩
              case round =>
                obtain ⟨j, hj, rfl, rfl⟩ := hrel
                by_cases hl2 : j + 2 ≤ n
                · have h1 := downN_range hv.1 (j + 1)
                  have h2 := downN_range hv.1 (j + 2)
                  have HN : Hid (downN v (j + 2) = (downN v (j + 1)).tdiv ((j : Int) + 2)) := rfl
                  rw [HN.out] at h2
                  have hl3 : (j : Int) + 2 ≤ (n : Int) := by omega
                  have hz : ¬ ((j : Int) + 2 = 0) := by omega
                  go_wp2
                  go_round
                  case rel => exact ⟨j + 1, by omega, by go_num, by rw [HN.out]⟩
                  case measure => simp [intOf]; omega
                · have HD : Hid (downN v (j + 1) = likeTo N (k + 1)) := by
                    unfold Hid
                    rw [HLk.out]
                    rcases (by omega : n = 0 ∨ j + 1 = n) with h | h
                    · subst h
                      obtain rfl : j = 0 := by omega
                      rfl
                    · rw [h]
                  rw [HD.out]
                  have hl3 : (n : Int) < (j : Int) + 2 := by omega
                  go_wp2
                  go_round
                  case rel => exact ⟨k + 1, by omega, by go_num, rfl⟩
                  case measure => simp [intOf]; omega
            · obtain rfl : k = 8 := by omega
              go_wp2
              go_ret
              exact ⟨rfl, HB1.out⟩
end Go.Proofs.YtedgbohobgnedafDoor
