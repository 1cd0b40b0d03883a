/-
  Proved: what the reference's functions of chapter 1 (Size, Do) return, and that they leave memory as it was.
-/
import Derived.Test.YtgkgbpbohgklhafDoorRefHas
import Derived.WalkKit
import Derived.ProofKit
import Derived.OpenShut
namespace Go.Proofs.YtgkgbpbohgklhafDoor
open Go.ChangeShapes Go.WideShapes Go.ChangeAt Go.RowKit
set_option maxRecDepth 100000

theorem refSize_any (s : Int) (hs : 0 ≤ s) (hm : s < 64) (w : World) :
    Calls Tryd.prog 69 #[.int .i64 s] w fun e w' => e = .returned (.int .i64 (pcN s)) ∧ w = w' := by
  have HE : Hid (pcTo s 6 = pcN s) := pcTo_six s hs hm
  go_enter Tryd.func69, Tryd.ntmps69
  go_wp2
  go_loop [3, 4] (fun n i => ∃ k : Nat, k ≤ 6 ∧ i = .int .i64 k ∧ n = .int .i64 (pcTo s k)) (fun _ i => 6 - (intOf i).toNat)
  case atStart => exact ⟨0, Nat.zero_le _, rfl, rfl⟩
  case round =>
    obtain ⟨k, hk, rfl, rfl⟩ := hrel
    have p1 := pcTo_le s k
    by_cases hlt : k < 6
    · by_cases hh : hasB s k = true
      · have HS : Hid (pcTo s (k + 1) = pcTo s k + 1) := by unfold Hid; rw [pcTo, if_pos hh]
        go_wp2_with (go_at_call 28; refine (refHas_any _ _ hs ?_ ?_ _).mono ?_; omega; omega; rintro e w' ⟨rfl, rfl⟩)
        go_round
        case rel => exact ⟨k + 1, by omega, by go_num, by rw [HS.out]⟩
        case measure => simp [intOf]; omega
      · have hh' : hasB s k = false := by simpa using hh
        have HS : Hid (pcTo s (k + 1) = pcTo s k) := by unfold Hid; rw [pcTo, if_neg hh]; omega
        clear hh
        go_wp2_with (go_at_call 28; refine (refHas_any _ _ hs ?_ ?_ _).mono ?_; omega; omega; rintro e w' ⟨rfl, rfl⟩)
        go_round
        case rel => exact ⟨k + 1, by omega, by go_num, by rw [HS.out]⟩
        case measure => simp [intOf]; omega
    · obtain rfl : k = 6 := by omega
      go_wp2
      go_ret
      exact ⟨ret_i HE.out, rfl⟩
theorem in5 (x y : Bool) : inB 5 x y = (x || y) := rfl
theorem in6 (x y : Bool) : inB 6 x y = (x && y) := rfl
theorem in7 (x y : Bool) : inB 7 x y = (x && !y) := rfl
theorem in8 (x y : Bool) : inB 8 x y = !x := rfl

set_option maxHeartbeats 1000000 in
theorem refDo_any (what u a b : Int) (hl : 5 ≤ what) (hm : what ≤ 8) (ha : okB u a = true) (hb : okB u b = true) (w : World) :
    Calls Tryd.prog 70 #[.int .i64 what, .int .i64 u, .int .i64 a, .int .i64 b] w fun e w' => e = .returned (.int .i64 (doN what u a b)) ∧ w = w' := by
  obtain ⟨u0, u1, a0, a1⟩ := okB_lt ha
  obtain ⟨_, _, b0, b1⟩ := okB_lt hb
  have HE : Hid (doTo what a b u.toNat = doN what u a b) := doTo_do what u a b hl hm ha hb
  clear ha hb
  obtain ⟨n, rfl⟩ := Int.eq_ofNat_of_zero_le u0
  clear u0
  have hd : what = 5 ∨ what = 6 ∨ what = 7 ∨ what = 8 := by omega
  clear hl hm
  go_enter Tryd.func70, Tryd.ntmps70
  go_wp2
  go_loop [9, 10] (fun s i => ∃ k : Nat, k ≤ n ∧ i = .int .i64 k ∧ s = .int .i64 (doTo what a b k)) (fun _ i => n - (intOf i).toNat)
  case atStart => exact ⟨0, Nat.zero_le _, rfl, rfl⟩
  case round =>
    obtain ⟨k, hk, rfl, rfl⟩ := hrel
    have p1 := doTo_le what a b k
    by_cases hlt : k < n
    · have p2 := pw_le6 (k := k) (by omega)
      have p3 := pw_pos k
      have HS : Hid (doTo what a b (k + 1) = doTo what a b k + if inB what (hasB a k) (hasB b k) = true then pw k else 0) := rfl
      rcases hd with rfl | rfl | rfl | rfl
      all_goals
        cases hx : hasB a k <;> cases hy : hasB b k
        all_goals
          go_wp2_with (first | (go_at_call 28; refine (refHas_any _ _ ?_ ?_ ?_ _).mono ?_; omega; omega; omega; rintro e w' ⟨rfl, rfl⟩) | (go_at_call 29; refine (refPower_any _ ?_ _).mono ?_; omega; rintro e w' ⟨rfl, rfl⟩))
          go_round
          case rel => exact ⟨k + 1, by omega, by go_num, by rw [HS.out, hx, hy]; simp [in5, in6, in7, in8]⟩
          case measure => simp [intOf]; omega
    · obtain rfl : k = n := by omega
      go_wp2
      go_ret
      exact ⟨ret_i HE.out, rfl⟩
end Go.Proofs.YtgkgbpbohgklhafDoor
