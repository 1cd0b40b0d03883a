/-
  Proved: what the reference's functions Power, Has and Set return, and that they leave memory as it was.
  Proved: what the reference's Counts and Fields return; what was in memory is as it was (contracts that the statements lean on).
  Proved: what the reference's Made returns, of right counts; what was in memory is as it was (a contract that the statements lean on).
-/
import Derived.Test.YtgkgbpbohgklhagDoorRows
import Derived.Test.YtgkgbpbohgklhagDoorLibS1
import Derived.WalkKit
import Derived.ProofKit
import Derived.OpenShut
import Derived.Test.YtgkgbpbohgklhagDoorLibS4
import Derived.Test.YtgkgbpbohgklhagDoorLibS3
import Derived.Deep.RegionWith
namespace Go.Proofs.YtgkgbpbohgklhagDoor
open Go.ChangeShapes Go.WideShapes Go.ChangeAt Go.RowKit
set_option maxRecDepth 100000

theorem ret_i {k : IntKind} {a b : Int} (h : a = b) : Ending.returned (.int k a) = .returned (.int k b) := by rw [h]
theorem ret_b {a b : Bool} (h : a = b) : Ending.returned (.bool a) = .returned (.bool b) := by rw [h]

theorem refPower_any (n : Nat) (hn : n ≤ 62) (w : World) :
    Calls Tryd.prog 66 #[.int .i64 n] w fun e w' => e = .returned (.int .i64 (pw n)) ∧ w = w' := by
  go_enter Tryd.func66, Tryd.ntmps66
  go_wp2
  go_loop [3, 4] (fun p i => ∃ k : Nat, k ≤ n ∧ i = .int .i64 k ∧ p = .int .i64 (pw k)) (fun _ i => n - (intOf i).toNat)
  case atStart => exact ⟨0, Nat.zero_le _, rfl, rfl⟩
  case round =>
    obtain ⟨k, hk, rfl, rfl⟩ := hrel
    by_cases hlt : k < n
    · have p1 := pw_pos k
      have p2 := pw_le61 (k := k) (by omega)
      have HS : Hid (pw (k + 1) = 2 * pw k) := pw_succ k
      go_wp2
      go_round
      case rel => exact ⟨k + 1, by omega, by go_num, by rw [HS.out]⟩
      case measure => simp [intOf]; omega
    · obtain rfl : k = n := by omega
      go_wp2
      go_ret
      exact ⟨rfl, rfl⟩

theorem refHas_any (s : Int) (i : Nat) (hs : 0 ≤ s) (hm : s ≤ 9223372036854775807) (hi : i ≤ 62) (w : World) :
    Calls Tryd.prog 46 #[.int .i64 s, .int .i64 i] w fun e w' => e = .returned (.bool (hasB s i)) ∧ w = w' := by
  have p1 := pw_pos i
  go_enter Tryd.func46, Tryd.ntmps46
  go_wp2_with (go_at_call 66; refine (refPower_any _ hi _).mono ?_; rintro e w' ⟨rfl, rfl⟩)
  go_ret
  exact ⟨ret_b (has_spell2 s i hs), rfl⟩

end Go.Proofs.YtgkgbpbohgklhagDoor

namespace Go.Proofs.YtgkgbpbohgklhagDoor
open Go.ChangeShapes Go.WideShapes Go.ChangeAt Go.RowKit

theorem field_int (w : Wd) (i : Nat) : (w.field i : Int) = oneB (hasB w.a i) + 2 * oneB (hasB w.b i) + 4 * oneB (hasB w.c i) := by
  unfold Wd.field
  cases hasB w.a i <;> cases hasB w.b i <;> cases hasB w.c i <;> decide
theorem info8 : (Tryd.prog.info? 81).map (·.size) = some 8 := by kernel_rfl
theorem infoW : (Tryd.prog.info? 37).map (·.size) = some 4 := by kernel_rfl
theorem sum_three {x y z : Bool} : oneB x + 2 * oneB y + 4 * oneB z = oneB x + oneB y * 2 + oneB z * 4 := by omega

end Go.Proofs.YtgkgbpbohgklhagDoor

namespace Go.Proofs.YtgkgbpbohgklhagDoor
open Go.ChangeShapes Go.WideShapes Go.ChangeAt Go.RowKit

theorem has_bit : ∀ f : Nat, f < 8 → hasB (f : Int) ((0 : Nat) : Int) = bitB f 0 ∧ hasB (f : Int) ((1 : Nat) : Int) = bitB f 1 ∧ hasB (f : Int) ((2 : Nat) : Int) = bitB f 2 := by decide +kernel
theorem arrW_set0 (u a b c x : Int) : (arrW ⟨u, a, b, c⟩).setIfInBounds 0 (.int .i64 x) = arrW ⟨x, a, b, c⟩ := by simp [arrW]
theorem arrW_set1 (u a b c x : Int) : (arrW ⟨u, a, b, c⟩).setIfInBounds 1 (.int .i64 x) = arrW ⟨u, x, b, c⟩ := by simp [arrW]
theorem arrW_set2 (u a b c x : Int) : (arrW ⟨u, a, b, c⟩).setIfInBounds 2 (.int .i64 x) = arrW ⟨u, a, x, c⟩ := by simp [arrW]
theorem arrW_set3 (u a b c x : Int) : (arrW ⟨u, a, b, c⟩).setIfInBounds 3 (.int .i64 x) = arrW ⟨u, a, b, x⟩ := by simp [arrW]

set_option maxRecDepth 100000 in
set_option maxHeartbeats 4000000 in
theorem refMade_right (N : Nat → Int) (w : World) (hf : countsFault N = 0) :
    Calls Tryd.prog 49 #[.agg #[.int .i64 (N 0), .int .i64 (N 1), .int .i64 (N 2), .int .i64 (N 3), .int .i64 (N 4), .int .i64 (N 5), .int .i64 (N 6), .int .i64 (N 7)]] w fun e w' => e = .returned (.agg (arrW (madeN N 8))) ∧ Below w.heap.size w w' := by
  obtain ⟨Z, hZ⟩ : ∃ Z : Wd, Z = ⟨0, 0, 0, 0⟩ := ⟨_, rfl⟩
  obtain ⟨w1, hw1⟩ : ∃ w1, w1 = ((w.alloc (.cells #[.int .i64 (N 0), .int .i64 (N 1), .int .i64 (N 2), .int .i64 (N 3), .int .i64 (N 4), .int .i64 (N 5), .int .i64 (N 6), .int .i64 (N 7)] 81)).alloc (.cells #[.int .i64 0, .int .i64 0, .int .i64 0, .int .i64 0] 37)).alloc (.cells #[.int .i64 0, .int .i64 0, .int .i64 0, .int .i64 0] 37) := ⟨_, rfl⟩
  have HW : Hid (Below w.heap.size w w1) := by unfold Hid; rw [hw1]; exact ((below_alloc1 _ _).alloc (by simp) _).alloc (by simp; omega) _
  have HK0 : Hid (Blk w1 w.heap.size 81 (arr8 N)) := by unfold Hid; rw [hw1]; exact ((Blk.new _ _ _).old _).old _
  have HK1 : Hid (Blk w1 (w.heap.size + 1) 37 (arrW Z)) := by
    unfold Hid; rw [hw1, hZ]
    have := Blk.new (w.alloc (.cells (arr8 N) 81)) 37 (arrW ⟨0, 0, 0, 0⟩)
    simp only [World.size_alloc] at this
    exact this.old _
  have HK2 : Hid (Blk w1 (w.heap.size + 1 + 1) 37 (arrW (madeN N 0))) := by
    unfold Hid; rw [hw1]
    have := Blk.new ((w.alloc (.cells (arr8 N) 81)).alloc (.cells (arrW ⟨0, 0, 0, 0⟩) 37)) 37 (arrW ⟨0, 0, 0, 0⟩)
    simp only [World.size_alloc] at this
    exact this
  obtain ⟨hall, hsum⟩ := counts_zero.1 hf
  have HN : Hid (∀ k, k < 8 → 0 ≤ N k ∧ N k ≤ 6) := hall
  have HX : Hid (∀ W k, k < 8 → Blk W w.heap.size 81 (arr8 N) → W.cell? ⟨w.heap.size, k, none⟩ = some (.int .i64 (N k))) := fun W k hk h => by rw [h.cell, arr8_get _ hk]
  have HD : Hid (∀ (k j : Nat), k < 8 → (j : Int) < N k → ((madeN N k).mores k j).ok = true ∧ ((madeN N k).mores k j).u ≤ 5) := fun k j hk hj => by
    obtain ⟨i1, i2, _⟩ := made_all hall hsum (k := k) (by omega)
    have hm := sumN_mono (N := N) (k := k + 1) (l := 8) (by omega) hall
    have es : sumN N (k + 1) = sumN N k + N k := rfl
    have e := mores_u (madeN N k) k j
    exact ⟨mores_ok i1 k (by rw [i2]; omega), by rw [e, i2]; omega⟩
  have HE : Hid (∀ k, k < 8 → (madeN N k).mores k (N k).toNat = madeN N (k + 1)) := fun k _ => rfl
  have HHs : Hid (∀ (f : Nat) W, f < 8 → Calls Tryd.prog 46 #[.int .i64 f, .int .i64 0] W (fun e w' => e = .returned (.bool (bitB f 0)) ∧ W = w') ∧ Calls Tryd.prog 46 #[.int .i64 f, .int .i64 1] W (fun e w' => e = .returned (.bool (bitB f 1)) ∧ W = w') ∧ Calls Tryd.prog 46 #[.int .i64 f, .int .i64 2] W (fun e w' => e = .returned (.bool (bitB f 2)) ∧ W = w')) := fun f W hf8 => by
    obtain ⟨b0, b1, b2⟩ := has_bit f hf8
    rw [← b0, ← b1, ← b2]
    exact ⟨refHas_any f 0 (by omega) (by omega) (by omega) W, refHas_any f 1 (by omega) (by omega) (by omega) W, refHas_any f 2 (by omega) (by omega) (by omega) W⟩
  clear hf hall hsum hZ
  go_enter Tryd.func49, Tryd.ntmps49
  go_wp2
  rw [← hw1]
  clear hw1
  obtain ⟨G, hG⟩ : ∃ G, G = w.heap.size + 1 + 1 := ⟨_, rfl⟩
  rw [← hG] at HK2 ⊢
  have HG : Hid (w.heap.size + 1 < G) := by unfold Hid; omega
  clear hG
  go_loopw [4] (fun i wr => ∃ k : Nat, k ≤ 8 ∧ i = .int .i64 k ∧ Below w.heap.size w wr ∧ Blk wr w.heap.size 81 (arr8 N) ∧ Blk wr (w.heap.size + 1) 37 (arrW Z) ∧ Blk wr G 37 (arrW (madeN N k))) (fun i _ => 8 - (intOf i).toNat)
  case atStart => exact ⟨0, Nat.zero_le _, rfl, HW.out, HK0.out, HK1.out, HK2.out⟩
  case round =>
    obtain ⟨k, hk, rfl, hb, hp, hr, hm⟩ := hrel
    have HB4 : Hid (Below w.heap.size w wr) := hb
    have HP4 : Hid (Blk wr w.heap.size 81 (arr8 N)) := hp
    have HR4 : Hid (Blk wr (w.heap.size + 1) 37 (arrW Z)) := hr
    have HM4 : Hid (Blk wr G 37 (arrW (madeN N k))) := hm
    clear hb hp hr hm
    by_cases hlt : k < 8
    · have p := HN.out k hlt
      obtain ⟨x, hx⟩ : ∃ x : Nat, (x : Int) = N k := ⟨(N k).toNat, by omega⟩
      have HXk : Hid ((x : Int) = N k) := hx
      have HEk : Hid ((madeN N k).mores k x = madeN N (k + 1)) := by
        have := HE.out k hlt
        rw [show (N k).toNat = x by omega] at this
        exact this
      have hx6 : x ≤ 6 := by omega
      clear hx p
      have HCk : Hid (∀ W, Blk W w.heap.size 81 (arr8 N) → W.cell? ⟨w.heap.size, k, none⟩ = some (.int .i64 (x : Int))) := fun W h => by rw [HXk.out]; exact HX.out W k hlt h
      go_wp2
      rw [show decide ((k : Int) < 8) = true by simp; omega]
      go_loopw [5] (fun i wr => ∃ j : Nat, j ≤ x ∧ i = .int .i64 j ∧ Below w.heap.size w wr ∧ Blk wr w.heap.size 81 (arr8 N) ∧ Blk wr (w.heap.size + 1) 37 (arrW Z) ∧ Blk wr G 37 (arrW ((madeN N k).mores k j))) (fun i _ => x - (intOf i).toNat)
      case atStart => exact ⟨0, Nat.zero_le _, rfl, HB4.out, HP4.out, HR4.out, HM4.out⟩
      case round =>
        obtain ⟨j, hj, rfl, hb, hp, hr, hm⟩ := hrel
        have HB5 : Hid (Below w.heap.size w wr) := hb
        have HP5 : Hid (Blk wr w.heap.size 81 (arr8 N)) := hp
        have HR5 : Hid (Blk wr (w.heap.size + 1) 37 (arrW Z)) := hr
        have HM5 : Hid (Blk wr G 37 (arrW ((madeN N k).mores k j))) := hm
        clear hb hp hr hm
        have yk := HCk.out _ HP5.out
        by_cases hlj : j < x
        · obtain ⟨dok, d5⟩ := HD.out k j hlt (by rw [← HXk.out]; omega)
          obtain ⟨D, hD⟩ : ∃ D, D = (madeN N k).mores k j := ⟨_, rfl⟩
          rw [← hD] at dok d5 HM5
          have HEj : Hid (D.more k = (madeN N k).mores k (j + 1)) := by unfold Hid; rw [hD]; rfl
          clear hD
          obtain ⟨u, a, b, c⟩ := D
          obtain ⟨o1, o2, o3⟩ := Wd.ok_iff.1 dok
          obtain ⟨u0, _, a0, a6⟩ := okB_lt o1
          obtain ⟨_, _, b0, b6⟩ := okB_lt o2
          obtain ⟨_, _, c0, c6⟩ := okB_lt o3
          simp only at u0 a0 a6 b0 b6 c0 c6 d5
          obtain ⟨n, rfl⟩ := Int.eq_ofNat_of_zero_le u0
          have HPw : Hid (∀ W, Calls Tryd.prog 66 #[.int .i64 n] W (fun e w' => e = .returned (.int .i64 (pw n)) ∧ W = w')) := fun W => refPower_any n (by omega) W
          have q1 := pw_pos n
          have q2 := pw_le6 (k := n) (by omega)
          obtain ⟨P, hP⟩ : ∃ P, P = pw n := ⟨_, rfl⟩
          rw [← hP] at HPw q1 q2
          have HMo : Hid ((Wd.mk n a b c).more k = Wd.mk (n + 1) (a + oneB (bitB k 0) * P) (b + oneB (bitB k 1) * P) (c + oneB (bitB k 2) * P)) := by unfold Hid; rw [hP]; rfl
          obtain ⟨x0, hx0⟩ : ∃ x, x = bitB k 0 := ⟨_, rfl⟩
          obtain ⟨x1, hx1⟩ : ∃ x, x = bitB k 1 := ⟨_, rfl⟩
          obtain ⟨x2, hx2⟩ : ∃ x, x = bitB k 2 := ⟨_, rfl⟩
          have HHk : Hid (∀ W, Calls Tryd.prog 46 #[.int .i64 k, .int .i64 0] W (fun e w' => e = .returned (.bool x0) ∧ W = w') ∧ Calls Tryd.prog 46 #[.int .i64 k, .int .i64 1] W (fun e w' => e = .returned (.bool x1) ∧ W = w') ∧ Calls Tryd.prog 46 #[.int .i64 k, .int .i64 2] W (fun e w' => e = .returned (.bool x2) ∧ W = w')) := fun W => by
            rw [hx0, hx1, hx2]; exact HHs.out k W hlt
          rw [← hx0, ← hx1, ← hx2] at HMo
          clear hx0 hx1 hx2 hP dok o1 o2 o3
          have s0 := oneB_le x0
          have s1 := oneB_le x1
          have s2 := oneB_le x2
          go_wp2
          go_loopw [6] (fun i wr => Below w.heap.size w wr ∧ Blk wr w.heap.size 81 (arr8 N) ∧ Blk wr (w.heap.size + 1) 37 (arrW Z) ∧ ((i = .int .i64 0 ∧ Blk wr G 37 (arrW ⟨n, a, b, c⟩)) ∨ (i = .int .i64 1 ∧ Blk wr G 37 (arrW ⟨n, a + oneB x0 * P, b, c⟩)) ∨ (i = .int .i64 2 ∧ Blk wr G 37 (arrW ⟨n, a + oneB x0 * P, b + oneB x1 * P, c⟩)) ∨ (i = .int .i64 3 ∧ Blk wr G 37 (arrW ⟨n, a + oneB x0 * P, b + oneB x1 * P, c + oneB x2 * P⟩)))) (fun i _ => 3 - (intOf i).toNat)
          case atStart => exact ⟨HB5.out, HP5.out, HR5.out, Or.inl ⟨rfl, HM5.out⟩⟩
          case round =>
            clear yk
            obtain ⟨hb, hp, hr, hm⟩ := hrel
            have HB7 : Hid (Below w.heap.size w wr) := hb
            have HP7 : Hid (Blk wr w.heap.size 81 (arr8 N)) := hp
            have HR7 : Hid (Blk wr (w.heap.size + 1) 37 (arrW Z)) := hr
            clear hb hp hr
            rcases hm with ⟨rfl, hm⟩ | ⟨rfl, hm⟩ | ⟨rfl, hm⟩ | ⟨rfl, hm⟩
            · have HM7 : Hid (Blk wr G 37 (arrW ⟨n, a, b, c⟩)) := hm
              clear hm
              obtain ⟨y0, y1, y2, y3⟩ := HM7.out.cells4
              simp only at y0 y1 y2 y3
              have z := HM7.out.frozen 1
              go_wp2_with fail
              go_at_call 46
              refine (HHk.out _).1.mono ?_
              rintro e w' ⟨rfl, rfl⟩
              rcases (Bool.eq_false_or_eq_true x0).symm with hx | hx
              · have HQ : Hid (Blk wr G 37 (arrW ⟨n, a + oneB x0 * P, b, c⟩)) := by
                  have e : a + oneB x0 * P = a := by rw [hx]; simp [oneB]
                  unfold Hid; rw [e]; exact HM7.out
                rw [hx]
                clear hx
                go_wp2
                go_roundw
                case rel => exact ⟨HB7.out, HP7.out, HR7.out, Or.inr (Or.inl ⟨rfl, HQ.out⟩)⟩
                case measure => simp [intOf]
              · have HQ : Hid (∀ W, Blk W G 37 (arrW ⟨n, a, b, c⟩) → Blk (W.setCell ⟨G, 1, none⟩ (.int .i64 (a + P))) G 37 (arrW ⟨n, a + oneB x0 * P, b, c⟩)) := fun W h => by
                  have e : a + oneB x0 * P = a + P := by rw [hx]; simp [oneB]
                  have := h.set 1 (.int .i64 (a + P))
                  rw [arrW_set1] at this
                  rw [e]; exact this
                rw [hx]
                clear hx
                go_wp2_with fail
                go_region_with (go_at_call 66; refine (HPw.out _).mono ?_; rintro e w' ⟨rfl, rfl⟩)
                all_goals
                  go_wp2
                  go_roundw
                  case rel =>
                    have hg := HG.out
                    exact ⟨HB7.out.drew.setCell (by simp; omega) _, HP7.out.drew.far (by omega) _ _, HR7.out.drew.far (by omega) _ _, Or.inr (Or.inl ⟨rfl, HQ.out _ HM7.out.drew⟩)⟩
                  case measure => simp [intOf]
            · have HM7 : Hid (Blk wr G 37 (arrW ⟨n, a + oneB x0 * P, b, c⟩)) := hm
              clear hm
              obtain ⟨y0, y1, y2, y3⟩ := HM7.out.cells4
              simp only at y0 y1 y2 y3
              have z := HM7.out.frozen 2
              go_wp2_with fail
              go_at_call 46
              refine (HHk.out _).2.1.mono ?_
              rintro e w' ⟨rfl, rfl⟩
              rcases (Bool.eq_false_or_eq_true x1).symm with hx | hx
              · have HQ : Hid (Blk wr G 37 (arrW ⟨n, a + oneB x0 * P, b + oneB x1 * P, c⟩)) := by
                  have e : b + oneB x1 * P = b := by rw [hx]; simp [oneB]
                  unfold Hid; rw [e]; exact HM7.out
                rw [hx]
                clear hx
                go_wp2
                go_roundw
                case rel => exact ⟨HB7.out, HP7.out, HR7.out, Or.inr (Or.inr (Or.inl ⟨rfl, HQ.out⟩))⟩
                case measure => simp [intOf]
              · have HQ : Hid (∀ W, Blk W G 37 (arrW ⟨n, a + oneB x0 * P, b, c⟩) → Blk (W.setCell ⟨G, 2, none⟩ (.int .i64 (b + P))) G 37 (arrW ⟨n, a + oneB x0 * P, b + oneB x1 * P, c⟩)) := fun W h => by
                  have e : b + oneB x1 * P = b + P := by rw [hx]; simp [oneB]
                  have := h.set 2 (.int .i64 (b + P))
                  rw [arrW_set2] at this
                  rw [e]; exact this
                rw [hx]
                clear hx
                go_wp2_with fail
                go_region_with (go_at_call 66; refine (HPw.out _).mono ?_; rintro e w' ⟨rfl, rfl⟩)
                all_goals
                  go_wp2
                  go_roundw
                  case rel =>
                    have hg := HG.out
                    exact ⟨HB7.out.drew.setCell (by simp; omega) _, HP7.out.drew.far (by omega) _ _, HR7.out.drew.far (by omega) _ _, Or.inr (Or.inr (Or.inl ⟨rfl, HQ.out _ HM7.out.drew⟩))⟩
                  case measure => simp [intOf]
            · have HM7 : Hid (Blk wr G 37 (arrW ⟨n, a + oneB x0 * P, b + oneB x1 * P, c⟩)) := hm
              clear hm
              obtain ⟨y0, y1, y2, y3⟩ := HM7.out.cells4
              simp only at y0 y1 y2 y3
              have z := HM7.out.frozen 3
              go_wp2_with fail
              go_at_call 46
              refine (HHk.out _).2.2.mono ?_
              rintro e w' ⟨rfl, rfl⟩
              rcases (Bool.eq_false_or_eq_true x2).symm with hx | hx
              · have HQ : Hid (Blk wr G 37 (arrW ⟨n, a + oneB x0 * P, b + oneB x1 * P, c + oneB x2 * P⟩)) := by
                  have e : c + oneB x2 * P = c := by rw [hx]; simp [oneB]
                  unfold Hid; rw [e]; exact HM7.out
                rw [hx]
                clear hx
                go_wp2
                go_roundw
                case rel => exact ⟨HB7.out, HP7.out, HR7.out, Or.inr (Or.inr (Or.inr ⟨rfl, HQ.out⟩))⟩
                case measure => simp [intOf]
              · have HQ : Hid (∀ W, Blk W G 37 (arrW ⟨n, a + oneB x0 * P, b + oneB x1 * P, c⟩) → Blk (W.setCell ⟨G, 3, none⟩ (.int .i64 (c + P))) G 37 (arrW ⟨n, a + oneB x0 * P, b + oneB x1 * P, c + oneB x2 * P⟩)) := fun W h => by
                  have e : c + oneB x2 * P = c + P := by rw [hx]; simp [oneB]
                  have := h.set 3 (.int .i64 (c + P))
                  rw [arrW_set3] at this
                  rw [e]; exact this
                rw [hx]
                clear hx
                go_wp2_with fail
                go_region_with (go_at_call 66; refine (HPw.out _).mono ?_; rintro e w' ⟨rfl, rfl⟩)
                all_goals
                  go_wp2
                  go_roundw
                  case rel =>
                    have hg := HG.out
                    exact ⟨HB7.out.drew.setCell (by simp; omega) _, HP7.out.drew.far (by omega) _ _, HR7.out.drew.far (by omega) _ _, Or.inr (Or.inr (Or.inr ⟨rfl, HQ.out _ HM7.out.drew⟩))⟩
                  case measure => simp [intOf]
            · have HM7 : Hid (Blk wr G 37 (arrW ⟨n, a + oneB x0 * P, b + oneB x1 * P, c + oneB x2 * P⟩)) := hm
              clear hm
              obtain ⟨y0, y1, y2, y3⟩ := HM7.out.cells4
              simp only at y0 y1 y2 y3
              have z := HM7.out.frozen 0
              have HQ : Hid (Blk (wr.setCell ⟨G, 0, none⟩ (.int .i64 ((n : Int) + 1))) G 37 (arrW ((madeN N k).mores k (j + 1)))) := by
                have := HM7.out.set 0 (.int .i64 ((n : Int) + 1))
                rw [arrW_set0, ← HMo.out, HEj.out] at this
                exact this
              go_wp2
              go_roundw
              case rel =>
                have hg := HG.out
                exact ⟨j + 1, by omega, by go_num, HB7.out.setCell (by simp; omega) _, HP7.out.far (by omega) _ _, HR7.out.far (by omega) _ _, HQ.out⟩
              case measure => simp [intOf]; omega
        · obtain rfl : j = x := by omega
          go_wp2
          go_roundw
          case rel => exact ⟨k + 1, by omega, by go_num, HB5.out, HP5.out, HR5.out, by rw [← HEk.out]; exact HM5.out⟩
          case measure => simp [intOf]; omega
    · obtain rfl : k = 8 := by omega
      obtain ⟨D, hD⟩ : ∃ D, D = madeN N 8 := ⟨_, rfl⟩
      rw [← hD] at HM4
      have HDD : Hid (D = madeN N 8) := hD
      clear hD
      obtain ⟨y0, y1, y2, y3⟩ := HM4.out.cells4
      obtain ⟨r0, r1, r2, r3⟩ := HR4.out.cells4
      obtain ⟨f0, f1, f2, f3⟩ := HR4.out.frozen4
      go_wp2
      refine bodyPost_ret (v := .agg (arrW D)) ?_ rfl ⟨by rw [HDD.out], ?_⟩
      · exact results_cell_row rfl _ _ (w.heap.size + 1) 37 (arrW D) (0, 0) _ rfl (putW_blk HR4.out D) Tryd.underlying37 rfl infoW
      · exact putW_below HB4.out (by omega) D
end Go.Proofs.YtgkgbpbohgklhagDoor
