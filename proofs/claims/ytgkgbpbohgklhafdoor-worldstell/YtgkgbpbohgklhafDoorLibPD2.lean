/-
  Proved: what the reference's Made returns, of right counts; what was in memory is as it was (a contract that the statements lean on).
  Proved: what the reference's Term and World return, of any row of signs and any world; what was in memory is as it was (contracts that the statements lean on).
-/
import Derived.Test.YtgkgbpbohgklhafDoorLibPD1
import Derived.Deep.RegionWith
import Derived.Test.YtgkgbpbohgklhafDoorLibPC6
import Derived.Test.YtgkgbpbohgklhafDoorLibPC1
namespace Go.Proofs.YtgkgbpbohgklhafDoor
open Go.ChangeShapes Go.WideShapes Go.ChangeAt Go.RowKit

theorem has_bit : ∀ f : Nat, f < 8 → hasB (f : Int) ((0 : Nat) : Int) = bitB f 0 ∧ hasB (f : Int) ((1 : Nat) : Int) = bitB f 1 ∧ hasB (f : Int) ((2 : Nat) : Int) = bitB f 2 := by decide +kernel
theorem arrW_set0 (u a b c x : Int) : (arrW ⟨u, a, b, c⟩).setIfInBounds 0 (.int .i64 x) = arrW ⟨x, a, b, c⟩ := by simp [arrW]
theorem arrW_set1 (u a b c x : Int) : (arrW ⟨u, a, b, c⟩).setIfInBounds 1 (.int .i64 x) = arrW ⟨u, x, b, c⟩ := by simp [arrW]
theorem arrW_set2 (u a b c x : Int) : (arrW ⟨u, a, b, c⟩).setIfInBounds 2 (.int .i64 x) = arrW ⟨u, a, x, c⟩ := by simp [arrW]
theorem arrW_set3 (u a b c x : Int) : (arrW ⟨u, a, b, c⟩).setIfInBounds 3 (.int .i64 x) = arrW ⟨u, a, b, x⟩ := by simp [arrW]

set_option maxRecDepth 100000 in
set_option maxHeartbeats 4000000 in
theorem refMade_right (N : Nat → Int) (w : World) (hf : countsFault N = 0) :
    Calls Tryd.prog 15 #[.agg #[.int .i64 (N 0), .int .i64 (N 1), .int .i64 (N 2), .int .i64 (N 3), .int .i64 (N 4), .int .i64 (N 5), .int .i64 (N 6), .int .i64 (N 7)]] w fun e w' => e = .returned (.agg (arrW (madeN N 8))) ∧ Below w.heap.size w w' := by
  obtain ⟨Z, hZ⟩ : ∃ Z : Wd, Z = ⟨0, 0, 0, 0⟩ := ⟨_, rfl⟩
  obtain ⟨w1, hw1⟩ : ∃ w1, w1 = ((w.alloc (.cells #[.int .i64 (N 0), .int .i64 (N 1), .int .i64 (N 2), .int .i64 (N 3), .int .i64 (N 4), .int .i64 (N 5), .int .i64 (N 6), .int .i64 (N 7)] 36)).alloc (.cells #[.int .i64 0, .int .i64 0, .int .i64 0, .int .i64 0] 28)).alloc (.cells #[.int .i64 0, .int .i64 0, .int .i64 0, .int .i64 0] 28) := ⟨_, rfl⟩
  have HW : Hid (Below w.heap.size w w1) := by unfold Hid; rw [hw1]; exact ((below_alloc1 _ _).alloc (by simp) _).alloc (by simp; omega) _
  have HK0 : Hid (Blk w1 w.heap.size 36 (arr8 N)) := by unfold Hid; rw [hw1]; exact ((Blk.new _ _ _).old _).old _
  have HK1 : Hid (Blk w1 (w.heap.size + 1) 28 (arrW Z)) := by
    unfold Hid; rw [hw1, hZ]
    have := Blk.new (w.alloc (.cells (arr8 N) 36)) 28 (arrW ⟨0, 0, 0, 0⟩)
    simp only [World.size_alloc] at this
    exact this.old _
  have HK2 : Hid (Blk w1 (w.heap.size + 1 + 1) 28 (arrW (madeN N 0))) := by
    unfold Hid; rw [hw1]
    have := Blk.new ((w.alloc (.cells (arr8 N) 36)).alloc (.cells (arrW ⟨0, 0, 0, 0⟩) 28)) 28 (arrW ⟨0, 0, 0, 0⟩)
    simp only [World.size_alloc] at this
    exact this
  obtain ⟨hall, hsum⟩ := counts_zero.1 hf
  have HN : Hid (∀ k, k < 8 → 0 ≤ N k ∧ N k ≤ 6) := hall
  have HX : Hid (∀ W k, k < 8 → Blk W w.heap.size 36 (arr8 N) → W.cell? ⟨w.heap.size, k, none⟩ = some (.int .i64 (N k))) := fun W k hk h => by rw [h.cell, arr8_get _ hk]
  have HD : Hid (∀ (k j : Nat), k < 8 → (j : Int) < N k → ((madeN N k).mores k j).ok = true ∧ ((madeN N k).mores k j).u ≤ 5) := fun k j hk hj => by
    obtain ⟨i1, i2, _⟩ := made_all hall hsum (k := k) (by omega)
    have hm := sumN_mono (N := N) (k := k + 1) (l := 8) (by omega) hall
    have es : sumN N (k + 1) = sumN N k + N k := rfl
    have e := mores_u (madeN N k) k j
    exact ⟨mores_ok i1 k (by rw [i2]; omega), by rw [e, i2]; omega⟩
  have HE : Hid (∀ k, k < 8 → (madeN N k).mores k (N k).toNat = madeN N (k + 1)) := fun k _ => rfl
  have HHs : Hid (∀ (f : Nat) W, f < 8 → Calls Tryd.prog 28 #[.int .i64 f, .int .i64 0] W (fun e w' => e = .returned (.bool (bitB f 0)) ∧ W = w') ∧ Calls Tryd.prog 28 #[.int .i64 f, .int .i64 1] W (fun e w' => e = .returned (.bool (bitB f 1)) ∧ W = w') ∧ Calls Tryd.prog 28 #[.int .i64 f, .int .i64 2] W (fun e w' => e = .returned (.bool (bitB f 2)) ∧ W = w')) := fun f W hf8 => by
    obtain ⟨b0, b1, b2⟩ := has_bit f hf8
    rw [← b0, ← b1, ← b2]
    exact ⟨refHas_any f 0 (by omega) (by omega) (by omega) W, refHas_any f 1 (by omega) (by omega) (by omega) W, refHas_any f 2 (by omega) (by omega) (by omega) W⟩
  clear hf hall hsum hZ
  go_enter Tryd.func15, Tryd.ntmps15
  go_wp2
  rw [← hw1]
  clear hw1
  obtain ⟨G, hG⟩ : ∃ G, G = w.heap.size + 1 + 1 := ⟨_, rfl⟩
  rw [← hG] at HK2 ⊢
  have HG : Hid (w.heap.size + 1 < G) := by unfold Hid; omega
  clear hG
  go_loopw [4] (fun i wr => ∃ k : Nat, k ≤ 8 ∧ i = .int .i64 k ∧ Below w.heap.size w wr ∧ Blk wr w.heap.size 36 (arr8 N) ∧ Blk wr (w.heap.size + 1) 28 (arrW Z) ∧ Blk wr G 28 (arrW (madeN N k))) (fun i _ => 8 - (intOf i).toNat)
  case atStart => exact ⟨0, Nat.zero_le _, rfl, HW.out, HK0.out, HK1.out, HK2.out⟩
  case round =>
    obtain ⟨k, hk, rfl, hb, hp, hr, hm⟩ := hrel
    have HB4 : Hid (Below w.heap.size w wr) := hb
    have HP4 : Hid (Blk wr w.heap.size 36 (arr8 N)) := hp
    have HR4 : Hid (Blk wr (w.heap.size + 1) 28 (arrW Z)) := hr
    have HM4 : Hid (Blk wr G 28 (arrW (madeN N k))) := hm
    clear hb hp hr hm
    by_cases hlt : k < 8
    · have p := HN.out k hlt
      obtain ⟨x, hx⟩ : ∃ x : Nat, (x : Int) = N k := ⟨(N k).toNat, by omega⟩
      have HXk : Hid ((x : Int) = N k) := hx
      have HEk : Hid ((madeN N k).mores k x = madeN N (k + 1)) := by
        have := HE.out k hlt
        rw [show (N k).toNat = x by omega] at this
        exact this
      have hx6 : x ≤ 6 := by omega
      clear hx p
      have HCk : Hid (∀ W, Blk W w.heap.size 36 (arr8 N) → W.cell? ⟨w.heap.size, k, none⟩ = some (.int .i64 (x : Int))) := fun W h => by rw [HXk.out]; exact HX.out W k hlt h
      go_wp2
      rw [show decide ((k : Int) < 8) = true by simp; omega]
      go_loopw [5] (fun i wr => ∃ j : Nat, j ≤ x ∧ i = .int .i64 j ∧ Below w.heap.size w wr ∧ Blk wr w.heap.size 36 (arr8 N) ∧ Blk wr (w.heap.size + 1) 28 (arrW Z) ∧ Blk wr G 28 (arrW ((madeN N k).mores k j))) (fun i _ => x - (intOf i).toNat)
      case atStart => exact ⟨0, Nat.zero_le _, rfl, HB4.out, HP4.out, HR4.out, HM4.out⟩
      case round =>
        obtain ⟨j, hj, rfl, hb, hp, hr, hm⟩ := hrel
        have HB5 : Hid (Below w.heap.size w wr) := hb
        have HP5 : Hid (Blk wr w.heap.size 36 (arr8 N)) := hp
        have HR5 : Hid (Blk wr (w.heap.size + 1) 28 (arrW Z)) := hr
        have HM5 : Hid (Blk wr G 28 (arrW ((madeN N k).mores k j))) := hm
        clear hb hp hr hm
        have yk := HCk.out _ HP5.out
        by_cases hlj : j < x
        · obtain ⟨dok, d5⟩ := HD.out k j hlt (by rw [← HXk.out]; omega)
          obtain ⟨D, hD⟩ : ∃ D, D = (madeN N k).mores k j := ⟨_, rfl⟩
          rw [← hD] at dok d5 HM5
          have HEj : Hid (D.more k = (madeN N k).mores k (j + 1)) := by unfold Hid; rw [hD]; rfl
          clear hD
          obtain ⟨u, a, b, c⟩ := D
          obtain ⟨o1, o2, o3⟩ := Wd.ok_iff.1 dok
          obtain ⟨u0, _, a0, a6⟩ := okB_lt o1
          obtain ⟨_, _, b0, b6⟩ := okB_lt o2
          obtain ⟨_, _, c0, c6⟩ := okB_lt o3
          simp only at u0 a0 a6 b0 b6 c0 c6 d5
          obtain ⟨n, rfl⟩ := Int.eq_ofNat_of_zero_le u0
          have HPw : Hid (∀ W, Calls Tryd.prog 29 #[.int .i64 n] W (fun e w' => e = .returned (.int .i64 (pw n)) ∧ W = w')) := fun W => refPower_any n (by omega) W
          have q1 := pw_pos n
          have q2 := pw_le6 (k := n) (by omega)
          obtain ⟨P, hP⟩ : ∃ P, P = pw n := ⟨_, rfl⟩
          rw [← hP] at HPw q1 q2
          have HMo : Hid ((Wd.mk n a b c).more k = Wd.mk (n + 1) (a + oneB (bitB k 0) * P) (b + oneB (bitB k 1) * P) (c + oneB (bitB k 2) * P)) := by unfold Hid; rw [hP]; rfl
          obtain ⟨x0, hx0⟩ : ∃ x, x = bitB k 0 := ⟨_, rfl⟩
          obtain ⟨x1, hx1⟩ : ∃ x, x = bitB k 1 := ⟨_, rfl⟩
          obtain ⟨x2, hx2⟩ : ∃ x, x = bitB k 2 := ⟨_, rfl⟩
          have HHk : Hid (∀ W, Calls Tryd.prog 28 #[.int .i64 k, .int .i64 0] W (fun e w' => e = .returned (.bool x0) ∧ W = w') ∧ Calls Tryd.prog 28 #[.int .i64 k, .int .i64 1] W (fun e w' => e = .returned (.bool x1) ∧ W = w') ∧ Calls Tryd.prog 28 #[.int .i64 k, .int .i64 2] W (fun e w' => e = .returned (.bool x2) ∧ W = w')) := fun W => by
            rw [hx0, hx1, hx2]; exact HHs.out k W hlt
          rw [← hx0, ← hx1, ← hx2] at HMo
          clear hx0 hx1 hx2 hP dok o1 o2 o3
          have s0 := oneB_le x0
          have s1 := oneB_le x1
          have s2 := oneB_le x2
          go_wp2
          go_loopw [6] (fun i wr => Below w.heap.size w wr ∧ Blk wr w.heap.size 36 (arr8 N) ∧ Blk wr (w.heap.size + 1) 28 (arrW Z) ∧ ((i = .int .i64 0 ∧ Blk wr G 28 (arrW ⟨n, a, b, c⟩)) ∨ (i = .int .i64 1 ∧ Blk wr G 28 (arrW ⟨n, a + oneB x0 * P, b, c⟩)) ∨ (i = .int .i64 2 ∧ Blk wr G 28 (arrW ⟨n, a + oneB x0 * P, b + oneB x1 * P, c⟩)) ∨ (i = .int .i64 3 ∧ Blk wr G 28 (arrW ⟨n, a + oneB x0 * P, b + oneB x1 * P, c + oneB x2 * P⟩)))) (fun i _ => 3 - (intOf i).toNat)
          case atStart => exact ⟨HB5.out, HP5.out, HR5.out, Or.inl ⟨rfl, HM5.out⟩⟩
          case round =>
            clear yk
            obtain ⟨hb, hp, hr, hm⟩ := hrel
            have HB7 : Hid (Below w.heap.size w wr) := hb
            have HP7 : Hid (Blk wr w.heap.size 36 (arr8 N)) := hp
            have HR7 : Hid (Blk wr (w.heap.size + 1) 28 (arrW Z)) := hr
            clear hb hp hr
            rcases hm with ⟨rfl, hm⟩ | ⟨rfl, hm⟩ | ⟨rfl, hm⟩ | ⟨rfl, hm⟩
            · have HM7 : Hid (Blk wr G 28 (arrW ⟨n, a, b, c⟩)) := hm
              clear hm
              obtain ⟨y0, y1, y2, y3⟩ := HM7.out.cells4
              simp only at y0 y1 y2 y3
              have z := HM7.out.frozen 1
              go_wp2_with fail
              go_at_call 28
              refine (HHk.out _).1.mono ?_
              rintro e w' ⟨rfl, rfl⟩
              rcases (Bool.eq_false_or_eq_true x0).symm with hx | hx
              · have HQ : Hid (Blk wr G 28 (arrW ⟨n, a + oneB x0 * P, b, c⟩)) := by
                  have e : a + oneB x0 * P = a := by rw [hx]; simp [oneB]
                  unfold Hid; rw [e]; exact HM7.out
                rw [hx]
                clear hx
                go_wp2
                go_roundw
                case rel => exact ⟨HB7.out, HP7.out, HR7.out, Or.inr (Or.inl ⟨rfl, HQ.out⟩)⟩
                case measure => simp [intOf]
              · have HQ : Hid (∀ W, Blk W G 28 (arrW ⟨n, a, b, c⟩) → Blk (W.setCell ⟨G, 1, none⟩ (.int .i64 (a + P))) G 28 (arrW ⟨n, a + oneB x0 * P, b, c⟩)) := fun W h => by
                  have e : a + oneB x0 * P = a + P := by rw [hx]; simp [oneB]
                  have := h.set 1 (.int .i64 (a + P))
                  rw [arrW_set1] at this
                  rw [e]; exact this
                rw [hx]
                clear hx
                go_wp2_with fail
                go_region_with (go_at_call 29; refine (HPw.out _).mono ?_; rintro e w' ⟨rfl, rfl⟩)
                all_goals
                  go_wp2
                  go_roundw
                  case rel =>
                    have hg := HG.out
                    exact ⟨HB7.out.drew.setCell (by simp; omega) _, HP7.out.drew.far (by omega) _ _, HR7.out.drew.far (by omega) _ _, Or.inr (Or.inl ⟨rfl, HQ.out _ HM7.out.drew⟩)⟩
                  case measure => simp [intOf]
            · have HM7 : Hid (Blk wr G 28 (arrW ⟨n, a + oneB x0 * P, b, c⟩)) := hm
              clear hm
              obtain ⟨y0, y1, y2, y3⟩ := HM7.out.cells4
              simp only at y0 y1 y2 y3
              have z := HM7.out.frozen 2
              go_wp2_with fail
              go_at_call 28
              refine (HHk.out _).2.1.mono ?_
              rintro e w' ⟨rfl, rfl⟩
              rcases (Bool.eq_false_or_eq_true x1).symm with hx | hx
              · have HQ : Hid (Blk wr G 28 (arrW ⟨n, a + oneB x0 * P, b + oneB x1 * P, c⟩)) := by
                  have e : b + oneB x1 * P = b := by rw [hx]; simp [oneB]
                  unfold Hid; rw [e]; exact HM7.out
                rw [hx]
                clear hx
                go_wp2
                go_roundw
                case rel => exact ⟨HB7.out, HP7.out, HR7.out, Or.inr (Or.inr (Or.inl ⟨rfl, HQ.out⟩))⟩
                case measure => simp [intOf]
              · have HQ : Hid (∀ W, Blk W G 28 (arrW ⟨n, a + oneB x0 * P, b, c⟩) → Blk (W.setCell ⟨G, 2, none⟩ (.int .i64 (b + P))) G 28 (arrW ⟨n, a + oneB x0 * P, b + oneB x1 * P, c⟩)) := fun W h => by
                  have e : b + oneB x1 * P = b + P := by rw [hx]; simp [oneB]
                  have := h.set 2 (.int .i64 (b + P))
                  rw [arrW_set2] at this
                  rw [e]; exact this
                rw [hx]
                clear hx
                go_wp2_with fail
                go_region_with (go_at_call 29; refine (HPw.out _).mono ?_; rintro e w' ⟨rfl, rfl⟩)
                all_goals
                  go_wp2
                  go_roundw
                  case rel =>
                    have hg := HG.out
                    exact ⟨HB7.out.drew.setCell (by simp; omega) _, HP7.out.drew.far (by omega) _ _, HR7.out.drew.far (by omega) _ _, Or.inr (Or.inr (Or.inl ⟨rfl, HQ.out _ HM7.out.drew⟩))⟩
                  case measure => simp [intOf]
            · have HM7 : Hid (Blk wr G 28 (arrW ⟨n, a + oneB x0 * P, b + oneB x1 * P, c⟩)) := hm
              clear hm
              obtain ⟨y0, y1, y2, y3⟩ := HM7.out.cells4
              simp only at y0 y1 y2 y3
              have z := HM7.out.frozen 3
              go_wp2_with fail
              go_at_call 28
              refine (HHk.out _).2.2.mono ?_
              rintro e w' ⟨rfl, rfl⟩
              rcases (Bool.eq_false_or_eq_true x2).symm with hx | hx
              · have HQ : Hid (Blk wr G 28 (arrW ⟨n, a + oneB x0 * P, b + oneB x1 * P, c + oneB x2 * P⟩)) := by
                  have e : c + oneB x2 * P = c := by rw [hx]; simp [oneB]
                  unfold Hid; rw [e]; exact HM7.out
                rw [hx]
                clear hx
                go_wp2
                go_roundw
                case rel => exact ⟨HB7.out, HP7.out, HR7.out, Or.inr (Or.inr (Or.inr ⟨rfl, HQ.out⟩))⟩
                case measure => simp [intOf]
              · have HQ : Hid (∀ W, Blk W G 28 (arrW ⟨n, a + oneB x0 * P, b + oneB x1 * P, c⟩) → Blk (W.setCell ⟨G, 3, none⟩ (.int .i64 (c + P))) G 28 (arrW ⟨n, a + oneB x0 * P, b + oneB x1 * P, c + oneB x2 * P⟩)) := fun W h => by
                  have e : c + oneB x2 * P = c + P := by rw [hx]; simp [oneB]
                  have := h.set 3 (.int .i64 (c + P))
                  rw [arrW_set3] at this
                  rw [e]; exact this
                rw [hx]
                clear hx
                go_wp2_with fail
                go_region_with (go_at_call 29; refine (HPw.out _).mono ?_; rintro e w' ⟨rfl, rfl⟩)
                all_goals
                  go_wp2
                  go_roundw
                  case rel =>
                    have hg := HG.out
                    exact ⟨HB7.out.drew.setCell (by simp; omega) _, HP7.out.drew.far (by omega) _ _, HR7.out.drew.far (by omega) _ _, Or.inr (Or.inr (Or.inr ⟨rfl, HQ.out _ HM7.out.drew⟩))⟩
                  case measure => simp [intOf]
            · have HM7 : Hid (Blk wr G 28 (arrW ⟨n, a + oneB x0 * P, b + oneB x1 * P, c + oneB x2 * P⟩)) := hm
              clear hm
              obtain ⟨y0, y1, y2, y3⟩ := HM7.out.cells4
              simp only at y0 y1 y2 y3
              have z := HM7.out.frozen 0
              have HQ : Hid (Blk (wr.setCell ⟨G, 0, none⟩ (.int .i64 ((n : Int) + 1))) G 28 (arrW ((madeN N k).mores k (j + 1)))) := by
                have := HM7.out.set 0 (.int .i64 ((n : Int) + 1))
                rw [arrW_set0, ← HMo.out, HEj.out] at this
                exact this
              go_wp2
              go_roundw
              case rel =>
                have hg := HG.out
                exact ⟨j + 1, by omega, by go_num, HB7.out.setCell (by simp; omega) _, HP7.out.far (by omega) _ _, HR7.out.far (by omega) _ _, HQ.out⟩
              case measure => simp [intOf]; omega
        · obtain rfl : j = x := by omega
          go_wp2
          go_roundw
          case rel => exact ⟨k + 1, by omega, by go_num, HB5.out, HP5.out, HR5.out, by rw [← HEk.out]; exact HM5.out⟩
          case measure => simp [intOf]; omega
    · obtain rfl : k = 8 := by omega
      obtain ⟨D, hD⟩ : ∃ D, D = madeN N 8 := ⟨_, rfl⟩
      rw [← hD] at HM4
      have HDD : Hid (D = madeN N 8) := hD
      clear hD
      obtain ⟨y0, y1, y2, y3⟩ := HM4.out.cells4
      obtain ⟨r0, r1, r2, r3⟩ := HR4.out.cells4
      obtain ⟨f0, f1, f2, f3⟩ := HR4.out.frozen4
      go_wp2
      refine bodyPost_ret (v := .agg (arrW D)) ?_ rfl ⟨by rw [HDD.out], ?_⟩
      · exact results_cell_row rfl _ _ (w.heap.size + 1) 28 (arrW D) (0, 0) _ rfl (putW_blk HR4.out D) Tryd.underlying28 rfl infoW
      · exact putW_below HB4.out (by omega) D
end Go.Proofs.YtgkgbpbohgklhafDoor

namespace Go.Proofs.YtgkgbpbohgklhafDoor
open Go.ChangeShapes Go.WideShapes Go.ChangeAt Go.RowKit
set_option maxRecDepth 100000

theorem all_take_succ (t : List Int) {k : Nat} (h : k < t.length) : (t.take (k + 1)).all signB = ((t.take k).all signB && signB (t.getD k 0)) := by
  rw [take_succ_getD t h]; simp
theorem all_false_of {t : List Int} {k : Nat} (h : k < t.length) (hs : signB (t.getD k 0) = false) : ¬ t.all signB = true := by
  intro ha
  have := List.all_eq_true.1 ha (t.getD k 0) (by rw [List.getD_eq_getElem?_getD, List.getElem?_eq_getElem h]; exact List.getElem_mem h)
  rw [hs] at this; cases this

set_option maxRecDepth 100000 in
set_option maxHeartbeats 4000000 in
theorem refTerm_mid (b off cap : Nat) (t : List Int) (w : World) (h0 : 0 < t.length) (hl : t.length ≤ 12) (hc : ∀ k, k < t.length → w.cell? ⟨b, off + k, none⟩ = some (.int .i64 (t.getD k 0))) :
    Calls Tryd.prog 18 #[.slice (some ⟨b, off, none⟩) t.length cap] w fun e w' => e = .returned (.int .i64 (faultN t)) ∧ w = w' := by
  have HC : Hid (∀ k, k < t.length → w.cell? ⟨b, off + k, none⟩ = some (.int .i64 (t.getD k 0))) := hc
  clear hc
  obtain ⟨n, hn⟩ : ∃ n, n = t.length := ⟨_, rfl⟩
  rw [← hn] at h0 hl ⊢
  have HN : Hid (n = t.length) := hn
  obtain ⟨F, hF⟩ : ∃ F, F = faultN t := ⟨_, rfl⟩
  rw [← hF]
  have HF : Hid (F = if t.all signB = true then (if cnt t 0 = some 1 then 0 else 3) else 1) := by
    unfold Hid; rw [hF]; unfold faultN; rw [if_neg (by omega), if_neg (by omega)]
  clear hn hF
  go_enter Tryd.func18, Tryd.ntmps18
  go_wp2
  go_loop [3] (fun i => ∃ k : Nat, k ≤ n ∧ i = .int .i64 k ∧ (t.take k).all signB = true) (fun i => n - (intOf i).toNat)
  case atStart => exact ⟨0, Nat.zero_le _, rfl, by simp⟩
  case round =>
    obtain ⟨k, hk, rfl, hall⟩ := hrel
    have HA : Hid ((t.take k).all signB = true) := hall
    clear hall
    by_cases hlt : k < n
    · obtain ⟨s, hs⟩ : ∃ s, s = t.getD k 0 := ⟨_, rfl⟩
      have hkt : k < t.length := by rw [← HN.out]; exact hlt
      have hc := HC.out k hkt
      rw [← hs] at hc
      by_cases hlo : s < 0
      · have HE : Hid (1 = F) := by
          have := all_false_of hkt (by rw [← hs]; simp [signB]; omega)
          unfold Hid; rw [HF.out, if_neg this]
        clear hs hkt
        go_wp2
        go_ret
        exact ⟨back_i HE.out, rfl⟩
      by_cases hhi : 8 < s
      · have HE : Hid (1 = F) := by
          have := all_false_of hkt (by rw [← hs]; simp [signB]; omega)
          unfold Hid; rw [HF.out, if_neg this]
        clear hs hkt
        go_wp2
        go_ret
        exact ⟨back_i HE.out, rfl⟩
      have HA2 : Hid ((t.take (k + 1)).all signB = true) := by
        have : signB s = true := by simp [signB]; omega
        unfold Hid; rw [all_take_succ t hkt, HA.out, ← hs, this]; rfl
      clear hs hkt
      go_wp2
      go_round
      case rel => exact ⟨k + 1, by omega, by go_num, HA2.out⟩
      case measure => simp [intOf]; omega
    · have HAll : Hid (t.all signB = true) := by
        have := HA.out
        rw [List.take_of_length_le (by have := HN.out; omega)] at this
        exact this
      clear HA
      go_wp2
      go_loop [4, 5] (fun c i => ∃ (k : Nat) (m : Int), k ≤ n ∧ i = .int .i64 k ∧ c = .int .i64 m ∧ cnt (t.take k) 0 = some m) (fun _ i => n - (intOf i).toNat)
      case atStart => exact ⟨0, 0, Nat.zero_le _, rfl, rfl, rfl⟩
      case round =>
        clear hlt hk
        obtain ⟨k, m, hk, rfl, rfl, hm⟩ := hrel
        have HM : Hid (cnt (t.take k) 0 = some m) := hm
        have hm0 : 0 ≤ m ∧ m ≤ 12 := by
          have := cnt_nonneg (Int.le_refl 0) hm
          simp at this
          omega
        clear hm
        by_cases hlt : k < n
        · obtain ⟨s, hs⟩ : ∃ s, s = t.getD k 0 := ⟨_, rfl⟩
          have hkt : k < t.length := by rw [← HN.out]; exact hlt
          have hc := HC.out k hkt
          rw [← hs] at hc
          have hsg : 0 ≤ s ∧ s ≤ 8 := by
            refine signB_iff.1 (List.all_eq_true.1 HAll.out s ?_)
            rw [hs, List.getD_eq_getElem?_getD, List.getElem?_eq_getElem hkt]; exact List.getElem_mem hkt
          have HD : Hid (cnt (t.take (k + 1)) 0 = if m < takesN s then none else some (m + 1 - takesN s)) := by
            have := cnt_take_succ t hkt HM.out
            rw [← hs] at this; exact this
          have HNo : Hid (m < takesN s → 3 = F) := fun hb => by
            have h1 := HD.out
            rw [if_pos hb] at h1
            have h2 := cnt_take_none t (k + 1) h1
            rw [HF.out, if_pos HAll.out, if_neg (by rw [h2]; simp)]
          have HYes : Hid (¬ m < takesN s → cnt (t.take (k + 1)) 0 = some (m + 1 - takesN s)) := fun hb => by
            have h1 := HD.out
            rw [if_neg hb] at h1; exact h1
          clear hs hkt HD
          by_cases h5 : s < 5
          · have HE : Hid (cnt (t.take (k + 1)) 0 = some (m + 1)) := by
              have := HYes.out (by rw [takes5 s h5]; omega)
              rw [takes5 s h5] at this; rw [show m + 1 = m + 1 - 0 by omega]; exact this
            go_wp2
            go_round
            case rel => exact ⟨k + 1, _, by omega, by go_num, rfl, HE.out⟩
            case measure => simp [intOf]; omega
          by_cases h8 : s < 8
          · have ht := takes2 s (by omega) (by omega)
            by_cases hb : m < 2
            · have HE : Hid (3 = F) := HNo.out (by rw [ht]; exact hb)
              clear ht
              by_cases hb1 : m < 1
              · go_wp2
                go_ret
                exact ⟨back_i HE.out, rfl⟩
              · go_wp2
                go_ret
                exact ⟨back_i HE.out, rfl⟩
            · have HE : Hid (cnt (t.take (k + 1)) 0 = some (m - 1)) := by
                have := HYes.out (by rw [ht]; omega)
                rw [ht] at this; rw [show m - 1 = m + 1 - 2 by omega]; exact this
              have hb1 : ¬ m < 1 := by omega
              clear ht
              go_wp2
              go_round
              case rel => exact ⟨k + 1, _, by omega, by go_num, rfl, HE.out⟩
              case measure => simp [intOf]; omega
          · obtain rfl : s = 8 := by omega
            by_cases hb : m < 1
            · have HE : Hid (3 = F) := HNo.out (by rw [takes1]; exact hb)
              go_wp2
              go_ret
              exact ⟨back_i HE.out, rfl⟩
            · have HE : Hid (cnt (t.take (k + 1)) 0 = some m) := by
                have := HYes.out (by rw [takes1]; exact hb)
                rw [takes1] at this; rw [show m = m + 1 - 1 by omega]; exact this
              go_wp2
              go_round
              case rel => exact ⟨k + 1, _, by omega, by go_num, rfl, HE.out⟩
              case measure => simp [intOf]; omega
        · have HE : Hid (cnt t 0 = some m) := by
            have h1 := HM.out
            rw [List.take_of_length_le (by have := HN.out; omega)] at h1; exact h1
          by_cases h1 : m = 1
          · have HG : Hid (0 = F) := by unfold Hid; rw [HF.out, if_pos HAll.out, HE.out, if_pos (by rw [h1])]
            subst h1
            go_wp2
            go_ret
            exact ⟨back_i HG.out, rfl⟩
          · have HG : Hid (3 = F) := by unfold Hid; rw [HF.out, if_pos HAll.out, HE.out, if_neg (by simpa using h1)]
            have h1' : (m != 1) = true := by simpa using h1
            clear h1
            go_wp2
            go_ret
            exact ⟨back_i HG.out, rfl⟩

theorem refTerm_any (t : List Int) (v : Value) (w : World) (h : Reads w v t) :
    Calls Tryd.prog 18 #[v] w fun e w' => e = .returned (.int .i64 (faultN t)) ∧ w = w' := by
  rcases h with ⟨ao, cap, rfl, rfl⟩ | ⟨b, off, cap, rfl, -, h0, ⟨hl, _⟩, hc⟩
  · go_enter Tryd.func18, Tryd.ntmps18
    go_wp2
    go_ret
    exact ⟨rfl, rfl⟩
  · by_cases h12 : 12 < t.length
    · have e : faultN t = 4 := by unfold faultN; rw [if_neg (by omega), if_pos h12]
      rw [e]
      clear e hc
      obtain ⟨n, hn⟩ : ∃ n, n = t.length := ⟨_, rfl⟩
      rw [← hn] at h0 hl h12 ⊢
      clear hn
      go_enter Tryd.func18, Tryd.ntmps18
      go_wp2
      go_ret
      exact ⟨rfl, rfl⟩
    · exact refTerm_mid b off cap t w h0 (by omega) hc

theorem quiet_set_ok (u s : Int) (h : okB u s = true) (W : World) : Calls Tryd.prog 27 #[.int .i64 u, .int .i64 s] W fun e w' => e = .returned (.int .i64 0) ∧ w' = W := (refSet_ok u s h W).mono fun _ _ h => (And.intro h.1 h.2.symm)
theorem quiet_set_no (u s : Int) (h : okB u s = false) (W : World) : Calls Tryd.prog 27 #[.int .i64 u, .int .i64 s] W fun e w' => e = .returned (.int .i64 1) ∧ w' = W := (refSet_no u s h W).mono fun _ _ h => (And.intro h.1 h.2.symm)

set_option maxRecDepth 100000 in
set_option maxHeartbeats 4000000 in
theorem refWorld_any (u a b c : Int) (w : World) :
    Calls Tryd.prog 8 #[.agg #[.int .i64 u, .int .i64 a, .int .i64 b, .int .i64 c]] w fun e w' => e = .returned (.int .i64 (if (Wd.mk u a b c).ok = true then 0 else 1)) ∧ Below w.heap.size w w' := by
  obtain ⟨w1, hw1⟩ : ∃ w1, w1 = w.alloc (.cells #[.int .i64 u, .int .i64 a, .int .i64 b, .int .i64 c] 28) := ⟨_, rfl⟩
  obtain ⟨K, hK⟩ : ∃ K, K = w.heap.size + 1 := ⟨_, rfl⟩
  have HK1 : Hid (w1.heap.size = K) := by unfold Hid; rw [hw1, hK]; simp
  have HX : Hid (w1.cell? ⟨w.heap.size, 0, none⟩ = some (.int .i64 u) ∧ w1.cell? ⟨w.heap.size, 1, none⟩ = some (.int .i64 a) ∧ w1.cell? ⟨w.heap.size, 2, none⟩ = some (.int .i64 b) ∧ w1.cell? ⟨w.heap.size, 3, none⟩ = some (.int .i64 c)) := by
    unfold Hid; rw [hw1]; simp
  have HBK : Hid (w.heap.size < K) := by unfold Hid; omega
  have HW : Hid (Below w.heap.size w w1) := by unfold Hid; rw [hw1]; exact below_alloc1 _ _
  have HKs : Hid (w.heap.size ≤ K) := by unfold Hid; omega
  clear hK
  obtain ⟨R, hR⟩ : ∃ R : Int, R = if (Wd.mk u a b c).ok = true then 0 else 1 := ⟨_, rfl⟩
  rw [← hR]
  have HE : Hid ((okB u a = true → okB u b = true → okB u c = true → 0 = R) ∧ ((okB u a = false ∨ okB u b = false ∨ okB u c = false) → 1 = R)) := by
    refine ⟨fun h1 h2 h3 => ?_, fun h => ?_⟩
    · rw [hR, if_pos (Wd.ok_iff.2 ⟨h1, h2, h3⟩)]
    · have ho : ¬ (Wd.mk u a b c).ok = true := by
        intro ho
        obtain ⟨h1, h2, h3⟩ := Wd.ok_iff.1 ho
        simp only at h1 h2 h3
        rw [h1, h2, h3] at h
        simp at h
      rw [hR, if_neg ho]
  clear hR
  go_enter Tryd.func8, Tryd.ntmps8
  go_wp2
  rw [← hw1]
  clear hw1
  go_loopw [3] (fun i wr => ∃ k : Nat, k ≤ 3 ∧ i = .int .i64 k ∧ Below K w1 wr ∧ (1 ≤ k → okB u a = true) ∧ (2 ≤ k → okB u b = true) ∧ (3 ≤ k → okB u c = true)) (fun i _ => 3 - (intOf i).toNat)
  case atStart => exact ⟨0, Nat.zero_le _, rfl, Below.refl _ _, by omega, by omega, by omega⟩
  case round =>
    obtain ⟨k, hk, rfl, hbel, k1, k2, k3⟩ := hrel
    have x0 : wr.cell? ⟨w.heap.size, 0, none⟩ = some (.int .i64 u) := by rw [hbel.cell HBK.out]; exact HX.out.1
    have x1 : wr.cell? ⟨w.heap.size, 1, none⟩ = some (.int .i64 a) := by rw [hbel.cell HBK.out]; exact HX.out.2.1
    have x2 : wr.cell? ⟨w.heap.size, 2, none⟩ = some (.int .i64 b) := by rw [hbel.cell HBK.out]; exact HX.out.2.2.1
    have x3 : wr.cell? ⟨w.heap.size, 3, none⟩ = some (.int .i64 c) := by rw [hbel.cell HBK.out]; exact HX.out.2.2.2
    have HB : Hid (Below K w1 wr) := hbel
    have HKw : Hid (K ≤ wr.heap.size) := by unfold Hid; rw [← HK1.out]; exact hbel.size
    clear hbel
    obtain rfl | rfl | rfl | rfl : k = 0 ∨ k = 1 ∨ k = 2 ∨ k = 3 := by omega
    · clear k1 k2 k3 hk
      rcases (Bool.eq_false_or_eq_true (okB u a)).symm with ho | ho
      · have HO : Hid (okB u a = false) := ho
        clear ho
        go_wp2_with fail
        go_quiet (first | (go_at_call 27; exact Calls.quiet_of_same (quiet_set_no _ _ HO.out _)))
        go_wp2
        go_ret
        exact ⟨back_i (HE.out.2 (Or.inl HO.out)), HW.out.trans ((HB.out.mono HKs.out).trans ((below_drewNs _ _).mono (Nat.le_trans HKs.out HKw.out)))⟩
      · have HO : Hid (okB u a = true) := ho
        clear ho
        go_wp2_with fail
        go_quiet (first | (go_at_call 27; exact Calls.quiet_of_same (quiet_set_ok _ _ HO.out _)))
        go_wp2
        go_roundw
        case rel => exact ⟨1, by omega, by go_num, HB.out.trans ((below_drewNs _ _).mono HKw.out), fun _ => HO.out, fun h => by omega, fun h => by omega⟩
        case measure => simp [intOf]
    · have HO1 : Hid (okB u a = true) := k1 (by omega)
      clear k1 k2 k3 hk
      rcases (Bool.eq_false_or_eq_true (okB u b)).symm with ho | ho
      · have HO : Hid (okB u b = false) := ho
        clear ho
        go_wp2_with fail
        go_quiet (first | (go_at_call 27; exact Calls.quiet_of_same (quiet_set_no _ _ HO.out _)))
        go_wp2
        go_ret
        exact ⟨back_i (HE.out.2 (Or.inr (Or.inl HO.out))), HW.out.trans ((HB.out.mono HKs.out).trans ((below_drewNs _ _).mono (Nat.le_trans HKs.out HKw.out)))⟩
      · have HO : Hid (okB u b = true) := ho
        clear ho
        go_wp2_with fail
        go_quiet (first | (go_at_call 27; exact Calls.quiet_of_same (quiet_set_ok _ _ HO.out _)))
        go_wp2
        go_roundw
        case rel => exact ⟨2, by omega, by go_num, HB.out.trans ((below_drewNs _ _).mono HKw.out), fun _ => HO1.out, fun _ => HO.out, fun h => by omega⟩
        case measure => simp [intOf]
    · have HO1 : Hid (okB u a = true) := k1 (by omega)
      have HO2 : Hid (okB u b = true) := k2 (by omega)
      clear k1 k2 k3 hk
      rcases (Bool.eq_false_or_eq_true (okB u c)).symm with ho | ho
      · have HO : Hid (okB u c = false) := ho
        clear ho
        go_wp2_with fail
        go_quiet (first | (go_at_call 27; exact Calls.quiet_of_same (quiet_set_no _ _ HO.out _)))
        go_wp2
        go_ret
        exact ⟨back_i (HE.out.2 (Or.inr (Or.inr HO.out))), HW.out.trans ((HB.out.mono HKs.out).trans ((below_drewNs _ _).mono (Nat.le_trans HKs.out HKw.out)))⟩
      · have HO : Hid (okB u c = true) := ho
        clear ho
        go_wp2_with fail
        go_quiet (first | (go_at_call 27; exact Calls.quiet_of_same (quiet_set_ok _ _ HO.out _)))
        go_wp2
        go_roundw
        case rel => exact ⟨3, by omega, by go_num, HB.out.trans ((below_drewNs _ _).mono HKw.out), fun _ => HO1.out, fun _ => HO2.out, fun _ => HO.out⟩
        case measure => simp [intOf]
    · have HO : Hid (okB u a = true ∧ okB u b = true ∧ okB u c = true) := ⟨k1 (by omega), k2 (by omega), k3 (by omega)⟩
      clear k1 k2 k3 hk
      go_wp2
      go_ret
      exact ⟨back_i (HE.out.1 HO.out.1 HO.out.2.1 HO.out.2.2), HW.out.trans (HB.out.mono HKs.out)⟩
end Go.Proofs.YtgkgbpbohgklhafDoor
