/-
  Proved: what the reference's Counts and Fields return; what was in memory is as it was (contracts that the statements lean on).
  Proved: what the reference's Made returns, of right counts; what was in memory is as it was (a contract that the statements lean on).
  Proved: what atom.Check (and checkSecond) returns, of any atom, where the table of kinds lies as the program's text lays it; what was in memory is as it was (a contract that the statements lean on).
-/
import Derived.Test.YtjaedfjfcghgcaaDoorLibA6
import Derived.Test.YtjaedfjfcghgcaaDoorLibA8
import Derived.Deep.RegionWith
import Derived.Test.YtjaedfjfcghgcaaDoorLibA5
import Derived.Test.YtjaedfjfcghgcaaDoorLibA2
import Derived.Deep.Cut
namespace Go.Proofs.YtjaedfjfcghgcaaDoor
open Go.ChangeShapes Go.WideShapes Go.ChangeAt Go.RowKit

theorem field_int (w : Wd) (i : Nat) : (w.field i : Int) = oneB (hasB w.a i) + 2 * oneB (hasB w.b i) + 4 * oneB (hasB w.c i) := by
  unfold Wd.field
  cases hasB w.a i <;> cases hasB w.b i <;> cases hasB w.c i <;> decide
theorem info8 : (Tryd.prog.info? 89).map (·.size) = some 8 := by kernel_rfl
theorem infoW : (Tryd.prog.info? 37).map (·.size) = some 4 := by kernel_rfl
theorem sum_three {x y z : Bool} : oneB x + 2 * oneB y + 4 * oneB z = oneB x + oneB y * 2 + oneB z * 4 := by omega

end Go.Proofs.YtjaedfjfcghgcaaDoor

namespace Go.Proofs.YtjaedfjfcghgcaaDoor
open Go.ChangeShapes Go.WideShapes Go.ChangeAt Go.RowKit

theorem has_bit : ∀ f : Nat, f < 8 → hasB (f : Int) ((0 : Nat) : Int) = bitB f 0 ∧ hasB (f : Int) ((1 : Nat) : Int) = bitB f 1 ∧ hasB (f : Int) ((2 : Nat) : Int) = bitB f 2 := by decide +kernel
theorem arrW_set0 (u a b c x : Int) : (arrW ⟨u, a, b, c⟩).setIfInBounds 0 (.int .i64 x) = arrW ⟨x, a, b, c⟩ := by simp [arrW]
theorem arrW_set1 (u a b c x : Int) : (arrW ⟨u, a, b, c⟩).setIfInBounds 1 (.int .i64 x) = arrW ⟨u, x, b, c⟩ := by simp [arrW]
theorem arrW_set2 (u a b c x : Int) : (arrW ⟨u, a, b, c⟩).setIfInBounds 2 (.int .i64 x) = arrW ⟨u, a, x, c⟩ := by simp [arrW]
theorem arrW_set3 (u a b c x : Int) : (arrW ⟨u, a, b, c⟩).setIfInBounds 3 (.int .i64 x) = arrW ⟨u, a, b, x⟩ := by simp [arrW]

set_option maxRecDepth 100000 in
set_option maxHeartbeats 4000000 in
theorem refMade_right (N : Nat → Int) (w : World) (hf : countsFault N = 0) :
    Calls Tryd.prog 48 #[.agg #[.int .i64 (N 0), .int .i64 (N 1), .int .i64 (N 2), .int .i64 (N 3), .int .i64 (N 4), .int .i64 (N 5), .int .i64 (N 6), .int .i64 (N 7)]] w fun e w' => e = .returned (.agg (arrW (madeN N 8))) ∧ Below w.heap.size w w' := by
  obtain ⟨Z, hZ⟩ : ∃ Z : Wd, Z = ⟨0, 0, 0, 0⟩ := ⟨_, rfl⟩
  obtain ⟨w1, hw1⟩ : ∃ w1, w1 = ((w.alloc (.cells #[.int .i64 (N 0), .int .i64 (N 1), .int .i64 (N 2), .int .i64 (N 3), .int .i64 (N 4), .int .i64 (N 5), .int .i64 (N 6), .int .i64 (N 7)] 89)).alloc (.cells #[.int .i64 0, .int .i64 0, .int .i64 0, .int .i64 0] 37)).alloc (.cells #[.int .i64 0, .int .i64 0, .int .i64 0, .int .i64 0] 37) := ⟨_, rfl⟩
  have HW : Hid (Below w.heap.size w w1) := by unfold Hid; rw [hw1]; exact ((below_alloc1 _ _).alloc (by simp) _).alloc (by simp; omega) _
  have HK0 : Hid (Blk w1 w.heap.size 89 (arr8 N)) := by unfold Hid; rw [hw1]; exact ((Blk.new _ _ _).old _).old _
  have HK1 : Hid (Blk w1 (w.heap.size + 1) 37 (arrW Z)) := by
    unfold Hid; rw [hw1, hZ]
    have := Blk.new (w.alloc (.cells (arr8 N) 89)) 37 (arrW ⟨0, 0, 0, 0⟩)
    simp only [World.size_alloc] at this
    exact this.old _
  have HK2 : Hid (Blk w1 (w.heap.size + 1 + 1) 37 (arrW (madeN N 0))) := by
    unfold Hid; rw [hw1]
    have := Blk.new ((w.alloc (.cells (arr8 N) 89)).alloc (.cells (arrW ⟨0, 0, 0, 0⟩) 37)) 37 (arrW ⟨0, 0, 0, 0⟩)
    simp only [World.size_alloc] at this
    exact this
  obtain ⟨hall, hsum⟩ := counts_zero.1 hf
  have HN : Hid (∀ k, k < 8 → 0 ≤ N k ∧ N k ≤ 6) := hall
  have HX : Hid (∀ W k, k < 8 → Blk W w.heap.size 89 (arr8 N) → W.cell? ⟨w.heap.size, k, none⟩ = some (.int .i64 (N k))) := fun W k hk h => by rw [h.cell, arr8_get _ hk]
  have HD : Hid (∀ (k j : Nat), k < 8 → (j : Int) < N k → ((madeN N k).mores k j).ok = true ∧ ((madeN N k).mores k j).u ≤ 5) := fun k j hk hj => by
    obtain ⟨i1, i2, _⟩ := made_all hall hsum (k := k) (by omega)
    have hm := sumN_mono (N := N) (k := k + 1) (l := 8) (by omega) hall
    have es : sumN N (k + 1) = sumN N k + N k := rfl
    have e := mores_u (madeN N k) k j
    exact ⟨mores_ok i1 k (by rw [i2]; omega), by rw [e, i2]; omega⟩
  have HE : Hid (∀ k, k < 8 → (madeN N k).mores k (N k).toNat = madeN N (k + 1)) := fun k _ => rfl
  have HHs : Hid (∀ (f : Nat) W, f < 8 → Calls Tryd.prog 70 #[.int .i64 f, .int .i64 0] W (fun e w' => e = .returned (.bool (bitB f 0)) ∧ W = w') ∧ Calls Tryd.prog 70 #[.int .i64 f, .int .i64 1] W (fun e w' => e = .returned (.bool (bitB f 1)) ∧ W = w') ∧ Calls Tryd.prog 70 #[.int .i64 f, .int .i64 2] W (fun e w' => e = .returned (.bool (bitB f 2)) ∧ W = w')) := fun f W hf8 => by
    obtain ⟨b0, b1, b2⟩ := has_bit f hf8
    rw [← b0, ← b1, ← b2]
    exact ⟨refHas_any f 0 (by omega) (by omega) (by omega) W, refHas_any f 1 (by omega) (by omega) (by omega) W, refHas_any f 2 (by omega) (by omega) (by omega) W⟩
  clear hf hall hsum hZ
  go_enter Tryd.func48, Tryd.ntmps48
  go_wp2
  rw [← hw1]
  clear hw1
  obtain ⟨G, hG⟩ : ∃ G, G = w.heap.size + 1 + 1 := ⟨_, rfl⟩
  rw [← hG] at HK2 ⊢
  have HG : Hid (w.heap.size + 1 < G) := by unfold Hid; omega
  clear hG
  go_loopw [4] (fun i wr => ∃ k : Nat, k ≤ 8 ∧ i = .int .i64 k ∧ Below w.heap.size w wr ∧ Blk wr w.heap.size 89 (arr8 N) ∧ Blk wr (w.heap.size + 1) 37 (arrW Z) ∧ Blk wr G 37 (arrW (madeN N k))) (fun i _ => 8 - (intOf i).toNat)
  case atStart => exact ⟨0, Nat.zero_le _, rfl, HW.out, HK0.out, HK1.out, HK2.out⟩
  case round =>
    obtain ⟨k, hk, rfl, hb, hp, hr, hm⟩ := hrel
    have HB4 : Hid (Below w.heap.size w wr) := hb
    have HP4 : Hid (Blk wr w.heap.size 89 (arr8 N)) := hp
    have HR4 : Hid (Blk wr (w.heap.size + 1) 37 (arrW Z)) := hr
    have HM4 : Hid (Blk wr G 37 (arrW (madeN N k))) := hm
    clear hb hp hr hm
    by_cases hlt : k < 8
    · have p := HN.out k hlt
      obtain ⟨x, hx⟩ : ∃ x : Nat, (x : Int) = N k := ⟨(N k).toNat, by omega⟩
      have HXk : Hid ((x : Int) = N k) := hx
      have HEk : Hid ((madeN N k).mores k x = madeN N (k + 1)) := by
        have := HE.out k hlt
        rw [show (N k).toNat = x by omega] at this
        exact this
      have hx6 : x ≤ 6 := by omega
      clear hx p
      have HCk : Hid (∀ W, Blk W w.heap.size 89 (arr8 N) → W.cell? ⟨w.heap.size, k, none⟩ = some (.int .i64 (x : Int))) := fun W h => by rw [HXk.out]; exact HX.out W k hlt h
      go_wp2
      rw [show decide ((k : Int) < 8) = true by simp; omega]
      go_loopw [5] (fun i wr => ∃ j : Nat, j ≤ x ∧ i = .int .i64 j ∧ Below w.heap.size w wr ∧ Blk wr w.heap.size 89 (arr8 N) ∧ Blk wr (w.heap.size + 1) 37 (arrW Z) ∧ Blk wr G 37 (arrW ((madeN N k).mores k j))) (fun i _ => x - (intOf i).toNat)
      case atStart => exact ⟨0, Nat.zero_le _, rfl, HB4.out, HP4.out, HR4.out, HM4.out⟩
      case round =>
        obtain ⟨j, hj, rfl, hb, hp, hr, hm⟩ := hrel
        have HB5 : Hid (Below w.heap.size w wr) := hb
        have HP5 : Hid (Blk wr w.heap.size 89 (arr8 N)) := hp
        have HR5 : Hid (Blk wr (w.heap.size + 1) 37 (arrW Z)) := hr
        have HM5 : Hid (Blk wr G 37 (arrW ((madeN N k).mores k j))) := hm
        clear hb hp hr hm
        have yk := HCk.out _ HP5.out
        by_cases hlj : j < x
        · obtain ⟨dok, d5⟩ := HD.out k j hlt (by rw [← HXk.out]; omega)
          obtain ⟨D, hD⟩ : ∃ D, D = (madeN N k).mores k j := ⟨_, rfl⟩
          rw [← hD] at dok d5 HM5
          have HEj : Hid (D.more k = (madeN N k).mores k (j + 1)) := by unfold Hid; rw [hD]; rfl
          clear hD
          obtain ⟨u, a, b, c⟩ := D
          obtain ⟨o1, o2, o3⟩ := Wd.ok_iff.1 dok
          obtain ⟨u0, _, a0, a6⟩ := okB_lt o1
          obtain ⟨_, _, b0, b6⟩ := okB_lt o2
          obtain ⟨_, _, c0, c6⟩ := okB_lt o3
          simp only at u0 a0 a6 b0 b6 c0 c6 d5
          obtain ⟨n, rfl⟩ := Int.eq_ofNat_of_zero_le u0
          have HPw : Hid (∀ W, Calls Tryd.prog 71 #[.int .i64 n] W (fun e w' => e = .returned (.int .i64 (pw n)) ∧ W = w')) := fun W => refPower_any n (by omega) W
          have q1 := pw_pos n
          have q2 := pw_le6 (k := n) (by omega)
          obtain ⟨P, hP⟩ : ∃ P, P = pw n := ⟨_, rfl⟩
          rw [← hP] at HPw q1 q2
          have HMo : Hid ((Wd.mk n a b c).more k = Wd.mk (n + 1) (a + oneB (bitB k 0) * P) (b + oneB (bitB k 1) * P) (c + oneB (bitB k 2) * P)) := by unfold Hid; rw [hP]; rfl
          obtain ⟨x0, hx0⟩ : ∃ x, x = bitB k 0 := ⟨_, rfl⟩
          obtain ⟨x1, hx1⟩ : ∃ x, x = bitB k 1 := ⟨_, rfl⟩
          obtain ⟨x2, hx2⟩ : ∃ x, x = bitB k 2 := ⟨_, rfl⟩
          have HHk : Hid (∀ W, Calls Tryd.prog 70 #[.int .i64 k, .int .i64 0] W (fun e w' => e = .returned (.bool x0) ∧ W = w') ∧ Calls Tryd.prog 70 #[.int .i64 k, .int .i64 1] W (fun e w' => e = .returned (.bool x1) ∧ W = w') ∧ Calls Tryd.prog 70 #[.int .i64 k, .int .i64 2] W (fun e w' => e = .returned (.bool x2) ∧ W = w')) := fun W => by
            rw [hx0, hx1, hx2]; exact HHs.out k W hlt
          rw [← hx0, ← hx1, ← hx2] at HMo
          clear hx0 hx1 hx2 hP dok o1 o2 o3
          have s0 := oneB_le x0
          have s1 := oneB_le x1
          have s2 := oneB_le x2
          go_wp2
          go_loopw [6] (fun i wr => Below w.heap.size w wr ∧ Blk wr w.heap.size 89 (arr8 N) ∧ Blk wr (w.heap.size + 1) 37 (arrW Z) ∧ ((i = .int .i64 0 ∧ Blk wr G 37 (arrW ⟨n, a, b, c⟩)) ∨ (i = .int .i64 1 ∧ Blk wr G 37 (arrW ⟨n, a + oneB x0 * P, b, c⟩)) ∨ (i = .int .i64 2 ∧ Blk wr G 37 (arrW ⟨n, a + oneB x0 * P, b + oneB x1 * P, c⟩)) ∨ (i = .int .i64 3 ∧ Blk wr G 37 (arrW ⟨n, a + oneB x0 * P, b + oneB x1 * P, c + oneB x2 * P⟩)))) (fun i _ => 3 - (intOf i).toNat)
          case atStart => exact ⟨HB5.out, HP5.out, HR5.out, Or.inl ⟨rfl, HM5.out⟩⟩
          case round =>
            clear yk
            obtain ⟨hb, hp, hr, hm⟩ := hrel
            have HB7 : Hid (Below w.heap.size w wr) := hb
            have HP7 : Hid (Blk wr w.heap.size 89 (arr8 N)) := hp
            have HR7 : Hid (Blk wr (w.heap.size + 1) 37 (arrW Z)) := hr
            clear hb hp hr
            rcases hm with ⟨rfl, hm⟩ | ⟨rfl, hm⟩ | ⟨rfl, hm⟩ | ⟨rfl, hm⟩
            · have HM7 : Hid (Blk wr G 37 (arrW ⟨n, a, b, c⟩)) := hm
              clear hm
              obtain ⟨y0, y1, y2, y3⟩ := HM7.out.cells4
              simp only at y0 y1 y2 y3
              have z := HM7.out.frozen 1
              go_wp2_with fail
              go_at_call 70
              refine (HHk.out _).1.mono ?_
              rintro e w' ⟨rfl, rfl⟩
              rcases (Bool.eq_false_or_eq_true x0).symm with hx | hx
              · have HQ : Hid (Blk wr G 37 (arrW ⟨n, a + oneB x0 * P, b, c⟩)) := by
                  have e : a + oneB x0 * P = a := by rw [hx]; simp [oneB]
                  unfold Hid; rw [e]; exact HM7.out
                rw [hx]
                clear hx
                go_wp2
                go_roundw
                case rel => exact ⟨HB7.out, HP7.out, HR7.out, Or.inr (Or.inl ⟨rfl, HQ.out⟩)⟩
                case measure => simp [intOf]
              · have HQ : Hid (∀ W, Blk W G 37 (arrW ⟨n, a, b, c⟩) → Blk (W.setCell ⟨G, 1, none⟩ (.int .i64 (a + P))) G 37 (arrW ⟨n, a + oneB x0 * P, b, c⟩)) := fun W h => by
                  have e : a + oneB x0 * P = a + P := by rw [hx]; simp [oneB]
                  have := h.set 1 (.int .i64 (a + P))
                  rw [arrW_set1] at this
                  rw [e]; exact this
                rw [hx]
                clear hx
                go_wp2_with fail
                go_region_with (go_at_call 71; refine (HPw.out _).mono ?_; rintro e w' ⟨rfl, rfl⟩)
                all_goals
                  go_wp2
                  go_roundw
                  case rel =>
                    have hg := HG.out
                    exact ⟨HB7.out.drew.setCell (by simp; omega) _, HP7.out.drew.far (by omega) _ _, HR7.out.drew.far (by omega) _ _, Or.inr (Or.inl ⟨rfl, HQ.out _ HM7.out.drew⟩)⟩
                  case measure => simp [intOf]
            · have HM7 : Hid (Blk wr G 37 (arrW ⟨n, a + oneB x0 * P, b, c⟩)) := hm
              clear hm
              obtain ⟨y0, y1, y2, y3⟩ := HM7.out.cells4
              simp only at y0 y1 y2 y3
              have z := HM7.out.frozen 2
              go_wp2_with fail
              go_at_call 70
              refine (HHk.out _).2.1.mono ?_
              rintro e w' ⟨rfl, rfl⟩
              rcases (Bool.eq_false_or_eq_true x1).symm with hx | hx
              · have HQ : Hid (Blk wr G 37 (arrW ⟨n, a + oneB x0 * P, b + oneB x1 * P, c⟩)) := by
                  have e : b + oneB x1 * P = b := by rw [hx]; simp [oneB]
                  unfold Hid; rw [e]; exact HM7.out
                rw [hx]
                clear hx
                go_wp2
                go_roundw
                case rel => exact ⟨HB7.out, HP7.out, HR7.out, Or.inr (Or.inr (Or.inl ⟨rfl, HQ.out⟩))⟩
                case measure => simp [intOf]
              · have HQ : Hid (∀ W, Blk W G 37 (arrW ⟨n, a + oneB x0 * P, b, c⟩) → Blk (W.setCell ⟨G, 2, none⟩ (.int .i64 (b + P))) G 37 (arrW ⟨n, a + oneB x0 * P, b + oneB x1 * P, c⟩)) := fun W h => by
                  have e : b + oneB x1 * P = b + P := by rw [hx]; simp [oneB]
                  have := h.set 2 (.int .i64 (b + P))
                  rw [arrW_set2] at this
                  rw [e]; exact this
                rw [hx]
                clear hx
                go_wp2_with fail
                go_region_with (go_at_call 71; refine (HPw.out _).mono ?_; rintro e w' ⟨rfl, rfl⟩)
                all_goals
                  go_wp2
                  go_roundw
                  case rel =>
                    have hg := HG.out
                    exact ⟨HB7.out.drew.setCell (by simp; omega) _, HP7.out.drew.far (by omega) _ _, HR7.out.drew.far (by omega) _ _, Or.inr (Or.inr (Or.inl ⟨rfl, HQ.out _ HM7.out.drew⟩))⟩
                  case measure => simp [intOf]
            · have HM7 : Hid (Blk wr G 37 (arrW ⟨n, a + oneB x0 * P, b + oneB x1 * P, c⟩)) := hm
              clear hm
              obtain ⟨y0, y1, y2, y3⟩ := HM7.out.cells4
              simp only at y0 y1 y2 y3
              have z := HM7.out.frozen 3
              go_wp2_with fail
              go_at_call 70
              refine (HHk.out _).2.2.mono ?_
              rintro e w' ⟨rfl, rfl⟩
              rcases (Bool.eq_false_or_eq_true x2).symm with hx | hx
              · have HQ : Hid (Blk wr G 37 (arrW ⟨n, a + oneB x0 * P, b + oneB x1 * P, c + oneB x2 * P⟩)) := by
                  have e : c + oneB x2 * P = c := by rw [hx]; simp [oneB]
                  unfold Hid; rw [e]; exact HM7.out
                rw [hx]
                clear hx
                go_wp2
                go_roundw
                case rel => exact ⟨HB7.out, HP7.out, HR7.out, Or.inr (Or.inr (Or.inr ⟨rfl, HQ.out⟩))⟩
                case measure => simp [intOf]
              · have HQ : Hid (∀ W, Blk W G 37 (arrW ⟨n, a + oneB x0 * P, b + oneB x1 * P, c⟩) → Blk (W.setCell ⟨G, 3, none⟩ (.int .i64 (c + P))) G 37 (arrW ⟨n, a + oneB x0 * P, b + oneB x1 * P, c + oneB x2 * P⟩)) := fun W h => by
                  have e : c + oneB x2 * P = c + P := by rw [hx]; simp [oneB]
                  have := h.set 3 (.int .i64 (c + P))
                  rw [arrW_set3] at this
                  rw [e]; exact this
                rw [hx]
                clear hx
                go_wp2_with fail
                go_region_with (go_at_call 71; refine (HPw.out _).mono ?_; rintro e w' ⟨rfl, rfl⟩)
                all_goals
                  go_wp2
                  go_roundw
                  case rel =>
                    have hg := HG.out
                    exact ⟨HB7.out.drew.setCell (by simp; omega) _, HP7.out.drew.far (by omega) _ _, HR7.out.drew.far (by omega) _ _, Or.inr (Or.inr (Or.inr ⟨rfl, HQ.out _ HM7.out.drew⟩))⟩
                  case measure => simp [intOf]
            · have HM7 : Hid (Blk wr G 37 (arrW ⟨n, a + oneB x0 * P, b + oneB x1 * P, c + oneB x2 * P⟩)) := hm
              clear hm
              obtain ⟨y0, y1, y2, y3⟩ := HM7.out.cells4
              simp only at y0 y1 y2 y3
              have z := HM7.out.frozen 0
              have HQ : Hid (Blk (wr.setCell ⟨G, 0, none⟩ (.int .i64 ((n : Int) + 1))) G 37 (arrW ((madeN N k).mores k (j + 1)))) := by
                have := HM7.out.set 0 (.int .i64 ((n : Int) + 1))
                rw [arrW_set0, ← HMo.out, HEj.out] at this
                exact this
              go_wp2
              go_roundw
              case rel =>
                have hg := HG.out
                exact ⟨j + 1, by omega, by go_num, HB7.out.setCell (by simp; omega) _, HP7.out.far (by omega) _ _, HR7.out.far (by omega) _ _, HQ.out⟩
              case measure => simp [intOf]; omega
        · obtain rfl : j = x := by omega
          go_wp2
          go_roundw
          case rel => exact ⟨k + 1, by omega, by go_num, HB5.out, HP5.out, HR5.out, by rw [← HEk.out]; exact HM5.out⟩
          case measure => simp [intOf]; omega
    · obtain rfl : k = 8 := by omega
      obtain ⟨D, hD⟩ : ∃ D, D = madeN N 8 := ⟨_, rfl⟩
      rw [← hD] at HM4
      have HDD : Hid (D = madeN N 8) := hD
      clear hD
      obtain ⟨y0, y1, y2, y3⟩ := HM4.out.cells4
      obtain ⟨r0, r1, r2, r3⟩ := HR4.out.cells4
      obtain ⟨f0, f1, f2, f3⟩ := HR4.out.frozen4
      go_wp2
      refine bodyPost_ret (v := .agg (arrW D)) ?_ rfl ⟨by rw [HDD.out], ?_⟩
      · exact results_cell_row rfl _ _ (w.heap.size + 1) 37 (arrW D) (0, 0) _ rfl (putW_blk HR4.out D) Tryd.underlying37 rfl infoW
      · exact putW_below HB4.out (by omega) D
end Go.Proofs.YtjaedfjfcghgcaaDoor

namespace Go.Proofs.YtjaedfjfcghgcaaDoor
open Go.ChangeShapes Go.WideShapes Go.ChangeAt Go.RowKit

/-- the cells of the table of kinds. -/
def kindCells : List Value := [.string ⟨#[]⟩, .bool false, .bool false, .string ⟨#[115, 117, 98]⟩, .bool true, .bool false, .string ⟨#[115, 97, 109, 101]⟩, .bool true, .bool false, .string ⟨#[108, 101, 97, 115, 116]⟩, .bool false, .bool true, .string ⟨#[109, 111, 115, 116]⟩, .bool false, .bool true, .string ⟨#[110, 111, 109, 111, 114, 101]⟩, .bool true, .bool true]
/-- the table lies as it was laid. -/
def KindsLaid (w : World) : Prop := ∀ j, j < 18 → w.cell? ⟨0, j, none⟩ = some (kindCells.getD j .nilIface)
theorem KindsLaid.lt {w : World} (h : KindsLaid w) : 0 < w.heap.size := World.block_lt_of_cell? w ⟨0, 0, none⟩ (h 0 (by decide))
theorem KindsLaid.at {K : Nat} {w w' : World} (h : KindsLaid w) (hb : Below K w w') (hK : w.heap.size ≤ K) : KindsLaid w' := fun j hj => by
  rw [hb.cell (p := ⟨0, j, none⟩) (Nat.lt_of_lt_of_le h.lt hK)]; exact h j hj
theorem KindsLaid.below {w w' : World} (h : KindsLaid w) (hb : Below w.heap.size w w') : KindsLaid w' := h.at hb (Nat.le_refl _)

theorem Reads.slice {w : World} {v : Value} {t : List Int} (h : Reads w v t) : ∃ ao cap, v = .slice ao t.length cap ∧ t.length ≤ 9223372036854775807 := by
  rcases h with ⟨ao, cap, rfl, rfl⟩ | ⟨b, off, cap, rfl, _, _, h, _⟩
  · exact ⟨ao, cap, rfl, by simp⟩
  · exact ⟨_, cap, rfl, h.1⟩
theorem errV_0 : errV 0 = .nilIface := rfl

set_option maxRecDepth 100000
/-- what a kind has, in the table. -/
theorem kind_has {W : World} (h : KindsLaid W) {k : Nat} (h1 : 0 < k) (h6 : k < 6) : W.cell? ⟨0, k * 3 + 1, none⟩ = some (.bool (secondB k)) ∧ W.cell? ⟨0, k * 3 + 2, none⟩ = some (.bool (numberB k)) := by
  rcases (by omega : k = 1 ∨ k = 2 ∨ k = 3 ∨ k = 4 ∨ k = 5) with rfl | rfl | rfl | rfl | rfl <;> exact ⟨h _ (by decide), h _ (by decide)⟩
theorem csecond_in (k : Nat) (h6 : k < 6) (n : Int) (sao tao : Option Addr) (sl scap tl tcap : Nat) (b : Bool) (E : Value) (w : World) (hl : tl ≤ 9223372036854775807)
    (hq : ∀ W, Below w.heap.size w W → W.cell? ⟨0, k * 3 + 1, none⟩ = some (.bool b))
    (HC : Hid (b = true → ∀ W, Below w.heap.size w W → Calls Tryd.prog 17 #[.slice tao tl tcap] W fun e w' => e = .returned E ∧ W = w'))
    (HE : Hid (b = false → E = errV (if 0 < tl then 3 else 0))) :
    Calls Tryd.prog 82 #[.agg #[.int .i64 (k : Int), .slice sao sl scap, .slice tao tl tcap, .int .i64 n]] w fun e w' => e = .returned E ∧ Below w.heap.size w w' := by
  obtain ⟨w1, hw1⟩ : ∃ w1, w1 = w.alloc (.cells #[.int .i64 (k : Int), .slice sao sl scap, .slice tao tl tcap, .int .i64 n] 39) := ⟨_, rfl⟩
  have HB : Hid (Below w.heap.size w w1) := by unfold Hid; rw [hw1]; exact below_alloc1 w _
  have q := hq w1 HB.out
  obtain ⟨x0, x2⟩ : w1.cell? ⟨w.heap.size, 0, none⟩ = some (.int .i64 (k : Int)) ∧ w1.cell? ⟨w.heap.size, 2, none⟩ = some (.slice tao tl tcap) := by rw [hw1]; simp
  clear hq
  cases b
  · have he := HE.out rfl
    by_cases h : 0 < tl
    · rw [if_pos h] at he
      subst he
      go_enter Tryd.func82, Tryd.ntmps82
      go_upto_region 1 with fail
      rw [← hw1]
      clear hw1
      go_wp2
      go_ret
      exact ⟨rfl, HB.out⟩
    · rw [if_neg h] at he
      subst he
      obtain rfl : tl = 0 := by omega
      go_enter Tryd.func82, Tryd.ntmps82
      go_upto_region 1 with fail
      rw [← hw1]
      clear hw1
      go_wp2
      go_ret
      exact ⟨rfl, HB.out⟩
  · have HC' : Hid (Calls Tryd.prog 17 #[.slice tao tl tcap] w1 fun e w' => e = .returned E ∧ w1 = w') := HC.out rfl w1 HB.out
    go_enter Tryd.func82, Tryd.ntmps82
    go_upto_region 1 with fail
    rw [← hw1]
    clear hw1
    go_wp2_with (go_at_call 17; refine HC'.out.mono ?_; rintro e w' ⟨rfl, rfl⟩)
    go_ret
    exact ⟨rfl, HB.out⟩
theorem csecond_any (k n : Int) (vs vt : Value) (s t : List Int) (w : World) (hk : 1 ≤ k ∧ k ≤ 5) (hS : Reads w vs s) (hT : Reads w vt t) (hK : KindsLaid w) :
    Calls Tryd.prog 82 #[.agg #[.int .i64 k, vs, vt, .int .i64 n]] w fun e w' => e = .returned (errV (secondFault k t)) ∧ Below w.heap.size w w' := by
  obtain ⟨k, rfl⟩ := Int.eq_ofNat_of_zero_le (show 0 ≤ k by omega)
  have hC := fun W (hW : Below w.heap.size w W) => tcheck_any t vt W (hT.below hW)
  obtain ⟨sao, scap, rfl, _⟩ := hS.slice
  obtain ⟨tao, tcap, rfl, hl⟩ := hT.slice
  refine csecond_in k (by omega) n sao tao _ scap _ tcap (secondB k) _ w hl (fun W hW => (kind_has (hK.below hW) (by omega) (by omega)).1) (fun hb W hW => ?_) fun hb => ?_
  · have e : secondFault (k : Int) t = faultN t := by unfold secondFault; rw [if_pos hb]
    rw [e]; exact hC W hW
  · unfold secondFault; rw [hb]; rfl
theorem acheck_kind (k : Int) (n : Int) (sao tao : Option Addr) (sl scap tl tcap : Nat) (w : World) (hk : ¬ (1 ≤ k ∧ k ≤ 5)) :
    Calls Tryd.prog 55 #[.agg #[.int .i64 k, .slice sao sl scap, .slice tao tl tcap, .int .i64 n]] w fun e w' => e = .returned (.iface 64 (.int .i64 1)) ∧ Below w.heap.size w w' := by
  have HB : Hid (Below w.heap.size w (w.alloc (.cells #[.int .i64 k, .slice sao sl scap, .slice tao tl tcap, .int .i64 n] 39))) := below_alloc1 w _
  by_cases h : k < 1
  · clear hk
    go_enter Tryd.func55, Tryd.ntmps55
    go_wp2
    go_ret
    exact ⟨rfl, HB.out⟩
  · have h5 : 5 < k := by omega
    clear hk
    go_enter Tryd.func55, Tryd.ntmps55
    go_wp2
    go_ret
    exact ⟨rfl, HB.out⟩
theorem acheck_in (k : Nat) (h1 : 0 < k) (h6 : k < 6) (n : Int) (sao tao : Option Addr) (sl scap tl tcap : Nat) (b : Bool) (F1 F2 : Int) (w : World)
    (hq : ∀ W, Below w.heap.size w W → W.cell? ⟨0, k * 3 + 2, none⟩ = some (.bool b))
    (HC : Hid (∀ W, Below w.heap.size w W → Calls Tryd.prog 17 #[.slice sao sl scap] W fun e w' => e = .returned (errV F1) ∧ W = w'))
    (HS : Hid (∀ W, Below w.heap.size w W → Calls Tryd.prog 82 #[.agg #[.int .i64 (k : Int), .slice sao sl scap, .slice tao tl tcap, .int .i64 n]] W fun e w' => e = .returned (errV F2) ∧ Below W.heap.size W w')) :
    Calls Tryd.prog 55 #[.agg #[.int .i64 (k : Int), .slice sao sl scap, .slice tao tl tcap, .int .i64 n]] w fun e w' => e = .returned (errV (if F1 = 0 then (if F2 = 0 then (if - (if b = true then 20 else 0) ≤ n ∧ n ≤ (if b = true then 20 else 0) then 0 else 1) else F2) else F1)) ∧ Below w.heap.size w w' := by
  obtain ⟨w1, hw1⟩ : ∃ w1, w1 = w.alloc (.cells #[.int .i64 (k : Int), .slice sao sl scap, .slice tao tl tcap, .int .i64 n] 39) := ⟨_, rfl⟩
  have HB : Hid (Below w.heap.size w w1) := by unfold Hid; rw [hw1]; exact below_alloc1 w _
  have HQ : Hid (∀ W, Below w1.heap.size w1 W → W.cell? ⟨0, k * 3 + 2, none⟩ = some (.bool b)) := fun W hW => hq W (HB.out.trans (hW.mono HB.out.size))
  have HX : Hid (∀ W, Below w1.heap.size w1 W → W.cell? ⟨w.heap.size, 0, none⟩ = some (.int .i64 (k : Int)) ∧ W.cell? ⟨w.heap.size, 1, none⟩ = some (.slice sao sl scap) ∧ W.cell? ⟨w.heap.size, 2, none⟩ = some (.slice tao tl tcap) ∧ W.cell? ⟨w.heap.size, 3, none⟩ = some (.int .i64 n)) := fun W hW => by
    have hl : w.heap.size < w1.heap.size := by rw [hw1]; simp
    refine ⟨(hW.cell hl).trans ?_, (hW.cell hl).trans ?_, (hW.cell hl).trans ?_, (hW.cell hl).trans ?_⟩ <;> (rw [hw1]; simp)
  have HC1 : Hid (Calls Tryd.prog 17 #[.slice sao sl scap] w1 fun e w' => e = .returned (errV F1) ∧ w1 = w') := HC.out w1 HB.out
  have HS1 : Hid (Calls Tryd.prog 82 #[.agg #[.int .i64 (k : Int), .slice sao sl scap, .slice tao tl tcap, .int .i64 n]] w1 fun e w' => e = .returned (errV F2) ∧ Below w1.heap.size w1 w') := HS.out w1 HB.out
  obtain ⟨x0, x1, x2, x3⟩ := HX.out w1 (Below.refl _ _)
  obtain ⟨M, hM⟩ : ∃ M : Int, M = if b = true then 20 else 0 := ⟨_, rfl⟩
  rw [← hM]
  obtain ⟨R, hR⟩ : ∃ R, R = errV (if F1 = 0 then (if F2 = 0 then (if - M ≤ n ∧ n ≤ M then 0 else 1) else F2) else F1) := ⟨_, rfl⟩
  rw [← hR]
  have HR : Hid (R = errV (if F1 = 0 then (if F2 = 0 then (if - M ≤ n ∧ n ≤ M then 0 else 1) else F2) else F1)) := hR
  clear hq HC HS hR
  go_enter Tryd.func55, Tryd.ntmps55
  go_upto_region 1 with fail
  rw [← hw1]
  clear hw1
  go_wp2_with fail
  go_at_call 17
  refine HC1.out.mono ?_
  rintro e w' ⟨rfl, rfl⟩
  by_cases e1 : F1 = 0
  · have H1 : Hid (F1 = 0) := e1
    rw [show errV F1 = .nilIface by rw [e1]; rfl]
    clear e1
    go_wp2_with fail
    go_at_call 82
    refine HS1.out.mono ?_
    rintro e w2 ⟨rfl, hb⟩
    have HB2 : Hid (Below w.heap.size w w2) := HB.out.trans (hb.mono HB.out.size)
    have q := HQ.out w2 hb
    clear x0 x1 x2 x3
    obtain ⟨x0, x1, x2, x3⟩ := HX.out w2 hb
    clear hb
    by_cases e2 : F2 = 0
    · have H2 : Hid (F2 = 0) := e2
      rw [show errV F2 = .nilIface by rw [e2]; rfl]
      clear e2
      have H3 : Hid (R = errV (if - M ≤ n ∧ n ≤ M then 0 else 1)) := by unfold Hid; rw [HR.out, if_pos H1.out, if_pos H2.out]
      clear HR H1 H2
      by_cases g1 : n < - M
      · have H4 : Hid (.iface 64 (.int .i64 1) = R) := by unfold Hid; rw [H3.out, if_neg (by omega)]; rfl
        cases b <;> (simp at hM; subst hM; go_wp2; go_ret; exact ⟨back_v H4.out, HB2.out⟩)
      by_cases g2 : M < n
      · have H4 : Hid (.iface 64 (.int .i64 1) = R) := by unfold Hid; rw [H3.out, if_neg (by omega)]; rfl
        cases b <;> (simp at hM; subst hM; go_wp2; go_ret; exact ⟨back_v H4.out, HB2.out⟩)
      · have H4 : Hid (.nilIface = R) := by unfold Hid; rw [H3.out, if_pos (by omega)]; rfl
        cases b <;> (simp at hM; subst hM; go_wp2; go_ret; exact ⟨back_v H4.out, HB2.out⟩)
    · have H4 : Hid (.iface 64 (.int .i64 F2) = R) := by unfold Hid; rw [HR.out, if_pos H1.out, if_neg e2, errV_no e2]
      rw [errV_no e2]
      clear e2 hM
      go_wp2
      go_ret
      exact ⟨back_v H4.out, HB2.out⟩
  · have H4 : Hid (.iface 64 (.int .i64 F1) = R) := by unfold Hid; rw [HR.out, if_neg e1, errV_no e1]
    rw [errV_no e1]
    clear e1 hM
    go_wp2
    go_ret
    exact ⟨back_v H4.out, HB.out⟩
/-- Check, whatever the atom. -/
theorem acheck_any (k n : Int) (vs vt : Value) (s t : List Int) (w : World) (hS : Reads w vs s) (hT : Reads w vt t) (hK : KindsLaid w) :
    Calls Tryd.prog 55 #[.agg #[.int .i64 k, vs, vt, .int .i64 n]] w fun e w' => e = .returned (errV (atomFault k s t n)) ∧ Below w.heap.size w w' := by
  have hC := fun W (hW : Below w.heap.size w W) => tcheck_any s vs W (hS.below hW)
  have hS2 := fun h W (hW : Below w.heap.size w W) => csecond_any k n vs vt s t W h (hS.below hW) (hT.below hW) (hK.below hW)
  obtain ⟨sao, scap, rfl, _⟩ := hS.slice
  obtain ⟨tao, tcap, rfl, hl⟩ := hT.slice
  by_cases hk : 1 ≤ k ∧ k ≤ 5
  · unfold atomFault mostN
    rw [if_pos hk]
    obtain ⟨k, rfl⟩ := Int.eq_ofNat_of_zero_le (show 0 ≤ k by omega)
    exact acheck_in k (by omega) (by omega) n sao tao _ scap _ tcap (numberB k) _ _ w (fun W hW => (kind_has (hK.below hW) (by omega) (by omega)).2) hC (hS2 hk)
  · rw [atomFault_kind hk, errV_no (by decide)]
    exact acheck_kind k n sao tao _ scap _ tcap w hk
end Go.Proofs.YtjaedfjfcghgcaaDoor
