/-
  Facts and contracts that the statement leans on.
-/
import Derived.Test.YtjmeakkmfeoigaaGreatDoorLibA5
import Derived.Test.YtjmeakkmfeoigaaGreatDoorLibA8
import Derived.Deep.RegionWith
import Derived.Test.YtjmeakkmfeoigaaGreatDoorLibA4
import Derived.Test.YtjmeakkmfeoigaaGreatDoorLibA6
import Derived.Test.YtjmeakkmfeoigaaGreatDoorLibA1
namespace Go.Proofs.YtjmeakkmfeoigaaGreatDoor
open Go.ChangeShapes Go.WideShapes Go.ChangeAt Go.RowKit
theorem field_int (w : Wd) (i : Nat) : (w.field i : Int) = oneB (hasB w.a i) + 2 * oneB (hasB w.b i) + 4 * oneB (hasB w.c i) := by
 unfold Wd.field
 cases hasB w.a i <;> cases hasB w.b i <;> cases hasB w.c i <;> decide
theorem info8 : (Tryz.prog.info? 122).map (·.size) = some 8 := by kernel_rfl
theorem infoW : (Tryz.prog.info? 55).map (·.size) = some 4 := by kernel_rfl
theorem sum_three {x y z : Bool} : oneB x + 2 * oneB y + 4 * oneB z = oneB x + oneB y * 2 + oneB z * 4 := by omega
end Go.Proofs.YtjmeakkmfeoigaaGreatDoor
namespace Go.Proofs.YtjmeakkmfeoigaaGreatDoor
open Go.ChangeShapes Go.WideShapes Go.ChangeAt Go.RowKit
theorem has_bit : ∀ f : Nat, f < 8 → hasB (f : Int) ((0 : Nat) : Int) = bitB f 0 ∧ hasB (f : Int) ((1 : Nat) : Int) = bitB f 1 ∧ hasB (f : Int) ((2 : Nat) : Int) = bitB f 2 := by decide +kernel
theorem arrW_set0 (u a b c x : Int) : (arrW ⟨u, a, b, c⟩).setIfInBounds 0 (.int .i64 x) = arrW ⟨x, a, b, c⟩ := by simp [arrW]
theorem arrW_set1 (u a b c x : Int) : (arrW ⟨u, a, b, c⟩).setIfInBounds 1 (.int .i64 x) = arrW ⟨u, x, b, c⟩ := by simp [arrW]
theorem arrW_set2 (u a b c x : Int) : (arrW ⟨u, a, b, c⟩).setIfInBounds 2 (.int .i64 x) = arrW ⟨u, a, x, c⟩ := by simp [arrW]
theorem arrW_set3 (u a b c x : Int) : (arrW ⟨u, a, b, c⟩).setIfInBounds 3 (.int .i64 x) = arrW ⟨u, a, b, x⟩ := by simp [arrW]
set_option maxRecDepth 100000 in
set_option maxHeartbeats 4000000 in
theorem refMade_right (N : Nat → Int) (w : World) (hf : countsFault N = 0) :
    Calls Tryz.prog 72 #[.agg #[.int .i64 (N 0), .int .i64 (N 1), .int .i64 (N 2), .int .i64 (N 3), .int .i64 (N 4), .int .i64 (N 5), .int .i64 (N 6), .int .i64 (N 7)]] w (Bk w (.agg (arrW (madeN N 8)))) := by
 obtain ⟨Z, hZ⟩ : ∃ Z : Wd, Z = ⟨0, 0, 0, 0⟩ := ⟨_, rfl⟩
 obtain ⟨w1, hw1⟩ := nm (((w.alloc (.cells #[.int .i64 (N 0), .int .i64 (N 1), .int .i64 (N 2), .int .i64 (N 3), .int .i64 (N 4), .int .i64 (N 5), .int .i64 (N 6), .int .i64 (N 7)] 122)).alloc (.cells #[.int .i64 0, .int .i64 0, .int .i64 0, .int .i64 0] 55)).alloc (.cells #[.int .i64 0, .int .i64 0, .int .i64 0, .int .i64 0] 55))
 have HW : Hid (Below w.heap.size w w1) := by unfold Hid; rw [hw1]; exact ((below_alloc1 _ _).alloc (by simp) _).alloc (by simp; omega) _
 have HK0 : Hid (Blk w1 w.heap.size 122 (arr8 N)) := by unfold Hid; rw [hw1]; exact ((Blk.new _ _ _).old _).old _
 have HK1 : Hid (Blk w1 (w.heap.size + 1) 55 (arrW Z)) := by
  unfold Hid; rw [hw1, hZ]
  have := Blk.new (w.alloc (.cells (arr8 N) 122)) 55 (arrW ⟨0, 0, 0, 0⟩)
  simp only [World.size_alloc] at this
  exact this.old _
 have HK2 : Hid (Blk w1 (w.heap.size + 1 + 1) 55 (arrW (madeN N 0))) := by
  unfold Hid; rw [hw1]
  have := Blk.new ((w.alloc (.cells (arr8 N) 122)).alloc (.cells (arrW ⟨0, 0, 0, 0⟩) 55)) 55 (arrW ⟨0, 0, 0, 0⟩)
  simp only [World.size_alloc] at this
  exact this
 obtain ⟨hall, hsum⟩ := counts_zero.1 hf
 have HN := hide hall
 have HX : Hid (∀ W k, k < 8 → Blk W w.heap.size 122 (arr8 N) → W.cell? ⟨w.heap.size, k, none⟩ = some (.int .i64 (N k))) := fun W k hk h => by rw [h.cell, arr8_get _ hk]
 have HD : Hid (∀ (k j : Nat), k < 8 → (j : Int) < N k → ((madeN N k).mores k j).ok = true ∧ ((madeN N k).mores k j).u ≤ 5) := fun k j hk hj => by
  obtain ⟨i1, i2, _⟩ := made_all hall hsum (k := k) (by omega)
  have hm := sumN_mono (N := N) (k := k + 1) (l := 8) (by omega) hall
  have es : sumN N (k + 1) = sumN N k + N k := rfl
  have e := mores_u (madeN N k) k j
  exact ⟨mores_ok i1 k (by rw [i2]; omega), by rw [e, i2]; omega⟩
 have HE : Hid (∀ k, k < 8 → (madeN N k).mores k (N k).toNat = madeN N (k + 1)) := fun k _ => rfl
 have HHs : Hid (∀ (f : Nat) W, f < 8 → Calls Tryz.prog 112 #[.int .i64 f, .int .i64 0] W ((Sk W (.bool (bitB f 0)))) ∧ Calls Tryz.prog 112 #[.int .i64 f, .int .i64 1] W ((Sk W (.bool (bitB f 1)))) ∧ Calls Tryz.prog 112 #[.int .i64 f, .int .i64 2] W ((Sk W (.bool (bitB f 2))))) := fun f W hf8 => by
  obtain ⟨b0, b1, b2⟩ := has_bit f hf8
  rw [← b0, ← b1, ← b2]
  exact ⟨refHas_any f 0 (by omega) (by omega) (by omega) W, refHas_any f 1 (by omega) (by omega) (by omega) W, refHas_any f 2 (by omega) (by omega) (by omega) W⟩
 clear hf hall hsum hZ
 go_enter Tryz.func72, Tryz.ntmps72
 go_wp2
 rw [← hw1]
 clear hw1
 obtain ⟨G, hG⟩ := nm (w.heap.size + 1 + 1)
 rw [← hG] at HK2 ⊢
 have HG : Hid (w.heap.size + 1 < G) := by unfold Hid; omega
 clear hG
 go_loopw [4] (fun i wr => ∃ k : Nat, k ≤ 8 ∧ i = .int .i64 k ∧ Below w.heap.size w wr ∧ Blk wr w.heap.size 122 (arr8 N) ∧ Blk wr (w.heap.size + 1) 55 (arrW Z) ∧ Blk wr G 55 (arrW (madeN N k))) (fun i _ => 8 - (intOf i).toNat)
 case atStart => exact ⟨0, Nat.zero_le _, rfl, HW.out, HK0.out, HK1.out, HK2.out⟩
 case round =>
  obtain ⟨k, hk, rfl, hb, hp, hr, hm⟩ := hrel
  have HB4 := hide hb
  have HP4 : Hid (Blk wr w.heap.size 122 (arr8 N)) := hp
  have HR4 : Hid (Blk wr (w.heap.size + 1) 55 (arrW Z)) := hr
  have HM4 : Hid (Blk wr G 55 (arrW (madeN N k))) := hm
  clear hb hp hr hm
  by_cases hlt : k < 8
  ·have p := HN.out k hlt
   obtain ⟨x, hx⟩ : ∃ x : Nat, (x : Int) = N k := ⟨(N k).toNat, by omega⟩
   have HXk := hide hx
   have HEk : Hid ((madeN N k).mores k x = madeN N (k + 1)) := by
    have := HE.out k hlt
    rw [show (N k).toNat = x by omega] at this
    exact this
   have hx6 : x ≤ 6 := by omega
   clear hx p
   have HCk : Hid (∀ W, Blk W w.heap.size 122 (arr8 N) → W.cell? ⟨w.heap.size, k, none⟩ = some (.int .i64 (x : Int))) := fun W h => by rw [HXk.out]; exact HX.out W k hlt h
   go_wp2
   rw [show decide ((k : Int) < 8) = true by simp; omega]
   go_loopw [5] (fun i wr => ∃ j : Nat, j ≤ x ∧ i = .int .i64 j ∧ Below w.heap.size w wr ∧ Blk wr w.heap.size 122 (arr8 N) ∧ Blk wr (w.heap.size + 1) 55 (arrW Z) ∧ Blk wr G 55 (arrW ((madeN N k).mores k j))) (fun i _ => x - (intOf i).toNat)
   case atStart => exact ⟨0, Nat.zero_le _, rfl, HB4.out, HP4.out, HR4.out, HM4.out⟩
   case round =>
    obtain ⟨j, hj, rfl, hb, hp, hr, hm⟩ := hrel
    have HB5 := hide hb
    have HP5 : Hid (Blk wr w.heap.size 122 (arr8 N)) := hp
    have HR5 : Hid (Blk wr (w.heap.size + 1) 55 (arrW Z)) := hr
    have HM5 : Hid (Blk wr G 55 (arrW ((madeN N k).mores k j))) := hm
    clear hb hp hr hm
    have yk := HCk.out _ HP5.out
    by_cases hlj : j < x
    ·obtain ⟨dok, d5⟩ := HD.out k j hlt (by rw [← HXk.out]; omega)
     obtain ⟨D, hD⟩ := nm ((madeN N k).mores k j)
     rw [← hD] at dok d5 HM5
     have HEj : Hid (D.more k = (madeN N k).mores k (j + 1)) := by unfold Hid; rw [hD]; rfl
     clear hD
     obtain ⟨u, a, b, c⟩ := D
     obtain ⟨o1, o2, o3⟩ := Wd.ok_iff.1 dok
     obtain ⟨u0, _, a0, a6⟩ := okB_lt o1
     obtain ⟨_, _, b0, b6⟩ := okB_lt o2
     obtain ⟨_, _, c0, c6⟩ := okB_lt o3
     simp only at u0 a0 a6 b0 b6 c0 c6 d5
     obtain ⟨n, rfl⟩ := Int.eq_ofNat_of_zero_le u0
     have HPw : Hid (∀ W, Calls Tryz.prog 113 #[.int .i64 n] W ((Sk W (.int .i64 (pw n))))) := fun W => refPower_any n (by omega) W
     have q1 := pw_pos n
     have q2 := pw_le6 (k := n) (by omega)
     obtain ⟨P, hP⟩ := nm (pw n)
     rw [← hP] at HPw q1 q2
     have HMo : Hid ((Wd.mk n a b c).more k = Wd.mk (n + 1) (a + oneB (bitB k 0) * P) (b + oneB (bitB k 1) * P) (c + oneB (bitB k 2) * P)) := by unfold Hid; rw [hP]; rfl
     obtain ⟨x0, hx0⟩ := nm (bitB k 0)
     obtain ⟨x1, hx1⟩ := nm (bitB k 1)
     obtain ⟨x2, hx2⟩ := nm (bitB k 2)
     have HHk : Hid (∀ W, Calls Tryz.prog 112 #[.int .i64 k, .int .i64 0] W ((Sk W (.bool x0))) ∧ Calls Tryz.prog 112 #[.int .i64 k, .int .i64 1] W ((Sk W (.bool x1))) ∧ Calls Tryz.prog 112 #[.int .i64 k, .int .i64 2] W ((Sk W (.bool x2)))) := fun W => by
      rw [hx0, hx1, hx2]; exact HHs.out k W hlt
     rw [← hx0, ← hx1, ← hx2] at HMo
     clear hx0 hx1 hx2 hP dok o1 o2 o3
     have s0 := oneB_le x0
     have s1 := oneB_le x1
     have s2 := oneB_le x2
     go_wp2
     go_loopw [6] (fun i wr => Below w.heap.size w wr ∧ Blk wr w.heap.size 122 (arr8 N) ∧ Blk wr (w.heap.size + 1) 55 (arrW Z) ∧ ((i = .int .i64 0 ∧ Blk wr G 55 (arrW ⟨n, a, b, c⟩)) ∨ (i = .int .i64 1 ∧ Blk wr G 55 (arrW ⟨n, a + oneB x0 * P, b, c⟩)) ∨ (i = .int .i64 2 ∧ Blk wr G 55 (arrW ⟨n, a + oneB x0 * P, b + oneB x1 * P, c⟩)) ∨ (i = .int .i64 3 ∧ Blk wr G 55 (arrW ⟨n, a + oneB x0 * P, b + oneB x1 * P, c + oneB x2 * P⟩)))) (fun i _ => 3 - (intOf i).toNat)
     case atStart => exact ⟨HB5.out, HP5.out, HR5.out, Or.inl ⟨rfl, HM5.out⟩⟩
     case round =>
      clear yk
      obtain ⟨hb, hp, hr, hm⟩ := hrel
      have HB7 := hide hb
      have HP7 : Hid (Blk wr w.heap.size 122 (arr8 N)) := hp
      have HR7 : Hid (Blk wr (w.heap.size + 1) 55 (arrW Z)) := hr
      clear hb hp hr
      rcases hm with ⟨rfl, hm⟩ | ⟨rfl, hm⟩ | ⟨rfl, hm⟩ | ⟨rfl, hm⟩
      ·have HM7 : Hid (Blk wr G 55 (arrW ⟨n, a, b, c⟩)) := hm
       clear hm
       obtain ⟨y0, y1, y2, y3⟩ := HM7.out.cells4
       simp only at y0 y1 y2 y3
       have z := HM7.out.frozen 1
       go_wp2_with fail
       go_at_call 112
       refine (HHk.out _).1.mono ?_
       rintro e w' ⟨rfl, rfl⟩
       rcases (Bool.eq_false_or_eq_true x0).symm with hx | hx
       ·have HQ : Hid (Blk wr G 55 (arrW ⟨n, a + oneB x0 * P, b, c⟩)) := by
         have e : a + oneB x0 * P = a := by rw [hx]; simp [oneB]
         unfold Hid; rw [e]; exact HM7.out
        rw [hx]
        clear hx
        go_wp2
        go_roundw
        case rel => exact ⟨HB7.out, HP7.out, HR7.out, Or.inr (Or.inl ⟨rfl, HQ.out⟩)⟩
        case measure => simp [intOf]
       ·have HQ : Hid (∀ W, Blk W G 55 (arrW ⟨n, a, b, c⟩) → Blk (W.setCell ⟨G, 1, none⟩ (.int .i64 (a + P))) G 55 (arrW ⟨n, a + oneB x0 * P, b, c⟩)) := fun W h => by
         have e : a + oneB x0 * P = a + P := by rw [hx]; simp [oneB]
         have := h.set 1 (.int .i64 (a + P))
         rw [arrW_set1] at this
         rw [e]; exact this
        rw [hx]
        clear hx
        go_wp2_with fail
        go_region_with (go_at_call 113; refine (HPw.out _).mono ?_; rintro e w' ⟨rfl, rfl⟩)
        all_goals
         go_wp2
         go_roundw
         case rel =>
          have hg := HG.out
          exact ⟨HB7.out.drew.setCell (by simp; omega) _, HP7.out.drew.far (by omega) _ _, HR7.out.drew.far (by omega) _ _, Or.inr (Or.inl ⟨rfl, HQ.out _ HM7.out.drew⟩)⟩
         case measure => simp [intOf]
      ·have HM7 : Hid (Blk wr G 55 (arrW ⟨n, a + oneB x0 * P, b, c⟩)) := hm
       clear hm
       obtain ⟨y0, y1, y2, y3⟩ := HM7.out.cells4
       simp only at y0 y1 y2 y3
       have z := HM7.out.frozen 2
       go_wp2_with fail
       go_at_call 112
       refine (HHk.out _).2.1.mono ?_
       rintro e w' ⟨rfl, rfl⟩
       rcases (Bool.eq_false_or_eq_true x1).symm with hx | hx
       ·have HQ : Hid (Blk wr G 55 (arrW ⟨n, a + oneB x0 * P, b + oneB x1 * P, c⟩)) := by
         have e : b + oneB x1 * P = b := by rw [hx]; simp [oneB]
         unfold Hid; rw [e]; exact HM7.out
        rw [hx]
        clear hx
        go_wp2
        go_roundw
        case rel => exact ⟨HB7.out, HP7.out, HR7.out, Or.inr (Or.inr (Or.inl ⟨rfl, HQ.out⟩))⟩
        case measure => simp [intOf]
       ·have HQ : Hid (∀ W, Blk W G 55 (arrW ⟨n, a + oneB x0 * P, b, c⟩) → Blk (W.setCell ⟨G, 2, none⟩ (.int .i64 (b + P))) G 55 (arrW ⟨n, a + oneB x0 * P, b + oneB x1 * P, c⟩)) := fun W h => by
         have e : b + oneB x1 * P = b + P := by rw [hx]; simp [oneB]
         have := h.set 2 (.int .i64 (b + P))
         rw [arrW_set2] at this
         rw [e]; exact this
        rw [hx]
        clear hx
        go_wp2_with fail
        go_region_with (go_at_call 113; refine (HPw.out _).mono ?_; rintro e w' ⟨rfl, rfl⟩)
        all_goals
         go_wp2
         go_roundw
         case rel =>
          have hg := HG.out
          exact ⟨HB7.out.drew.setCell (by simp; omega) _, HP7.out.drew.far (by omega) _ _, HR7.out.drew.far (by omega) _ _, Or.inr (Or.inr (Or.inl ⟨rfl, HQ.out _ HM7.out.drew⟩))⟩
         case measure => simp [intOf]
      ·have HM7 : Hid (Blk wr G 55 (arrW ⟨n, a + oneB x0 * P, b + oneB x1 * P, c⟩)) := hm
       clear hm
       obtain ⟨y0, y1, y2, y3⟩ := HM7.out.cells4
       simp only at y0 y1 y2 y3
       have z := HM7.out.frozen 3
       go_wp2_with fail
       go_at_call 112
       refine (HHk.out _).2.2.mono ?_
       rintro e w' ⟨rfl, rfl⟩
       rcases (Bool.eq_false_or_eq_true x2).symm with hx | hx
       ·have HQ : Hid (Blk wr G 55 (arrW ⟨n, a + oneB x0 * P, b + oneB x1 * P, c + oneB x2 * P⟩)) := by
         have e : c + oneB x2 * P = c := by rw [hx]; simp [oneB]
         unfold Hid; rw [e]; exact HM7.out
        rw [hx]
        clear hx
        go_wp2
        go_roundw
        case rel => exact ⟨HB7.out, HP7.out, HR7.out, Or.inr (Or.inr (Or.inr ⟨rfl, HQ.out⟩))⟩
        case measure => simp [intOf]
       ·have HQ : Hid (∀ W, Blk W G 55 (arrW ⟨n, a + oneB x0 * P, b + oneB x1 * P, c⟩) → Blk (W.setCell ⟨G, 3, none⟩ (.int .i64 (c + P))) G 55 (arrW ⟨n, a + oneB x0 * P, b + oneB x1 * P, c + oneB x2 * P⟩)) := fun W h => by
         have e : c + oneB x2 * P = c + P := by rw [hx]; simp [oneB]
         have := h.set 3 (.int .i64 (c + P))
         rw [arrW_set3] at this
         rw [e]; exact this
        rw [hx]
        clear hx
        go_wp2_with fail
        go_region_with (go_at_call 113; refine (HPw.out _).mono ?_; rintro e w' ⟨rfl, rfl⟩)
        all_goals
         go_wp2
         go_roundw
         case rel =>
          have hg := HG.out
          exact ⟨HB7.out.drew.setCell (by simp; omega) _, HP7.out.drew.far (by omega) _ _, HR7.out.drew.far (by omega) _ _, Or.inr (Or.inr (Or.inr ⟨rfl, HQ.out _ HM7.out.drew⟩))⟩
         case measure => simp [intOf]
      ·have HM7 : Hid (Blk wr G 55 (arrW ⟨n, a + oneB x0 * P, b + oneB x1 * P, c + oneB x2 * P⟩)) := hm
       clear hm
       obtain ⟨y0, y1, y2, y3⟩ := HM7.out.cells4
       simp only at y0 y1 y2 y3
       have z := HM7.out.frozen 0
       have HQ : Hid (Blk (wr.setCell ⟨G, 0, none⟩ (.int .i64 ((n : Int) + 1))) G 55 (arrW ((madeN N k).mores k (j + 1)))) := by
        have := HM7.out.set 0 (.int .i64 ((n : Int) + 1))
        rw [arrW_set0, ← HMo.out, HEj.out] at this
        exact this
       go_wp2
       go_roundw
       case rel =>
        have hg := HG.out
        exact ⟨j + 1, by omega, by go_num, HB7.out.setCell (by simp; omega) _, HP7.out.far (by omega) _ _, HR7.out.far (by omega) _ _, HQ.out⟩
       case measure => simp [intOf]; omega
    ·obtain rfl : j = x := by omega
     go_wp2
     go_roundw
     case rel => exact ⟨k + 1, by omega, by go_num, HB5.out, HP5.out, HR5.out, by rw [← HEk.out]; exact HM5.out⟩
     case measure => simp [intOf]; omega
  ·obtain rfl : k = 8 := by omega
   obtain ⟨D, hD⟩ := nm (madeN N 8)
   rw [← hD] at HM4
   have HDD := hide hD
   clear hD
   obtain ⟨y0, y1, y2, y3⟩ := HM4.out.cells4
   obtain ⟨r0, r1, r2, r3⟩ := HR4.out.cells4
   obtain ⟨f0, f1, f2, f3⟩ := HR4.out.frozen4
   go_wp2
   refine bodyPost_ret (v := .agg (arrW D)) ?_ rfl ⟨by rw [HDD.out], ?_⟩
   ·exact results_cell_row rfl _ _ (w.heap.size + 1) 55 (arrW D) (0, 0) _ rfl (putW_blk HR4.out D) Tryz.underlying55 rfl infoW
   ·exact putW_below HB4.out (by omega) D
end Go.Proofs.YtjmeakkmfeoigaaGreatDoor
namespace Go.Proofs.YtjmeakkmfeoigaaGreatDoor
open Go.ChangeShapes Go.WideShapes Go.ChangeAt Go.RowKit
set_option maxRecDepth 100000
theorem firstFault_drop (ats : List At) {k : Nat} {a : At} (ha : ats[k]? = some a) : firstFault (ats.drop k) = if a.fault = 0 then firstFault (ats.drop (k + 1)) else a.fault := by
 obtain ⟨hk, rfl⟩ := List.getElem?_eq_some_iff.1 ha
 rw [List.drop_eq_getElem_cons hk]; rfl
theorem fcheck_none (va vc : Value) (ats : List At) (c : List Int) (w : World) (hA : ReadsA w va ats) (hC : Reads w vc c) (h0 : ats.length = 0 ∨ c.length = 0) :
    Calls Tryz.prog 14 #[.agg #[va, vc]] w (Bk w (.iface 64 (.int .i64 5))) := by
 obtain ⟨ao, acap, rfl, hal⟩ := hA.slice
 obtain ⟨co, ccap, rfl, hcl⟩ := hC.slice
 clear hA hC
 obtain ⟨m, hm⟩ := nm ats.length
 obtain ⟨n, hn⟩ := nm c.length
 rw [← hm] at h0 hal ⊢
 rw [← hn] at h0 hcl ⊢
 clear hm hn
 rcases h0 with rfl | rfl
 ·go_enter Tryz.func14, Tryz.ntmps14
  go_wp2
  go_ret
  exact ⟨rfl, below_alloc1 _ _⟩
 ·by_cases h1 : m = 0
  ·subst h1
   go_enter Tryz.func14, Tryz.ntmps14
   go_wp2
   go_ret
   exact ⟨rfl, below_alloc1 _ _⟩
  ·have h1' : ¬ ((m : Int) = 0) := by omega
   go_enter Tryz.func14, Tryz.ntmps14
   go_wp2
   go_ret
   exact ⟨rfl, below_alloc1 _ _⟩
theorem fcheck_full (va vc : Value) (ats : List At) (c : List Int) (w : World) (hA : ReadsA w va ats) (hC : Reads w vc c) (h0 : ¬ (ats.length = 0 ∨ c.length = 0)) (h1 : 6 < ats.length ∨ 20 < c.length) :
    Calls Tryz.prog 14 #[.agg #[va, vc]] w (Bk w (.iface 64 (.int .i64 4))) := by
 obtain ⟨ao, acap, rfl, hal⟩ := hA.slice
 obtain ⟨co, ccap, rfl, hcl⟩ := hC.slice
 clear hA hC
 obtain ⟨m, hm⟩ := nm ats.length
 obtain ⟨n, hn⟩ := nm c.length
 rw [← hm] at h0 h1 hal ⊢
 rw [← hn] at h0 h1 hcl ⊢
 clear hm hn
 have hm' : ((m : Int) == 0) = false := by simp; omega
 have hn' : ((n : Int) == 0) = false := by simp; omega
 have HT : Hid (∀ W, Calls Tryz.prog 35 #[.int .i64 m, .int .i64 n] W (Sk W (.bool true))) := fun W => by
  have := tooMany_any m n W
  rw [show (decide (6 < (m : Int)) || decide (20 < (n : Int))) = true by simp; omega] at this
  exact this
 clear h0 h1
 go_enter Tryz.func14, Tryz.ntmps14
 go_wp2_with fail
 go_at_call 35
 refine (HT.out _).mono ?_
 rintro e w' ⟨rfl, rfl⟩
 go_wp2
 go_ret
 exact ⟨rfl, below_alloc1 _ _⟩
theorem fcheck_rest (ao co : Option Addr) (acap ccap : Nat) (ats : List At) (c : List Int) (w : World) (hA : ReadsA w (.slice ao ats.length acap) ats) (hC : Reads w (.slice co c.length ccap) c) (hK : KindsLaid w) (h0 : ¬ (ats.length = 0 ∨ c.length = 0)) (h1 : ¬ (6 < ats.length ∨ 20 < c.length)) :
    Calls Tryz.prog 14 #[.agg #[.slice ao ats.length acap, .slice co c.length ccap]] w (Bk w (errV (formFault ats c))) := by
 obtain ⟨w1, hw1⟩ := nm (w.alloc (.cells #[.slice ao ats.length acap, .slice co c.length ccap] 39))
 have HB1 : Hid (Below w.heap.size w w1) := by unfold Hid; rw [hw1]; exact below_alloc1 w _
 have HS1 : Hid (w1.heap.size = w.heap.size + 1) := by unfold Hid; rw [hw1]; simp
 have HX : Hid (w1.cell? ⟨w.heap.size, 0, none⟩ = some (.slice ao ats.length acap) ∧ w1.cell? ⟨w.heap.size, 1, none⟩ = some (.slice co c.length ccap)) := by
  unfold Hid; rw [hw1]; simp
 have HA := hide (hA.below HB1.out)
 have HC := hide (hC.below HB1.out)
 have HK := hide (hK.below HB1.out)
 clear hA hC hK
 have HF : Hid (formFault ats c = if firstFault ats = 0 then (if c.all (signF ats.length) = true then (if cntF c 0 = some 1 then 0 else 3) else 1) else firstFault ats) := by
  unfold Hid formFault; rw [if_neg h0, if_neg h1]
 obtain ⟨m, hm⟩ := nm ats.length
 obtain ⟨n, hn⟩ := nm c.length
 rw [← hm] at h0 h1 hw1 HX HA HF ⊢
 rw [← hn] at h0 h1 hw1 HX HC ⊢
 have HM := hide hm
 have HN := hide hn
 clear hm hn
 have hm' : ((m : Int) == 0) = false := by simp; omega
 have hn' : ((n : Int) == 0) = false := by simp; omega
 have hm6 : m ≤ 6 := by omega
 have hn20 : n ≤ 20 := by omega
 have HT : Hid (∀ W, Calls Tryz.prog 35 #[.int .i64 m, .int .i64 n] W (Sk W (.bool false))) := fun W => by
  have := tooMany_any m n W
  rw [show (decide (6 < (m : Int)) || decide (20 < (n : Int))) = false by simp; omega] at this
  exact this
 clear h0 h1
 have x0 := HX.out.1
 have x1 := HX.out.2
 go_enter Tryz.func14, Tryz.ntmps14
 go_wp2_with fail
 rw [← hw1]
 clear hw1
 go_wp2_with fail
 go_at_call 35
 refine (HT.out _).mono ?_
 rintro e w' ⟨rfl, rfl⟩
 go_wp2
 go_loopw [29] (fun i wr => ∃ k : Nat, k ≤ m ∧ i = .int .i64 k ∧ Below w1.heap.size w1 wr ∧ firstFault (ats.drop k) = firstFault ats) (fun i _ => m - (intOf i).toNat)
 case atStart => exact ⟨0, Nat.zero_le _, rfl, Below.refl _ _, rfl⟩
 case round =>
  obtain ⟨k, hk, rfl, hbel, hff⟩ := hrel
  have HF0 := hide hff
  have HB := hide hbel
  clear hff hbel
  by_cases hlt : k < m
  ·obtain ⟨a, ha⟩ : ∃ a, ats[k]? = some a := ⟨_, List.getElem?_eq_getElem (by have := HM.out; omega)⟩
   have HFF : Hid (firstFault ats = if a.fault = 0 then firstFault (ats.drop (k + 1)) else a.fault) := by
    unfold Hid; rw [← HF0.out, firstFault_drop ats ha]
   rcases HA.out.below HB.out with ⟨_, _, hv, hn⟩ | ⟨b, off, cap, hv, hb, _, _, hall⟩
   ·have := HM.out; rw [hn] at this; simp at this; omega
   obtain rfl : ao = some ⟨b, off, none⟩ := by cases hv; rfl
   obtain ⟨vs, vt, c0, c1, c2, c3, r1, r2⟩ := hall k a ha
   obtain ⟨sao, scap, rfl, _⟩ := r1.slice
   obtain ⟨tao, tcap, rfl, _⟩ := r2.slice
   clear hv hall
   obtain ⟨w2, hw2⟩ := nm (wr.alloc (.cells #[.int .i64 a.k, .slice sao a.s.length scap, .slice tao a.t.length tcap, .int .i64 a.n] 29))
   have HB2 : Hid (Below wr.heap.size wr w2) := by unfold Hid; rw [hw2]; exact below_alloc1 wr _
   have HCk : Hid (Calls Tryz.prog 36 #[.agg #[.int .i64 a.k, .slice sao a.s.length scap, .slice tao a.t.length tcap, .int .i64 a.n]] w2 (Bk w2 (errV a.fault))) :=
    acheck_any a.k a.n _ _ a.s a.t w2 (r1.below HB2.out) (r2.below HB2.out) ((HK.out.below HB.out).below HB2.out)
   clear r1 r2
   go_wp2_with fail
   rw [← hw2]
   clear hw2
   go_at_call 36
   refine HCk.out.mono ?_
   rintro e w3 ⟨rfl, hb3⟩
   have HB3 : Hid (Below w1.heap.size w1 w3) := (HB.out.trans (HB2.out.mono HB.out.size)).trans (hb3.mono (Nat.le_trans HB.out.size HB2.out.size))
   clear hb3 HCk
   by_cases hf : a.fault = 0
   ·have HD : Hid (firstFault (ats.drop (k + 1)) = firstFault ats) := by
     have := HFF.out
     rw [if_pos hf] at this
     exact this.symm
    rw [hf, errV_0]
    go_wp2
    go_roundw
    case rel => exact ⟨k + 1, by omega, by go_num, HB3.out, HD.out⟩
    case measure => simp [intOf]; omega
   ·have HE : Hid (formFault ats c = a.fault) := by
     have := HFF.out
     rw [if_neg hf] at this
     unfold Hid; rw [HF.out, this, if_neg hf]
    rw [errV_no hf]
    go_wp2
    go_ret
    refine ⟨back_v ?_, HB1.out.trans (HB3.out.mono HB1.out.size)⟩
    rw [HE.out, errV_no hf]
    rfl
  ·have HE : Hid (firstFault ats = 0) := by
    have := HF0.out
    rw [List.drop_eq_nil_of_le (by have := HM.out; omega)] at this
    exact this.symm
   have hlt0 : w.heap.size < w1.heap.size := by have := HS1.out; omega
   have y0 : wr.cell? ⟨w.heap.size, 0, none⟩ = some (.slice ao m acap) := by rw [HB.out.cell hlt0]; exact HX.out.1
   have y1 : wr.cell? ⟨w.heap.size, 1, none⟩ = some (.slice co n ccap) := by rw [HB.out.cell hlt0]; exact HX.out.2
   rcases HC.out.below HB.out with ⟨_, _, hv, hcn⟩ | ⟨b, off, cap, hv, hb, _, ⟨hl63, _⟩, hc⟩
   ·have := HN.out; rw [hcn] at this; simp at this; subst this; simp at hn'
   obtain rfl : co = some ⟨b, off, none⟩ := by cases hv; rfl
   clear hv
   have cF := fcontainsFunc_any m acap w.heap.size ao b off ccap c wr hl63 y0 hc
   have cO := fisOne_any b off ccap c wr (by have := HN.out; omega) hc
   rw [← HN.out] at cF cO
   obtain ⟨x, hx⟩ := nm (c.all (signF m))
   obtain ⟨y, hy⟩ := nm (decide (cntF c 0 = some 1))
   rw [← hx] at cF
   rw [← hy] at cO
   have HF' : Hid (formFault ats c = if x = true then (if y = true then 0 else 3) else 1) := by
    unfold Hid; rw [HF.out, HE.out, hx, hy]; simp only [decide_eq_true_eq, if_true]
   clear hx hy hc hlt0 hl63 hb
   have HP := hide cF
   have HQ := hide cO
   clear cF cO
   have HEnd := hide (HB1.out.trans (HB.out.mono HB1.out.size))
   cases x
   ·go_wp2_with (go_at_call 39; refine HP.out.mono ?_; rintro e w' ⟨rfl, rfl⟩)
    go_ret
    exact ⟨back_v (by rw [HF'.out]; rfl), HEnd.out⟩
   ·cases y
    all_goals
     go_wp2_with (first | (go_at_call 39; refine HP.out.mono ?_; rintro e w' ⟨rfl, rfl⟩) | (go_at_call 40; refine HQ.out.mono ?_; rintro e w' ⟨rfl, rfl⟩))
     go_ret
     exact ⟨back_v (by rw [HF'.out]; rfl), HEnd.out⟩
theorem fcheck_any (va vc : Value) (ats : List At) (c : List Int) (w : World) (hA : ReadsA w va ats) (hC : Reads w vc c) (hK : KindsLaid w) :
    Calls Tryz.prog 14 #[.agg #[va, vc]] w (Bk w (errV (formFault ats c))) := by
 by_cases h0 : ats.length = 0 ∨ c.length = 0
 ·have e : formFault ats c = 5 := by unfold formFault; rw [if_pos h0]
  rw [e]
  exact fcheck_none va vc ats c w hA hC h0
 by_cases h1 : 6 < ats.length ∨ 20 < c.length
 ·have e : formFault ats c = 4 := by unfold formFault; rw [if_neg h0, if_pos h1]
  rw [e]
  exact fcheck_full va vc ats c w hA hC h0 h1
 obtain ⟨ao, acap, rfl, _⟩ := hA.slice
 obtain ⟨co, ccap, rfl, _⟩ := hC.slice
 exact fcheck_rest ao co acap ccap ats c w hA hC hK h0 h1
end Go.Proofs.YtjmeakkmfeoigaaGreatDoor
namespace Go.Proofs.YtjmeakkmfeoigaaGreatDoor
open Go.ChangeShapes Go.WideShapes Go.ChangeAt Go.RowKit
set_option maxRecDepth 100000
theorem all_take_succ (t : List Int) {k : Nat} (h : k < t.length) : (t.take (k + 1)).all signB = ((t.take k).all signB && signB (t.getD k 0)) := by
 rw [take_succ_getD t h]; simp
theorem all_false_of {t : List Int} {k : Nat} (h : k < t.length) (hs : signB (t.getD k 0) = false) : ¬ t.all signB = true := by
 intro ha
 have := List.all_eq_true.1 ha (t.getD k 0) (by rw [List.getD_eq_getElem?_getD, List.getElem?_eq_getElem h]; exact List.getElem_mem h)
 rw [hs] at this; cases this
set_option maxRecDepth 100000 in
set_option maxHeartbeats 4000000 in
theorem refTerm_mid (b off cap : Nat) (t : List Int) (w : World) (h0 : 0 < t.length) (hl : t.length ≤ 12) (hc : ∀ k, k < t.length → w.cell? ⟨b, off + k, none⟩ = some (.int .i64 (t.getD k 0))) :
    Calls Tryz.prog 41 #[.slice (some ⟨b, off, none⟩) t.length cap] w (Sk w (.int .i64 (faultN t))) := by
 have HC := hide hc
 clear hc
 obtain ⟨n, hn⟩ := nm t.length
 rw [← hn] at h0 hl ⊢
 have HN := hide hn
 obtain ⟨F, hF⟩ := nm (faultN t)
 rw [← hF]
 have HF : Hid (F = if t.all signB = true then (if cnt t 0 = some 1 then 0 else 3) else 1) := by
  unfold Hid; rw [hF]; unfold faultN; rw [if_neg (by omega), if_neg (by omega)]
 clear hn hF
 go_enter Tryz.func41, Tryz.ntmps41
 go_wp2
 go_loop [3] (fun i => ∃ k : Nat, k ≤ n ∧ i = .int .i64 k ∧ (t.take k).all signB = true) (fun i => n - (intOf i).toNat)
 case atStart => exact ⟨0, Nat.zero_le _, rfl, by simp⟩
 case round =>
  obtain ⟨k, hk, rfl, hall⟩ := hrel
  have HA := hide hall
  clear hall
  by_cases hlt : k < n
  ·obtain ⟨s, hs⟩ := nm (t.getD k 0)
   have hkt : k < t.length := by rw [← HN.out]; exact hlt
   have hc := HC.out k hkt
   rw [← hs] at hc
   by_cases hlo : s < 0
   ·have HE : Hid (1 = F) := by
     have := all_false_of hkt (by rw [← hs]; simp [signB]; omega)
     unfold Hid; rw [HF.out, if_neg this]
    clear hs hkt
    go_wp2
    go_ret
    exact ⟨back_i HE.out, rfl⟩
   by_cases hhi : 8 < s
   ·have HE : Hid (1 = F) := by
     have := all_false_of hkt (by rw [← hs]; simp [signB]; omega)
     unfold Hid; rw [HF.out, if_neg this]
    clear hs hkt
    go_wp2
    go_ret
    exact ⟨back_i HE.out, rfl⟩
   have HA2 : Hid ((t.take (k + 1)).all signB = true) := by
    have : signB s = true := by simp [signB]; omega
    unfold Hid; rw [all_take_succ t hkt, HA.out, ← hs, this]; rfl
   clear hs hkt
   go_wp2
   go_round
   case rel => exact ⟨k + 1, by omega, by go_num, HA2.out⟩
   case measure => simp [intOf]; omega
  ·have HAll : Hid (t.all signB = true) := by
    have := HA.out
    rw [List.take_of_length_le (by have := HN.out; omega)] at this
    exact this
   clear HA
   go_wp2
   go_loop [4, 5] (fun c i => ∃ (k : Nat) (m : Int), k ≤ n ∧ i = .int .i64 k ∧ c = .int .i64 m ∧ cnt (t.take k) 0 = some m) (fun _ i => n - (intOf i).toNat)
   case atStart => exact ⟨0, 0, Nat.zero_le _, rfl, rfl, rfl⟩
   case round =>
    clear hlt hk
    obtain ⟨k, m, hk, rfl, rfl, hm⟩ := hrel
    have HM := hide hm
    have hm0 : 0 ≤ m ∧ m ≤ 12 := by
     have := cnt_nonneg (Int.le_refl 0) hm
     simp at this
     omega
    clear hm
    by_cases hlt : k < n
    ·obtain ⟨s, hs⟩ := nm (t.getD k 0)
     have hkt : k < t.length := by rw [← HN.out]; exact hlt
     have hc := HC.out k hkt
     rw [← hs] at hc
     have hsg : 0 ≤ s ∧ s ≤ 8 := by
      refine signB_iff.1 (List.all_eq_true.1 HAll.out s ?_)
      rw [hs, List.getD_eq_getElem?_getD, List.getElem?_eq_getElem hkt]; exact List.getElem_mem hkt
     have HD : Hid (cnt (t.take (k + 1)) 0 = if m < takesN s then none else some (m + 1 - takesN s)) := by
      have := cnt_take_succ t hkt HM.out
      rw [← hs] at this; exact this
     have HNo : Hid (m < takesN s → 3 = F) := fun hb => by
      have h1 := HD.out
      rw [if_pos hb] at h1
      have h2 := cnt_take_none t (k + 1) h1
      rw [HF.out, if_pos HAll.out, if_neg (by rw [h2]; simp)]
     have HYes : Hid (¬ m < takesN s → cnt (t.take (k + 1)) 0 = some (m + 1 - takesN s)) := fun hb => by
      have h1 := HD.out
      rw [if_neg hb] at h1; exact h1
     clear hs hkt HD
     by_cases h5 : s < 5
     ·have HE : Hid (cnt (t.take (k + 1)) 0 = some (m + 1)) := by
       have := HYes.out (by rw [takes5 s h5]; omega)
       rw [takes5 s h5] at this; rw [show m + 1 = m + 1 - 0 by omega]; exact this
      go_wp2
      go_round
      case rel => exact ⟨k + 1, _, by omega, by go_num, rfl, HE.out⟩
      case measure => simp [intOf]; omega
     by_cases h8 : s < 8
     ·have ht := takes2 s (by omega) (by omega)
      by_cases hb : m < 2
      ·have HE : Hid (3 = F) := HNo.out (by rw [ht]; exact hb)
       clear ht
       by_cases hb1 : m < 1
       ·go_wp2
        go_ret
        exact ⟨back_i HE.out, rfl⟩
       ·go_wp2
        go_ret
        exact ⟨back_i HE.out, rfl⟩
      ·have HE : Hid (cnt (t.take (k + 1)) 0 = some (m - 1)) := by
        have := HYes.out (by rw [ht]; omega)
        rw [ht] at this; rw [show m - 1 = m + 1 - 2 by omega]; exact this
       have hb1 : ¬ m < 1 := by omega
       clear ht
       go_wp2
       go_round
       case rel => exact ⟨k + 1, _, by omega, by go_num, rfl, HE.out⟩
       case measure => simp [intOf]; omega
     ·obtain rfl : s = 8 := by omega
      by_cases hb : m < 1
      ·have HE : Hid (3 = F) := HNo.out (by rw [takes1]; exact hb)
       go_wp2
       go_ret
       exact ⟨back_i HE.out, rfl⟩
      ·have HE : Hid (cnt (t.take (k + 1)) 0 = some m) := by
        have := HYes.out (by rw [takes1]; exact hb)
        rw [takes1] at this; rw [show m = m + 1 - 1 by omega]; exact this
       go_wp2
       go_round
       case rel => exact ⟨k + 1, _, by omega, by go_num, rfl, HE.out⟩
       case measure => simp [intOf]; omega
    ·have HE : Hid (cnt t 0 = some m) := by
      have h1 := HM.out
      rw [List.take_of_length_le (by have := HN.out; omega)] at h1; exact h1
     by_cases h1 : m = 1
     ·have HG : Hid (0 = F) := by unfold Hid; rw [HF.out, if_pos HAll.out, HE.out, if_pos (by rw [h1])]
      subst h1
      go_wp2
      go_ret
      exact ⟨back_i HG.out, rfl⟩
     ·have HG : Hid (3 = F) := by unfold Hid; rw [HF.out, if_pos HAll.out, HE.out, if_neg (by simpa using h1)]
      have h1' : (m != 1) = true := by simpa using h1
      clear h1
      go_wp2
      go_ret
      exact ⟨back_i HG.out, rfl⟩
theorem refTerm_any (t : List Int) (v : Value) (w : World) (h : Reads w v t) :
    Calls Tryz.prog 41 #[v] w (Sk w (.int .i64 (faultN t))) := by
 rcases h with ⟨ao, cap, rfl, rfl⟩ | ⟨b, off, cap, rfl, -, h0, ⟨hl, _⟩, hc⟩
 ·go_enter Tryz.func41, Tryz.ntmps41
  go_wp2
  go_ret
  exact ⟨rfl, rfl⟩
 ·by_cases h12 : 12 < t.length
  ·have e : faultN t = 4 := by unfold faultN; rw [if_neg (by omega), if_pos h12]
   rw [e]
   clear e hc
   obtain ⟨n, hn⟩ := nm t.length
   rw [← hn] at h0 hl h12 ⊢
   clear hn
   go_enter Tryz.func41, Tryz.ntmps41
   go_wp2
   go_ret
   exact ⟨rfl, rfl⟩
  ·exact refTerm_mid b off cap t w h0 (by omega) hc
end Go.Proofs.YtjmeakkmfeoigaaGreatDoor