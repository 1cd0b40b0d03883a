/-
  Facts and contracts that the statement leans on.
-/
import Derived.Test.YtjmeakkmfeoigaaGreatDoorLibT8
import Derived.Test.YtjmeakkmfeoigaaGreatDoorLibT11
import Derived.Deep.RegionHeld3
import Derived.Test.YtjmeakkmfeoigaaGreatDoorLibT5
import Derived.Maps.AppendAt
import Derived.Deep.AppendLies
namespace Go.Proofs.YtjmeakkmfeoigaaGreatDoor
open Go.ChangeShapes Go.WideShapes Go.ChangeAt Go.RowKit
def madeW (N : Nat → Int) : Wd := if countsFault N = 0 then madeN N 8 else ⟨0, 0, 0, 0⟩
theorem with_more (D : Wd) (f : Nat) (hok : D.ok = true) (h5 : D.u ≤ 5) (hf : f < 8) (w : World) :
    Calls Tryz.prog 119 #[.agg #[.int .i64 D.u, .int .i64 D.a, .int .i64 D.b, .int .i64 D.c], .int .i64 f] w (Bk w (.agg #[.int .i64 (D.more f).u, .int .i64 (D.more f).a, .int .i64 (D.more f).b, .int .i64 (D.more f).c])) := by
 obtain ⟨u, a, b, c⟩ := D
 obtain ⟨n, rfl⟩ := Int.eq_ofNat_of_zero_le (show 0 ≤ u from (ok_u hok).1)
 exact with_field n a b c f hok (by simp only at h5; omega) hf w
set_option maxRecDepth 100000 in
set_option maxHeartbeats 4000000 in
theorem fworld_wrong (N : Nat → Int) (w : World) (hf : ¬ countsFault N = 0) :
    Calls Tryz.prog 78 #[.agg #[.int .i64 (N 0), .int .i64 (N 1), .int .i64 (N 2), .int .i64 (N 3), .int .i64 (N 4), .int .i64 (N 5), .int .i64 (N 6), .int .i64 (N 7)]] w (Bk w (.tuple #[.agg #[.int .i64 0, .int .i64 0, .int .i64 0, .int .i64 0], .iface 64 (.int .i64 (countsFault N))])) := by
 obtain ⟨w1, hw1⟩ := nm ((w.alloc (.cells #[.int .i64 (N 0), .int .i64 (N 1), .int .i64 (N 2), .int .i64 (N 3), .int .i64 (N 4), .int .i64 (N 5), .int .i64 (N 6), .int .i64 (N 7)] 122)).alloc (.cells #[.int .i64 0, .int .i64 0, .int .i64 0, .int .i64 0] 55))
 have HW : Hid (Below w.heap.size w w1) := by unfold Hid; rw [hw1]; exact (below_alloc1 _ _).alloc (by simp) _
 have HK0 : Hid (Blk w1 w.heap.size 122 (arr8 N)) := by unfold Hid; rw [hw1]; exact (Blk.new _ _ _).old _
 have HK1 : Hid (Blk w1 (w.heap.size + 1) 55 (arrW ⟨0, 0, 0, 0⟩)) := by
  unfold Hid; rw [hw1]
  have := Blk.new (w.alloc (.cells (arr8 N) 122)) 55 (arrW ⟨0, 0, 0, 0⟩)
  simp only [World.size_alloc] at this
  exact this
 have HC : Hid (Calls Tryz.prog 118 #[.agg #[.int .i64 (N 0), .int .i64 (N 1), .int .i64 (N 2), .int .i64 (N 3), .int .i64 (N 4), .int .i64 (N 5), .int .i64 (N 6), .int .i64 (N 7)]] w1 (Bk w1 (.iface 64 (.int .i64 (countsFault N))))) := by
  have := fcounts_any N w1
  unfold errV at this
  rw [if_neg hf] at this
  exact this
 obtain ⟨F, hF⟩ := nm (countsFault N)
 rw [← hF] at HC ⊢
 clear hF hf
 obtain ⟨x0, x1, x2, x3, x4, x5, x6, x7⟩ := HK0.out.cells8
 go_enter Tryz.func78, Tryz.ntmps78
 go_wp2_with fail
 rw [← hw1]
 clear hw1
 go_wp2_with fail
 go_at_call 118
 refine HC.out.mono ?_
 rintro e w2 ⟨rfl, hb⟩
 have HB := hide (HW.out.trans (hb.mono HW.out.size))
 have HR := hide (HK1.out.below hb)
 clear hb x0 x1 x2 x3 x4 x5 x6 x7
 have r0 : w2.cell? ⟨w.heap.size + 1, 0, none⟩ = some (.int .i64 0) := HR.out.cell 0
 have r1 : w2.cell? ⟨w.heap.size + 1, 1, none⟩ = some (.int .i64 0) := HR.out.cell 1
 have r2 : w2.cell? ⟨w.heap.size + 1, 2, none⟩ = some (.int .i64 0) := HR.out.cell 2
 have r3 : w2.cell? ⟨w.heap.size + 1, 3, none⟩ = some (.int .i64 0) := HR.out.cell 3
 obtain ⟨f0, f1, f2, f3⟩ := HR.out.frozen4
 go_wp2
 have hld := loadW (putW_blk HR.out ⟨0, 0, 0, 0⟩)
 refine bodyPost_ret (v := .tuple #[.agg #[.int .i64 0, .int .i64 0, .int .i64 0, .int .i64 0], .iface 64 (.int .i64 F)]) ?_ rfl ⟨rfl, ?_⟩
 ·rw [results_cell_tmp rfl]
  unfold putW arrW at hld
  simp only at hld
  simp [asAddr, Result.andThen, hld]
 ·exact putW_below HB.out (by omega) ⟨0, 0, 0, 0⟩
set_option maxRecDepth 100000 in
set_option maxHeartbeats 4000000 in
theorem fworld_right (N : Nat → Int) (w : World) (hf : countsFault N = 0) :
    Calls Tryz.prog 78 #[.agg #[.int .i64 (N 0), .int .i64 (N 1), .int .i64 (N 2), .int .i64 (N 3), .int .i64 (N 4), .int .i64 (N 5), .int .i64 (N 6), .int .i64 (N 7)]] w (Bk w (.tuple #[.agg (arrW (madeN N 8)), .nilIface])) := by
 obtain ⟨Z, hZ⟩ : ∃ Z : Wd, Z = ⟨0, 0, 0, 0⟩ := ⟨_, rfl⟩
 obtain ⟨w1, hw1⟩ := nm ((w.alloc (.cells #[.int .i64 (N 0), .int .i64 (N 1), .int .i64 (N 2), .int .i64 (N 3), .int .i64 (N 4), .int .i64 (N 5), .int .i64 (N 6), .int .i64 (N 7)] 122)).alloc (.cells #[.int .i64 0, .int .i64 0, .int .i64 0, .int .i64 0] 55))
 have HW : Hid (Below w.heap.size w w1) := by unfold Hid; rw [hw1]; exact (below_alloc1 _ _).alloc (by simp) _
 have HK0 : Hid (Blk w1 w.heap.size 122 (arr8 N)) := by unfold Hid; rw [hw1]; exact (Blk.new _ _ _).old _
 have HK1 : Hid (Blk w1 (w.heap.size + 1) 55 (arrW Z)) := by
  unfold Hid; rw [hw1, hZ]
  have := Blk.new (w.alloc (.cells (arr8 N) 122)) 55 (arrW ⟨0, 0, 0, 0⟩)
  simp only [World.size_alloc] at this
  exact this
 have HC : Hid (Calls Tryz.prog 118 #[.agg #[.int .i64 (N 0), .int .i64 (N 1), .int .i64 (N 2), .int .i64 (N 3), .int .i64 (N 4), .int .i64 (N 5), .int .i64 (N 6), .int .i64 (N 7)]] w1 (Bk w1 .nilIface)) := by
  have := fcounts_any N w1
  rw [hf] at this
  exact this
 obtain ⟨hall, hsum⟩ := counts_zero.1 hf
 have HN := hide hall
 have HX : Hid (∀ W k, k < 8 → Blk W w.heap.size 122 (arr8 N) → W.cell? ⟨w.heap.size, k, none⟩ = some (.int .i64 (N k))) := fun W k hk h => by rw [h.cell, arr8_get _ hk]
 have HV : Hid (∀ (k j : Nat) W, k < 8 → (j : Int) < N k → Calls Tryz.prog 119 #[.agg #[.int .i64 ((madeN N k).mores k j).u, .int .i64 ((madeN N k).mores k j).a, .int .i64 ((madeN N k).mores k j).b, .int .i64 ((madeN N k).mores k j).c], .int .i64 k] W (Bk W (.agg #[.int .i64 ((madeN N k).mores k (j + 1)).u, .int .i64 ((madeN N k).mores k (j + 1)).a, .int .i64 ((madeN N k).mores k (j + 1)).b, .int .i64 ((madeN N k).mores k (j + 1)).c]))) := fun k j W hk hj => by
  obtain ⟨i1, i2, _⟩ := made_all hall hsum (k := k) (by omega)
  have hm := sumN_mono (N := N) (k := k + 1) (l := 8) (by omega) hall
  have es : sumN N (k + 1) = sumN N k + N k := rfl
  have e := mores_u (madeN N k) k j
  exact with_more _ k (mores_ok i1 k (by rw [i2]; omega)) (by rw [e, i2]; omega) hk W
 have HE : Hid (∀ k, k < 8 → (madeN N k).mores k (N k).toNat = madeN N (k + 1)) := fun k _ => rfl
 have HZ := hide hZ
 clear hf hall hsum
 obtain ⟨x0, x1, x2, x3, x4, x5, x6, x7⟩ := HK0.out.cells8
 go_enter Tryz.func78, Tryz.ntmps78
 go_wp2_with fail
 rw [← hw1]
 clear hw1
 go_wp2_with fail
 go_at_call 118
 refine HC.out.mono ?_
 rintro e w2 ⟨rfl, hb⟩
 have HB := hide (HW.out.trans (hb.mono HW.out.size))
 have HP := hide (HK0.out.below hb)
 have HR := hide (HK1.out.below hb)
 clear hb x0 x1 x2 x3 x4 x5 x6 x7
 obtain ⟨G, hG⟩ := nm w2.heap.size
 have HG : Hid (w.heap.size + 1 < G) := by unfold Hid; rw [hG]; exact HR.out.lt
 obtain ⟨w3, hw3⟩ := nm (w2.alloc (.cells #[.int .i64 0, .int .i64 0, .int .i64 0, .int .i64 0] 55))
 have HB3 : Hid (Below w.heap.size w w3) := by unfold Hid; rw [hw3]; exact HB.out.alloc HB.out.size _
 have HP3 : Hid (Blk w3 w.heap.size 122 (arr8 N)) := by unfold Hid; rw [hw3]; exact HP.out.old _
 have HR3 : Hid (Blk w3 (w.heap.size + 1) 55 (arrW Z)) := by unfold Hid; rw [hw3]; exact HR.out.old _
 have HM3 : Hid (Blk w3 G 55 (arrW (madeN N 0))) := by unfold Hid; rw [hw3, hG]; exact Blk.new _ _ _
 clear HB HP HR hZ
 go_wp2
 rw [← hw3, ← hG]
 clear hw3 hG
 go_loopw [13] (fun i wr => ∃ k : Nat, k ≤ 8 ∧ i = .int .i64 k ∧ Below w.heap.size w wr ∧ Blk wr w.heap.size 122 (arr8 N) ∧ Blk wr (w.heap.size + 1) 55 (arrW Z) ∧ Blk wr G 55 (arrW (madeN N k))) (fun i _ => 8 - (intOf i).toNat)
 case atStart => exact ⟨0, Nat.zero_le _, rfl, HB3.out, HP3.out, HR3.out, HM3.out⟩
 case round =>
  obtain ⟨k, hk, rfl, hb, hp, hr, hm⟩ := hrel
  have HB4 := hide hb
  have HP4 : Hid (Blk wr w.heap.size 122 (arr8 N)) := hp
  have HR4 : Hid (Blk wr (w.heap.size + 1) 55 (arrW Z)) := hr
  have HM4 : Hid (Blk wr G 55 (arrW (madeN N k))) := hm
  clear hb hp hr hm
  by_cases hlt : k < 8
  ·have y := HX.out wr k hlt HP4.out
   have p := HN.out k hlt
   obtain ⟨x, hx⟩ : ∃ x : Nat, (x : Int) = N k := ⟨(N k).toNat, by omega⟩
   have HXk := hide hx
   have HEk : Hid ((madeN N k).mores k x = madeN N (k + 1)) := by
    have := HE.out k hlt
    rw [show (N k).toNat = x by omega] at this
    exact this
   rw [← hx] at y p
   clear hx
   go_wp2
   clear y
   rw [show decide ((k : Int) < 8) = true by simp; omega]
   go_loopw [19] (fun i wr => ∃ j : Nat, j ≤ x ∧ i = .int .i64 j ∧ Below w.heap.size w wr ∧ Blk wr w.heap.size 122 (arr8 N) ∧ Blk wr (w.heap.size + 1) 55 (arrW Z) ∧ Blk wr G 55 (arrW ((madeN N k).mores k j))) (fun i _ => x - (intOf i).toNat)
   case atStart => exact ⟨0, Nat.zero_le _, rfl, HB4.out, HP4.out, HR4.out, HM4.out⟩
   case round =>
    obtain ⟨j, hj, rfl, hb, hp, hr, hm⟩ := hrel
    have HB5 := hide hb
    have HP5 : Hid (Blk wr w.heap.size 122 (arr8 N)) := hp
    have HR5 : Hid (Blk wr (w.heap.size + 1) 55 (arrW Z)) := hr
    have HM5 : Hid (Blk wr G 55 (arrW ((madeN N k).mores k j))) := hm
    clear hb hp hr hm
    by_cases hlj : j < x
    ·have HVk : Hid (Calls Tryz.prog 119 #[.agg #[.int .i64 ((madeN N k).mores k j).u, .int .i64 ((madeN N k).mores k j).a, .int .i64 ((madeN N k).mores k j).b, .int .i64 ((madeN N k).mores k j).c], .int .i64 k] wr (Bk wr (.agg #[.int .i64 ((madeN N k).mores k (j + 1)).u, .int .i64 ((madeN N k).mores k (j + 1)).a, .int .i64 ((madeN N k).mores k (j + 1)).b, .int .i64 ((madeN N k).mores k (j + 1)).c]))) := HV.out k j wr hlt (by rw [← HXk.out]; omega)
     obtain ⟨D, hD⟩ := nm ((madeN N k).mores k j)
     rw [← hD] at HVk HM5
     obtain ⟨E, hE⟩ := nm ((madeN N k).mores k (j + 1))
     rw [← hE] at HVk
     have HEj := hide hE
     clear hD hE
     obtain ⟨y0, y1, y2, y3⟩ := HM5.out.cells4
     go_wp2_with fail
     go_at_call 119
     refine HVk.out.mono ?_
     rintro e w6 ⟨rfl, hb⟩
     have HB6 := hide (HB5.out.trans (hb.mono HB5.out.size))
     have HP6 := hide (HP5.out.below hb)
     have HR6 := hide (HR5.out.below hb)
     have HM6 := hide (HM5.out.below hb)
     clear hb y0 y1 y2 y3
     obtain ⟨y0, y1, y2, y3⟩ := HM6.out.cells4
     obtain ⟨f0, f1, f2, f3⟩ := HM6.out.frozen4
     go_wp2
     go_roundw
     case rel =>
      have hg := HG.out
      exact ⟨j + 1, by omega, by go_num, putW_below HB6.out (by omega) E, putW_far HP6.out (by omega) E, putW_far HR6.out (by omega) E, by rw [← HEj.out]; exact putW_blk HM6.out E⟩
     case measure => simp [intOf]; omega
    ·obtain rfl : j = x := by omega
     go_wp2
     go_roundw
     case rel => exact ⟨k + 1, by omega, by go_num, HB5.out, HP5.out, HR5.out, by rw [← HEk.out]; exact HM5.out⟩
     case measure => simp [intOf]; omega
  ·obtain rfl : k = 8 := by omega
   obtain ⟨D, hD⟩ := nm (madeN N 8)
   rw [← hD] at HM4
   have HD := hide hD
   clear hD
   obtain ⟨y0, y1, y2, y3⟩ := HM4.out.cells4
   obtain ⟨r0, r1, r2, r3⟩ := HR4.out.cells4
   obtain ⟨f0, f1, f2, f3⟩ := HR4.out.frozen4
   go_wp2
   have hld := loadW (putW_blk HR4.out D)
   refine bodyPost_ret (v := .tuple #[.agg (arrW D), .nilIface]) ?_ rfl ⟨by rw [HD.out], ?_⟩
   ·rw [results_cell_tmp rfl]
    unfold putW at hld
    simp [asAddr, Result.andThen, hld]
   ·exact putW_below HB4.out (by omega) D
theorem fworld_any (N : Nat → Int) (w : World) :
    Calls Tryz.prog 78 #[.agg #[.int .i64 (N 0), .int .i64 (N 1), .int .i64 (N 2), .int .i64 (N 3), .int .i64 (N 4), .int .i64 (N 5), .int .i64 (N 6), .int .i64 (N 7)]] w (Bk w (.tuple #[.agg (arrW (madeW N)), errV (countsFault N)])) := by
 by_cases hf : countsFault N = 0
 ·unfold madeW
  rw [if_pos hf, hf]
  exact fworld_right N w hf
 ·unfold madeW errV
  rw [if_neg hf, if_neg hf]
  exact fworld_wrong N w hf
end Go.Proofs.YtjmeakkmfeoigaaGreatDoor
namespace Go.Proofs.YtjmeakkmfeoigaaGreatDoor
open Go.ChangeShapes Go.WideShapes Go.ChangeAt Go.RowKit
set_option maxRecDepth 100000
set_option maxHeartbeats 4000000 in
theorem exceeds_any (T N : Nat → Int) (m : Int) (P : Nat) (hT : ∀ f, f < 8 → -2 ≤ T f ∧ T f ≤ 2) (hN : ∀ f, f < 8 → 0 ≤ N f ∧ N f ≤ 6) (w : World) (hP : Blk w P 122 (arr8 N)) :
    Calls Tryz.prog 156 #[.agg #[.int .i64 (T 0), .int .i64 (T 1), .int .i64 (T 2), .int .i64 (T 3), .int .i64 (T 4), .int .i64 (T 5), .int .i64 (T 6), .int .i64 (T 7), .int .i64 m], .pointer (some ⟨P, 0, none⟩)] w (Bk w (.bool (!(Rw.mk T m).so N))) := by
 obtain ⟨w1, hw1⟩ := nm (w.alloc (.cells #[.int .i64 (T 0), .int .i64 (T 1), .int .i64 (T 2), .int .i64 (T 3), .int .i64 (T 4), .int .i64 (T 5), .int .i64 (T 6), .int .i64 (T 7), .int .i64 m] 183))
 have HW : Hid (Below w.heap.size w w1) := by unfold Hid; rw [hw1]; exact below_alloc1 _ _
 have HK0 : Hid (Blk w1 w.heap.size 183 (arrR T m)) := by unfold Hid; rw [hw1]; exact Blk.new _ _ _
 have HK1 := hide (hP.below HW.out)
 obtain ⟨S, hS⟩ := nm (sumT T N 8)
 have HR : Hid ((!(Rw.mk T m).so N) = decide (S > m)) := by
  unfold Hid Rw.so
  rw [← hS]
  by_cases h : S ≤ m
  ·simp [h]
  ·simp [h]; omega
 have HC : Hid (∀ W, Below w1.heap.size w1 W → Calls Tryz.prog 157 #[.agg #[.int .i64 (T 0), .int .i64 (T 1), .int .i64 (T 2), .int .i64 (T 3), .int .i64 (T 4), .int .i64 (T 5), .int .i64 (T 6), .int .i64 (T 7)], .agg #[.int .i64 (N 0), .int .i64 (N 1), .int .i64 (N 2), .int .i64 (N 3), .int .i64 (N 4), .int .i64 (N 5), .int .i64 (N 6), .int .i64 (N 7)]] W fun e w' => e = .returned (.int .i64 S) ∧ Below w.heap.size w w' ∧ w'.cell? ⟨w.heap.size, 0, none⟩ = some (.int .i64 (T 0)) ∧ w'.cell? ⟨w.heap.size, 1, none⟩ = some (.int .i64 (T 1)) ∧ w'.cell? ⟨w.heap.size, 2, none⟩ = some (.int .i64 (T 2)) ∧ w'.cell? ⟨w.heap.size, 3, none⟩ = some (.int .i64 (T 3)) ∧ w'.cell? ⟨w.heap.size, 4, none⟩ = some (.int .i64 (T 4)) ∧ w'.cell? ⟨w.heap.size, 5, none⟩ = some (.int .i64 (T 5)) ∧ w'.cell? ⟨w.heap.size, 6, none⟩ = some (.int .i64 (T 6)) ∧ w'.cell? ⟨w.heap.size, 7, none⟩ = some (.int .i64 (T 7)) ∧ w'.cell? ⟨w.heap.size, 8, none⟩ = some (.int .i64 m) ∧ w'.cell? ⟨P, 0, none⟩ = some (.int .i64 (N 0)) ∧ w'.cell? ⟨P, 1, none⟩ = some (.int .i64 (N 1)) ∧ w'.cell? ⟨P, 2, none⟩ = some (.int .i64 (N 2)) ∧ w'.cell? ⟨P, 3, none⟩ = some (.int .i64 (N 3)) ∧ w'.cell? ⟨P, 4, none⟩ = some (.int .i64 (N 4)) ∧ w'.cell? ⟨P, 5, none⟩ = some (.int .i64 (N 5)) ∧ w'.cell? ⟨P, 6, none⟩ = some (.int .i64 (N 6)) ∧ w'.cell? ⟨P, 7, none⟩ = some (.int .i64 (N 7))) := fun W hW => by
  rw [hS]
  refine (sum_any T N hT hN W).mono fun e w' h => ⟨h.1, ?_, ?_⟩
  ·exact HW.out.trans ((hW.mono HW.out.size).trans (h.2.mono (Nat.le_trans HW.out.size hW.size)))
  ·have k0 := (HK0.out.below hW).below h.2
   have k1 := (HK1.out.below hW).below h.2
   exact ⟨k0.cell 0, k0.cell 1, k0.cell 2, k0.cell 3, k0.cell 4, k0.cell 5, k0.cell 6, k0.cell 7, k0.cell 8, k1.cell 0, k1.cell 1, k1.cell 2, k1.cell 3, k1.cell 4, k1.cell 5, k1.cell 6, k1.cell 7⟩
 obtain ⟨R, hR⟩ := nm ((!(Rw.mk T m).so N))
 rw [← hR] at HR ⊢
 obtain ⟨c0, c1, c2, c3, c4, c5, c6, c7, c8⟩ := HK0.out.cells9
 obtain ⟨d0, d1, d2, d3, d4, d5, d6, d7⟩ := HK1.out.cells8
 clear hR hS hT hN hP
 go_enter Tryz.func156, Tryz.ntmps156
 go_wp2_with fail
 rw [← hw1]
 clear hw1
 have HD0 : Hid (Below w1.heap.size w1 w1.drew) := (Below.refl _ _).drew
 go_region_held3 (fun w' => w'.cell? ⟨w.heap.size, 0, none⟩ = some (.int .i64 (T 0)) ∧ w'.cell? ⟨w.heap.size, 1, none⟩ = some (.int .i64 (T 1)) ∧ w'.cell? ⟨w.heap.size, 2, none⟩ = some (.int .i64 (T 2)) ∧ w'.cell? ⟨w.heap.size, 3, none⟩ = some (.int .i64 (T 3)) ∧ w'.cell? ⟨w.heap.size, 4, none⟩ = some (.int .i64 (T 4)) ∧ w'.cell? ⟨w.heap.size, 5, none⟩ = some (.int .i64 (T 5)) ∧ w'.cell? ⟨w.heap.size, 6, none⟩ = some (.int .i64 (T 6)) ∧ w'.cell? ⟨w.heap.size, 7, none⟩ = some (.int .i64 (T 7)) ∧ w'.cell? ⟨w.heap.size, 8, none⟩ = some (.int .i64 m) ∧ w'.cell? ⟨P, 0, none⟩ = some (.int .i64 (N 0)) ∧ w'.cell? ⟨P, 1, none⟩ = some (.int .i64 (N 1)) ∧ w'.cell? ⟨P, 2, none⟩ = some (.int .i64 (N 2)) ∧ w'.cell? ⟨P, 3, none⟩ = some (.int .i64 (N 3)) ∧ w'.cell? ⟨P, 4, none⟩ = some (.int .i64 (N 4)) ∧ w'.cell? ⟨P, 5, none⟩ = some (.int .i64 (N 5)) ∧ w'.cell? ⟨P, 6, none⟩ = some (.int .i64 (N 6)) ∧ w'.cell? ⟨P, 7, none⟩ = some (.int .i64 (N 7))) (first | (go_keep; done) | ((try dsimp only); (repeat' apply And.intro) <;> (first | (go_keep; done))))
  (first | (go_at_call 157; refine (HC.out _ ?_).mono ?_; (with_reducible exact HD0.out); rintro e w3 ⟨rfl, hb3, e0, e1, e2, e3, e4, e5, e6, e7, e8, e9, e10, e11, e12, e13, e14, e15, e16⟩))
 all_goals
  have HB3 := hide hb3
  clear hb3
  go_wp2
  go_ret
  exact ⟨back_b HR.out.symm, HB3.out⟩
theorem any_rows {l : List Rw} {v : Value} {w : World} (h : ReadsR w v l) : Calls Tryz.prog 154 #[v, .func (.func 155) #[] #[]] w (Bk w (.bool (l.any Rw.wrong))) := by
 have e1 : ∀ args w, (callFunc 155 args).run Tryz.prog w = .ok (.enter 155 args) w := enters_of Tryz.func155 (by kernel_rfl) rfl
 exact anyR l v _ Rw.wrong w h e1 fun W r _ _ => wrong_any r.t r.m W
theorem any_exceeds {l : List Rw} {v : Value} {w : World} (N : Nat → Int) (P : Nat) (h : ReadsR w v l) (hl : l.any Rw.wrong = false) (hN : ∀ f, f < 8 → 0 ≤ N f ∧ N f ≤ 6) (hP : Blk w P 122 (arr8 N)) : Calls Tryz.prog 154 #[v, .func (.func 156) #[] #[.pointer (some ⟨P, 0, none⟩)]] w (Bk w (.bool (l.any fun r => !r.so N))) := by
 have e1 : ∀ args w, (callFunc 156 args).run Tryz.prog w = .ok (.enter 156 args) w := enters_of Tryz.func156 (by kernel_rfl) rfl
 refine anyP l v P _ (fun r => !r.so N) w h e1 fun W r hW hr => ?_
 have hr' : r.wrong = false := by
  have := List.any_eq_false.1 hl r hr
  simpa using this
 exact exceeds_any r.t N r.m P (right_iff.1 hr').1 hN W (hP.below hW)
set_option maxHeartbeats 4000000 in
theorem rfits_full (n : Nat) (ao : Option Addr) (cap : Nat) (N : Nat → Int) (w : World) (h12 : 12 < n) (hl : n ≤ 9223372036854775807) :
    Calls Tryz.prog 124 #[.slice ao n cap, .agg #[.int .i64 (N 0), .int .i64 (N 1), .int .i64 (N 2), .int .i64 (N 3), .int .i64 (N 4), .int .i64 (N 5), .int .i64 (N 6), .int .i64 (N 7)]] w (Bk w (.tuple #[.bool false, .iface 64 (.int .i64 4)])) := by
 have HW : Hid (Below w.heap.size w (w.alloc (.cells #[.int .i64 (N 0), .int .i64 (N 1), .int .i64 (N 2), .int .i64 (N 3), .int .i64 (N 4), .int .i64 (N 5), .int .i64 (N 6), .int .i64 (N 7)] 122))) := below_alloc1 _ _
 go_enter Tryz.func124, Tryz.ntmps124
 go_wp2
 go_ret2
 exact ⟨rfl, HW.out⟩
set_option maxHeartbeats 4000000 in
theorem rfits_wrong (n : Nat) (ao : Option Addr) (cap : Nat) (N : Nat → Int) (w : World) (h12 : n ≤ 12)
    (HA : Hid (∀ W, Below w.heap.size w W → Calls Tryz.prog 154 #[.slice ao n cap, .func (.func 155) #[] #[]] W (Bk W (.bool true)))) :
    Calls Tryz.prog 124 #[.slice ao n cap, .agg #[.int .i64 (N 0), .int .i64 (N 1), .int .i64 (N 2), .int .i64 (N 3), .int .i64 (N 4), .int .i64 (N 5), .int .i64 (N 6), .int .i64 (N 7)]] w (Bk w (.tuple #[.bool false, .iface 64 (.int .i64 1)])) := by
 obtain ⟨w1, hw1⟩ := nm (w.alloc (.cells #[.int .i64 (N 0), .int .i64 (N 1), .int .i64 (N 2), .int .i64 (N 3), .int .i64 (N 4), .int .i64 (N 5), .int .i64 (N 6), .int .i64 (N 7)] 122))
 have HW : Hid (Below w.heap.size w w1) := by unfold Hid; rw [hw1]; exact below_alloc1 _ _
 go_enter Tryz.func124, Tryz.ntmps124
 go_wp2_with fail
 rw [← hw1]
 clear hw1
 go_wp2_with fail
 go_at_call 154
 refine (HA.out _ HW.out).mono ?_
 rintro e w2 ⟨rfl, hb⟩
 have HB := hide (HW.out.trans (hb.mono HW.out.size))
 clear hb
 go_wp2
 go_ret2
 exact ⟨rfl, HB.out⟩
set_option maxHeartbeats 4000000 in
theorem rfits_counts (n : Nat) (ao : Option Addr) (cap : Nat) (N : Nat → Int) (w : World) (h12 : n ≤ 12) (hf : ¬ countsFault N = 0)
    (HA : Hid (∀ W, Below w.heap.size w W → Calls Tryz.prog 154 #[.slice ao n cap, .func (.func 155) #[] #[]] W (Bk W (.bool false)))) :
    Calls Tryz.prog 124 #[.slice ao n cap, .agg #[.int .i64 (N 0), .int .i64 (N 1), .int .i64 (N 2), .int .i64 (N 3), .int .i64 (N 4), .int .i64 (N 5), .int .i64 (N 6), .int .i64 (N 7)]] w (Bk w (.tuple #[.bool false, .iface 64 (.int .i64 (countsFault N))])) := by
 obtain ⟨w1, hw1⟩ := nm (w.alloc (.cells #[.int .i64 (N 0), .int .i64 (N 1), .int .i64 (N 2), .int .i64 (N 3), .int .i64 (N 4), .int .i64 (N 5), .int .i64 (N 6), .int .i64 (N 7)] 122))
 have HW : Hid (Below w.heap.size w w1) := by unfold Hid; rw [hw1]; exact below_alloc1 _ _
 have HK0 : Hid (Blk w1 w.heap.size 122 (arr8 N)) := by unfold Hid; rw [hw1]; exact Blk.new _ _ _
 have HC : Hid (∀ W, Calls Tryz.prog 78 #[.agg #[.int .i64 (N 0), .int .i64 (N 1), .int .i64 (N 2), .int .i64 (N 3), .int .i64 (N 4), .int .i64 (N 5), .int .i64 (N 6), .int .i64 (N 7)]] W (Bk W (.tuple #[.agg #[.int .i64 0, .int .i64 0, .int .i64 0, .int .i64 0], .iface 64 (.int .i64 (countsFault N))]))) := fun W => fworld_wrong N W hf
 obtain ⟨F, hF⟩ := nm (countsFault N)
 rw [← hF] at HC ⊢
 clear hF hf
 go_enter Tryz.func124, Tryz.ntmps124
 go_wp2_with fail
 rw [← hw1]
 clear hw1
 go_wp2_with fail
 go_at_call 154
 refine (HA.out _ HW.out).mono ?_
 rintro e w2 ⟨rfl, hb⟩
 have HB := hide (HW.out.trans (hb.mono HW.out.size))
 have HK := hide (HK0.out.below hb)
 clear hb
 obtain ⟨d0, d1, d2, d3, d4, d5, d6, d7⟩ := HK.out.cells8
 go_wp2_with fail
 go_at_call 78
 refine (HC.out _).mono ?_
 rintro e w3 ⟨rfl, hb⟩
 have HB3 := hide (HB.out.trans (hb.mono HB.out.size))
 clear hb d0 d1 d2 d3 d4 d5 d6 d7
 go_wp2
 go_ret2
 exact ⟨rfl, HB3.out.alloc HB3.out.size _⟩
set_option maxHeartbeats 4000000 in
theorem rfits_right (n : Nat) (ao : Option Addr) (cap : Nat) (N : Nat → Int) (w : World) (R : Bool) (h12 : n ≤ 12) (hf : countsFault N = 0)
    (HA : Hid (∀ W, Below w.heap.size w W → Calls Tryz.prog 154 #[.slice ao n cap, .func (.func 155) #[] #[]] W (Bk W (.bool false))))
    (HX : Hid (∀ W, Below w.heap.size w W → Blk W w.heap.size 122 (arr8 N) → Calls Tryz.prog 154 #[.slice ao n cap, .func (.func 156) #[] #[.pointer (some ⟨w.heap.size, 0, none⟩)]] W (Bk W (.bool R)))) :
    Calls Tryz.prog 124 #[.slice ao n cap, .agg #[.int .i64 (N 0), .int .i64 (N 1), .int .i64 (N 2), .int .i64 (N 3), .int .i64 (N 4), .int .i64 (N 5), .int .i64 (N 6), .int .i64 (N 7)]] w (Bk w (.tuple #[.bool (!R), .nilIface])) := by
 obtain ⟨w1, hw1⟩ := nm (w.alloc (.cells #[.int .i64 (N 0), .int .i64 (N 1), .int .i64 (N 2), .int .i64 (N 3), .int .i64 (N 4), .int .i64 (N 5), .int .i64 (N 6), .int .i64 (N 7)] 122))
 have HW : Hid (Below w.heap.size w w1) := by unfold Hid; rw [hw1]; exact below_alloc1 _ _
 have HK0 : Hid (Blk w1 w.heap.size 122 (arr8 N)) := by unfold Hid; rw [hw1]; exact Blk.new _ _ _
 obtain ⟨u, hu⟩ := nm ((madeN N 8).u)
 obtain ⟨a, ha⟩ := nm ((madeN N 8).a)
 obtain ⟨b, hb⟩ := nm ((madeN N 8).b)
 obtain ⟨c, hc⟩ := nm ((madeN N 8).c)
 have HC : Hid (∀ W, Calls Tryz.prog 78 #[.agg #[.int .i64 (N 0), .int .i64 (N 1), .int .i64 (N 2), .int .i64 (N 3), .int .i64 (N 4), .int .i64 (N 5), .int .i64 (N 6), .int .i64 (N 7)]] W (Bk W (.tuple #[.agg #[.int .i64 u, .int .i64 a, .int .i64 b, .int .i64 c], .nilIface]))) := fun W => by
  rw [hu, ha, hb, hc]; exact fworld_right N W hf
 clear hf hu ha hb hc
 go_enter Tryz.func124, Tryz.ntmps124
 go_wp2_with fail
 rw [← hw1]
 clear hw1
 go_wp2_with fail
 go_at_call 154
 refine (HA.out _ HW.out).mono ?_
 rintro e w2 ⟨rfl, hb⟩
 have HB := hide (HW.out.trans (hb.mono HW.out.size))
 have HK := hide (HK0.out.below hb)
 clear hb
 obtain ⟨d0, d1, d2, d3, d4, d5, d6, d7⟩ := HK.out.cells8
 go_wp2_with fail
 go_at_call 78
 refine (HC.out _).mono ?_
 rintro e w3 ⟨rfl, hb⟩
 have HB3 := hide (HB.out.trans (hb.mono HB.out.size))
 have HK3 := hide (HK.out.below hb)
 clear hb d0 d1 d2 d3 d4 d5 d6 d7
 obtain ⟨w4, hw4⟩ := nm (w3.alloc (.cells #[.int .i64 u, .int .i64 a, .int .i64 b, .int .i64 c] 55))
 have HB4 : Hid (Below w.heap.size w w4) := by unfold Hid; rw [hw4]; exact HB3.out.alloc (HB3.out.size) _
 have HK4 : Hid (Blk w4 w.heap.size 122 (arr8 N)) := by unfold Hid; rw [hw4]; exact HK3.out.old _
 go_wp2_with fail
 rw [← hw4]
 clear hw4
 go_at_call 154
 refine (HX.out _ HB4.out HK4.out).mono ?_
 rintro e w5 ⟨rfl, hb⟩
 have HB5 := hide (HB4.out.trans (hb.mono HB4.out.size))
 clear hb
 go_wp2
 go_ret2
 exact ⟨rfl, HB5.out⟩
theorem any_not (l : List Rw) (N : Nat → Int) : (!l.any fun r => !r.so N) = l.all fun r => r.so N := by
 induction l with
 | nil => rfl
 | cons r l ih => rw [List.any_cons, List.all_cons, Bool.not_or, Bool.not_not, ih]
theorem rfits_any (l : List Rw) (v : Value) (N : Nat → Int) (w : World) (h : ReadsR w v l) :
    Calls Tryz.prog 124 #[v, .agg #[.int .i64 (N 0), .int .i64 (N 1), .int .i64 (N 2), .int .i64 (N 3), .int .i64 (N 4), .int .i64 (N 5), .int .i64 (N 6), .int .i64 (N 7)]] w (Bk w (.tuple #[.bool (fitsIs l N), errV (fitsFault l N)])) := by
 obtain ⟨ao, cap, rfl, hl⟩ := h.slice
 by_cases h12 : 12 < l.length
 ·have e : fitsFault l N = 4 := by unfold fitsFault rowsFault; simp [h12]
  have e' : fitsIs l N = false := by unfold fitsIs; rw [e]; rfl
  rw [e, e']
  exact rfits_full _ ao cap N w h12 hl
 rcases (Bool.eq_false_or_eq_true (l.any Rw.wrong)).symm with hw | hw
 ·have er : rowsFault l = 0 := by unfold rowsFault; rw [if_neg h12, hw]; rfl
  have ef : fitsFault l N = countsFault N := by unfold fitsFault; rw [if_pos er]
  have HA : Hid (∀ W, Below w.heap.size w W → Calls Tryz.prog 154 #[.slice ao l.length cap, .func (.func 155) #[] #[]] W (Bk W (.bool false))) := fun W hW => by
   have := any_rows (h.below hW)
   rw [hw] at this
   exact this
  by_cases hf : countsFault N = 0
  ·have e' : fitsIs l N = !(l.any fun r => !r.so N) := by unfold fitsIs; rw [ef, if_pos hf, any_not]
   rw [e', ef, hf]
   exact rfits_right _ ao cap N w _ (by omega) hf HA fun W hW hB => any_exceeds N w.heap.size (h.below hW) hw (counts_zero.1 hf).1 hB
  ·have e' : fitsIs l N = false := by unfold fitsIs; rw [ef, if_neg hf]
   rw [e', ef, errV_no hf]
   exact rfits_counts _ ao cap N w (by omega) hf HA
 ·have er : rowsFault l = 1 := by unfold rowsFault; rw [if_neg h12, hw]; rfl
  have ef : fitsFault l N = 1 := by unfold fitsFault; rw [er]; rfl
  have e' : fitsIs l N = false := by unfold fitsIs; rw [ef]; rfl
  rw [e', ef]
  exact rfits_wrong _ ao cap N w (by omega) fun W hW => by
   have := any_rows (h.below hW)
   rw [hw] at this
   exact this
end Go.Proofs.YtjmeakkmfeoigaaGreatDoor
namespace Go.Proofs.YtjmeakkmfeoigaaGreatDoor
open Go.ChangeShapes Go.WideShapes Go.ChangeAt Go.RowKit
set_option maxRecDepth 100000
attribute [local go_sem] Oper.semAt_some
def manyT (A : List (Nat → Int)) (p : (Nat → Int) → Bool) (k : Nat) : Nat := ((A.take k).filter p).length
end Go.Proofs.YtjmeakkmfeoigaaGreatDoor
namespace Go.Proofs.YtjmeakkmfeoigaaGreatDoor
open Go.ChangeShapes Go.WideShapes Go.ChangeAt Go.RowKit
set_option maxRecDepth 100000
attribute [local go_sem] Oper.semAt_some
theorem first_fit {A : List (Nat → Int)} {p : (Nat → Int) → Bool} {k : Nat} {x : Nat → Int} (h : A[k]? = some x) (hn : ∀ j, j < k → ∀ M, A[j]? = some M → p M = false) (hp : p x = true) : leastD A p 0 = x ∧ ¬ manyD A p 0 = 0 := by
 obtain ⟨hk, rfl⟩ := List.getElem?_eq_some_iff.1 h
 have hf : A.find? p = some A[k] := List.find?_eq_some_iff_getElem.2 ⟨hp, k, hk, rfl, fun j hj => by simpa using hn j hj A[j] (List.getElem?_eq_getElem _)⟩
 refine ⟨by unfold leastD; rw [List.drop_zero, hf]; rfl, fun h0 => ?_⟩
 unfold manyD at h0
 rw [List.drop_zero] at h0
 have hm : A[k] ∈ A.filter p := List.mem_filter.2 ⟨List.getElem_mem _, hp⟩
 rw [List.eq_nil_of_length_eq_zero h0] at hm
 cases hm
theorem none_fit {A : List (Nat → Int)} {p : (Nat → Int) → Bool} (hn : ∀ j, j < A.length → ∀ M, A[j]? = some M → p M = false) : manyD A p 0 = 0 := by
 unfold manyD
 rw [List.drop_zero, List.length_eq_zero_iff, List.filter_eq_nil_iff]
 intro M hM
 obtain ⟨j, hj⟩ := List.mem_iff_getElem?.1 hM
 rw [hn j (List.getElem?_eq_some_iff.1 hj).1 M hj]
 decide
theorem four_new (w : World) (o0 o1 o2 o3 : Obj) :
    ((((w.alloc o0).alloc o1).alloc o2).alloc o3).heap.size = w.heap.size + 4 ∧
    ((((w.alloc o0).alloc o1).alloc o2).alloc o3).heap[w.heap.size]? = some o0 ∧
    ((((w.alloc o0).alloc o1).alloc o2).alloc o3).heap[w.heap.size + 1]? = some o1 ∧
    ((((w.alloc o0).alloc o1).alloc o2).alloc o3).heap[w.heap.size + 1 + 1]? = some o2 ∧
    ((((w.alloc o0).alloc o1).alloc o2).alloc o3).heap[w.heap.size + 1 + 1 + 1]? = some o3 ∧
    Below w.heap.size w ((((w.alloc o0).alloc o1).alloc o2).alloc o3) := by
 have s1 : (w.alloc o0).heap.size = w.heap.size + 1 := World.size_alloc _ _
 have s2 : ((w.alloc o0).alloc o1).heap.size = w.heap.size + 1 + 1 := by rw [World.size_alloc, s1]
 have s3 : (((w.alloc o0).alloc o1).alloc o2).heap.size = w.heap.size + 1 + 1 + 1 := by rw [World.size_alloc, s2]
 refine ⟨by rw [World.size_alloc, s3], ?_, ?_, ?_, ?_, ?_⟩
 ·rw [Below.heap_alloc _ _ _ (by omega), Below.heap_alloc _ _ _ (by omega), Below.heap_alloc _ _ _ (by omega)]; exact World.alloc_heap_new _ _
 ·rw [Below.heap_alloc _ _ _ (by omega), Below.heap_alloc _ _ _ (by omega), ← s1]; exact World.alloc_heap_new _ _
 ·rw [Below.heap_alloc _ _ _ (by omega), ← s2]; exact World.alloc_heap_new _ _
 ·rw [← s3]; exact World.alloc_heap_new _ _
 ·exact ((((Below.refl _ w).alloc (Nat.le_refl _) _).alloc (by omega) _).alloc (by omega) _).alloc (by omega) _
theorem over_put8 {B : Nat} {X W : World} {R : Nat} (h : Over B X W) (hR : R < B) (M : Nat → Int) : Over B X (put8 W R M) :=
 (((((((h.setCell hR _).setCell hR _).setCell hR _).setCell hR _).setCell hR _).setCell hR _).setCell hR _).setCell hR _
theorem put8_block {W : World} {R D : Nat} (hD : D ≠ R) (M : Nat → Int) : (put8 W R M).heap[D]? = W.heap[D]? := by
 unfold put8
 rw [Below.heap_setCell _ _ _ _ (by exact hD), Below.heap_setCell _ _ _ _ (by exact hD), Below.heap_setCell _ _ _ _ (by exact hD), Below.heap_setCell _ _ _ _ (by exact hD), Below.heap_setCell _ _ _ _ (by exact hD), Below.heap_setCell _ _ _ _ (by exact hD), Below.heap_setCell _ _ _ _ (by exact hD), Below.heap_setCell _ _ _ _ (by exact hD)]
theorem least_leaves {w W : World} {D : Nat} {R : Nat → Int} {E : Value} {tmps : Array Value} {Q : Ending → World → Prop} (hD : w.heap.size + 4 ≤ D) (hK : W.heap[D]? = some (.deferred (some []))) (hB : Below w.heap.size w W)
    (c1 : Blk W (w.heap.size + 1) 122 (arr8 R)) (c2 : Blk W (w.heap.size + 1 + 1) 24 #[E])
    (t1 : tmps.getD 4 undef = .pointer (some ⟨w.heap.size + 1, 0, none⟩)) (t2 : tmps.getD 5 undef = .pointer (some ⟨w.heap.size + 1 + 1, 0, none⟩))
    (hQ : ∀ W', Below w.heap.size w W' → Q (.returned (.tuple #[.agg (arr8 R), E])) W') :
    LeavesInM Fence.wide 3 Tryz.prog Tryz.f85 tmps Q [{ target := .collected D, args := #[] }] .returning W := by
 refine ⟨by simp, .inl ⟨_, _, rfl, run_takeDeferred hK, ?_⟩⟩
 have l1 := load8 (c1.putO (.deferred none) (l := D) (by omega))
 have l2 := loadE (c2.putO (.deferred none) (l := D) (by omega))
 refine ⟨.tuple #[.agg (arr8 R), E], ?_, hQ _ (hB.trans (below_putObj _ _ (by omega)))⟩
 rw [results_two rfl, t1, t2]
 simp [asAddr, Result.andThen, l1, l2]
set_option maxHeartbeats 4000000 in
theorem least_right (n : Nat) (hn : n ≤ 6) (l : List Rw) (v : Value) (w : World) (hR : ReadsR w v l) (hr : rowsFault l = 0) :
    Calls Tryz.prog 85 #[.int .i64 n, v] w fun e w' => ((e = .returned (.tuple #[.agg (arr8 (leastD (everyC n) (fitB l) 0)), .nilIface]) ∧ ¬ manyD (everyC n) (fitB l) 0 = 0) ∨ (e = .returned (.tuple #[.agg (arr8 zeroC), .iface 64 (.int .i64 5)]) ∧ manyD (everyC n) (fitB l) 0 = 0)) ∧ Below w.heap.size w w' := by
 obtain ⟨lao, lcap, rfl, hll⟩ := hR.slice
 obtain ⟨A, hA⟩ := nm (everyC n)
 obtain ⟨p, hp⟩ := nm (fitB l)
 have HF : Hid (∀ (k : Nat) (M : Nat → Int) W, A[k]? = some M → Below w.heap.size w W → Calls Tryz.prog 124 #[.slice lao l.length lcap, .agg #[.int .i64 (M 0), .int .i64 (M 1), .int .i64 (M 2), .int .i64 (M 3), .int .i64 (M 4), .int .i64 (M 5), .int .i64 (M 6), .int .i64 (M 7)]] W (Bk W (.tuple #[.bool (p M), .nilIface]))) := fun k M W hM hW => by
  have h := rfits_any l _ M W (hR.below hW)
  have hc : countsFault M = 0 := everyC_right hn (by rw [hA] at hM; exact List.mem_of_getElem? hM)
  have ef : fitsFault l M = 0 := by unfold fitsFault; rw [if_pos hr, hc]
  have e : fitsIs l M = p M := by unfold fitsIs; rw [if_pos ef, hp]; rfl
  rw [e, ef] at h
  exact h
 have HS : Hid (∀ Bu W, W.cell? ⟨Bu, 0, none⟩ = some (.int .i64 n) → SeqG 2 Tryz.prog 115 #[.pointer (some ⟨Bu, 0, none⟩)] enc8 A W) := fun Bu W hB => by rw [hA]; exact iter_any n hn 2 (by omega) Bu W hB
 have HLn : Hid (0 < A.length) := by unfold Hid; rw [hA]; exact List.length_pos_iff.2 (allF_ne 7 n _)
 have HCk : Hid (∀ W, Calls Tryz.prog 116 #[.int .i64 n] W (Sk W .nilIface)) := fun W => fitCheck_ok n hn W
 rw [← hA, ← hp]
 clear hA hp hr hn
 obtain ⟨Z, hZ⟩ : ∃ Z : Nat → Int, Z = zeroC := ⟨_, rfl⟩
 refine (callsIn_wide (n := 3)).1 ?_
 refine callsIn_of_wp_marks Tryz.func85 rfl trivial ?_ rfl
 simp only [Tryz.ntmps85, List.size_toArray, List.length_cons, List.length_nil, Nat.reduceAdd, Nat.reduceSub, Array.replicate_succ, Array.replicate_zero, List.push_toArray, List.append_toArray, List.nil_append, List.cons_append]
 have HZ := hide hZ
 clear hZ
 gi_wp2_with fail
 refine ⟨trivial, ?_⟩
 gi_at_call 116
 refine (callsIn_wide.2 (HCk.out _)).mono ?_
 rintro e w1 ⟨rfl, rfl⟩
 gi_wp2_with fail
 refine ⟨trivial, ?_⟩
 gi_at_call 77
 refine (callsIn_wide.2 (fitAll_any _ _)).mono ?_
 rintro e w3 ⟨rfl, rfl⟩
 gi_wp2_with fail
 obtain ⟨hsz, b0, b1, b2, b3, hB0⟩ := four_new w (.cells #[.slice lao l.length lcap] 137) (.cells #[.int .i64 0, .int .i64 0, .int .i64 0, .int .i64 0, .int .i64 0, .int .i64 0, .int .i64 0, .int .i64 0] 122) (.cells #[.nilIface] 24) (.cells #[.int .i64 n] 3)
 obtain ⟨wl, hwl⟩ := nm ((((w.alloc (.cells #[.slice lao l.length lcap] 137)).alloc (.cells #[.int .i64 0, .int .i64 0, .int .i64 0, .int .i64 0, .int .i64 0, .int .i64 0, .int .i64 0, .int .i64 0] 122)).alloc (.cells #[.nilIface] 24)).alloc (.cells #[.int .i64 n] 3))
 rw [← hwl] at hsz b0 b1 b2 b3 hB0 ⊢
 clear hwl
 have HB0 := hide hB0
 have Hsz := hide hsz
 have H0 : Hid (Blk wl w.heap.size 137 #[.slice lao l.length lcap]) := b0
 have H1 : Hid (Blk wl (w.heap.size + 1) 122 (arr8 Z)) := by unfold Hid; rw [HZ.out]; exact b1
 have H2 : Hid (Blk wl (w.heap.size + 1 + 1) 24 #[.nilIface]) := b2
 have H4 : Hid (Blk wl (w.heap.size + 1 + 1 + 1) 3 #[.int .i64 n]) := b3
 clear hsz b0 b1 b2 b3 hB0
 refine wpIn_range_own (by omega) (gf := 115) (lb := #[.pointer (some ⟨w.heap.size + 1 + 1 + 1, 0, none⟩)]) rfl (enters_of Tryz.func115 (by kernel_rfl) rfl) (encs := enc8) (A := A)
  (fun W hW => HS.out _ W ((hW.cell (by rw [Hsz.out]; simp)).trans (H4.out.cell 0))) (fun _ => rfl)
  (fun k W => Below w.heap.size w W ∧ Blk W w.heap.size 137 #[.slice lao l.length lcap] ∧ Blk W (w.heap.size + 1) 122 (arr8 Z) ∧ Blk W (w.heap.size + 1 + 1) 24 #[.nilIface] ∧ ∀ j, j < k → ∀ M, A[j]? = some M → p M = false)
  (fun _ W => Below w.heap.size w W ∧ Blk W (w.heap.size + 1) 122 (arr8 (leastD A p 0)) ∧ Blk W (w.heap.size + 1 + 1) 24 #[.nilIface] ∧ ¬ manyD A p 0 = 0)
  (fun k X Y h hb => ⟨h.1.trans (hb.mono (by rw [Hsz.out]; omega)), h.2.1.keep hb (by rw [Hsz.out]; omega), h.2.2.1.keep hb (by rw [Hsz.out]; omega), h.2.2.2.1.keep hb (by rw [Hsz.out]; omega), h.2.2.2.2⟩)
  (fun _ X Y h hb => ⟨h.1.trans (hb.mono (by rw [Hsz.out]; omega)), h.2.1.keep hb (by rw [Hsz.out]; omega), h.2.2.1.keep hb (by rw [Hsz.out]; omega), h.2.2.2⟩) ⟨HB0.out, H0.out, H1.out, H2.out, fun j hj => by omega⟩ ?round ?done ?stop
 case round =>
  intro ln k x W hx hl1 hl2 ⟨hB, c0, c1, c2, c3⟩
  have HX := hide hx
  have Hl1 : Hid (w.heap.size + 4 ≤ ln) := by unfold Hid; rw [← Hsz.out]; exact hl1
  have Hl2 := hide hl2
  have HBk := hide hB
  have C0 : Hid (Blk W w.heap.size 137 #[.slice lao l.length lcap]) := c0
  have C1 : Hid (Blk W (w.heap.size + 1) 122 (arr8 Z)) := c1
  have C2 : Hid (Blk W (w.heap.size + 1 + 1) 24 #[.nilIface]) := c2
  have C3 := hide c3
  clear hx hl1 hl2 hB c0 c1 c2 c3
  unfold enc8
  gi_wp2
  refine ⟨(Over.refl _ _).alloc _, fun o => ?_⟩
  obtain ⟨W2, hW2⟩ := nm ((W.alloc (.cells #[.int .i64 (x 0), .int .i64 (x 1), .int .i64 (x 2), .int .i64 (x 3), .int .i64 (x 4), .int .i64 (x 5), .int .i64 (x 6), .int .i64 (x 7)] 122)).putObj ln o)
  obtain ⟨Gx, hGx⟩ := nm W.heap.size
  have HB2 : Hid (Below w.heap.size w W2) := by unfold Hid; rw [hW2]; exact (HBk.out.alloc HBk.out.size _).trans (below_putObj _ _ (by have := Hl1.out; omega))
  have D0 : Hid (Blk W2 w.heap.size 137 #[.slice lao l.length lcap]) := by unfold Hid; rw [hW2]; exact (C0.out.old _).putO _ (by have := Hl1.out; omega)
  have D1 : Hid (Blk W2 (w.heap.size + 1) 122 (arr8 Z)) := by unfold Hid; rw [hW2]; exact (C1.out.old _).putO _ (by have := Hl1.out; omega)
  have D2 : Hid (Blk W2 (w.heap.size + 1 + 1) 24 #[.nilIface]) := by unfold Hid; rw [hW2]; exact (C2.out.old _).putO _ (by have := Hl1.out; omega)
  have D8 : Hid (Blk W2 Gx 122 (arr8 x)) := by unfold Hid; rw [hW2, hGx]; exact (Blk.new _ _ _).putO _ (by have := Hl2.out; omega)
  rw [← hW2, ← hGx]
  clear hW2 hGx
  have HFk := hide (HF.out k x W2 HX.out HB2.out)
  obtain ⟨q, hq⟩ := nm (p x)
  rw [← hq] at HFk
  have HQ := hide hq
  clear hq
  have e0 : W2.cell? ⟨w.heap.size, 0, none⟩ = some (.slice lao l.length lcap) := D0.out.cell 0
  obtain ⟨x0, x1, x2, x3, x4, x5, x6, x7⟩ := D8.out.cells8
  gi_wp2_with fail
  refine ⟨trivial, ?_⟩
  gi_at_call 124
  refine (CallsIn.inRound ln (callsIn_wide.2 HFk.out)).mono ?_
  rintro e W3 ⟨rfl, hb3⟩
  have HB3 := hide (HB2.out.trans (hb3.mono HB2.out.size))
  have E0 := hide (D0.out.below hb3)
  have E1 := hide (D1.out.below hb3)
  have E2 := hide (D2.out.below hb3)
  have E8 := hide (D8.out.below hb3)
  have HO3 : Hid (Over wl.heap.size W2 W3) := Over.of_below hb3
  clear hb3 e0 x0 x1 x2 x3 x4 x5 x6 x7
  cases q with
  | true =>
   have HL : Hid (leastD A p 0 = x ∧ ¬ manyD A p 0 = 0) := first_fit HX.out C3.out HQ.out.symm
   clear HQ
   obtain ⟨x0, x1, x2, x3, x4, x5, x6, x7⟩ := E8.out.cells8
   obtain ⟨r0, r1, r2, r3, r4, r5, r6, r7⟩ := E1.out.cells8
   obtain ⟨f0, f1, f2, f3, f4, f5, f6, f7⟩ := E1.out.frozen8
   have e2 : W3.cell? ⟨w.heap.size + 1 + 1, 0, none⟩ = some .nilIface := E2.out.cell 0
   have z2 : W3.frozen? ⟨w.heap.size + 1 + 1, 0, none⟩ = false := E2.out.frozen 0
   gi_wp2
   refine ⟨(over_put8 HO3.out (by rw [Hsz.out]; omega) x).setCell (by rw [Hsz.out]; simp) _, (put8_below HB3.out (by omega) x).setCell (by simp; omega) _, ?_, (put8_far E2.out (by omega) x).set 0 _, HL.out.2⟩
   rw [HL.out.1]
   exact (put8_blk E1.out x).far (by omega) _ _
  | false =>
   have HN : Hid (∀ j, j < k + 1 → ∀ M, A[j]? = some M → p M = false) := fun j hj M hM => by
    rcases Nat.lt_or_ge j k with h | h
    ·exact C3.out j h M hM
    ·obtain rfl : j = k := by omega
     have e := HX.out.symm.trans hM
     rw [← Option.some.inj e]
     exact HQ.out.symm
   clear HQ
   gi_wp2
   exact ⟨HO3.out, HB3.out, E0.out, E1.out, E2.out, HN.out⟩
 case done =>
  intro D W hD ⟨hB, c0, c1, c2, c3⟩ hK
  have HD : Hid (w.heap.size + 4 ≤ D) := by unfold Hid; rw [← Hsz.out]; exact hD
  have HK := hide hK
  have HB3 := hide hB
  have E1 : Hid (Blk W (w.heap.size + 1) 122 (arr8 Z)) := c1
  have E2 : Hid (Blk W (w.heap.size + 1 + 1) 24 #[.nilIface]) := c2
  have HE : Hid (manyD A p 0 = 0) := none_fit c3
  clear hD hB c0 c1 c2 c3 hK
  obtain ⟨r0, r1, r2, r3, r4, r5, r6, r7⟩ := E1.out.cells8
  obtain ⟨f0, f1, f2, f3, f4, f5, f6, f7⟩ := E1.out.frozen8
  have e2 : W.cell? ⟨w.heap.size + 1 + 1, 0, none⟩ = some .nilIface := E2.out.cell 0
  have z2 : W.frozen? ⟨w.heap.size + 1 + 1, 0, none⟩ = false := E2.out.frozen 0
  gi_wp2
  have hd := HD.out
  refine least_leaves (W := (put8 W (w.heap.size + 1) zeroC).setCell ⟨w.heap.size + 1 + 1, 0, none⟩ (.iface 64 (.int .i64 5))) hd ?_ ((put8_below HB3.out (by omega) zeroC).setCell (by simp; omega) _) ((put8_blk E1.out zeroC).far (by omega) _ _) ((put8_far E2.out (by omega) zeroC).set 0 _) rfl rfl (fun W' hW' => ⟨Or.inr ⟨rfl, HE.out⟩, hW'⟩)
  rw [Below.heap_setCell _ _ _ _ (by simp; omega), put8_block (by omega)]
  exact HK.out
 case stop =>
  intro D k W hD _ ⟨hB, c1, c2, c3⟩ hK
  have HD : Hid (w.heap.size + 4 ≤ D) := by unfold Hid; rw [← Hsz.out]; exact hD
  have HK := hide hK
  have HBk := hide hB
  have C1 : Hid (Blk W (w.heap.size + 1) 122 (arr8 (leastD A p 0))) := c1
  have C2 : Hid (Blk W (w.heap.size + 1 + 1) 24 #[.nilIface]) := c2
  have C3 := hide c3
  clear hD hB c1 c2 c3 hK
  gi_wp2
  exact least_leaves HD.out HK.out HBk.out C1.out C2.out rfl rfl (fun W' hW' => ⟨Or.inl ⟨rfl, C3.out⟩, hW'⟩)
set_option maxHeartbeats 4000000 in
theorem least_wrong (n : Nat) (hn : n ≤ 6) (l : List Rw) (v : Value) (w : World) (hR : ReadsR w v l) (hr : ¬ rowsFault l = 0) :
    Calls Tryz.prog 85 #[.int .i64 n, v] w (Bk w (.tuple #[.agg (arr8 zeroC), .iface 64 (.int .i64 (rowsFault l))])) := by
 obtain ⟨lao, lcap, rfl, hll⟩ := hR.slice
 obtain ⟨A, hA⟩ := nm (everyC n)
 obtain ⟨F, hF⟩ := nm (rowsFault l)
 have HF : Hid (∀ (M : Nat → Int) W, Below w.heap.size w W → Calls Tryz.prog 124 #[.slice lao l.length lcap, .agg #[.int .i64 (M 0), .int .i64 (M 1), .int .i64 (M 2), .int .i64 (M 3), .int .i64 (M 4), .int .i64 (M 5), .int .i64 (M 6), .int .i64 (M 7)]] W (Bk W (.tuple #[.bool false, .iface 64 (.int .i64 F)]))) := fun M W hW => by
  have h := rfits_any l _ M W (hR.below hW)
  have ef : fitsFault l M = rowsFault l := by unfold fitsFault; rw [if_neg hr]
  have e : fitsIs l M = false := by unfold fitsIs; rw [ef, if_neg hr]
  rw [e, ef, errV_no hr, ← hF] at h
  exact h
 have HS : Hid (∀ Bu W, W.cell? ⟨Bu, 0, none⟩ = some (.int .i64 n) → SeqG 2 Tryz.prog 115 #[.pointer (some ⟨Bu, 0, none⟩)] enc8 A W) := fun Bu W hB => by rw [hA]; exact iter_any n hn 2 (by omega) Bu W hB
 have HLn : Hid (0 < A.length) := by unfold Hid; rw [hA]; exact List.length_pos_iff.2 (allF_ne 7 n _)
 have HCk : Hid (∀ W, Calls Tryz.prog 116 #[.int .i64 n] W (Sk W .nilIface)) := fun W => fitCheck_ok n hn W
 rw [← hF]
 clear hA hF hr hn
 obtain ⟨Z, hZ⟩ : ∃ Z : Nat → Int, Z = zeroC := ⟨_, rfl⟩
 refine (callsIn_wide (n := 3)).1 ?_
 refine callsIn_of_wp_marks Tryz.func85 rfl trivial ?_ rfl
 simp only [Tryz.ntmps85, List.size_toArray, List.length_cons, List.length_nil, Nat.reduceAdd, Nat.reduceSub, Array.replicate_succ, Array.replicate_zero, List.push_toArray, List.append_toArray, List.nil_append, List.cons_append]
 have HZ := hide hZ
 clear hZ
 gi_wp2_with fail
 refine ⟨trivial, ?_⟩
 gi_at_call 116
 refine (callsIn_wide.2 (HCk.out _)).mono ?_
 rintro e w1 ⟨rfl, rfl⟩
 gi_wp2_with fail
 refine ⟨trivial, ?_⟩
 gi_at_call 77
 refine (callsIn_wide.2 (fitAll_any _ _)).mono ?_
 rintro e w3 ⟨rfl, rfl⟩
 gi_wp2_with fail
 obtain ⟨hsz, b0, b1, b2, b3, hB0⟩ := four_new w (.cells #[.slice lao l.length lcap] 137) (.cells #[.int .i64 0, .int .i64 0, .int .i64 0, .int .i64 0, .int .i64 0, .int .i64 0, .int .i64 0, .int .i64 0] 122) (.cells #[.nilIface] 24) (.cells #[.int .i64 n] 3)
 obtain ⟨wl, hwl⟩ := nm ((((w.alloc (.cells #[.slice lao l.length lcap] 137)).alloc (.cells #[.int .i64 0, .int .i64 0, .int .i64 0, .int .i64 0, .int .i64 0, .int .i64 0, .int .i64 0, .int .i64 0] 122)).alloc (.cells #[.nilIface] 24)).alloc (.cells #[.int .i64 n] 3))
 rw [← hwl] at hsz b0 b1 b2 b3 hB0 ⊢
 clear hwl
 have HB0 := hide hB0
 have Hsz := hide hsz
 have H0 : Hid (Blk wl w.heap.size 137 #[.slice lao l.length lcap]) := b0
 have H1 : Hid (Blk wl (w.heap.size + 1) 122 (arr8 Z)) := by unfold Hid; rw [HZ.out]; exact b1
 have H2 : Hid (Blk wl (w.heap.size + 1 + 1) 24 #[.nilIface]) := b2
 have H4 : Hid (Blk wl (w.heap.size + 1 + 1 + 1) 3 #[.int .i64 n]) := b3
 clear hsz b0 b1 b2 b3 hB0
 refine wpIn_range_own (by omega) (gf := 115) (lb := #[.pointer (some ⟨w.heap.size + 1 + 1 + 1, 0, none⟩)]) rfl (enters_of Tryz.func115 (by kernel_rfl) rfl) (encs := enc8) (A := A)
  (fun W hW => HS.out _ W ((hW.cell (by rw [Hsz.out]; simp)).trans (H4.out.cell 0))) (fun _ => rfl)
  (fun k W => Below w.heap.size w W ∧ Blk W w.heap.size 137 #[.slice lao l.length lcap] ∧ Blk W (w.heap.size + 1) 122 (arr8 Z) ∧ Blk W (w.heap.size + 1 + 1) 24 #[.nilIface] ∧ k = 0)
  (fun _ W => Below w.heap.size w W ∧ Blk W (w.heap.size + 1) 122 (arr8 zeroC) ∧ Blk W (w.heap.size + 1 + 1) 24 #[.iface 64 (.int .i64 F)] ∧ True)
  (fun k X Y h hb => ⟨h.1.trans (hb.mono (by rw [Hsz.out]; omega)), h.2.1.keep hb (by rw [Hsz.out]; omega), h.2.2.1.keep hb (by rw [Hsz.out]; omega), h.2.2.2.1.keep hb (by rw [Hsz.out]; omega), h.2.2.2.2⟩)
  (fun _ X Y h hb => ⟨h.1.trans (hb.mono (by rw [Hsz.out]; omega)), h.2.1.keep hb (by rw [Hsz.out]; omega), h.2.2.1.keep hb (by rw [Hsz.out]; omega), h.2.2.2⟩) ⟨HB0.out, H0.out, H1.out, H2.out, rfl⟩ ?round ?done ?stop
 case round =>
  intro ln k x W hx hl1 hl2 ⟨hB, c0, c1, c2, c3⟩
  have HX := hide hx
  have Hl1 : Hid (w.heap.size + 4 ≤ ln) := by unfold Hid; rw [← Hsz.out]; exact hl1
  have Hl2 := hide hl2
  have HBk := hide hB
  have C0 : Hid (Blk W w.heap.size 137 #[.slice lao l.length lcap]) := c0
  have C1 : Hid (Blk W (w.heap.size + 1) 122 (arr8 Z)) := c1
  have C2 : Hid (Blk W (w.heap.size + 1 + 1) 24 #[.nilIface]) := c2
  clear hx hl1 hl2 hB c0 c1 c2 c3
  unfold enc8
  gi_wp2
  refine ⟨(Over.refl _ _).alloc _, fun o => ?_⟩
  obtain ⟨W2, hW2⟩ := nm ((W.alloc (.cells #[.int .i64 (x 0), .int .i64 (x 1), .int .i64 (x 2), .int .i64 (x 3), .int .i64 (x 4), .int .i64 (x 5), .int .i64 (x 6), .int .i64 (x 7)] 122)).putObj ln o)
  obtain ⟨Gx, hGx⟩ := nm W.heap.size
  have HB2 : Hid (Below w.heap.size w W2) := by unfold Hid; rw [hW2]; exact (HBk.out.alloc HBk.out.size _).trans (below_putObj _ _ (by have := Hl1.out; omega))
  have D0 : Hid (Blk W2 w.heap.size 137 #[.slice lao l.length lcap]) := by unfold Hid; rw [hW2]; exact (C0.out.old _).putO _ (by have := Hl1.out; omega)
  have D1 : Hid (Blk W2 (w.heap.size + 1) 122 (arr8 Z)) := by unfold Hid; rw [hW2]; exact (C1.out.old _).putO _ (by have := Hl1.out; omega)
  have D2 : Hid (Blk W2 (w.heap.size + 1 + 1) 24 #[.nilIface]) := by unfold Hid; rw [hW2]; exact (C2.out.old _).putO _ (by have := Hl1.out; omega)
  have D8 : Hid (Blk W2 Gx 122 (arr8 x)) := by unfold Hid; rw [hW2, hGx]; exact (Blk.new _ _ _).putO _ (by have := Hl2.out; omega)
  rw [← hW2, ← hGx]
  clear hW2 hGx
  have HFk := hide (HF.out x W2 HB2.out)
  have e0 : W2.cell? ⟨w.heap.size, 0, none⟩ = some (.slice lao l.length lcap) := D0.out.cell 0
  obtain ⟨x0, x1, x2, x3, x4, x5, x6, x7⟩ := D8.out.cells8
  gi_wp2_with fail
  refine ⟨trivial, ?_⟩
  gi_at_call 124
  refine (CallsIn.inRound ln (callsIn_wide.2 HFk.out)).mono ?_
  rintro e W3 ⟨rfl, hb3⟩
  have HB3 := hide (HB2.out.trans (hb3.mono HB2.out.size))
  have E0 := hide (D0.out.below hb3)
  have E1 := hide (D1.out.below hb3)
  have E2 := hide (D2.out.below hb3)
  have E8 := hide (D8.out.below hb3)
  have HO3 : Hid (Over wl.heap.size W2 W3) := Over.of_below hb3
  clear hb3 e0 x0 x1 x2 x3 x4 x5 x6 x7
  obtain ⟨r0, r1, r2, r3, r4, r5, r6, r7⟩ := E1.out.cells8
  obtain ⟨f0, f1, f2, f3, f4, f5, f6, f7⟩ := E1.out.frozen8
  have e2 : W3.cell? ⟨w.heap.size + 1 + 1, 0, none⟩ = some .nilIface := E2.out.cell 0
  have z2 : W3.frozen? ⟨w.heap.size + 1 + 1, 0, none⟩ = false := E2.out.frozen 0
  gi_wp2
  exact ⟨(over_put8 HO3.out (by rw [Hsz.out]; omega) zeroC).setCell (by rw [Hsz.out]; simp) _, (put8_below HB3.out (by omega) zeroC).setCell (by simp; omega) _, (put8_blk E1.out zeroC).far (by omega) _ _, (put8_far E2.out (by omega) zeroC).set 0 _, trivial⟩
 case done =>
  intro D W _ ⟨_, _, _, _, h0⟩
  have := HLn.out
  omega
 case stop =>
  intro D k W hD _ ⟨hB, c1, c2, _⟩ hK
  have HD : Hid (w.heap.size + 4 ≤ D) := by unfold Hid; rw [← Hsz.out]; exact hD
  have HK := hide hK
  have HBk := hide hB
  have C1 : Hid (Blk W (w.heap.size + 1) 122 (arr8 zeroC)) := c1
  have C2 : Hid (Blk W (w.heap.size + 1 + 1) 24 #[.iface 64 (.int .i64 F)]) := c2
  clear hD hB c1 c2 hK
  gi_wp2
  exact least_leaves HD.out HK.out HBk.out C1.out C2.out rfl rfl (fun W' hW' => ⟨rfl, hW'⟩)
set_option maxHeartbeats 4000000 in
theorem least_range (u : Int) (hu : ¬ (0 ≤ u ∧ u ≤ 6)) (lao : Option Addr) (ln lcap : Nat) (w : World) :
    Calls Tryz.prog 85 #[.int .i64 u, .slice lao ln lcap] w (Bk w (.tuple #[.agg (arr8 zeroC), .iface 64 (.int .i64 1)])) := by
 have HCk : Hid (∀ W, Calls Tryz.prog 116 #[.int .i64 u] W (Sk W (.iface 64 (.int .i64 1)))) := fun W => fitCheck_no u hu W
 clear hu
 obtain ⟨w1, hw1⟩ := nm (((w.alloc (.cells #[.slice lao ln lcap] 137)).alloc (.cells #[.int .i64 0, .int .i64 0, .int .i64 0, .int .i64 0, .int .i64 0, .int .i64 0, .int .i64 0, .int .i64 0] 122)).alloc (.cells #[.nilIface] 24))
 have HB : Hid (Below w.heap.size w w1) := by unfold Hid; rw [hw1]; exact ((below_alloc1 _ _).alloc (by simp) _).alloc (by simp; omega) _
 have E1 : Hid (Blk w1 (w.heap.size + 1) 122 (arr8 zeroC)) := by
  unfold Hid; rw [hw1]
  have := Blk.new (w.alloc (.cells #[.slice lao ln lcap] 137)) 122 (arr8 zeroC)
  rw [World.size_alloc] at this
  exact this.old _
 have E2 : Hid (Blk w1 (w.heap.size + 1 + 1) 24 #[.nilIface]) := by
  unfold Hid; rw [hw1]
  have := Blk.new ((w.alloc (.cells #[.slice lao ln lcap] 137)).alloc (.cells (arr8 zeroC) 122)) 24 #[.nilIface]
  rw [World.size_alloc, World.size_alloc] at this
  exact this
 go_enter Tryz.func85, Tryz.ntmps85
 go_wp2_with fail
 rw [← hw1]
 clear hw1
 go_at_call 116
 refine (HCk.out _).mono ?_
 rintro e w2 ⟨rfl, rfl⟩
 have r0 : w1.cell? ⟨w.heap.size + 1, 0, none⟩ = some (.int .i64 0) := E1.out.cell 0
 have r1 : w1.cell? ⟨w.heap.size + 1, 1, none⟩ = some (.int .i64 0) := E1.out.cell 1
 have r2 : w1.cell? ⟨w.heap.size + 1, 2, none⟩ = some (.int .i64 0) := E1.out.cell 2
 have r3 : w1.cell? ⟨w.heap.size + 1, 3, none⟩ = some (.int .i64 0) := E1.out.cell 3
 have r4 : w1.cell? ⟨w.heap.size + 1, 4, none⟩ = some (.int .i64 0) := E1.out.cell 4
 have r5 : w1.cell? ⟨w.heap.size + 1, 5, none⟩ = some (.int .i64 0) := E1.out.cell 5
 have r6 : w1.cell? ⟨w.heap.size + 1, 6, none⟩ = some (.int .i64 0) := E1.out.cell 6
 have r7 : w1.cell? ⟨w.heap.size + 1, 7, none⟩ = some (.int .i64 0) := E1.out.cell 7
 obtain ⟨f0, f1, f2, f3, f4, f5, f6, f7⟩ := E1.out.frozen8
 have e2 : w1.cell? ⟨w.heap.size + 1 + 1, 0, none⟩ = some .nilIface := E2.out.cell 0
 have z2 : w1.frozen? ⟨w.heap.size + 1 + 1, 0, none⟩ = false := E2.out.frozen 0
 go_wp2
 have l1 := load8 ((put8_blk E1.out zeroC).far (R := w.heap.size + 1 + 1) (by omega) 0 (.iface 64 (.int .i64 1)))
 have l2 := loadE ((put8_far E2.out (R := w.heap.size + 1) (by omega) zeroC).set 0 (.iface 64 (.int .i64 1)))
 refine bodyPost_ret (v := .tuple #[.agg (arr8 zeroC), .iface 64 (.int .i64 1)]) ?_ rfl ⟨rfl, (put8_below HB.out (by omega) zeroC).setCell (by simp; omega) _⟩
 rw [results_two rfl]
 unfold put8 zeroC at l1 l2
 simp [asAddr, Result.andThen, l1, l2]
 rfl
theorem least_any (u : Int) (l : List Rw) (v : Value) (w : World) (hR : ReadsR w v l) :
    Calls Tryz.prog 85 #[.int .i64 u, v] w (Bk w (.tuple #[.agg (arr8 (leastN u l)), errV (leastFault u l)])) := by
 by_cases hu : 0 ≤ u ∧ u ≤ 6
 ·obtain ⟨n, rfl⟩ := Int.eq_ofNat_of_zero_le hu.1
  have eff : fitFault (n : Int) l = rowsFault l := by unfold fitFault; rw [if_pos hu]
  by_cases hr : rowsFault l = 0
  ·have em : fitManyN (n : Int) l = (manyD (everyC n) (fitB l) 0 : Int) := by unfold fitManyN; rw [eff, if_pos hr, Int.toNat_natCast]
   have el : leastN (n : Int) l = leastD (everyC n) (fitB l) 0 := by unfold leastN; rw [eff, if_pos hr, Int.toNat_natCast]
   have ef : leastFault (n : Int) l = if manyD (everyC n) (fitB l) 0 = 0 then 5 else 0 := by
    unfold leastFault
    rw [eff, if_pos hr, em]
    by_cases h : manyD (everyC n) (fitB l) 0 = 0
    ·rw [if_pos h, if_pos (by omega)]
    ·rw [if_neg h, if_neg (by omega)]
   refine (least_right n (by omega) l v w hR hr).mono ?_
   rintro e w' ⟨⟨rfl, h⟩ | ⟨rfl, h⟩, hb⟩
   ·rw [el, ef, if_neg h]; exact ⟨rfl, hb⟩
   ·rw [el, ef, if_pos h, manyD_none h]; exact ⟨rfl, hb⟩
  ·have el : leastN (n : Int) l = zeroC := by unfold leastN; rw [eff, if_neg hr]
   have ef : leastFault (n : Int) l = rowsFault l := by unfold leastFault; rw [eff, if_neg hr]
   rw [el, ef, errV_no hr]
   exact least_wrong n (by omega) l v w hR hr
 ·have eff : fitFault u l = 1 := by unfold fitFault; rw [if_neg hu]
  have el : leastN u l = zeroC := by unfold leastN; rw [eff, if_neg (by decide)]
  have ef : leastFault u l = 1 := by unfold leastFault; rw [eff, if_neg (by decide)]
  rw [el, ef]
  obtain ⟨lao, lcap, rfl, _⟩ := hR.slice
  exact least_range u hu lao _ lcap w
end Go.Proofs.YtjmeakkmfeoigaaGreatDoor
namespace Go.Proofs.YtjmeakkmfeoigaaGreatDoor
open Go.ChangeShapes Go.WideShapes Go.ChangeAt Go.RowKit
set_option maxRecDepth 100000
def cellsR (l : List Rw) : List Value := l.flatMap fun r => (arrR r.t r.m).toList
theorem cellsR_append (l m : List Rw) : cellsR (l ++ m) = cellsR l ++ cellsR m := by unfold cellsR; rw [List.flatMap_append]
theorem cellsR_one (r : Rw) : cellsR [r] = (arrR r.t r.m).toList := by unfold cellsR; simp
theorem cellsR_at (l : List Rw) : ∀ (i : Nat) (r : Rw), l[i]? = some r → ∀ f, f < 9 → (cellsR l)[i * 9 + f]? = (arrR r.t r.m)[f]? := by
 induction l with
 | nil => intro i r h; simp at h
 | cons q l ih =>
  intro i r h f hf
  have e : cellsR (q :: l) = (arrR q.t q.m).toList ++ cellsR l := by unfold cellsR; rw [List.flatMap_cons]
  have hl : (arrR q.t q.m).toList.length = 9 := rfl
  rw [e]
  cases i with
  | zero =>
   obtain rfl : q = r := by simpa using h
   rw [List.getElem?_append_left (by omega), show 0 * 9 + f = f by omega, Array.getElem?_toList]
  | succ i =>
   rw [List.getElem?_append_right (by omega), hl, show (i + 1) * 9 + f - 9 = i * 9 + f by omega]
   exact ih i r (by simpa using h) f hf
theorem RowAt.all {w : World} {b off : Nat} {r : Rw} (h : RowAt w b off r) : ∀ f, f < 9 → w.cell? ⟨b, off + f, none⟩ = (arrR r.t r.m)[f]? := by
 obtain ⟨h0, h1, h2, h3, h4, h5, h6, h7, h8⟩ := h
 intro f hf
 have d : f = 0 ∨ f = 1 ∨ f = 2 ∨ f = 3 ∨ f = 4 ∨ f = 5 ∨ f = 6 ∨ f = 7 ∨ f = 8 := by omega
 rcases d with rfl | rfl | rfl | rfl | rfl | rfl | rfl | rfl | rfl
 ·exact h0
 ·exact h1
 ·exact h2
 ·exact h3
 ·exact h4
 ·exact h5
 ·exact h6
 ·exact h7
 ·exact h8
theorem own_readsR {w : World} {K : Nat} {v : Value} {l : List Rw} (h : w.ownsRow K 183 9 v l.length (cellsR l)) (hm : l.length ≤ 9223372036854775807) : ReadsR w v l := by
 rcases h.2 with ⟨rfl, h0⟩ | ⟨g, cap, cur, rfl, hb, hg, hc, hmx, hs, ht⟩
 ·exact Or.inl ⟨none, 0, rfl, List.eq_nil_of_length_eq_zero h0⟩
 ·rcases Nat.eq_zero_or_pos l.length with h0 | h0
  ·have e : l = [] := List.eq_nil_of_length_eq_zero h0
   subst e
   exact Or.inl ⟨_, _, rfl, rfl⟩
  ·refine Or.inr ⟨g, 0, cap, rfl, (Array.getElem?_eq_some_iff.1 hg).1, h0, ⟨hm, hc⟩, fun i r hr => ?_⟩
   have hi : i < l.length := (List.getElem?_eq_some_iff.1 hr).1
   have k : ∀ f, f < 9 → w.cell? ⟨g, 0 + i * 9 + f, none⟩ = (arrR r.t r.m)[f]? := fun f hf => by
    rw [cell_of_row w g _ cur _ (0, 0) hg]
    have hx := cellsR_at l i r hr f hf
    rw [← ht, List.getElem?_take_of_lt (by omega)] at hx
    rw [show 0 + i * 9 + f = i * 9 + f by omega, ← Array.getElem?_toList]
    exact hx
   exact ⟨k 0 (by omega), k 1 (by omega), k 2 (by omega), k 3 (by omega), k 4 (by omega), k 5 (by omega), k 6 (by omega), k 7 (by omega), k 8 (by omega)⟩
theorem infoI9 : (Tryz.prog.info? 183).isSome = true := by kernel_rfl
theorem zeroI9 : (Tryz.prog.info? 183).bind (·.zero) = some (.agg #[.int .i64 0, .int .i64 0, .int .i64 0, .int .i64 0, .int .i64 0, .int .i64 0, .int .i64 0, .int .i64 0, .int .i64 0]) := by kernel_rfl
theorem sizeI9 : (Tryz.prog.info? 183).map (·.size) = some 9 := by kernel_rfl
theorem bytesI9 : (Tryz.prog.info? 183).map (·.bytes) = some 72 := by kernel_rfl
theorem append_one {w : World} {ops : Array Oper} {rest : List Oper} {o : Oper} {a : Act} {Q : Exit → Act → World → Prop} (hgd : o.guard = none) (s x : Operand)
    (ho : o.op = .call { callee := .builtin .append, args := #[s, x], argTypes := #[137, 137] }) (K : Nat) (v : Value) (hs : a.eval s = v) (l : List Rw) (r : Rw) (B c : Nat) (hx : a.eval x = .slice (some ⟨B, 0, none⟩) 1 c)
    (hown : w.ownsRow K 183 9 v l.length (cellsR l)) (hB : w.heap[B]? = some (.cells (arrR r.t r.m) 183 (0, 0))) (hK : K ≤ w.heap.size) (h12 : l.length ≤ 12)
    (h : ∀ v' w', w'.ownsRow K 183 9 v' (l ++ [r]).length (cellsR (l ++ [r])) → w.grownBy w' v.ownBlock → wpList Tryz.prog ops Q rest (a.put o.dst v') w') :
    wpList Tryz.prog ops Q (o :: rest) a w := by
 obtain ⟨i9, hi⟩ : ∃ i, Tryz.prog.info? 183 = some i := Option.isSome_iff_exists.1 infoI9
 have hz0 : i9.zero = some (.agg #[.int .i64 0, .int .i64 0, .int .i64 0, .int .i64 0, .int .i64 0, .int .i64 0, .int .i64 0, .int .i64 0, .int .i64 0]) := by have := zeroI9; rw [hi] at this; simpa using this
 have hz1 : i9.size = 9 := by have := sizeI9; rw [hi] at this; simpa using this
 have hz2 : i9.bytes = 72 := by have := bytesI9; rw [hi] at this; simpa using this
 refine wpList_append_own_at w hgd s x 137 ho K 183 i9 _ 9 72 Tryz.underlying137 hi hz0 hz1 hz2 rfl (by decide) v l.length (cellsR l) hs hown ⟨B, 0, none⟩ 1 c (arrR r.t r.m).toList hx rfl (World.news_of_block hB) (by simp [arrR, Value.oneCell']) (by unfold maxLen; omega) (by omega) hK ?_
 intro v' w' h1 h2 _ _
 refine h v' w' ?_ h2
 rw [cellsR_append, cellsR_one, List.length_append]
 exact h1
end Go.Proofs.YtjmeakkmfeoigaaGreatDoor