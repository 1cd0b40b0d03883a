/-
  Proved: what fields.World returns, of any counts; what was in memory is as it was (a contract that the statements lean on).
  Proved: what rows.Fits returns, of any rows and any counts; what was in memory is as it was (a contract that the statements lean on). Written by program.
-/
import Derived.Test.YtjaedfjfcghgcabGreatDoorLibT11
import Derived.Test.YtjaedfjfcghgcabGreatDoorLibT16
import Derived.Test.YtjaedfjfcghgcabGreatDoorLibT13
import Derived.Deep.RegionHeld3
namespace Go.Proofs.YtjaedfjfcghgcabGreatDoor
open Go.ChangeShapes Go.WideShapes Go.ChangeAt Go.RowKit

/-- the world of so many in each field; the empty one, if the counts are wrong. -/
def madeW (N : Nat → Int) : Wd := if countsFault N = 0 then madeN N 8 else ⟨0, 0, 0, 0⟩

theorem with_more (D : Wd) (f : Nat) (hok : D.ok = true) (h5 : D.u ≤ 5) (hf : f < 8) (w : World) :
    Calls Tryz.prog 108 #[.agg #[.int .i64 D.u, .int .i64 D.a, .int .i64 D.b, .int .i64 D.c], .int .i64 f] w fun e w' => e = .returned (.agg #[.int .i64 (D.more f).u, .int .i64 (D.more f).a, .int .i64 (D.more f).b, .int .i64 (D.more f).c]) ∧ Below w.heap.size w w' := by
  obtain ⟨u, a, b, c⟩ := D
  obtain ⟨n, rfl⟩ := Int.eq_ofNat_of_zero_le (show 0 ≤ u from (ok_u hok).1)
  exact with_field n a b c f hok (by simp only at h5; omega) hf w

set_option maxRecDepth 100000 in
set_option maxHeartbeats 4000000 in
theorem fworld_wrong (N : Nat → Int) (w : World) (hf : ¬ countsFault N = 0) :
    Calls Tryz.prog 72 #[.agg #[.int .i64 (N 0), .int .i64 (N 1), .int .i64 (N 2), .int .i64 (N 3), .int .i64 (N 4), .int .i64 (N 5), .int .i64 (N 6), .int .i64 (N 7)]] w fun e w' => e = .returned (.tuple #[.agg #[.int .i64 0, .int .i64 0, .int .i64 0, .int .i64 0], .iface 75 (.int .i64 (countsFault N))]) ∧ Below w.heap.size w w' := by
  obtain ⟨w1, hw1⟩ : ∃ w1, w1 = (w.alloc (.cells #[.int .i64 (N 0), .int .i64 (N 1), .int .i64 (N 2), .int .i64 (N 3), .int .i64 (N 4), .int .i64 (N 5), .int .i64 (N 6), .int .i64 (N 7)] 44)).alloc (.cells #[.int .i64 0, .int .i64 0, .int .i64 0, .int .i64 0] 34) := ⟨_, rfl⟩
  have HW : Hid (Below w.heap.size w w1) := by unfold Hid; rw [hw1]; exact (below_alloc1 _ _).alloc (by simp) _
  have HK0 : Hid (Blk w1 w.heap.size 44 (arr8 N)) := by unfold Hid; rw [hw1]; exact (Blk.new _ _ _).old _
  have HK1 : Hid (Blk w1 (w.heap.size + 1) 34 (arrW ⟨0, 0, 0, 0⟩)) := by
    unfold Hid; rw [hw1]
    have := Blk.new (w.alloc (.cells (arr8 N) 44)) 34 (arrW ⟨0, 0, 0, 0⟩)
    simp only [World.size_alloc] at this
    exact this
  have HC : Hid (Calls Tryz.prog 102 #[.agg #[.int .i64 (N 0), .int .i64 (N 1), .int .i64 (N 2), .int .i64 (N 3), .int .i64 (N 4), .int .i64 (N 5), .int .i64 (N 6), .int .i64 (N 7)]] w1 fun e w' => e = .returned (.iface 75 (.int .i64 (countsFault N))) ∧ Below w1.heap.size w1 w') := by
    have := fcounts_any N w1
    unfold errV at this
    rw [if_neg hf] at this
    exact this
  obtain ⟨F, hF⟩ : ∃ F, F = countsFault N := ⟨_, rfl⟩
  rw [← hF] at HC ⊢
  clear hF hf
  obtain ⟨x0, x1, x2, x3, x4, x5, x6, x7⟩ := HK0.out.cells8
  go_enter Tryz.func72, Tryz.ntmps72
  go_wp2_with fail
  rw [← hw1]
  clear hw1
  go_wp2_with fail
  go_at_call 102
  refine HC.out.mono ?_
  rintro e w2 ⟨rfl, hb⟩
  have HB : Hid (Below w.heap.size w w2) := HW.out.trans (hb.mono HW.out.size)
  have HR : Hid (Blk w2 (w.heap.size + 1) 34 (arrW ⟨0, 0, 0, 0⟩)) := HK1.out.below hb
  clear hb x0 x1 x2 x3 x4 x5 x6 x7
  have r0 : w2.cell? ⟨w.heap.size + 1, 0, none⟩ = some (.int .i64 0) := HR.out.cell 0
  have r1 : w2.cell? ⟨w.heap.size + 1, 1, none⟩ = some (.int .i64 0) := HR.out.cell 1
  have r2 : w2.cell? ⟨w.heap.size + 1, 2, none⟩ = some (.int .i64 0) := HR.out.cell 2
  have r3 : w2.cell? ⟨w.heap.size + 1, 3, none⟩ = some (.int .i64 0) := HR.out.cell 3
  obtain ⟨f0, f1, f2, f3⟩ := HR.out.frozen4
  go_wp2
  have hld := loadW (putW_blk HR.out ⟨0, 0, 0, 0⟩)
  refine bodyPost_ret (v := .tuple #[.agg #[.int .i64 0, .int .i64 0, .int .i64 0, .int .i64 0], .iface 75 (.int .i64 F)]) ?_ rfl ⟨rfl, ?_⟩
  · rw [results_cell_tmp rfl]
    unfold putW arrW at hld
    simp only at hld
    simp [asAddr, Result.andThen, hld]
  · exact putW_below HB.out (by omega) ⟨0, 0, 0, 0⟩

set_option maxRecDepth 100000 in
set_option maxHeartbeats 4000000 in
theorem fworld_right (N : Nat → Int) (w : World) (hf : countsFault N = 0) :
    Calls Tryz.prog 72 #[.agg #[.int .i64 (N 0), .int .i64 (N 1), .int .i64 (N 2), .int .i64 (N 3), .int .i64 (N 4), .int .i64 (N 5), .int .i64 (N 6), .int .i64 (N 7)]] w fun e w' => e = .returned (.tuple #[.agg (arrW (madeN N 8)), .nilIface]) ∧ Below w.heap.size w w' := by
  obtain ⟨Z, hZ⟩ : ∃ Z : Wd, Z = ⟨0, 0, 0, 0⟩ := ⟨_, rfl⟩
  obtain ⟨w1, hw1⟩ : ∃ w1, w1 = (w.alloc (.cells #[.int .i64 (N 0), .int .i64 (N 1), .int .i64 (N 2), .int .i64 (N 3), .int .i64 (N 4), .int .i64 (N 5), .int .i64 (N 6), .int .i64 (N 7)] 44)).alloc (.cells #[.int .i64 0, .int .i64 0, .int .i64 0, .int .i64 0] 34) := ⟨_, rfl⟩
  have HW : Hid (Below w.heap.size w w1) := by unfold Hid; rw [hw1]; exact (below_alloc1 _ _).alloc (by simp) _
  have HK0 : Hid (Blk w1 w.heap.size 44 (arr8 N)) := by unfold Hid; rw [hw1]; exact (Blk.new _ _ _).old _
  have HK1 : Hid (Blk w1 (w.heap.size + 1) 34 (arrW Z)) := by
    unfold Hid; rw [hw1, hZ]
    have := Blk.new (w.alloc (.cells (arr8 N) 44)) 34 (arrW ⟨0, 0, 0, 0⟩)
    simp only [World.size_alloc] at this
    exact this
  have HC : Hid (Calls Tryz.prog 102 #[.agg #[.int .i64 (N 0), .int .i64 (N 1), .int .i64 (N 2), .int .i64 (N 3), .int .i64 (N 4), .int .i64 (N 5), .int .i64 (N 6), .int .i64 (N 7)]] w1 fun e w' => e = .returned .nilIface ∧ Below w1.heap.size w1 w') := by
    have := fcounts_any N w1
    rw [hf] at this
    exact this
  obtain ⟨hall, hsum⟩ := counts_zero.1 hf
  have HN : Hid (∀ k, k < 8 → 0 ≤ N k ∧ N k ≤ 6) := hall
  have HX : Hid (∀ W k, k < 8 → Blk W w.heap.size 44 (arr8 N) → W.cell? ⟨w.heap.size, k, none⟩ = some (.int .i64 (N k))) := fun W k hk h => by rw [h.cell, arr8_get _ hk]
  have HV : Hid (∀ (k j : Nat) W, k < 8 → (j : Int) < N k → Calls Tryz.prog 108 #[.agg #[.int .i64 ((madeN N k).mores k j).u, .int .i64 ((madeN N k).mores k j).a, .int .i64 ((madeN N k).mores k j).b, .int .i64 ((madeN N k).mores k j).c], .int .i64 k] W fun e w' => e = .returned (.agg #[.int .i64 ((madeN N k).mores k (j + 1)).u, .int .i64 ((madeN N k).mores k (j + 1)).a, .int .i64 ((madeN N k).mores k (j + 1)).b, .int .i64 ((madeN N k).mores k (j + 1)).c]) ∧ Below W.heap.size W w') := fun k j W hk hj => by
    obtain ⟨i1, i2, _⟩ := made_all hall hsum (k := k) (by omega)
    have hm := sumN_mono (N := N) (k := k + 1) (l := 8) (by omega) hall
    have es : sumN N (k + 1) = sumN N k + N k := rfl
    have e := mores_u (madeN N k) k j
    exact with_more _ k (mores_ok i1 k (by rw [i2]; omega)) (by rw [e, i2]; omega) hk W
  have HE : Hid (∀ k, k < 8 → (madeN N k).mores k (N k).toNat = madeN N (k + 1)) := fun k _ => rfl
  have HZ : Hid (Z = madeN N 0) := hZ
  clear hf hall hsum
  obtain ⟨x0, x1, x2, x3, x4, x5, x6, x7⟩ := HK0.out.cells8
  go_enter Tryz.func72, Tryz.ntmps72
  go_wp2_with fail
  rw [← hw1]
  clear hw1
  go_wp2_with fail
  go_at_call 102
  refine HC.out.mono ?_
  rintro e w2 ⟨rfl, hb⟩
  have HB : Hid (Below w.heap.size w w2) := HW.out.trans (hb.mono HW.out.size)
  have HP : Hid (Blk w2 w.heap.size 44 (arr8 N)) := HK0.out.below hb
  have HR : Hid (Blk w2 (w.heap.size + 1) 34 (arrW Z)) := HK1.out.below hb
  clear hb x0 x1 x2 x3 x4 x5 x6 x7
  obtain ⟨G, hG⟩ : ∃ G, G = w2.heap.size := ⟨_, rfl⟩
  have HG : Hid (w.heap.size + 1 < G) := by unfold Hid; rw [hG]; exact HR.out.lt
  obtain ⟨w3, hw3⟩ : ∃ w3, w3 = w2.alloc (.cells #[.int .i64 0, .int .i64 0, .int .i64 0, .int .i64 0] 34) := ⟨_, rfl⟩
  have HB3 : Hid (Below w.heap.size w w3) := by unfold Hid; rw [hw3]; exact HB.out.alloc HB.out.size _
  have HP3 : Hid (Blk w3 w.heap.size 44 (arr8 N)) := by unfold Hid; rw [hw3]; exact HP.out.old _
  have HR3 : Hid (Blk w3 (w.heap.size + 1) 34 (arrW Z)) := by unfold Hid; rw [hw3]; exact HR.out.old _
  have HM3 : Hid (Blk w3 G 34 (arrW (madeN N 0))) := by unfold Hid; rw [hw3, hG]; exact Blk.new _ _ _
  clear HB HP HR hZ
  go_wp2
  rw [← hw3, ← hG]
  clear hw3 hG
  go_loopw [13] (fun i wr => ∃ k : Nat, k ≤ 8 ∧ i = .int .i64 k ∧ Below w.heap.size w wr ∧ Blk wr w.heap.size 44 (arr8 N) ∧ Blk wr (w.heap.size + 1) 34 (arrW Z) ∧ Blk wr G 34 (arrW (madeN N k))) (fun i _ => 8 - (intOf i).toNat)
  case atStart => exact ⟨0, Nat.zero_le _, rfl, HB3.out, HP3.out, HR3.out, HM3.out⟩
  case round =>
    obtain ⟨k, hk, rfl, hb, hp, hr, hm⟩ := hrel
    have HB4 : Hid (Below w.heap.size w wr) := hb
    have HP4 : Hid (Blk wr w.heap.size 44 (arr8 N)) := hp
    have HR4 : Hid (Blk wr (w.heap.size + 1) 34 (arrW Z)) := hr
    have HM4 : Hid (Blk wr G 34 (arrW (madeN N k))) := hm
    clear hb hp hr hm
    by_cases hlt : k < 8
    · have y := HX.out wr k hlt HP4.out
      have p := HN.out k hlt
      obtain ⟨x, hx⟩ : ∃ x : Nat, (x : Int) = N k := ⟨(N k).toNat, by omega⟩
      have HXk : Hid ((x : Int) = N k) := hx
      have HEk : Hid ((madeN N k).mores k x = madeN N (k + 1)) := by
        have := HE.out k hlt
        rw [show (N k).toNat = x by omega] at this
        exact this
      rw [← hx] at y p
      clear hx
      go_wp2
      clear y
      rw [show decide ((k : Int) < 8) = true by simp; omega]
      go_loopw [19] (fun i wr => ∃ j : Nat, j ≤ x ∧ i = .int .i64 j ∧ Below w.heap.size w wr ∧ Blk wr w.heap.size 44 (arr8 N) ∧ Blk wr (w.heap.size + 1) 34 (arrW Z) ∧ Blk wr G 34 (arrW ((madeN N k).mores k j))) (fun i _ => x - (intOf i).toNat)
      case atStart => exact ⟨0, Nat.zero_le _, rfl, HB4.out, HP4.out, HR4.out, HM4.out⟩
      case round =>
        obtain ⟨j, hj, rfl, hb, hp, hr, hm⟩ := hrel
        have HB5 : Hid (Below w.heap.size w wr) := hb
        have HP5 : Hid (Blk wr w.heap.size 44 (arr8 N)) := hp
        have HR5 : Hid (Blk wr (w.heap.size + 1) 34 (arrW Z)) := hr
        have HM5 : Hid (Blk wr G 34 (arrW ((madeN N k).mores k j))) := hm
        clear hb hp hr hm
        by_cases hlj : j < x
        · have HVk : Hid (Calls Tryz.prog 108 #[.agg #[.int .i64 ((madeN N k).mores k j).u, .int .i64 ((madeN N k).mores k j).a, .int .i64 ((madeN N k).mores k j).b, .int .i64 ((madeN N k).mores k j).c], .int .i64 k] wr fun e w' => e = .returned (.agg #[.int .i64 ((madeN N k).mores k (j + 1)).u, .int .i64 ((madeN N k).mores k (j + 1)).a, .int .i64 ((madeN N k).mores k (j + 1)).b, .int .i64 ((madeN N k).mores k (j + 1)).c]) ∧ Below wr.heap.size wr w') := HV.out k j wr hlt (by rw [← HXk.out]; omega)
          obtain ⟨D, hD⟩ : ∃ D, D = (madeN N k).mores k j := ⟨_, rfl⟩
          rw [← hD] at HVk HM5
          obtain ⟨E, hE⟩ : ∃ E, E = (madeN N k).mores k (j + 1) := ⟨_, rfl⟩
          rw [← hE] at HVk
          have HEj : Hid (E = (madeN N k).mores k (j + 1)) := hE
          clear hD hE
          obtain ⟨y0, y1, y2, y3⟩ := HM5.out.cells4
          go_wp2_with fail
          go_at_call 108
          refine HVk.out.mono ?_
          rintro e w6 ⟨rfl, hb⟩
          have HB6 : Hid (Below w.heap.size w w6) := HB5.out.trans (hb.mono HB5.out.size)
          have HP6 : Hid (Blk w6 w.heap.size 44 (arr8 N)) := HP5.out.below hb
          have HR6 : Hid (Blk w6 (w.heap.size + 1) 34 (arrW Z)) := HR5.out.below hb
          have HM6 : Hid (Blk w6 G 34 (arrW D)) := HM5.out.below hb
          clear hb y0 y1 y2 y3
          obtain ⟨y0, y1, y2, y3⟩ := HM6.out.cells4
          obtain ⟨f0, f1, f2, f3⟩ := HM6.out.frozen4
          go_wp2
          go_roundw
          case rel =>
            have hg := HG.out
            exact ⟨j + 1, by omega, by go_num, putW_below HB6.out (by omega) E, putW_far HP6.out (by omega) E, putW_far HR6.out (by omega) E, by rw [← HEj.out]; exact putW_blk HM6.out E⟩
          case measure => simp [intOf]; omega
        · obtain rfl : j = x := by omega
          go_wp2
          go_roundw
          case rel => exact ⟨k + 1, by omega, by go_num, HB5.out, HP5.out, HR5.out, by rw [← HEk.out]; exact HM5.out⟩
          case measure => simp [intOf]; omega
    · obtain rfl : k = 8 := by omega
      obtain ⟨D, hD⟩ : ∃ D, D = madeN N 8 := ⟨_, rfl⟩
      rw [← hD] at HM4
      have HD : Hid (D = madeN N 8) := hD
      clear hD
      obtain ⟨y0, y1, y2, y3⟩ := HM4.out.cells4
      obtain ⟨r0, r1, r2, r3⟩ := HR4.out.cells4
      obtain ⟨f0, f1, f2, f3⟩ := HR4.out.frozen4
      go_wp2
      have hld := loadW (putW_blk HR4.out D)
      refine bodyPost_ret (v := .tuple #[.agg (arrW D), .nilIface]) ?_ rfl ⟨by rw [HD.out], ?_⟩
      · rw [results_cell_tmp rfl]
        unfold putW at hld
        simp [asAddr, Result.andThen, hld]
      · exact putW_below HB4.out (by omega) D

/-- World, whatever the counts. -/
theorem fworld_any (N : Nat → Int) (w : World) :
    Calls Tryz.prog 72 #[.agg #[.int .i64 (N 0), .int .i64 (N 1), .int .i64 (N 2), .int .i64 (N 3), .int .i64 (N 4), .int .i64 (N 5), .int .i64 (N 6), .int .i64 (N 7)]] w fun e w' => e = .returned (.tuple #[.agg (arrW (madeW N)), errV (countsFault N)]) ∧ Below w.heap.size w w' := by
  by_cases hf : countsFault N = 0
  · unfold madeW
    rw [if_pos hf, hf]
    exact fworld_right N w hf
  · unfold madeW errV
    rw [if_neg hf, if_neg hf]
    exact fworld_wrong N w hf
end Go.Proofs.YtjaedfjfcghgcabGreatDoor


namespace Go.Proofs.YtjaedfjfcghgcabGreatDoor
open Go.ChangeShapes Go.WideShapes Go.ChangeAt Go.RowKit
set_option maxRecDepth 100000

set_option maxHeartbeats 4000000 in
theorem exceeds_any (T N : Nat → Int) (m : Int) (P : Nat) (hT : ∀ f, f < 8 → -2 ≤ T f ∧ T f ≤ 2) (hN : ∀ f, f < 8 → 0 ≤ N f ∧ N f ≤ 6) (w : World) (hP : Blk w P 44 (arr8 N)) :
    Calls Tryz.prog 85 #[.agg #[.int .i64 (T 0), .int .i64 (T 1), .int .i64 (T 2), .int .i64 (T 3), .int .i64 (T 4), .int .i64 (T 5), .int .i64 (T 6), .int .i64 (T 7), .int .i64 m], .pointer (some ⟨P, 0, none⟩)] w fun e w' => e = .returned (.bool (!(Rw.mk T m).so N)) ∧ Below w.heap.size w w' := by
  obtain ⟨w1, hw1⟩ : ∃ w1, w1 = w.alloc (.cells #[.int .i64 (T 0), .int .i64 (T 1), .int .i64 (T 2), .int .i64 (T 3), .int .i64 (T 4), .int .i64 (T 5), .int .i64 (T 6), .int .i64 (T 7), .int .i64 m] 46) := ⟨_, rfl⟩
  have HW : Hid (Below w.heap.size w w1) := by unfold Hid; rw [hw1]; exact below_alloc1 _ _
  have HK0 : Hid (Blk w1 w.heap.size 46 (arrR T m)) := by unfold Hid; rw [hw1]; exact Blk.new _ _ _
  have HK1 : Hid (Blk w1 P 44 (arr8 N)) := hP.below HW.out
  obtain ⟨S, hS⟩ : ∃ S, S = sumT T N 8 := ⟨_, rfl⟩
  have HR : Hid ((!(Rw.mk T m).so N) = decide (S > m)) := by
    unfold Hid Rw.so
    rw [← hS]
    by_cases h : S ≤ m
    · simp [h]
    · simp [h]; omega
  have HC : Hid (∀ W, Below w1.heap.size w1 W → Calls Tryz.prog 86 #[.agg #[.int .i64 (T 0), .int .i64 (T 1), .int .i64 (T 2), .int .i64 (T 3), .int .i64 (T 4), .int .i64 (T 5), .int .i64 (T 6), .int .i64 (T 7)], .agg #[.int .i64 (N 0), .int .i64 (N 1), .int .i64 (N 2), .int .i64 (N 3), .int .i64 (N 4), .int .i64 (N 5), .int .i64 (N 6), .int .i64 (N 7)]] W fun e w' => e = .returned (.int .i64 S) ∧ Below w.heap.size w w' ∧ w'.cell? ⟨w.heap.size, 0, none⟩ = some (.int .i64 (T 0)) ∧ w'.cell? ⟨w.heap.size, 1, none⟩ = some (.int .i64 (T 1)) ∧ w'.cell? ⟨w.heap.size, 2, none⟩ = some (.int .i64 (T 2)) ∧ w'.cell? ⟨w.heap.size, 3, none⟩ = some (.int .i64 (T 3)) ∧ w'.cell? ⟨w.heap.size, 4, none⟩ = some (.int .i64 (T 4)) ∧ w'.cell? ⟨w.heap.size, 5, none⟩ = some (.int .i64 (T 5)) ∧ w'.cell? ⟨w.heap.size, 6, none⟩ = some (.int .i64 (T 6)) ∧ w'.cell? ⟨w.heap.size, 7, none⟩ = some (.int .i64 (T 7)) ∧ w'.cell? ⟨w.heap.size, 8, none⟩ = some (.int .i64 m) ∧ w'.cell? ⟨P, 0, none⟩ = some (.int .i64 (N 0)) ∧ w'.cell? ⟨P, 1, none⟩ = some (.int .i64 (N 1)) ∧ w'.cell? ⟨P, 2, none⟩ = some (.int .i64 (N 2)) ∧ w'.cell? ⟨P, 3, none⟩ = some (.int .i64 (N 3)) ∧ w'.cell? ⟨P, 4, none⟩ = some (.int .i64 (N 4)) ∧ w'.cell? ⟨P, 5, none⟩ = some (.int .i64 (N 5)) ∧ w'.cell? ⟨P, 6, none⟩ = some (.int .i64 (N 6)) ∧ w'.cell? ⟨P, 7, none⟩ = some (.int .i64 (N 7))) := fun W hW => by
    rw [hS]
    refine (sum_any T N hT hN W).mono fun e w' h => ⟨h.1, ?_, ?_⟩
    · exact HW.out.trans ((hW.mono HW.out.size).trans (h.2.mono (Nat.le_trans HW.out.size hW.size)))
    · have k0 := (HK0.out.below hW).below h.2
      have k1 := (HK1.out.below hW).below h.2
      exact ⟨k0.cell 0, k0.cell 1, k0.cell 2, k0.cell 3, k0.cell 4, k0.cell 5, k0.cell 6, k0.cell 7, k0.cell 8, k1.cell 0, k1.cell 1, k1.cell 2, k1.cell 3, k1.cell 4, k1.cell 5, k1.cell 6, k1.cell 7⟩
  obtain ⟨R, hR⟩ : ∃ R, R = (!(Rw.mk T m).so N) := ⟨_, rfl⟩
  rw [← hR] at HR ⊢
  obtain ⟨c0, c1, c2, c3, c4, c5, c6, c7, c8⟩ := HK0.out.cells9
  obtain ⟨d0, d1, d2, d3, d4, d5, d6, d7⟩ := HK1.out.cells8
  clear hR hS hT hN hP
  go_enter Tryz.func85, Tryz.ntmps85
  go_wp2_with fail
  rw [← hw1]
  clear hw1
  have HD0 : Hid (Below w1.heap.size w1 w1.drew) := (Below.refl _ _).drew
  go_region_held3 (fun w' => w'.cell? ⟨w.heap.size, 0, none⟩ = some (.int .i64 (T 0)) ∧ w'.cell? ⟨w.heap.size, 1, none⟩ = some (.int .i64 (T 1)) ∧ w'.cell? ⟨w.heap.size, 2, none⟩ = some (.int .i64 (T 2)) ∧ w'.cell? ⟨w.heap.size, 3, none⟩ = some (.int .i64 (T 3)) ∧ w'.cell? ⟨w.heap.size, 4, none⟩ = some (.int .i64 (T 4)) ∧ w'.cell? ⟨w.heap.size, 5, none⟩ = some (.int .i64 (T 5)) ∧ w'.cell? ⟨w.heap.size, 6, none⟩ = some (.int .i64 (T 6)) ∧ w'.cell? ⟨w.heap.size, 7, none⟩ = some (.int .i64 (T 7)) ∧ w'.cell? ⟨w.heap.size, 8, none⟩ = some (.int .i64 m) ∧ w'.cell? ⟨P, 0, none⟩ = some (.int .i64 (N 0)) ∧ w'.cell? ⟨P, 1, none⟩ = some (.int .i64 (N 1)) ∧ w'.cell? ⟨P, 2, none⟩ = some (.int .i64 (N 2)) ∧ w'.cell? ⟨P, 3, none⟩ = some (.int .i64 (N 3)) ∧ w'.cell? ⟨P, 4, none⟩ = some (.int .i64 (N 4)) ∧ w'.cell? ⟨P, 5, none⟩ = some (.int .i64 (N 5)) ∧ w'.cell? ⟨P, 6, none⟩ = some (.int .i64 (N 6)) ∧ w'.cell? ⟨P, 7, none⟩ = some (.int .i64 (N 7))) (first | (go_keep; done) | ((try dsimp only); (repeat' apply And.intro) <;> (first | (go_keep; done))))
    (first | (go_at_call 86; refine (HC.out _ ?_).mono ?_; (with_reducible exact HD0.out); rintro e w3 ⟨rfl, hb3, e0, e1, e2, e3, e4, e5, e6, e7, e8, e9, e10, e11, e12, e13, e14, e15, e16⟩))
  all_goals
    have HB3 : Hid (Below w.heap.size w w3) := hb3
    clear hb3
    go_wp2
    go_ret
    exact ⟨back_b HR.out.symm, HB3.out⟩

theorem any_rows {l : List Rw} {v : Value} {w : World} (h : ReadsR w v l) : Calls Tryz.prog 83 #[v, .func (.func 84) #[] #[]] w fun e w' => e = .returned (.bool (l.any Rw.wrong)) ∧ Below w.heap.size w w' := by
  have e1 : ∀ args w, (callFunc 84 args).run Tryz.prog w = .ok (.enter 84 args) w := enters_of Tryz.func84 (by kernel_rfl) rfl
  exact anyR l v _ Rw.wrong w h e1 fun W r _ _ => wrong_any r.t r.m W
theorem any_exceeds {l : List Rw} {v : Value} {w : World} (N : Nat → Int) (P : Nat) (h : ReadsR w v l) (hl : l.any Rw.wrong = false) (hN : ∀ f, f < 8 → 0 ≤ N f ∧ N f ≤ 6) (hP : Blk w P 44 (arr8 N)) : Calls Tryz.prog 83 #[v, .func (.func 85) #[] #[.pointer (some ⟨P, 0, none⟩)]] w fun e w' => e = .returned (.bool (l.any fun r => !r.so N)) ∧ Below w.heap.size w w' := by
  have e1 : ∀ args w, (callFunc 85 args).run Tryz.prog w = .ok (.enter 85 args) w := enters_of Tryz.func85 (by kernel_rfl) rfl
  refine anyP l v P _ (fun r => !r.so N) w h e1 fun W r hW hr => ?_
  have hr' : r.wrong = false := by
    have := List.any_eq_false.1 hl r hr
    simpa using this
  exact exceeds_any r.t N r.m P (right_iff.1 hr').1 hN W (hP.below hW)

set_option maxHeartbeats 4000000 in
theorem rfits_full (n : Nat) (ao : Option Addr) (cap : Nat) (N : Nat → Int) (w : World) (h12 : 12 < n) (hl : n ≤ 9223372036854775807) :
    Calls Tryz.prog 39 #[.slice ao n cap, .agg #[.int .i64 (N 0), .int .i64 (N 1), .int .i64 (N 2), .int .i64 (N 3), .int .i64 (N 4), .int .i64 (N 5), .int .i64 (N 6), .int .i64 (N 7)]] w fun e w' => e = .returned (.tuple #[.bool false, .iface 75 (.int .i64 4)]) ∧ Below w.heap.size w w' := by
  have HW : Hid (Below w.heap.size w (w.alloc (.cells #[.int .i64 (N 0), .int .i64 (N 1), .int .i64 (N 2), .int .i64 (N 3), .int .i64 (N 4), .int .i64 (N 5), .int .i64 (N 6), .int .i64 (N 7)] 44))) := below_alloc1 _ _
  go_enter Tryz.func39, Tryz.ntmps39
  go_wp2
  go_ret2
  exact ⟨rfl, HW.out⟩

set_option maxHeartbeats 4000000 in
theorem rfits_wrong (n : Nat) (ao : Option Addr) (cap : Nat) (N : Nat → Int) (w : World) (h12 : n ≤ 12)
    (HA : Hid (∀ W, Below w.heap.size w W → Calls Tryz.prog 83 #[.slice ao n cap, .func (.func 84) #[] #[]] W fun e w' => e = .returned (.bool true) ∧ Below W.heap.size W w')) :
    Calls Tryz.prog 39 #[.slice ao n cap, .agg #[.int .i64 (N 0), .int .i64 (N 1), .int .i64 (N 2), .int .i64 (N 3), .int .i64 (N 4), .int .i64 (N 5), .int .i64 (N 6), .int .i64 (N 7)]] w fun e w' => e = .returned (.tuple #[.bool false, .iface 75 (.int .i64 1)]) ∧ Below w.heap.size w w' := by
  obtain ⟨w1, hw1⟩ : ∃ w1, w1 = w.alloc (.cells #[.int .i64 (N 0), .int .i64 (N 1), .int .i64 (N 2), .int .i64 (N 3), .int .i64 (N 4), .int .i64 (N 5), .int .i64 (N 6), .int .i64 (N 7)] 44) := ⟨_, rfl⟩
  have HW : Hid (Below w.heap.size w w1) := by unfold Hid; rw [hw1]; exact below_alloc1 _ _
  go_enter Tryz.func39, Tryz.ntmps39
  go_wp2_with fail
  rw [← hw1]
  clear hw1
  go_wp2_with fail
  go_at_call 83
  refine (HA.out _ HW.out).mono ?_
  rintro e w2 ⟨rfl, hb⟩
  have HB : Hid (Below w.heap.size w w2) := HW.out.trans (hb.mono HW.out.size)
  clear hb
  go_wp2
  go_ret2
  exact ⟨rfl, HB.out⟩

set_option maxHeartbeats 4000000 in
theorem rfits_counts (n : Nat) (ao : Option Addr) (cap : Nat) (N : Nat → Int) (w : World) (h12 : n ≤ 12) (hf : ¬ countsFault N = 0)
    (HA : Hid (∀ W, Below w.heap.size w W → Calls Tryz.prog 83 #[.slice ao n cap, .func (.func 84) #[] #[]] W fun e w' => e = .returned (.bool false) ∧ Below W.heap.size W w')) :
    Calls Tryz.prog 39 #[.slice ao n cap, .agg #[.int .i64 (N 0), .int .i64 (N 1), .int .i64 (N 2), .int .i64 (N 3), .int .i64 (N 4), .int .i64 (N 5), .int .i64 (N 6), .int .i64 (N 7)]] w fun e w' => e = .returned (.tuple #[.bool false, .iface 75 (.int .i64 (countsFault N))]) ∧ Below w.heap.size w w' := by
  obtain ⟨w1, hw1⟩ : ∃ w1, w1 = w.alloc (.cells #[.int .i64 (N 0), .int .i64 (N 1), .int .i64 (N 2), .int .i64 (N 3), .int .i64 (N 4), .int .i64 (N 5), .int .i64 (N 6), .int .i64 (N 7)] 44) := ⟨_, rfl⟩
  have HW : Hid (Below w.heap.size w w1) := by unfold Hid; rw [hw1]; exact below_alloc1 _ _
  have HK0 : Hid (Blk w1 w.heap.size 44 (arr8 N)) := by unfold Hid; rw [hw1]; exact Blk.new _ _ _
  have HC : Hid (∀ W, Calls Tryz.prog 72 #[.agg #[.int .i64 (N 0), .int .i64 (N 1), .int .i64 (N 2), .int .i64 (N 3), .int .i64 (N 4), .int .i64 (N 5), .int .i64 (N 6), .int .i64 (N 7)]] W fun e w' => e = .returned (.tuple #[.agg #[.int .i64 0, .int .i64 0, .int .i64 0, .int .i64 0], .iface 75 (.int .i64 (countsFault N))]) ∧ Below W.heap.size W w') := fun W => fworld_wrong N W hf
  obtain ⟨F, hF⟩ : ∃ F, F = countsFault N := ⟨_, rfl⟩
  rw [← hF] at HC ⊢
  clear hF hf
  go_enter Tryz.func39, Tryz.ntmps39
  go_wp2_with fail
  rw [← hw1]
  clear hw1
  go_wp2_with fail
  go_at_call 83
  refine (HA.out _ HW.out).mono ?_
  rintro e w2 ⟨rfl, hb⟩
  have HB : Hid (Below w.heap.size w w2) := HW.out.trans (hb.mono HW.out.size)
  have HK : Hid (Blk w2 w.heap.size 44 (arr8 N)) := HK0.out.below hb
  clear hb
  obtain ⟨d0, d1, d2, d3, d4, d5, d6, d7⟩ := HK.out.cells8
  go_wp2_with fail
  go_at_call 72
  refine (HC.out _).mono ?_
  rintro e w3 ⟨rfl, hb⟩
  have HB3 : Hid (Below w.heap.size w w3) := HB.out.trans (hb.mono HB.out.size)
  clear hb d0 d1 d2 d3 d4 d5 d6 d7
  go_wp2
  go_ret2
  exact ⟨rfl, HB3.out.alloc HB3.out.size _⟩

set_option maxHeartbeats 4000000 in
theorem rfits_right (n : Nat) (ao : Option Addr) (cap : Nat) (N : Nat → Int) (w : World) (R : Bool) (h12 : n ≤ 12) (hf : countsFault N = 0)
    (HA : Hid (∀ W, Below w.heap.size w W → Calls Tryz.prog 83 #[.slice ao n cap, .func (.func 84) #[] #[]] W fun e w' => e = .returned (.bool false) ∧ Below W.heap.size W w'))
    (HX : Hid (∀ W, Below w.heap.size w W → Blk W w.heap.size 44 (arr8 N) → Calls Tryz.prog 83 #[.slice ao n cap, .func (.func 85) #[] #[.pointer (some ⟨w.heap.size, 0, none⟩)]] W fun e w' => e = .returned (.bool R) ∧ Below W.heap.size W w')) :
    Calls Tryz.prog 39 #[.slice ao n cap, .agg #[.int .i64 (N 0), .int .i64 (N 1), .int .i64 (N 2), .int .i64 (N 3), .int .i64 (N 4), .int .i64 (N 5), .int .i64 (N 6), .int .i64 (N 7)]] w fun e w' => e = .returned (.tuple #[.bool (!R), .nilIface]) ∧ Below w.heap.size w w' := by
  obtain ⟨w1, hw1⟩ : ∃ w1, w1 = w.alloc (.cells #[.int .i64 (N 0), .int .i64 (N 1), .int .i64 (N 2), .int .i64 (N 3), .int .i64 (N 4), .int .i64 (N 5), .int .i64 (N 6), .int .i64 (N 7)] 44) := ⟨_, rfl⟩
  have HW : Hid (Below w.heap.size w w1) := by unfold Hid; rw [hw1]; exact below_alloc1 _ _
  have HK0 : Hid (Blk w1 w.heap.size 44 (arr8 N)) := by unfold Hid; rw [hw1]; exact Blk.new _ _ _
  obtain ⟨u, hu⟩ : ∃ x, x = (madeN N 8).u := ⟨_, rfl⟩
  obtain ⟨a, ha⟩ : ∃ x, x = (madeN N 8).a := ⟨_, rfl⟩
  obtain ⟨b, hb⟩ : ∃ x, x = (madeN N 8).b := ⟨_, rfl⟩
  obtain ⟨c, hc⟩ : ∃ x, x = (madeN N 8).c := ⟨_, rfl⟩
  have HC : Hid (∀ W, Calls Tryz.prog 72 #[.agg #[.int .i64 (N 0), .int .i64 (N 1), .int .i64 (N 2), .int .i64 (N 3), .int .i64 (N 4), .int .i64 (N 5), .int .i64 (N 6), .int .i64 (N 7)]] W fun e w' => e = .returned (.tuple #[.agg #[.int .i64 u, .int .i64 a, .int .i64 b, .int .i64 c], .nilIface]) ∧ Below W.heap.size W w') := fun W => by
    rw [hu, ha, hb, hc]; exact fworld_right N W hf
  clear hf hu ha hb hc
  go_enter Tryz.func39, Tryz.ntmps39
  go_wp2_with fail
  rw [← hw1]
  clear hw1
  go_wp2_with fail
  go_at_call 83
  refine (HA.out _ HW.out).mono ?_
  rintro e w2 ⟨rfl, hb⟩
  have HB : Hid (Below w.heap.size w w2) := HW.out.trans (hb.mono HW.out.size)
  have HK : Hid (Blk w2 w.heap.size 44 (arr8 N)) := HK0.out.below hb
  clear hb
  obtain ⟨d0, d1, d2, d3, d4, d5, d6, d7⟩ := HK.out.cells8
  go_wp2_with fail
  go_at_call 72
  refine (HC.out _).mono ?_
  rintro e w3 ⟨rfl, hb⟩
  have HB3 : Hid (Below w.heap.size w w3) := HB.out.trans (hb.mono HB.out.size)
  have HK3 : Hid (Blk w3 w.heap.size 44 (arr8 N)) := HK.out.below hb
  clear hb d0 d1 d2 d3 d4 d5 d6 d7
  obtain ⟨w4, hw4⟩ : ∃ x, x = w3.alloc (.cells #[.int .i64 u, .int .i64 a, .int .i64 b, .int .i64 c] 34) := ⟨_, rfl⟩
  have HB4 : Hid (Below w.heap.size w w4) := by unfold Hid; rw [hw4]; exact HB3.out.alloc (HB3.out.size) _
  have HK4 : Hid (Blk w4 w.heap.size 44 (arr8 N)) := by unfold Hid; rw [hw4]; exact HK3.out.old _
  go_wp2_with fail
  rw [← hw4]
  clear hw4
  go_at_call 83
  refine (HX.out _ HB4.out HK4.out).mono ?_
  rintro e w5 ⟨rfl, hb⟩
  have HB5 : Hid (Below w.heap.size w w5) := HB4.out.trans (hb.mono HB4.out.size)
  clear hb
  go_wp2
  go_ret2
  exact ⟨rfl, HB5.out⟩

theorem any_not (l : List Rw) (N : Nat → Int) : (!l.any fun r => !r.so N) = l.all fun r => r.so N := by
  induction l with
  | nil => rfl
  | cons r l ih => rw [List.any_cons, List.all_cons, Bool.not_or, Bool.not_not, ih]
/-- Fits, whatever the rows and the counts. -/
theorem rfits_any (l : List Rw) (v : Value) (N : Nat → Int) (w : World) (h : ReadsR w v l) :
    Calls Tryz.prog 39 #[v, .agg #[.int .i64 (N 0), .int .i64 (N 1), .int .i64 (N 2), .int .i64 (N 3), .int .i64 (N 4), .int .i64 (N 5), .int .i64 (N 6), .int .i64 (N 7)]] w fun e w' => e = .returned (.tuple #[.bool (fitsIs l N), errV (fitsFault l N)]) ∧ Below w.heap.size w w' := by
  obtain ⟨ao, cap, rfl, hl⟩ := h.slice
  by_cases h12 : 12 < l.length
  · have e : fitsFault l N = 4 := by unfold fitsFault rowsFault; simp [h12]
    have e' : fitsIs l N = false := by unfold fitsIs; rw [e]; rfl
    rw [e, e']
    exact rfits_full _ ao cap N w h12 hl
  rcases (Bool.eq_false_or_eq_true (l.any Rw.wrong)).symm with hw | hw
  · have er : rowsFault l = 0 := by unfold rowsFault; rw [if_neg h12, hw]; rfl
    have ef : fitsFault l N = countsFault N := by unfold fitsFault; rw [if_pos er]
    have HA : Hid (∀ W, Below w.heap.size w W → Calls Tryz.prog 83 #[.slice ao l.length cap, .func (.func 84) #[] #[]] W fun e w' => e = .returned (.bool false) ∧ Below W.heap.size W w') := fun W hW => by
      have := any_rows (h.below hW)
      rw [hw] at this
      exact this
    by_cases hf : countsFault N = 0
    · have e' : fitsIs l N = !(l.any fun r => !r.so N) := by unfold fitsIs; rw [ef, if_pos hf, any_not]
      rw [e', ef, hf]
      exact rfits_right _ ao cap N w _ (by omega) hf HA fun W hW hB => any_exceeds N w.heap.size (h.below hW) hw (counts_zero.1 hf).1 hB
    · have e' : fitsIs l N = false := by unfold fitsIs; rw [ef, if_neg hf]
      rw [e', ef, errV_no hf]
      exact rfits_counts _ ao cap N w (by omega) hf HA
  · have er : rowsFault l = 1 := by unfold rowsFault; rw [if_neg h12, hw]; rfl
    have ef : fitsFault l N = 1 := by unfold fitsFault; rw [er]; rfl
    have e' : fitsIs l N = false := by unfold fitsIs; rw [ef]; rfl
    rw [e', ef]
    exact rfits_wrong _ ao cap N w (by omega) fun W hW => by
      have := any_rows (h.below hW)
      rw [hw] at this
      exact this
end Go.Proofs.YtjaedfjfcghgcabGreatDoor

