/-
  Proved: what fields.World returns, of any counts; what was in memory is as it was (a contract that the statements lean on).
  Proved: what worlds.Holds returns, of a right formula and right counts; what was in memory is as it was (a contract that the statements lean on).
  Proved: what worlds.Alike returns, of any world; what was in memory is as it was (contracts that the statements lean on).
  Proved: a range over a function whose iterator keeps its place in a cell of its own: what the caller must show of one round, and what it then knows behind the loop (the law that the walks of chapter 8's program lean on). It reads no program. Proved: what fit.after returns, of right counts; what was in memory is as it was (a contract that the statements lean on).
-/
import Derived.Test.YtjaedfjfcghgcabDoorLibS7
import Derived.Test.YtjaedfjfcghgcabDoorLibS12
import Derived.Test.YtjaedfjfcghgcabDoorLibS11
import Derived.Deep.Cut
import Derived.RangeFuncNested
import Derived.RangeFuncBound
import Derived.RangeFuncCalls
import Derived.Test.YtjaedfjfcghgcabDoorLibS3
import Derived.Handy
import Derived.Shelf.Abstract
import Derived.WalkKit
import Derived.OwnWalkIn
import Derived.TacticsInMore
import Derived.LoopNIn
import Derived.LoopIn
import Derived.Sort.LoopGhostIn
import Derived.Test.YtjaedfjfcghgcabDoorLibS6
namespace Go.Proofs.YtjaedfjfcghgcabDoor
open Go.ChangeShapes Go.WideShapes Go.ChangeAt Go.RowKit

/-- the world of so many in each field; the empty one, if the counts are wrong. -/
def madeW (N : Nat → Int) : Wd := if countsFault N = 0 then madeN N 8 else ⟨0, 0, 0, 0⟩

theorem with_more (D : Wd) (f : Nat) (hok : D.ok = true) (h5 : D.u ≤ 5) (hf : f < 8) (w : World) :
    Calls Tryd.prog 15 #[.agg #[.int .i64 D.u, .int .i64 D.a, .int .i64 D.b, .int .i64 D.c], .int .i64 f] w fun e w' => e = .returned (.agg #[.int .i64 (D.more f).u, .int .i64 (D.more f).a, .int .i64 (D.more f).b, .int .i64 (D.more f).c]) ∧ Below w.heap.size w w' := by
  obtain ⟨u, a, b, c⟩ := D
  obtain ⟨n, rfl⟩ := Int.eq_ofNat_of_zero_le (show 0 ≤ u from (ok_u hok).1)
  exact with_field n a b c f hok (by simp only at h5; omega) hf w

set_option maxRecDepth 100000 in
set_option maxHeartbeats 4000000 in
theorem fworld_wrong (N : Nat → Int) (w : World) (hf : ¬ countsFault N = 0) :
    Calls Tryd.prog 6 #[.agg #[.int .i64 (N 0), .int .i64 (N 1), .int .i64 (N 2), .int .i64 (N 3), .int .i64 (N 4), .int .i64 (N 5), .int .i64 (N 6), .int .i64 (N 7)]] w fun e w' => e = .returned (.tuple #[.agg #[.int .i64 0, .int .i64 0, .int .i64 0, .int .i64 0], .iface 58 (.int .i64 (countsFault N))]) ∧ Below w.heap.size w w' := by
  obtain ⟨w1, hw1⟩ : ∃ w1, w1 = (w.alloc (.cells #[.int .i64 (N 0), .int .i64 (N 1), .int .i64 (N 2), .int .i64 (N 3), .int .i64 (N 4), .int .i64 (N 5), .int .i64 (N 6), .int .i64 (N 7)] 30)).alloc (.cells #[.int .i64 0, .int .i64 0, .int .i64 0, .int .i64 0] 28) := ⟨_, rfl⟩
  have HW : Hid (Below w.heap.size w w1) := by unfold Hid; rw [hw1]; exact (below_alloc1 _ _).alloc (by simp) _
  have HK0 : Hid (Blk w1 w.heap.size 30 (arr8 N)) := by unfold Hid; rw [hw1]; exact (Blk.new _ _ _).old _
  have HK1 : Hid (Blk w1 (w.heap.size + 1) 28 (arrW ⟨0, 0, 0, 0⟩)) := by
    unfold Hid; rw [hw1]
    have := Blk.new (w.alloc (.cells (arr8 N) 30)) 28 (arrW ⟨0, 0, 0, 0⟩)
    simp only [World.size_alloc] at this
    exact this
  have HC : Hid (Calls Tryd.prog 14 #[.agg #[.int .i64 (N 0), .int .i64 (N 1), .int .i64 (N 2), .int .i64 (N 3), .int .i64 (N 4), .int .i64 (N 5), .int .i64 (N 6), .int .i64 (N 7)]] w1 fun e w' => e = .returned (.iface 58 (.int .i64 (countsFault N))) ∧ Below w1.heap.size w1 w') := by
    have := fcounts_any N w1
    unfold errV at this
    rw [if_neg hf] at this
    exact this
  obtain ⟨F, hF⟩ : ∃ F, F = countsFault N := ⟨_, rfl⟩
  rw [← hF] at HC ⊢
  clear hF hf
  obtain ⟨x0, x1, x2, x3, x4, x5, x6, x7⟩ := HK0.out.cells8
  go_enter Tryd.func6, Tryd.ntmps6
  go_wp2_with fail
  rw [← hw1]
  clear hw1
  go_wp2_with fail
  go_at_call 14
  refine HC.out.mono ?_
  rintro e w2 ⟨rfl, hb⟩
  have HB : Hid (Below w.heap.size w w2) := HW.out.trans (hb.mono HW.out.size)
  have HR : Hid (Blk w2 (w.heap.size + 1) 28 (arrW ⟨0, 0, 0, 0⟩)) := HK1.out.below hb
  clear hb x0 x1 x2 x3 x4 x5 x6 x7
  have r0 : w2.cell? ⟨w.heap.size + 1, 0, none⟩ = some (.int .i64 0) := HR.out.cell 0
  have r1 : w2.cell? ⟨w.heap.size + 1, 1, none⟩ = some (.int .i64 0) := HR.out.cell 1
  have r2 : w2.cell? ⟨w.heap.size + 1, 2, none⟩ = some (.int .i64 0) := HR.out.cell 2
  have r3 : w2.cell? ⟨w.heap.size + 1, 3, none⟩ = some (.int .i64 0) := HR.out.cell 3
  obtain ⟨f0, f1, f2, f3⟩ := HR.out.frozen4
  go_wp2
  have hld := loadW (putW_blk HR.out ⟨0, 0, 0, 0⟩)
  refine bodyPost_ret (v := .tuple #[.agg #[.int .i64 0, .int .i64 0, .int .i64 0, .int .i64 0], .iface 58 (.int .i64 F)]) ?_ rfl ⟨rfl, ?_⟩
  · rw [results_cell_tmp rfl]
    unfold putW arrW at hld
    simp only at hld
    simp [asAddr, Result.andThen, hld]
  · exact putW_below HB.out (by omega) ⟨0, 0, 0, 0⟩

set_option maxRecDepth 100000 in
set_option maxHeartbeats 4000000 in
theorem fworld_right (N : Nat → Int) (w : World) (hf : countsFault N = 0) :
    Calls Tryd.prog 6 #[.agg #[.int .i64 (N 0), .int .i64 (N 1), .int .i64 (N 2), .int .i64 (N 3), .int .i64 (N 4), .int .i64 (N 5), .int .i64 (N 6), .int .i64 (N 7)]] w fun e w' => e = .returned (.tuple #[.agg (arrW (madeN N 8)), .nilIface]) ∧ Below w.heap.size w w' := by
  obtain ⟨Z, hZ⟩ : ∃ Z : Wd, Z = ⟨0, 0, 0, 0⟩ := ⟨_, rfl⟩
  obtain ⟨w1, hw1⟩ : ∃ w1, w1 = (w.alloc (.cells #[.int .i64 (N 0), .int .i64 (N 1), .int .i64 (N 2), .int .i64 (N 3), .int .i64 (N 4), .int .i64 (N 5), .int .i64 (N 6), .int .i64 (N 7)] 30)).alloc (.cells #[.int .i64 0, .int .i64 0, .int .i64 0, .int .i64 0] 28) := ⟨_, rfl⟩
  have HW : Hid (Below w.heap.size w w1) := by unfold Hid; rw [hw1]; exact (below_alloc1 _ _).alloc (by simp) _
  have HK0 : Hid (Blk w1 w.heap.size 30 (arr8 N)) := by unfold Hid; rw [hw1]; exact (Blk.new _ _ _).old _
  have HK1 : Hid (Blk w1 (w.heap.size + 1) 28 (arrW Z)) := by
    unfold Hid; rw [hw1, hZ]
    have := Blk.new (w.alloc (.cells (arr8 N) 30)) 28 (arrW ⟨0, 0, 0, 0⟩)
    simp only [World.size_alloc] at this
    exact this
  have HC : Hid (Calls Tryd.prog 14 #[.agg #[.int .i64 (N 0), .int .i64 (N 1), .int .i64 (N 2), .int .i64 (N 3), .int .i64 (N 4), .int .i64 (N 5), .int .i64 (N 6), .int .i64 (N 7)]] w1 fun e w' => e = .returned .nilIface ∧ Below w1.heap.size w1 w') := by
    have := fcounts_any N w1
    rw [hf] at this
    exact this
  obtain ⟨hall, hsum⟩ := counts_zero.1 hf
  have HN : Hid (∀ k, k < 8 → 0 ≤ N k ∧ N k ≤ 6) := hall
  have HX : Hid (∀ W k, k < 8 → Blk W w.heap.size 30 (arr8 N) → W.cell? ⟨w.heap.size, k, none⟩ = some (.int .i64 (N k))) := fun W k hk h => by rw [h.cell, arr8_get _ hk]
  have HV : Hid (∀ (k j : Nat) W, k < 8 → (j : Int) < N k → Calls Tryd.prog 15 #[.agg #[.int .i64 ((madeN N k).mores k j).u, .int .i64 ((madeN N k).mores k j).a, .int .i64 ((madeN N k).mores k j).b, .int .i64 ((madeN N k).mores k j).c], .int .i64 k] W fun e w' => e = .returned (.agg #[.int .i64 ((madeN N k).mores k (j + 1)).u, .int .i64 ((madeN N k).mores k (j + 1)).a, .int .i64 ((madeN N k).mores k (j + 1)).b, .int .i64 ((madeN N k).mores k (j + 1)).c]) ∧ Below W.heap.size W w') := fun k j W hk hj => by
    obtain ⟨i1, i2, _⟩ := made_all hall hsum (k := k) (by omega)
    have hm := sumN_mono (N := N) (k := k + 1) (l := 8) (by omega) hall
    have es : sumN N (k + 1) = sumN N k + N k := rfl
    have e := mores_u (madeN N k) k j
    exact with_more _ k (mores_ok i1 k (by rw [i2]; omega)) (by rw [e, i2]; omega) hk W
  have HE : Hid (∀ k, k < 8 → (madeN N k).mores k (N k).toNat = madeN N (k + 1)) := fun k _ => rfl
  have HZ : Hid (Z = madeN N 0) := hZ
  clear hf hall hsum
  obtain ⟨x0, x1, x2, x3, x4, x5, x6, x7⟩ := HK0.out.cells8
  go_enter Tryd.func6, Tryd.ntmps6
  go_wp2_with fail
  rw [← hw1]
  clear hw1
  go_wp2_with fail
  go_at_call 14
  refine HC.out.mono ?_
  rintro e w2 ⟨rfl, hb⟩
  have HB : Hid (Below w.heap.size w w2) := HW.out.trans (hb.mono HW.out.size)
  have HP : Hid (Blk w2 w.heap.size 30 (arr8 N)) := HK0.out.below hb
  have HR : Hid (Blk w2 (w.heap.size + 1) 28 (arrW Z)) := HK1.out.below hb
  clear hb x0 x1 x2 x3 x4 x5 x6 x7
  obtain ⟨G, hG⟩ : ∃ G, G = w2.heap.size := ⟨_, rfl⟩
  have HG : Hid (w.heap.size + 1 < G) := by unfold Hid; rw [hG]; exact HR.out.lt
  obtain ⟨w3, hw3⟩ : ∃ w3, w3 = w2.alloc (.cells #[.int .i64 0, .int .i64 0, .int .i64 0, .int .i64 0] 28) := ⟨_, rfl⟩
  have HB3 : Hid (Below w.heap.size w w3) := by unfold Hid; rw [hw3]; exact HB.out.alloc HB.out.size _
  have HP3 : Hid (Blk w3 w.heap.size 30 (arr8 N)) := by unfold Hid; rw [hw3]; exact HP.out.old _
  have HR3 : Hid (Blk w3 (w.heap.size + 1) 28 (arrW Z)) := by unfold Hid; rw [hw3]; exact HR.out.old _
  have HM3 : Hid (Blk w3 G 28 (arrW (madeN N 0))) := by unfold Hid; rw [hw3, hG]; exact Blk.new _ _ _
  clear HB HP HR hZ
  go_wp2
  rw [← hw3, ← hG]
  clear hw3 hG
  go_loopw [13] (fun i wr => ∃ k : Nat, k ≤ 8 ∧ i = .int .i64 k ∧ Below w.heap.size w wr ∧ Blk wr w.heap.size 30 (arr8 N) ∧ Blk wr (w.heap.size + 1) 28 (arrW Z) ∧ Blk wr G 28 (arrW (madeN N k))) (fun i _ => 8 - (intOf i).toNat)
  case atStart => exact ⟨0, Nat.zero_le _, rfl, HB3.out, HP3.out, HR3.out, HM3.out⟩
  case round =>
    obtain ⟨k, hk, rfl, hb, hp, hr, hm⟩ := hrel
    have HB4 : Hid (Below w.heap.size w wr) := hb
    have HP4 : Hid (Blk wr w.heap.size 30 (arr8 N)) := hp
    have HR4 : Hid (Blk wr (w.heap.size + 1) 28 (arrW Z)) := hr
    have HM4 : Hid (Blk wr G 28 (arrW (madeN N k))) := hm
    clear hb hp hr hm
    by_cases hlt : k < 8
    · have y := HX.out wr k hlt HP4.out
      have p := HN.out k hlt
      obtain ⟨x, hx⟩ : ∃ x : Nat, (x : Int) = N k := ⟨(N k).toNat, by omega⟩
      have HXk : Hid ((x : Int) = N k) := hx
      have HEk : Hid ((madeN N k).mores k x = madeN N (k + 1)) := by
        have := HE.out k hlt
        rw [show (N k).toNat = x by omega] at this
        exact this
      rw [← hx] at y p
      clear hx
      go_wp2
      clear y
      rw [show decide ((k : Int) < 8) = true by simp; omega]
      go_loopw [19] (fun i wr => ∃ j : Nat, j ≤ x ∧ i = .int .i64 j ∧ Below w.heap.size w wr ∧ Blk wr w.heap.size 30 (arr8 N) ∧ Blk wr (w.heap.size + 1) 28 (arrW Z) ∧ Blk wr G 28 (arrW ((madeN N k).mores k j))) (fun i _ => x - (intOf i).toNat)
      case atStart => exact ⟨0, Nat.zero_le _, rfl, HB4.out, HP4.out, HR4.out, HM4.out⟩
      case round =>
        obtain ⟨j, hj, rfl, hb, hp, hr, hm⟩ := hrel
        have HB5 : Hid (Below w.heap.size w wr) := hb
        have HP5 : Hid (Blk wr w.heap.size 30 (arr8 N)) := hp
        have HR5 : Hid (Blk wr (w.heap.size + 1) 28 (arrW Z)) := hr
        have HM5 : Hid (Blk wr G 28 (arrW ((madeN N k).mores k j))) := hm
        clear hb hp hr hm
        by_cases hlj : j < x
        · have HVk : Hid (Calls Tryd.prog 15 #[.agg #[.int .i64 ((madeN N k).mores k j).u, .int .i64 ((madeN N k).mores k j).a, .int .i64 ((madeN N k).mores k j).b, .int .i64 ((madeN N k).mores k j).c], .int .i64 k] wr fun e w' => e = .returned (.agg #[.int .i64 ((madeN N k).mores k (j + 1)).u, .int .i64 ((madeN N k).mores k (j + 1)).a, .int .i64 ((madeN N k).mores k (j + 1)).b, .int .i64 ((madeN N k).mores k (j + 1)).c]) ∧ Below wr.heap.size wr w') := HV.out k j wr hlt (by rw [← HXk.out]; omega)
          obtain ⟨D, hD⟩ : ∃ D, D = (madeN N k).mores k j := ⟨_, rfl⟩
          rw [← hD] at HVk HM5
          obtain ⟨E, hE⟩ : ∃ E, E = (madeN N k).mores k (j + 1) := ⟨_, rfl⟩
          rw [← hE] at HVk
          have HEj : Hid (E = (madeN N k).mores k (j + 1)) := hE
          clear hD hE
          obtain ⟨y0, y1, y2, y3⟩ := HM5.out.cells4
          go_wp2_with fail
          go_at_call 15
          refine HVk.out.mono ?_
          rintro e w6 ⟨rfl, hb⟩
          have HB6 : Hid (Below w.heap.size w w6) := HB5.out.trans (hb.mono HB5.out.size)
          have HP6 : Hid (Blk w6 w.heap.size 30 (arr8 N)) := HP5.out.below hb
          have HR6 : Hid (Blk w6 (w.heap.size + 1) 28 (arrW Z)) := HR5.out.below hb
          have HM6 : Hid (Blk w6 G 28 (arrW D)) := HM5.out.below hb
          clear hb y0 y1 y2 y3
          obtain ⟨y0, y1, y2, y3⟩ := HM6.out.cells4
          obtain ⟨f0, f1, f2, f3⟩ := HM6.out.frozen4
          go_wp2
          go_roundw
          case rel =>
            have hg := HG.out
            exact ⟨j + 1, by omega, by go_num, putW_below HB6.out (by omega) E, putW_far HP6.out (by omega) E, putW_far HR6.out (by omega) E, by rw [← HEj.out]; exact putW_blk HM6.out E⟩
          case measure => simp [intOf]; omega
        · obtain rfl : j = x := by omega
          go_wp2
          go_roundw
          case rel => exact ⟨k + 1, by omega, by go_num, HB5.out, HP5.out, HR5.out, by rw [← HEk.out]; exact HM5.out⟩
          case measure => simp [intOf]; omega
    · obtain rfl : k = 8 := by omega
      obtain ⟨D, hD⟩ : ∃ D, D = madeN N 8 := ⟨_, rfl⟩
      rw [← hD] at HM4
      have HD : Hid (D = madeN N 8) := hD
      clear hD
      obtain ⟨y0, y1, y2, y3⟩ := HM4.out.cells4
      obtain ⟨r0, r1, r2, r3⟩ := HR4.out.cells4
      obtain ⟨f0, f1, f2, f3⟩ := HR4.out.frozen4
      go_wp2
      have hld := loadW (putW_blk HR4.out D)
      refine bodyPost_ret (v := .tuple #[.agg (arrW D), .nilIface]) ?_ rfl ⟨by rw [HD.out], ?_⟩
      · rw [results_cell_tmp rfl]
        unfold putW at hld
        simp [asAddr, Result.andThen, hld]
      · exact putW_below HB4.out (by omega) D

/-- World, whatever the counts. -/
theorem fworld_any (N : Nat → Int) (w : World) :
    Calls Tryd.prog 6 #[.agg #[.int .i64 (N 0), .int .i64 (N 1), .int .i64 (N 2), .int .i64 (N 3), .int .i64 (N 4), .int .i64 (N 5), .int .i64 (N 6), .int .i64 (N 7)]] w fun e w' => e = .returned (.tuple #[.agg (arrW (madeW N)), errV (countsFault N)]) ∧ Below w.heap.size w w' := by
  by_cases hf : countsFault N = 0
  · unfold madeW
    rw [if_pos hf, hf]
    exact fworld_right N w hf
  · unfold madeW errV
    rw [if_neg hf, if_neg hf]
    exact fworld_wrong N w hf
end Go.Proofs.YtjaedfjfcghgcabDoor

namespace Go.Proofs.YtjaedfjfcghgcabDoor
open Go.ChangeShapes Go.WideShapes Go.ChangeAt Go.RowKit
set_option maxRecDepth 100000

set_option maxHeartbeats 4000000 in
theorem wholds_in (ao : Option Addr) (al acap : Nat) (co : Option Addr) (cl ccap : Nat) (N : Nat → Int) (D : Wd) (q : Bool) (w : World)
    (hW : ∀ W, Calls Tryd.prog 6 #[.agg #[.int .i64 (N 0), .int .i64 (N 1), .int .i64 (N 2), .int .i64 (N 3), .int .i64 (N 4), .int .i64 (N 5), .int .i64 (N 6), .int .i64 (N 7)]] W fun e w' => e = .returned (.tuple #[.agg #[.int .i64 D.u, .int .i64 D.a, .int .i64 D.b, .int .i64 D.c], .nilIface]) ∧ Below W.heap.size W w')
    (hH : ∀ W, Below w.heap.size w W → Calls Tryd.prog 8 #[.agg #[.slice ao al acap, .slice co cl ccap], .agg #[.int .i64 D.u, .int .i64 D.a, .int .i64 D.b, .int .i64 D.c]] W fun e w' => e = .returned (.tuple #[.bool q, .nilIface]) ∧ Below W.heap.size W w') :
    Calls Tryd.prog 22 #[.agg #[.slice ao al acap, .slice co cl ccap], .agg #[.int .i64 (N 0), .int .i64 (N 1), .int .i64 (N 2), .int .i64 (N 3), .int .i64 (N 4), .int .i64 (N 5), .int .i64 (N 6), .int .i64 (N 7)]] w fun e w' => e = .returned (.tuple #[.bool q, .nilIface]) ∧ Below w.heap.size w w' := by
  have HWo : Hid (∀ W, Calls Tryd.prog 6 #[.agg #[.int .i64 (N 0), .int .i64 (N 1), .int .i64 (N 2), .int .i64 (N 3), .int .i64 (N 4), .int .i64 (N 5), .int .i64 (N 6), .int .i64 (N 7)]] W fun e w' => e = .returned (.tuple #[.agg #[.int .i64 D.u, .int .i64 D.a, .int .i64 D.b, .int .i64 D.c], .nilIface]) ∧ Below W.heap.size W w') := hW
  have HH : Hid (∀ W, Below w.heap.size w W → Calls Tryd.prog 8 #[.agg #[.slice ao al acap, .slice co cl ccap], .agg #[.int .i64 D.u, .int .i64 D.a, .int .i64 D.b, .int .i64 D.c]] W fun e w' => e = .returned (.tuple #[.bool q, .nilIface]) ∧ Below W.heap.size W w') := hH
  clear hW hH
  obtain ⟨w1, hw1⟩ : ∃ w1, w1 = (w.alloc (.cells #[.slice ao al acap, .slice co cl ccap] 25)).alloc (.cells #[.int .i64 (N 0), .int .i64 (N 1), .int .i64 (N 2), .int .i64 (N 3), .int .i64 (N 4), .int .i64 (N 5), .int .i64 (N 6), .int .i64 (N 7)] 30) := ⟨_, rfl⟩
  have HB1 : Hid (Below w.heap.size w w1) := by unfold Hid; rw [hw1]; exact (below_alloc1 _ _).alloc (by simp) _
  have HF1 : Hid (Blk w1 w.heap.size 25 #[.slice ao al acap, .slice co cl ccap]) := by unfold Hid; rw [hw1]; exact (Blk.new _ _ _).old _
  have HN1 : Hid (Blk w1 (w.heap.size + 1) 30 (arr8 N)) := by
    unfold Hid; rw [hw1]
    have := Blk.new (w.alloc (.cells #[.slice ao al acap, .slice co cl ccap] 25)) 30 (arr8 N)
    simp only [World.size_alloc] at this
    exact this
  go_enter Tryd.func22, Tryd.ntmps22
  go_upto_region 1 with fail
  rw [← hw1]
  clear hw1
  obtain ⟨x0, x1, x2, x3, x4, x5, x6, x7⟩ := HN1.out.cells8
  go_wp2_with fail
  go_at_call 6
  refine (HWo.out _).mono ?_
  rintro e w3 ⟨rfl, hb3⟩
  have HB3 : Hid (Below w.heap.size w w3) := HB1.out.trans (hb3.mono HB1.out.size)
  have HF3 : Hid (Blk w3 w.heap.size 25 #[.slice ao al acap, .slice co cl ccap]) := HF1.out.below hb3
  clear hb3 x0 x1 x2 x3 x4 x5 x6 x7
  obtain ⟨w4, hw4⟩ : ∃ x, x = w3.alloc (.cells #[.int .i64 D.u, .int .i64 D.a, .int .i64 D.b, .int .i64 D.c] 28) := ⟨_, rfl⟩
  obtain ⟨G, hG⟩ : ∃ G, G = w3.heap.size := ⟨_, rfl⟩
  have HB4 : Hid (Below w.heap.size w w4) := by unfold Hid; rw [hw4]; exact HB3.out.alloc HB3.out.size _
  have HF4 : Hid (Blk w4 w.heap.size 25 #[.slice ao al acap, .slice co cl ccap]) := by unfold Hid; rw [hw4]; exact HF3.out.old _
  have HG4 : Hid (Blk w4 G 28 #[.int .i64 D.u, .int .i64 D.a, .int .i64 D.b, .int .i64 D.c]) := by unfold Hid; rw [hw4, hG]; exact Blk.new _ _ _
  go_upto_region 2 with fail
  rw [← hw4, ← hG]
  clear hw4 hG
  have y0 : w4.cell? ⟨w.heap.size, 0, none⟩ = some (.slice ao al acap) := HF4.out.cell 0
  have y1 : w4.cell? ⟨w.heap.size, 1, none⟩ = some (.slice co cl ccap) := HF4.out.cell 1
  have z0 : w4.cell? ⟨G, 0, none⟩ = some (.int .i64 D.u) := HG4.out.cell 0
  have z1 : w4.cell? ⟨G, 1, none⟩ = some (.int .i64 D.a) := HG4.out.cell 1
  have z2 : w4.cell? ⟨G, 2, none⟩ = some (.int .i64 D.b) := HG4.out.cell 2
  have z3 : w4.cell? ⟨G, 3, none⟩ = some (.int .i64 D.c) := HG4.out.cell 3
  go_wp2_with fail
  go_at_call 8
  refine (HH.out _ HB4.out).mono ?_
  rintro e w5 ⟨rfl, hb5⟩
  have HB5 : Hid (Below w.heap.size w w5) := HB4.out.trans (hb5.mono HB4.out.size)
  go_wp2
  go_ret2
  exact ⟨rfl, HB5.out⟩
/-- whether a right formula holds where so many things lie in each field. -/
theorem wholds_any (va vc : Value) (ats : List At) (c : List Int) (N : Nat → Int) (w : World) (hA : ReadsA w va ats) (hC : Reads w vc c) (hK : KindsLaid w) (hf : formFault ats c = 0) (h0 : countsFault N = 0) :
    Calls Tryd.prog 22 #[.agg #[va, vc], .agg #[.int .i64 (N 0), .int .i64 (N 1), .int .i64 (N 2), .int .i64 (N 3), .int .i64 (N 4), .int .i64 (N 5), .int .i64 (N 6), .int .i64 (N 7)]] w fun e w' => e = .returned (.tuple #[.bool ((madeN N 8).formIs ats c), .nilIface]) ∧ Below w.heap.size w w' := by
  have hH := fun (D : Wd) W hW => fholds_any va vc ats c D.u D.a D.b D.c W (hA.below hW) (hC.below hW) (hK.below hW)
  obtain ⟨ao, acap, rfl, _⟩ := hA.slice
  obtain ⟨co, ccap, rfl, _⟩ := hC.slice
  refine wholds_in ao _ acap co _ ccap N (madeN N 8) _ w (fun W => ?_) fun W hW => ?_
  · have h := fworld_any N W
    have e : madeW N = madeN N 8 := by unfold madeW; rw [if_pos h0]
    rw [h0, e] at h
    exact h
  · have h := hH (madeN N 8) W hW
    have eD : ∀ D : Wd, Wd.mk D.u D.a D.b D.c = D := fun _ => rfl
    have e : (madeN N 8).formFault ats c = 0 := wdForm_zero.2 ⟨hf, made_ok h0⟩
    rw [eD, e] at h
    exact h
end Go.Proofs.YtjaedfjfcghgcabDoor

namespace Go.Proofs.YtjaedfjfcghgcabDoor
open Go.ChangeShapes Go.WideShapes Go.ChangeAt Go.RowKit
set_option maxRecDepth 100000


end Go.Proofs.YtjaedfjfcghgcabDoor

namespace Go.Proofs.YtjaedfjfcghgcabDoor
open Go.RowKit

/-- whatever lay from block B on lies as it lay. -/
structure Over (B : Nat) (W W' : World) : Prop where
  size : W.heap.size ≤ W'.heap.size
  same : ∀ b, B ≤ b → b < W.heap.size → W'.heap[b]? = W.heap[b]?
theorem Over.refl (B : Nat) (W : World) : Over B W W := ⟨Nat.le_refl _, fun _ _ _ => rfl⟩
theorem Over.trans {B : Nat} {X Y Z : World} (h : Over B X Y) (k : Over B Y Z) : Over B X Z :=
  ⟨Nat.le_trans h.size k.size, fun b hb hl => (k.same b hb (Nat.lt_of_lt_of_le hl h.size)).trans (h.same b hb hl)⟩
theorem Over.mono {B B' : Nat} {W W' : World} (h : Over B W W') (hB : B ≤ B') : Over B' W W' := ⟨h.size, fun b hb hl => h.same b (Nat.le_trans hB hb) hl⟩
theorem Over.of_below {B : Nat} {W W' : World} (h : Below W.heap.size W W') : Over B W W' := ⟨h.size, fun b _ hl => h.block b hl⟩
theorem Over.alloc {B : Nat} {X W : World} (h : Over B X W) (o : Obj) : Over B X (W.alloc o) := h.trans (.of_below ((Below.refl _ _).alloc (Nat.le_refl _) _))
theorem Over.setCell {B : Nat} {X W : World} (h : Over B X W) {p : Addr} (hp : p.block < B) (u : Value) : Over B X (W.setCell p u) :=
  h.trans ⟨by simp [World.setCell], fun b hb _ => Below.heap_setCell _ _ _ _ (by omega)⟩
theorem Over.setNew {B : Nat} {X W : World} (h : Over B X W) {p : Addr} (hp : X.heap.size ≤ p.block) (u : Value) : Over B X (W.setCell p u) :=
  ⟨Nat.le_trans h.size (by simp [World.setCell]), fun b hb hl => (Below.heap_setCell _ _ _ _ (by omega)).trans (h.same b hb hl)⟩
theorem below_putObj {B l : Nat} (W : World) (o : Obj) (h : B ≤ l) : Below B W (W.putObj l o) :=
  ⟨rfl, rfl, rfl, by simp, fun k hk => World.putObj_heap_other (by omega)⟩

/-- the iterator's word: A, one behind the other, to whatever loop whose rounds leave alone what the iterator has made since. -/
def SeqG {α : Type} (n : Nat) (P : Program) (g : Nat) (lb : Array Value) (encs : α → Array Value) (A : List α) (W : World) : Prop :=
  ∀ (l : Nat) (J Jx : Nat → World → Prop),
    (∀ k W1 W2, J k W1 → Below W.heap.size W1 W2 → J k W2) →
    (∀ k x W1, A[k]? = some x → J k W1 → YieldAt Fence.wide (n - 1) P l (encs x) W1 fun e W' =>
      (e = .returned (.bool true) ∧ J (k + 1) W' ∧ Over W.heap.size W1 W') ∨ (e = .returned (.bool false) ∧ Jx (k + 1) W')) →
    J 0 W →
    CallsIn Fence.wide n P g (#[.func (.yield l) #[] #[]] ++ lb) W fun e W' => (∃ v, e = .returned v) ∧ (J A.length W' ∨ ∃ k, k < A.length ∧ Jx (k + 1) W')

/-- how a round's body may be left. -/
def roundPostG (B : Nat) (I Ix : Nat → World → Prop) (k : Nat) (W : World) : Exit → Act → World → Prop
  | .normal, _, W' => Over B W W' ∧ I (k + 1) W'
  | .ret, _, W' => Over B W W' ∧ Ix (k + 1) W'
  | _, _, _ => False

theorem wpIn_range_own {α : Type} {P : Program} {n : Nat} {g : Operand} {ps : Array Tmp} {assign body : Code} {Q : Exit → Act → World → Prop} {a : Act} {w : World}
    (h1 : 1 ≤ n) {gf : Nat} {lb : Array Value} (hg : a.eval g = .func (.func gf) #[] lb) (eg : ∀ args w, (callFunc gf args).run P w = .ok (.enter gf args) w)
    {encs : α → Array Value} {A : List α} (hseq : ∀ W, Below w.heap.size w W → SeqG (n - 1) P gf lb encs A W) (hps : ∀ x, (encs x).size = ps.size)
    (I Ix : Nat → World → Prop) (hI : ∀ k W1 W2, I k W1 → Below w.heap.size W1 W2 → I k W2) (hIx : ∀ k W1 W2, Ix k W1 → Below w.heap.size W1 W2 → Ix k W2) (h0 : I 0 w)
    (hround : ∀ (l k : Nat) (x : α) (W : World), A[k]? = some x → w.heap.size ≤ l → l < W.heap.size → I k W →
      assign.wpIn (Fence.wide.inRound l) (n - 1 - 1) P (Exit.then (fun a1 W1 => Over w.heap.size W W1 ∧ ∀ o, body.wpIn (Fence.wide.inRound l) (n - 1 - 1) P (roundPostG w.heap.size I Ix k (W1.putObj l o)) a1 (W1.putObj l o)) (fun _ _ _ => False))
        { tmps := (ps.zip (encs x)).foldl (fun t (p, v) => t.setIfInBounds p v) a.tmps, defers := [] } W)
    (hdone : ∀ (D : Nat) (W : World), w.heap.size ≤ D → I A.length W → W.heap[D]? = some (.deferred (some [])) → Q .normal { a with defers := { target := .collected D, args := #[] } :: a.defers } W)
    (hstop : ∀ (D k : Nat) (W : World), w.heap.size ≤ D → k < A.length → Ix (k + 1) W → W.heap[D]? = some (.deferred (some [])) → Code.ret.wpIn Fence.wide n P Q { a with defers := { target := .collected D, args := #[] } :: a.defers } W) :
    (Code.rangeFunc g ps assign body).wpIn Fence.wide n P Q a w := by
  refine wpIn_rangeFunc ?_
  intro fn hfn
  rw [show Fence.wide.round = none from rfl]
  obtain ⟨rec, hrec⟩ : ∃ rec : LoopState → Option Code → Loop, rec = fun st pe => { state := st, pending := pe, fn, tmps := a.tmps, params := ps, assign, body, defers := w.heap.size } := ⟨_, rfl⟩
  obtain ⟨W1, hW1⟩ : ∃ W1, (w.alloc (.deferred (some []))).alloc (.loop (rec .ready none)) = W1 := ⟨_, rfl⟩
  have hs1 : W1.heap.size = w.heap.size + 1 + 1 := by rw [← hW1, World.size_alloc, World.size_alloc]
  have hL1 : W1.heap[w.heap.size + 1]? = some (.loop (rec .ready none)) := by
    rw [← hW1]; have := World.alloc_heap_new (w.alloc (.deferred (some []))) (.loop (rec .ready none)); rwa [World.size_alloc] at this
  have hK1 : W1.heap[w.heap.size]? = some (.deferred (some [])) := by
    rw [← hW1]; exact (Below.heap_alloc _ _ _ (by simp)).trans (World.alloc_heap_new w _)
  have hb1 : Below w.heap.size w W1 := by
    rw [← hW1]; exact ((Below.refl _ w).alloc (Nat.le_refl _) _).alloc (by simp) _
  have hI1 : I 0 W1 := hI _ _ _ h0 hb1
  refine ⟨w.heap.size + 1, [{ target := .collected w.heap.size, args := #[] }], W1, { target := .fn (.func gf) lb, args := #[.func (.yield (w.heap.size + 1)) #[] #[]] }, W1, gf,
    #[.func (.yield (w.heap.size + 1)) #[] #[]] ++ lb, W1, ?_, ?_, ?_, ?_, fun _ => h1, ?_⟩
  · rw [← hW1, hrec]; exact run_enterLoop_outer _ _ _ _ _
  · simp only [resolve, hg]
    simp [go_sem]
  · intro f' _; exact trivial
  · simp [invoke, go_sem, eg]
  · refine (hseq W1 hb1 (w.heap.size + 1)
      (fun k W => I k W ∧ W.heap[w.heap.size + 1]? = some (.loop (rec .ready none)) ∧ W.heap[w.heap.size]? = some (.deferred (some [])))
      (fun k W => Ix k W ∧ W.heap[w.heap.size + 1]? = some (.loop (rec .done (some .ret))) ∧ W.heap[w.heap.size]? = some (.deferred (some [])))
      (fun k X Y hs hb => ⟨hI k X Y hs.1 (hb.mono (by omega)), (hb.block _ (by omega)).trans hs.2.1, (hb.block _ (by omega)).trans hs.2.2⟩)
      ?_ ⟨hI1, hL1, hK1⟩).mono ?_
    · rintro k x W hx ⟨hi, hl, hk⟩
      have hlt : w.heap.size + 1 < W.heap.size := (Array.getElem?_eq_some_iff.1 hl).1
      have hy := run_yield (P := P) (args := encs x) hl (by rw [hrec]; exact hps x)
      rw [hrec] at hy
      refine ⟨fn, _, assign, body, hy, roundIn_of_wpIn hfn (wpIn_mono (hround _ k x W hx (by omega) hlt hi) ?_)⟩
      intro e a1 Wa hp
      cases e with
      | normal =>
        obtain ⟨ha, hb⟩ := hp
        have hla : Wa.heap[w.heap.size + 1]? = some (.loop (rec .ready none)) := (ha.same _ (by omega) hlt).trans hl
        have hka : Wa.heap[w.heap.size]? = some (.deferred (some [])) := (ha.same _ (by omega) (by omega)).trans hk
        have hlta : w.heap.size + 1 < Wa.heap.size := (Array.getElem?_eq_some_iff.1 hla).1
        refine ⟨_, run_beginRound hla (by rw [hrec]), ?_⟩
        have hl2 : (Wa.putObj (w.heap.size + 1) (.loop { rec .ready none with state := .busy })).heap[w.heap.size + 1]? = some (.loop { rec .ready none with state := .busy }) := World.putObj_heap_same hlta
        have hk2 : (Wa.putObj (w.heap.size + 1) (.loop { rec .ready none with state := .busy })).heap[w.heap.size]? = some (.deferred (some [])) := (World.putObj_heap_other (by omega)).trans hka
        refine wpIn_mono (hb _) ?_
        have fin : ∀ (jump : Option Code) (W3 : World), Over w.heap.size (Wa.putObj (w.heap.size + 1) (.loop { rec .ready none with state := .busy })) W3 →
            (Instr.endRound (w.heap.size + 1) jump).run P W3 = .ok (.bool jump.isNone) (W3.putObj (w.heap.size + 1) (.loop (rec (if jump.isNone then .ready else .done) jump))) ∧
            (W3.putObj (w.heap.size + 1) (.loop (rec (if jump.isNone then .ready else .done) jump))).heap[w.heap.size + 1]? = some (.loop (rec (if jump.isNone then .ready else .done) jump)) ∧
            (W3.putObj (w.heap.size + 1) (.loop (rec (if jump.isNone then .ready else .done) jump))).heap[w.heap.size]? = some (.deferred (some [])) := fun jump W3 hk3 => by
          have hl3 := (hk3.same _ (by omega) (by simpa using hlta)).trans hl2
          have := run_endRound (P := P) jump hl3
          rw [hrec] at this ⊢
          exact ⟨this, World.putObj_heap_same (Array.getElem?_eq_some_iff.1 hl3).1, (World.putObj_heap_other (by omega)).trans ((hk3.same _ (by omega) (by simp; omega)).trans hk2)⟩
        rintro e a3 W3 hp
        cases e with
        | normal =>
          obtain ⟨hk3, hi3⟩ := hp
          obtain ⟨hr, hl4, hk4⟩ := fin none W3 hk3
          refine ⟨_, _, hr, .inl ⟨rfl, ⟨hI _ _ _ hi3 (below_putObj _ _ (by omega)), hl4, hk4⟩, ?_⟩⟩
          refine ⟨?_, fun b hb1 hb2 => ?_⟩
          · have := ha.size
            have := hk3.size
            simp at this
            simp
            omega
          · rw [hs1] at hb1
            have s1 := ha.size
            refine (World.putObj_heap_other (by omega)).trans ((hk3.same b (by omega) (by simp; omega)).trans ((World.putObj_heap_other (by omega)).trans (ha.same b (by omega) hb2)))
        | ret =>
          obtain ⟨hk3, hi3⟩ := hp
          obtain ⟨hr, hl4, hk4⟩ := fin (some .ret) W3 hk3
          exact ⟨_, _, hr, .inr ⟨rfl, hIx _ _ _ hi3 (below_putObj _ _ (by omega)), hl4, hk4⟩⟩
        | exit id => exact hp.elim
        | goto t => exact hp.elim
        | panic ch => exact hp.elim
        | outgrown => exact hp.elim
      | ret => exact hp.elim
      | exit id => exact hp.elim
      | goto t => exact hp.elim
      | panic ch => exact hp.elim
      | outgrown => exact hp.elim
    · rintro e W2 ⟨⟨v, rfl⟩, (⟨hi, hl, hk⟩ | ⟨k, hkl, hi, hl, hk⟩)⟩
      · exact ⟨none, _, by have := run_endLoop (P := P) hl (by rw [hrec]; simp); rw [hrec] at this; exact this, hdone _ _ (Nat.le_refl _) (hI _ _ _ hi (below_putObj _ _ (by omega))) ((World.putObj_heap_other (by omega)).trans hk)⟩
      · exact ⟨some .ret, _, by have := run_endLoop (P := P) hl (by rw [hrec]; simp); rw [hrec] at this; exact this, hstop _ k _ (Nat.le_refl _) hkl (hIx _ _ _ hi (below_putObj _ _ (by omega))) ((World.putObj_heap_other (by omega)).trans hk)⟩
end Go.Proofs.YtjaedfjfcghgcabDoor
namespace Go.Proofs.YtjaedfjfcghgcabDoor
open Go.ChangeShapes Go.WideShapes Go.ChangeAt Go.RowKit
set_option maxRecDepth 100000

theorem arr8_put (N : Nat → Int) {f : Nat} (hf : f < 8) (x : Int) : (arr8 N).setIfInBounds f (.int .i64 x) = arr8 (putN N f x) := by
  rcases eight hf with rfl | rfl | rfl | rfl | rfl | rfl | rfl | rfl <;> simp [arr8, putN]
theorem Blk.putN {w : World} {G : Nat} {T : TypeId} {N : Nat → Int} (h : Blk w G T (arr8 N)) {f : Nat} (hf : f < 8) (x : Int) : Blk (w.setCell ⟨G, f, none⟩ (.int .i64 x)) G T (arr8 (putN N f x)) := by
  have := h.set f (.int .i64 x)
  rw [arr8_put N hf] at this
  exact this
theorem Blk.at8 {w : World} {G : Nat} {T : TypeId} {N : Nat → Int} (h : Blk w G T (arr8 N)) {f : Nat} (hf : f < 8) : w.cell? ⟨G, f, none⟩ = some (.int .i64 (N f)) := by rw [h.cell, arr8_get _ hf]

set_option maxHeartbeats 4000000 in
theorem after_any (N : Nat → Int) (w : World) (hN : ∀ f, f < 8 → 0 ≤ N f ∧ N f ≤ 6) :
    Calls Tryd.prog 40 #[.agg #[.int .i64 (N 0), .int .i64 (N 1), .int .i64 (N 2), .int .i64 (N 3), .int .i64 (N 4), .int .i64 (N 5), .int .i64 (N 6), .int .i64 (N 7)]] w fun e w' => e = .returned (.tuple #[.agg (arr8 (afterO N)), .bool (!(lastTo N 8 == 0))]) ∧ Below w.heap.size w w' := by
  obtain ⟨Z, hZ⟩ : ∃ Z : Nat → Int, Z = zeroC := ⟨_, rfl⟩
  obtain ⟨w1, hw1⟩ : ∃ w1, w1 = (w.alloc (.cells #[.int .i64 (N 0), .int .i64 (N 1), .int .i64 (N 2), .int .i64 (N 3), .int .i64 (N 4), .int .i64 (N 5), .int .i64 (N 6), .int .i64 (N 7)] 30)).alloc (.cells #[.int .i64 0, .int .i64 0, .int .i64 0, .int .i64 0, .int .i64 0, .int .i64 0, .int .i64 0, .int .i64 0] 30) := ⟨_, rfl⟩
  have HW : Hid (Below w.heap.size w w1) := by unfold Hid; rw [hw1]; exact (below_alloc1 _ _).alloc (by simp) _
  have HK0 : Hid (Blk w1 w.heap.size 30 (arr8 N)) := by unfold Hid; rw [hw1]; exact (Blk.new _ _ _).old _
  have HK1 : Hid (Blk w1 (w.heap.size + 1) 30 (arr8 Z)) := by
    unfold Hid; rw [hw1, hZ]
    have := Blk.new (w.alloc (.cells (arr8 N) 30)) 30 (arr8 zeroC)
    simp only [World.size_alloc] at this
    exact this
  have HX : Hid (∀ k, k < 8 → w1.cell? ⟨w.heap.size, k, none⟩ = some (.int .i64 (N k))) := fun k hk => HK0.out.at8 hk
  have HN : Hid (∀ f, f < 8 → 0 ≤ N f ∧ N f ≤ 6) := hN
  have HZ : Hid (Z = zeroC) := hZ
  clear hN hZ
  go_enter Tryd.func40, Tryd.ntmps40
  go_wp2_with fail
  rw [← hw1]
  clear hw1
  go_loop [4, 7] (fun l i => ∃ k : Nat, k ≤ 8 ∧ i = .int .i64 k ∧ l = .int .i64 (lastTo N k)) (fun _ i => 8 - (intOf i).toNat)
  case atStart => exact ⟨0, Nat.zero_le _, rfl, rfl⟩
  case round =>
    obtain ⟨k, hk, rfl, rfl⟩ := hrel
    by_cases hlt : k < 8
    · have hc := HX.out k hlt
      have hp0 := HN.out k hlt
      obtain ⟨x, hx⟩ : ∃ x, x = N k := ⟨_, rfl⟩
      rw [← hx] at hc hp0
      have HXk : Hid (x = N k) := hx
      clear hx
      by_cases hp : 0 < x
      · have HS : Hid (lastTo N (k + 1) = k) := by unfold Hid lastTo; rw [if_pos (by rw [← HXk.out]; exact hp)]
        go_wp2
        go_round
        case rel => exact ⟨k + 1, by omega, by go_num, by rw [HS.out]⟩
        case measure => simp [intOf]; omega
      · have HS : Hid (lastTo N (k + 1) = lastTo N k) := by unfold Hid; rw [lastTo, if_neg (by rw [← HXk.out]; exact hp)]
        go_wp2
        go_round
        case rel => exact ⟨k + 1, by omega, by go_num, by rw [HS.out]⟩
        case measure => simp [intOf]; omega
    · obtain rfl : k = 8 := by omega
      have hL8 := lastTo_lt N 8
      have HO : Hid (afterO N = if lastTo N 8 = 0 then zeroC else afterL N (lastTo N 8)) := rfl
      obtain ⟨L, hL⟩ : ∃ L, L = lastTo N 8 := ⟨_, rfl⟩
      rw [← hL] at hL8 HO ⊢
      have HLL : Hid (L = lastTo N 8) := hL
      clear hL
      by_cases h0 : L = 0
      · subst h0
        have HO2 : Hid (afterO N = Z) := by unfold Hid; rw [HO.out, HZ.out]; rfl
        obtain ⟨r0, r1, r2, r3, r4, r5, r6, r7⟩ := HK1.out.cells8
        obtain ⟨f0, f1, f2, f3, f4, f5, f6, f7⟩ := HK1.out.frozen8
        go_wp2
        have hld := load8 (put8_blk HK1.out zeroC)
        refine bodyPost_ret (v := .tuple #[.agg (arr8 zeroC), .bool false]) ?_ rfl ⟨?_, ?_⟩
        · rw [results_cell_tmp rfl]
          unfold put8 at hld
          simp [asAddr, Result.andThen, hld, zeroC] at hld ⊢
        · rw [HO2.out, HZ.out, ← HLL.out]; rfl
        · exact put8_below HW.out (by omega) zeroC
      · obtain ⟨m, hm⟩ : ∃ m, L = m + 1 := ⟨L - 1, by omega⟩
        subst hm
        have hm8 : m + 1 < 8 := hL8 (by omega)
        clear hL8 h0
        have HO2 : Hid (afterO N = putN (putN (putN N (m + 1) 0) m (N m + 1)) 7 (N (m + 1) - 1)) := by
          unfold Hid; rw [HO.out, if_neg (by omega)]; rfl
        have eL : ((m + 1 : Nat) : Int) = (m : Int) + 1 := by omega
        rw [eL]
        clear eL
        have hx1 := HN.out (m + 1) hm8
        have hx2 := HN.out m (by omega)
        have c1 : w1.cell? ⟨w.heap.size, m + 1, none⟩ = some (.int .i64 (N (m + 1))) := HX.out _ hm8
        have z1 : w1.frozen? ⟨w.heap.size, m + 1, none⟩ = false := HK0.out.frozen _
        obtain ⟨x, hx⟩ : ∃ x, x = N (m + 1) := ⟨_, rfl⟩
        obtain ⟨y, hy⟩ : ∃ x, x = N m := ⟨_, rfl⟩
        rw [← hx] at c1 hx1
        rw [← hy] at hx2
        have HXx : Hid (x = N (m + 1)) := hx
        have HXy : Hid (y = N m) := hy
        clear hx hy
        obtain ⟨w2, hw2⟩ : ∃ w2, w2 = w1.setCell ⟨w.heap.size, m + 1, none⟩ (.int .i64 0) := ⟨_, rfl⟩
        have HB2 : Hid (Below w.heap.size w w2) := by unfold Hid; rw [hw2]; exact HW.out.setCell (by simp) _
        have H2 : Hid (Blk w2 w.heap.size 30 (arr8 (putN N (m + 1) 0))) := by unfold Hid; rw [hw2]; exact HK0.out.putN hm8 0
        have R2 : Hid (Blk w2 (w.heap.size + 1) 30 (arr8 Z)) := by unfold Hid; rw [hw2]; exact HK1.out.far (by omega) _ _
        go_upto_region 12 with fail
        rw [← hw2]
        clear hw2 c1 z1
        have c2 : w2.cell? ⟨w.heap.size, m, none⟩ = some (.int .i64 y) := by rw [H2.out.at8 (by omega), putN_other _ (by omega), HXy.out]
        have z2 : w2.frozen? ⟨w.heap.size, m, none⟩ = false := H2.out.frozen _
        obtain ⟨w3, hw3⟩ : ∃ w3, w3 = w2.setCell ⟨w.heap.size, m, none⟩ (.int .i64 (y + 1)) := ⟨_, rfl⟩
        have HB3 : Hid (Below w.heap.size w w3) := by unfold Hid; rw [hw3]; exact HB2.out.setCell (by simp) _
        have H3 : Hid (Blk w3 w.heap.size 30 (arr8 (putN (putN N (m + 1) 0) m (y + 1)))) := by unfold Hid; rw [hw3]; exact H2.out.putN (by omega) _
        have R3 : Hid (Blk w3 (w.heap.size + 1) 30 (arr8 Z)) := by unfold Hid; rw [hw3]; exact R2.out.far (by omega) _ _
        go_upto_region 13 with fail
        rw [← hw3]
        clear hw3 c2 z2
        have c3 := H3.out.at8 (f := 7) (by omega)
        have z3 : w3.frozen? ⟨w.heap.size, 7, none⟩ = false := H3.out.frozen _
        obtain ⟨w4, hw4⟩ : ∃ w4, w4 = w3.setCell ⟨w.heap.size, 7, none⟩ (.int .i64 (x - 1)) := ⟨_, rfl⟩
        have HB4 : Hid (Below w.heap.size w w4) := by unfold Hid; rw [hw4]; exact HB3.out.setCell (by simp) _
        obtain ⟨M, hM⟩ : ∃ M, M = afterO N := ⟨_, rfl⟩
        have H4 : Hid (Blk w4 w.heap.size 30 (arr8 M)) := by
          unfold Hid; rw [hw4, hM, HO2.out, ← HXx.out, ← HXy.out]; exact H3.out.putN (by omega) _
        have R4 : Hid (Blk w4 (w.heap.size + 1) 30 (arr8 Z)) := by unfold Hid; rw [hw4]; exact R3.out.far (by omega) _ _
        go_upto_region 14 with fail
        rw [← hw4]
        clear hw4 c3 z3
        have HM : Hid (M = afterO N) := hM
        clear hM
        obtain ⟨n0, n1, n2, n3, n4, n5, n6, n7⟩ := H4.out.cells8
        obtain ⟨r0, r1, r2, r3, r4, r5, r6, r7⟩ := R4.out.cells8
        obtain ⟨f0, f1, f2, f3, f4, f5, f6, f7⟩ := R4.out.frozen8
        go_wp2
        have hld := load8 (put8_blk R4.out M)
        refine bodyPost_ret (v := .tuple #[.agg (arr8 M), .bool true]) ?_ rfl ⟨?_, ?_⟩
        · rw [results_cell_tmp rfl]
          unfold put8 at hld
          simp [asAddr, Result.andThen, hld]
        · rw [← HM.out, ← HLL.out]; rfl
        · exact put8_below HB4.out (by omega) M
end Go.Proofs.YtjaedfjfcghgcabDoor
