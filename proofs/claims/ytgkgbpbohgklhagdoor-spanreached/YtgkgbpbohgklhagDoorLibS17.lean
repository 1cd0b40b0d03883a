/-
  Proved: what fields.World returns, of any counts; what was in memory is as it was (a contract that the statements lean on).
  Rows of booleans in memory (facts that the contracts lean on).
  Proved: what form.made and form.work return, of a right Code and which atoms hold; what was in memory is as it was (contracts that the statements lean on).
  Proved: what form.work returns, of a right Code and which atoms hold: whether the pile's last holds; what was in memory is as it was (a contract that the statements lean on).
  Proved: what math/bits.OnesCount returns, of a number of at most six bits, and that it leaves memory as it was (a contract that the statements lean on).
-/
import Derived.Test.YtgkgbpbohgklhagDoorLibS4
import Derived.Test.YtgkgbpbohgklhagDoorLibS16
import Derived.Test.YtgkgbpbohgklhagDoorLibS3
import Derived.Test.YtgkgbpbohgklhagDoorLibS2
import Derived.Test.YtgkgbpbohgklhagDoorLibS8
import Derived.Deep.RegionHeld3
import Derived.Deep.AppendLies
namespace Go.Proofs.YtgkgbpbohgklhagDoor
open Go.ChangeShapes Go.WideShapes Go.ChangeAt Go.RowKit

/-- the world of so many in each field; the empty one, if the counts are wrong. -/
def madeW (N : Nat → Int) : Wd := if countsFault N = 0 then madeN N 8 else ⟨0, 0, 0, 0⟩

theorem with_more (D : Wd) (f : Nat) (hok : D.ok = true) (h5 : D.u ≤ 5) (hf : f < 8) (w : World) :
    Calls Tryd.prog 75 #[.agg #[.int .i64 D.u, .int .i64 D.a, .int .i64 D.b, .int .i64 D.c], .int .i64 f] w fun e w' => e = .returned (.agg #[.int .i64 (D.more f).u, .int .i64 (D.more f).a, .int .i64 (D.more f).b, .int .i64 (D.more f).c]) ∧ Below w.heap.size w w' := by
  obtain ⟨u, a, b, c⟩ := D
  obtain ⟨n, rfl⟩ := Int.eq_ofNat_of_zero_le (show 0 ≤ u from (ok_u hok).1)
  exact with_field n a b c f hok (by simp only at h5; omega) hf w

set_option maxRecDepth 100000 in
set_option maxHeartbeats 4000000 in
theorem fworld_wrong (N : Nat → Int) (w : World) (hf : ¬ countsFault N = 0) :
    Calls Tryd.prog 51 #[.agg #[.int .i64 (N 0), .int .i64 (N 1), .int .i64 (N 2), .int .i64 (N 3), .int .i64 (N 4), .int .i64 (N 5), .int .i64 (N 6), .int .i64 (N 7)]] w fun e w' => e = .returned (.tuple #[.agg #[.int .i64 0, .int .i64 0, .int .i64 0, .int .i64 0], .iface 64 (.int .i64 (countsFault N))]) ∧ Below w.heap.size w w' := by
  obtain ⟨w1, hw1⟩ : ∃ w1, w1 = (w.alloc (.cells #[.int .i64 (N 0), .int .i64 (N 1), .int .i64 (N 2), .int .i64 (N 3), .int .i64 (N 4), .int .i64 (N 5), .int .i64 (N 6), .int .i64 (N 7)] 81)).alloc (.cells #[.int .i64 0, .int .i64 0, .int .i64 0, .int .i64 0] 37) := ⟨_, rfl⟩
  have HW : Hid (Below w.heap.size w w1) := by unfold Hid; rw [hw1]; exact (below_alloc1 _ _).alloc (by simp) _
  have HK0 : Hid (Blk w1 w.heap.size 81 (arr8 N)) := by unfold Hid; rw [hw1]; exact (Blk.new _ _ _).old _
  have HK1 : Hid (Blk w1 (w.heap.size + 1) 37 (arrW ⟨0, 0, 0, 0⟩)) := by
    unfold Hid; rw [hw1]
    have := Blk.new (w.alloc (.cells (arr8 N) 81)) 37 (arrW ⟨0, 0, 0, 0⟩)
    simp only [World.size_alloc] at this
    exact this
  have HC : Hid (Calls Tryd.prog 72 #[.agg #[.int .i64 (N 0), .int .i64 (N 1), .int .i64 (N 2), .int .i64 (N 3), .int .i64 (N 4), .int .i64 (N 5), .int .i64 (N 6), .int .i64 (N 7)]] w1 fun e w' => e = .returned (.iface 64 (.int .i64 (countsFault N))) ∧ Below w1.heap.size w1 w') := by
    have := fcounts_any N w1
    unfold errV at this
    rw [if_neg hf] at this
    exact this
  obtain ⟨F, hF⟩ : ∃ F, F = countsFault N := ⟨_, rfl⟩
  rw [← hF] at HC ⊢
  clear hF hf
  obtain ⟨x0, x1, x2, x3, x4, x5, x6, x7⟩ := HK0.out.cells8
  go_enter Tryd.func51, Tryd.ntmps51
  go_wp2_with fail
  rw [← hw1]
  clear hw1
  go_wp2_with fail
  go_at_call 72
  refine HC.out.mono ?_
  rintro e w2 ⟨rfl, hb⟩
  have HB : Hid (Below w.heap.size w w2) := HW.out.trans (hb.mono HW.out.size)
  have HR : Hid (Blk w2 (w.heap.size + 1) 37 (arrW ⟨0, 0, 0, 0⟩)) := HK1.out.below hb
  clear hb x0 x1 x2 x3 x4 x5 x6 x7
  have r0 : w2.cell? ⟨w.heap.size + 1, 0, none⟩ = some (.int .i64 0) := HR.out.cell 0
  have r1 : w2.cell? ⟨w.heap.size + 1, 1, none⟩ = some (.int .i64 0) := HR.out.cell 1
  have r2 : w2.cell? ⟨w.heap.size + 1, 2, none⟩ = some (.int .i64 0) := HR.out.cell 2
  have r3 : w2.cell? ⟨w.heap.size + 1, 3, none⟩ = some (.int .i64 0) := HR.out.cell 3
  obtain ⟨f0, f1, f2, f3⟩ := HR.out.frozen4
  go_wp2
  have hld := loadW (putW_blk HR.out ⟨0, 0, 0, 0⟩)
  refine bodyPost_ret (v := .tuple #[.agg #[.int .i64 0, .int .i64 0, .int .i64 0, .int .i64 0], .iface 64 (.int .i64 F)]) ?_ rfl ⟨rfl, ?_⟩
  · rw [results_cell_tmp rfl]
    unfold putW arrW at hld
    simp only at hld
    simp [asAddr, Result.andThen, hld]
  · exact putW_below HB.out (by omega) ⟨0, 0, 0, 0⟩

set_option maxRecDepth 100000 in
set_option maxHeartbeats 4000000 in
theorem fworld_right (N : Nat → Int) (w : World) (hf : countsFault N = 0) :
    Calls Tryd.prog 51 #[.agg #[.int .i64 (N 0), .int .i64 (N 1), .int .i64 (N 2), .int .i64 (N 3), .int .i64 (N 4), .int .i64 (N 5), .int .i64 (N 6), .int .i64 (N 7)]] w fun e w' => e = .returned (.tuple #[.agg (arrW (madeN N 8)), .nilIface]) ∧ Below w.heap.size w w' := by
  obtain ⟨Z, hZ⟩ : ∃ Z : Wd, Z = ⟨0, 0, 0, 0⟩ := ⟨_, rfl⟩
  obtain ⟨w1, hw1⟩ : ∃ w1, w1 = (w.alloc (.cells #[.int .i64 (N 0), .int .i64 (N 1), .int .i64 (N 2), .int .i64 (N 3), .int .i64 (N 4), .int .i64 (N 5), .int .i64 (N 6), .int .i64 (N 7)] 81)).alloc (.cells #[.int .i64 0, .int .i64 0, .int .i64 0, .int .i64 0] 37) := ⟨_, rfl⟩
  have HW : Hid (Below w.heap.size w w1) := by unfold Hid; rw [hw1]; exact (below_alloc1 _ _).alloc (by simp) _
  have HK0 : Hid (Blk w1 w.heap.size 81 (arr8 N)) := by unfold Hid; rw [hw1]; exact (Blk.new _ _ _).old _
  have HK1 : Hid (Blk w1 (w.heap.size + 1) 37 (arrW Z)) := by
    unfold Hid; rw [hw1, hZ]
    have := Blk.new (w.alloc (.cells (arr8 N) 81)) 37 (arrW ⟨0, 0, 0, 0⟩)
    simp only [World.size_alloc] at this
    exact this
  have HC : Hid (Calls Tryd.prog 72 #[.agg #[.int .i64 (N 0), .int .i64 (N 1), .int .i64 (N 2), .int .i64 (N 3), .int .i64 (N 4), .int .i64 (N 5), .int .i64 (N 6), .int .i64 (N 7)]] w1 fun e w' => e = .returned .nilIface ∧ Below w1.heap.size w1 w') := by
    have := fcounts_any N w1
    rw [hf] at this
    exact this
  obtain ⟨hall, hsum⟩ := counts_zero.1 hf
  have HN : Hid (∀ k, k < 8 → 0 ≤ N k ∧ N k ≤ 6) := hall
  have HX : Hid (∀ W k, k < 8 → Blk W w.heap.size 81 (arr8 N) → W.cell? ⟨w.heap.size, k, none⟩ = some (.int .i64 (N k))) := fun W k hk h => by rw [h.cell, arr8_get _ hk]
  have HV : Hid (∀ (k j : Nat) W, k < 8 → (j : Int) < N k → Calls Tryd.prog 75 #[.agg #[.int .i64 ((madeN N k).mores k j).u, .int .i64 ((madeN N k).mores k j).a, .int .i64 ((madeN N k).mores k j).b, .int .i64 ((madeN N k).mores k j).c], .int .i64 k] W fun e w' => e = .returned (.agg #[.int .i64 ((madeN N k).mores k (j + 1)).u, .int .i64 ((madeN N k).mores k (j + 1)).a, .int .i64 ((madeN N k).mores k (j + 1)).b, .int .i64 ((madeN N k).mores k (j + 1)).c]) ∧ Below W.heap.size W w') := fun k j W hk hj => by
    obtain ⟨i1, i2, _⟩ := made_all hall hsum (k := k) (by omega)
    have hm := sumN_mono (N := N) (k := k + 1) (l := 8) (by omega) hall
    have es : sumN N (k + 1) = sumN N k + N k := rfl
    have e := mores_u (madeN N k) k j
    exact with_more _ k (mores_ok i1 k (by rw [i2]; omega)) (by rw [e, i2]; omega) hk W
  have HE : Hid (∀ k, k < 8 → (madeN N k).mores k (N k).toNat = madeN N (k + 1)) := fun k _ => rfl
  have HZ : Hid (Z = madeN N 0) := hZ
  clear hf hall hsum
  obtain ⟨x0, x1, x2, x3, x4, x5, x6, x7⟩ := HK0.out.cells8
  go_enter Tryd.func51, Tryd.ntmps51
  go_wp2_with fail
  rw [← hw1]
  clear hw1
  go_wp2_with fail
  go_at_call 72
  refine HC.out.mono ?_
  rintro e w2 ⟨rfl, hb⟩
  have HB : Hid (Below w.heap.size w w2) := HW.out.trans (hb.mono HW.out.size)
  have HP : Hid (Blk w2 w.heap.size 81 (arr8 N)) := HK0.out.below hb
  have HR : Hid (Blk w2 (w.heap.size + 1) 37 (arrW Z)) := HK1.out.below hb
  clear hb x0 x1 x2 x3 x4 x5 x6 x7
  obtain ⟨G, hG⟩ : ∃ G, G = w2.heap.size := ⟨_, rfl⟩
  have HG : Hid (w.heap.size + 1 < G) := by unfold Hid; rw [hG]; exact HR.out.lt
  obtain ⟨w3, hw3⟩ : ∃ w3, w3 = w2.alloc (.cells #[.int .i64 0, .int .i64 0, .int .i64 0, .int .i64 0] 37) := ⟨_, rfl⟩
  have HB3 : Hid (Below w.heap.size w w3) := by unfold Hid; rw [hw3]; exact HB.out.alloc HB.out.size _
  have HP3 : Hid (Blk w3 w.heap.size 81 (arr8 N)) := by unfold Hid; rw [hw3]; exact HP.out.old _
  have HR3 : Hid (Blk w3 (w.heap.size + 1) 37 (arrW Z)) := by unfold Hid; rw [hw3]; exact HR.out.old _
  have HM3 : Hid (Blk w3 G 37 (arrW (madeN N 0))) := by unfold Hid; rw [hw3, hG]; exact Blk.new _ _ _
  clear HB HP HR hZ
  go_wp2
  rw [← hw3, ← hG]
  clear hw3 hG
  go_loopw [13] (fun i wr => ∃ k : Nat, k ≤ 8 ∧ i = .int .i64 k ∧ Below w.heap.size w wr ∧ Blk wr w.heap.size 81 (arr8 N) ∧ Blk wr (w.heap.size + 1) 37 (arrW Z) ∧ Blk wr G 37 (arrW (madeN N k))) (fun i _ => 8 - (intOf i).toNat)
  case atStart => exact ⟨0, Nat.zero_le _, rfl, HB3.out, HP3.out, HR3.out, HM3.out⟩
  case round =>
    obtain ⟨k, hk, rfl, hb, hp, hr, hm⟩ := hrel
    have HB4 : Hid (Below w.heap.size w wr) := hb
    have HP4 : Hid (Blk wr w.heap.size 81 (arr8 N)) := hp
    have HR4 : Hid (Blk wr (w.heap.size + 1) 37 (arrW Z)) := hr
    have HM4 : Hid (Blk wr G 37 (arrW (madeN N k))) := hm
    clear hb hp hr hm
    by_cases hlt : k < 8
    · have y := HX.out wr k hlt HP4.out
      have p := HN.out k hlt
      obtain ⟨x, hx⟩ : ∃ x : Nat, (x : Int) = N k := ⟨(N k).toNat, by omega⟩
      have HXk : Hid ((x : Int) = N k) := hx
      have HEk : Hid ((madeN N k).mores k x = madeN N (k + 1)) := by
        have := HE.out k hlt
        rw [show (N k).toNat = x by omega] at this
        exact this
      rw [← hx] at y p
      clear hx
      go_wp2
      clear y
      rw [show decide ((k : Int) < 8) = true by simp; omega]
      go_loopw [19] (fun i wr => ∃ j : Nat, j ≤ x ∧ i = .int .i64 j ∧ Below w.heap.size w wr ∧ Blk wr w.heap.size 81 (arr8 N) ∧ Blk wr (w.heap.size + 1) 37 (arrW Z) ∧ Blk wr G 37 (arrW ((madeN N k).mores k j))) (fun i _ => x - (intOf i).toNat)
      case atStart => exact ⟨0, Nat.zero_le _, rfl, HB4.out, HP4.out, HR4.out, HM4.out⟩
      case round =>
        obtain ⟨j, hj, rfl, hb, hp, hr, hm⟩ := hrel
        have HB5 : Hid (Below w.heap.size w wr) := hb
        have HP5 : Hid (Blk wr w.heap.size 81 (arr8 N)) := hp
        have HR5 : Hid (Blk wr (w.heap.size + 1) 37 (arrW Z)) := hr
        have HM5 : Hid (Blk wr G 37 (arrW ((madeN N k).mores k j))) := hm
        clear hb hp hr hm
        by_cases hlj : j < x
        · have HVk : Hid (Calls Tryd.prog 75 #[.agg #[.int .i64 ((madeN N k).mores k j).u, .int .i64 ((madeN N k).mores k j).a, .int .i64 ((madeN N k).mores k j).b, .int .i64 ((madeN N k).mores k j).c], .int .i64 k] wr fun e w' => e = .returned (.agg #[.int .i64 ((madeN N k).mores k (j + 1)).u, .int .i64 ((madeN N k).mores k (j + 1)).a, .int .i64 ((madeN N k).mores k (j + 1)).b, .int .i64 ((madeN N k).mores k (j + 1)).c]) ∧ Below wr.heap.size wr w') := HV.out k j wr hlt (by rw [← HXk.out]; omega)
          obtain ⟨D, hD⟩ : ∃ D, D = (madeN N k).mores k j := ⟨_, rfl⟩
          rw [← hD] at HVk HM5
          obtain ⟨E, hE⟩ : ∃ E, E = (madeN N k).mores k (j + 1) := ⟨_, rfl⟩
          rw [← hE] at HVk
          have HEj : Hid (E = (madeN N k).mores k (j + 1)) := hE
          clear hD hE
          obtain ⟨y0, y1, y2, y3⟩ := HM5.out.cells4
          go_wp2_with fail
          go_at_call 75
          refine HVk.out.mono ?_
          rintro e w6 ⟨rfl, hb⟩
          have HB6 : Hid (Below w.heap.size w w6) := HB5.out.trans (hb.mono HB5.out.size)
          have HP6 : Hid (Blk w6 w.heap.size 81 (arr8 N)) := HP5.out.below hb
          have HR6 : Hid (Blk w6 (w.heap.size + 1) 37 (arrW Z)) := HR5.out.below hb
          have HM6 : Hid (Blk w6 G 37 (arrW D)) := HM5.out.below hb
          clear hb y0 y1 y2 y3
          obtain ⟨y0, y1, y2, y3⟩ := HM6.out.cells4
          obtain ⟨f0, f1, f2, f3⟩ := HM6.out.frozen4
          go_wp2
          go_roundw
          case rel =>
            have hg := HG.out
            exact ⟨j + 1, by omega, by go_num, putW_below HB6.out (by omega) E, putW_far HP6.out (by omega) E, putW_far HR6.out (by omega) E, by rw [← HEj.out]; exact putW_blk HM6.out E⟩
          case measure => simp [intOf]; omega
        · obtain rfl : j = x := by omega
          go_wp2
          go_roundw
          case rel => exact ⟨k + 1, by omega, by go_num, HB5.out, HP5.out, HR5.out, by rw [← HEk.out]; exact HM5.out⟩
          case measure => simp [intOf]; omega
    · obtain rfl : k = 8 := by omega
      obtain ⟨D, hD⟩ : ∃ D, D = madeN N 8 := ⟨_, rfl⟩
      rw [← hD] at HM4
      have HD : Hid (D = madeN N 8) := hD
      clear hD
      obtain ⟨y0, y1, y2, y3⟩ := HM4.out.cells4
      obtain ⟨r0, r1, r2, r3⟩ := HR4.out.cells4
      obtain ⟨f0, f1, f2, f3⟩ := HR4.out.frozen4
      go_wp2
      have hld := loadW (putW_blk HR4.out D)
      refine bodyPost_ret (v := .tuple #[.agg (arrW D), .nilIface]) ?_ rfl ⟨by rw [HD.out], ?_⟩
      · rw [results_cell_tmp rfl]
        unfold putW at hld
        simp [asAddr, Result.andThen, hld]
      · exact putW_below HB4.out (by omega) D

/-- World, whatever the counts. -/
theorem fworld_any (N : Nat → Int) (w : World) :
    Calls Tryd.prog 51 #[.agg #[.int .i64 (N 0), .int .i64 (N 1), .int .i64 (N 2), .int .i64 (N 3), .int .i64 (N 4), .int .i64 (N 5), .int .i64 (N 6), .int .i64 (N 7)]] w fun e w' => e = .returned (.tuple #[.agg (arrW (madeW N)), errV (countsFault N)]) ∧ Below w.heap.size w w' := by
  by_cases hf : countsFault N = 0
  · unfold madeW
    rw [if_pos hf, hf]
    exact fworld_right N w hf
  · unfold madeW errV
    rw [if_neg hf, if_neg hf]
    exact fworld_wrong N w hf
end Go.Proofs.YtgkgbpbohgklhagDoor

namespace Go.Proofs.YtgkgbpbohgklhagDoor
open Go.ChangeShapes Go.WideShapes Go.ChangeAt Go.RowKit
set_option maxRecDepth 100000

theorem infoBool : (Tryd.prog.info? 4).map (fun i => (i.zero, i.size, i.bytes)) = some (some (.bool false), 1, 1) := by kernel_rfl

/-- the slice v reads, in the world w, as these booleans. -/
def ReadsB (w : World) (b off : Nat) (hs : List Bool) : Prop := b < w.heap.size ∧ ∀ k, k < hs.length → w.cell? ⟨b, off + k, none⟩ = some (.bool (hs.getD k false))

end Go.Proofs.YtgkgbpbohgklhagDoor

namespace Go.Proofs.YtgkgbpbohgklhagDoor
open Go.ChangeShapes Go.WideShapes Go.ChangeAt Go.RowKit
set_option maxRecDepth 100000

theorem fmade_op (s : Int) (x y : Bool) (hs : s = 10 ∨ s = 11 ∨ s = 13) (B off cap : Nat) (vh : Value) (w : World) (c0 : w.cell? ⟨B, off, none⟩ = some (.bool x)) (c1 : w.cell? ⟨B, off + 1, none⟩ = some (.bool y)) (held : List Bool) :
    Calls Tryd.prog 61 #[.int .i64 s, .slice (some ⟨B, off, none⟩) 2 cap, vh] w fun e w' => e = .returned (.bool (madeF held s [x, y])) ∧ w = w' := by
  rcases hs with rfl | rfl | rfl
  · cases x
    all_goals
      go_enter Tryd.func61, Tryd.ntmps61
      go_wp2
      go_ret
      exact ⟨rfl, rfl⟩
  · cases x
    all_goals
      go_enter Tryd.func61, Tryd.ntmps61
      go_wp2
      go_ret
      exact ⟨rfl, rfl⟩
  · cases x
    all_goals
      go_enter Tryd.func61, Tryd.ntmps61
      go_wp2
      go_ret
      exact ⟨rfl, rfl⟩
theorem fmade_no (x : Bool) (B off cap : Nat) (vh : Value) (w : World) (c0 : w.cell? ⟨B, off, none⟩ = some (.bool x)) (held : List Bool) :
    Calls Tryd.prog 61 #[.int .i64 12, .slice (some ⟨B, off, none⟩) 1 cap, vh] w fun e w' => e = .returned (.bool (madeF held 12 [x])) ∧ w = w' := by
  go_enter Tryd.func61, Tryd.ntmps61
  go_wp2
  go_ret
  exact ⟨rfl, rfl⟩
theorem fmade_leaf (s : Int) (held : List Bool) (h0 : 0 ≤ s) (h1 : s < held.length) (h6 : held.length ≤ 6) (hb ho hcap : Nat) (v : Value) (w : World) (hR : ReadsB w hb ho held) :
    Calls Tryd.prog 61 #[.int .i64 s, v, .slice (some ⟨hb, ho, none⟩) held.length hcap] w fun e w' => e = .returned (.bool (madeF held s [])) ∧ w = w' := by
  obtain ⟨k, rfl⟩ := Int.eq_ofNat_of_zero_le h0
  have e : madeF held (k : Int) [] = held.getD k false := by rw [madeF_leaf held (takesF_low (by omega)) []]; simp
  rw [e]
  have hc := hR.2 k (by omega)
  obtain ⟨x, hx⟩ : ∃ x, x = held.getD k false := ⟨_, rfl⟩
  rw [← hx] at hc ⊢
  obtain ⟨m, hm⟩ : ∃ m, m = held.length := ⟨_, rfl⟩
  rw [← hm] at h1 h6 ⊢
  clear hx hm hR e
  have g0 : ((k : Int) == 10) = false := by simp; omega
  have g1 : ((k : Int) == 11) = false := by simp; omega
  have g2 : ((k : Int) == 13) = false := by simp; omega
  have g3 : ((k : Int) == 12) = false := by simp; omega
  have h0' : (0 : Int) ≤ (k : Int) := by omega
  go_enter Tryd.func61, Tryd.ntmps61
  go_wp2
  go_ret
  exact ⟨rfl, rfl⟩
end Go.Proofs.YtgkgbpbohgklhagDoor

namespace Go.Proofs.YtgkgbpbohgklhagDoor
open Go.ChangeShapes Go.WideShapes Go.ChangeAt Go.RowKit
set_option maxRecDepth 100000

theorem stepF_leaf (held p : List Bool) (s : Int) (h : takesF s = 0) : stepF held p s = p.take p.length ++ [madeF held s []] := by
  unfold stepF restF
  rw [h, madeF_leaf held h, madeF_leaf held h]; rfl
theorem stepF_one (held p : List Bool) (h : 1 ≤ p.length) : stepF held p 12 = p.take (p.length - 1) ++ [madeF held 12 [p.getD (p.length - 1) false]] := by
  unfold stepF restF
  have e : (p.drop (p.length - 1)) = [p.getD (p.length - 1) false] := by
    rw [List.drop_eq_getElem_cons (by omega), List.drop_eq_nil_of_le (by omega)]
    simp [List.getElem?_eq_getElem (show p.length - 1 < p.length by omega)]
  simp only [show takesF 12 = 1 from rfl, show (1 : Int).toNat = 1 from rfl, e]
theorem stepF_two (held p : List Bool) (s : Int) (ht : takesF s = 2) (h : 2 ≤ p.length) : stepF held p s = p.take (p.length - 2) ++ [madeF held s [p.getD (p.length - 2) false, p.getD (p.length - 2 + 1) false]] := by
  unfold stepF restF
  have e : (p.drop (p.length - 2)) = [p.getD (p.length - 2) false, p.getD (p.length - 2 + 1) false] := by
    rw [List.drop_eq_getElem_cons (by omega), List.drop_eq_getElem_cons (by omega), List.drop_eq_nil_of_le (by omega)]
    simp [List.getElem?_eq_getElem (show p.length - 2 < p.length by omega), List.getElem?_eq_getElem (show p.length - 2 + 1 < p.length by omega)]
  rw [ht]
  simp only [show (2 : Int).toNat = 2 from rfl, e]

theorem ownsRow_bool {w : World} {base : Nat} {e : TypeId} {g cap : Nat} {p : List Bool} (h : w.ownsRow base e 1 (.slice (some ⟨g, 0, none⟩) p.length cap) p.length (p.map Value.bool)) {j : Nat} (hj : j < p.length) : w.cell? ⟨g, j, none⟩ = some (.bool (p.getD j false)) := by
  rw [h.cellAt j (by omega)]
  simp [List.getElem?_eq_getElem hj]
/-- what a round leaves. -/
theorem fwork_rel {w1 wr w0 w2 : World} {K : Nat} {v v' : Value} {p q : List Bool} {r : Nat} {X : Bool} (hK : K ≤ wr.heap.size) (hb : Below K w1 wr) (h0 : Below wr.heap.size wr w0)
    (hown : w2.ownsRow K 4 1 v' (r + 1) (((p.take r).map Value.bool) ++ [.bool X])) (hv : ∀ k, v.ownBlock = some k → K ≤ k)
    (hg : w0.grownBy w2 v.ownBlock) (hr : r ≤ p.length) (hq : q = p.take r ++ [X]) :
    w2.ownsRow K 4 1 v' q.length (q.map Value.bool) ∧ Below K w1 w2 ∧ K ≤ w2.heap.size := by
  have hs : wr.heap.size ≤ w0.heap.size := h0.size
  have e1 : q.length = r + 1 := by rw [hq]; simp; omega
  have e2 : q.map Value.bool = ((p.take r).map Value.bool) ++ [.bool X] := by rw [hq]; simp
  have b1 : Below K w1 w0 := hb.trans (h0.mono hK)
  have b2 : Below K w1 w2 := b1.grown hg (by omega) hv
  refine ⟨by rw [e1, e2]; exact hown, b2, ?_⟩
  have := hg.size
  omega

set_option maxHeartbeats 4000000 in
theorem fwork_any (c : List Int) (B off cap : Nat) (held : List Bool) (hb ho hcap : Nat) (w : World) (hs : c.all (signF held.length) = true) (hone : cntF c 0 = some 1) (hl : c.length ≤ 20) (h6 : held.length ≤ 6) (hB : B < w.heap.size)
    (hc : ∀ k, k < c.length → w.cell? ⟨B, off + k, none⟩ = some (.int .i64 (c.getD k 0))) (hR : ReadsB w hb ho held) :
    Calls Tryd.prog 33 #[.slice (some ⟨B, off, none⟩) c.length cap, .slice (some ⟨hb, ho, none⟩) held.length hcap] w fun e w' => e = .returned (.bool (valF held c)) ∧ Below w.heap.size w w' := by
  obtain ⟨i0, hi, hz0, hz1, hz2⟩ := info_parts infoBool
  obtain ⟨K, hK⟩ : ∃ K, K = w.heap.size := ⟨_, rfl⟩
  have HK1 : Hid (w.heap.size = K) := hK.symm
  have HC : Hid (∀ k, k < c.length → w.cell? ⟨B, off + k, none⟩ = some (.int .i64 (c.getD k 0))) := hc
  have HBK : Hid (B < K) := by unfold Hid; omega
  have HRh : Hid (∀ W, Below K w W → ReadsB W hb ho held) := fun W hw => ⟨by have := hw.size; have := hR.1; omega, fun k hk => by rw [hw.cell (show (⟨hb, ho + k, none⟩ : Addr).block < K by have := hR.1; simp; omega)]; exact hR.2 k hk⟩
  rw [← hK]
  clear hc hB hK hR
  obtain ⟨n, hn⟩ : ∃ n, n = c.length := ⟨_, rfl⟩
  rw [← hn] at hl ⊢
  have HN : Hid (n = c.length) := hn
  clear hn
  have HL : Hid (∀ (s : Int) v W, 0 ≤ s → s < held.length → Below K w W → _) := fun s v W s0 s1 hw => fmade_leaf s held s0 s1 h6 hb ho hcap v W (HRh.out W hw)
  obtain ⟨m, hm⟩ : ∃ m, m = held.length := ⟨_, rfl⟩
  rw [← hm] at hs h6 HL ⊢
  clear hm HRh
  have HS : Hid (c.all (signF m) = true) := hs
  have HO : Hid (cntF c 0 = some 1) := hone
  clear hs hone
  obtain ⟨V, hV⟩ : ∃ V, V = valF held c := ⟨_, rfl⟩
  rw [← hV]
  have HV : Hid (V = valF held c) := hV
  clear hV
  go_enter Tryd.func33, Tryd.ntmps33
  go_wp2
  go_loopw [5, 11] (fun v i wr => ∃ (k : Nat) (p : List Bool), k ≤ n ∧ i = .int .i64 k ∧ wr.ownsRow K 4 1 v p.length (p.map Value.bool) ∧ Below K w wr ∧ K ≤ wr.heap.size ∧ p = pileF held (c.take k) [])
    (fun _ i _ => n - (intOf i).toNat)
  case atStart => exact ⟨0, [], Nat.zero_le _, rfl, World.ownsRow_nil _ _ _ _, Below.refl _ _, by rw [HK1.out]; exact Nat.le_refl _, rfl⟩
  case round =>
    obtain ⟨k, p, hk, rfl, hown0, hbel0, hKw0, hp0⟩ := hrel
    have hkt0 : cntF (c.take k) 0 = some (p.length : Int) := by
      obtain ⟨j, hj⟩ := cntF_take_some c k HO.out
      have := pileF_length held (c.take k) [] hj
      rw [← hp0] at this
      rw [this]; exact hj
    by_cases hlt : k < n
    · obtain ⟨s, hs⟩ : ∃ s, s = c.getD k 0 := ⟨_, rfl⟩
      have hkt : k < c.length := by rw [← HN.out]; exact hlt
      have hcell : wr.cell? ⟨B, off + k, none⟩ = some (.int .i64 s) := by rw [hs, hbel0.cell HBK.out]; exact HC.out k hkt
      have hsg : takesF s ≠ 0 ∨ (0 ≤ s ∧ s < m) := by
        refine signF_iff.1 (List.all_eq_true.1 HS.out s ?_)
        rw [hs, List.getD_eq_getElem?_getD, List.getElem?_eq_getElem hkt]; exact List.getElem_mem hkt
      have htk : takesF s ≤ p.length := by
        have h1 := cntF_take_succ c hkt hkt0
        rw [← hs] at h1
        obtain ⟨j, hj⟩ := cntF_take_some c (k + 1) HO.out
        by_cases h2 : (p.length : Int) < takesF s
        · rw [if_pos h2] at h1; rw [h1] at hj; cases hj
        · omega
      have HP : Hid (stepF held p s = pileF held (c.take (k + 1)) []) := by
        unfold Hid; rw [pileF_succ _ c [] hkt, ← hs, ← hp0]
      have hpl : p.length ≤ 20 := by
        have := (cntF_nonneg (Int.le_refl 0) hkt0).2
        simp at this; omega
      clear hs hkt hkt0 hp0
      have HBEL : Hid (Below K w wr) := hbel0
      have HKW : Hid (K ≤ wr.heap.size) := hKw0
      clear hbel0 hKw0
      by_cases h4 : takesF s = 0
      · have hsr : 0 ≤ s ∧ s < m := hsg.resolve_left (by simp [h4])
        have HM : Hid (∀ v W, Below wr.heap.size wr W → Calls Tryd.prog 61 #[.int .i64 s, v, .slice (some ⟨hb, ho, none⟩) m hcap] W fun e w' => e = .returned (.bool (madeF held s [])) ∧ W = w') := fun v W hW => HL.out s v W hsr.1 hsr.2 (HBEL.out.trans (hW.mono HKW.out))
        have HQ : Hid (stepF held p s = p.take p.length ++ [madeF held s []]) := stepF_leaf held p s h4
        have HT : Hid (∀ W, Calls Tryd.prog 58 #[.int .i64 s] W fun e w' => e = .returned (.int .i64 0) ∧ W = w') := fun W => by
          have := ftakes_any s W
          rw [h4] at this; exact this
        obtain ⟨X, hX⟩ : ∃ X, X = madeF held s [] := ⟨_, rfl⟩
        rw [← hX] at HM HQ
        clear hX htk hsg h4
        rcases hown0.2 with ⟨rfl, hp0⟩ | ⟨g, cap', cur, rfl, hg, hh, hm, hmax, _, _⟩
        · obtain rfl : p = [] := List.eq_nil_of_length_eq_zero hp0
          clear hown0 hp0
          go_wp2_with (go_at_call 58; refine (HT.out _).mono ?_; rintro e w' ⟨rfl, rfl⟩)
          go_region_held3 (fun _ => True) (trivial)
            (first
              | (go_at_call 61; refine (HM.out _ _ ((Below.refl _ wr).drew)).mono ?_; rintro e w' ⟨rfl, rfl⟩)
              | (refine step_append_lies _ (by rfl) _ _ _ (by rfl) K 4 i0 (.bool false) 1 1 Tryd.underlying66 hi hz0 hz1 hz2 rfl (by decide) (.slice none 0 0) 0 ([]) (by rfl) (World.ownsRow_nil _ _ _ _) ⟨wr.heap.size, 0, none⟩ 1 1 [.bool X] (by rfl) (by rfl) (World.news_of_block (cs := #[.bool X]) (t := 4) (fr := (0, 0)) (heap_alloc_new wr _)) (by simp [Value.oneCell']) (by omega) (by unfold maxLen; omega) (by omega) (by have := HKW.out; simp; omega) (wr.heap.size + 1) (by simp) ?_; intro gg cap1 w2 hown1 hgrow hat hlt1))
          have R := fwork_rel (q := pileF held (c.take (k + 1)) []) (p := []) (r := 0) HKW.out HBEL.out ((below_alloc1 wr _).drew) (hown1) (by intro k hk; cases hk) hgrow (Nat.zero_le _) (HP.out.symm.trans HQ.out)
          clear hown1 hgrow hat hlt1
          go_wp2
          go_roundw
          case rel => exact ⟨k + 1, _, by omega, by go_num, R.1, R.2.1, R.2.2, rfl⟩
          case measure => simp [intOf]; omega
        · obtain ⟨m', hm0⟩ : ∃ m', m' = p.length := ⟨_, rfl⟩
          have HOW : Hid (wr.ownsRow K 4 1 (.slice (some ⟨g, 0, none⟩) m' cap') m' (p.map Value.bool)) := by
            unfold Hid; rw [hm0]; exact hown0
          rw [← hm0] at HQ hm hpl ⊢
          have HM0 : Hid (m' = p.length) := hm0
          clear hown0 hm0 hh
          by_cases hcap : cap' = m'
          · subst hcap
            go_wp2_with (go_at_call 58; refine (HT.out _).mono ?_; rintro e w' ⟨rfl, rfl⟩)
            go_region_held3 (fun _ => True) (trivial)
              (first
                | (go_at_call 61; refine (HM.out _ _ ((Below.refl _ wr).drew)).mono ?_; rintro e w' ⟨rfl, rfl⟩)
                | (refine step_append_lies _ (by rfl) _ _ _ (by rfl) K 4 i0 (.bool false) 1 1 Tryd.underlying66 hi hz0 hz1 hz2 rfl (by decide) (.slice (some ⟨g, 0, none⟩) cap' cap') cap' ((p.map Value.bool).take cap') (by rfl) (((ownsRow_take HOW.out (by omega)).alloc _).drew) ⟨wr.heap.size, 0, none⟩ 1 1 [.bool X] (by rfl) (by rfl) (World.news_of_block (cs := #[.bool X]) (t := 4) (fr := (0, 0)) (heap_alloc_new wr _)) (by simp [Value.oneCell']) (by omega) (by unfold maxLen; omega) (by omega) (by have := HKW.out; simp; omega) (wr.heap.size + 1) (by simp) ?_; intro gg cap1 w2 hown1 hgrow hat hlt1))
            have R := fwork_rel (q := pileF held (c.take (k + 1)) []) (p := p) (r := cap') HKW.out HBEL.out ((below_alloc1 wr _).drew) (by rw [List.map_take]; exact hown1) (by intro k hk; cases hk; exact hg) hgrow (by have := HM0.out; omega) (HP.out.symm.trans HQ.out)
            clear hown1 hgrow hat hlt1
            go_wp2
            go_roundw
            case rel => exact ⟨k + 1, _, by omega, by go_num, R.1, R.2.1, R.2.2, rfl⟩
            case measure => simp [intOf]; omega
          · go_wp2_with (go_at_call 58; refine (HT.out _).mono ?_; rintro e w' ⟨rfl, rfl⟩)
            go_region_held3 (fun _ => True) (trivial)
              (first
                | (go_at_call 61; refine (HM.out _ _ ((Below.refl _ wr).drew)).mono ?_; rintro e w' ⟨rfl, rfl⟩)
                | (refine step_append_lies _ (by rfl) _ _ _ (by rfl) K 4 i0 (.bool false) 1 1 Tryd.underlying66 hi hz0 hz1 hz2 rfl (by decide) (.slice (some ⟨g, 0, none⟩) m' cap') m' ((p.map Value.bool).take m') (by rfl) (((ownsRow_take HOW.out (by omega)).alloc _).drew) ⟨wr.heap.size, 0, none⟩ 1 1 [.bool X] (by rfl) (by rfl) (World.news_of_block (cs := #[.bool X]) (t := 4) (fr := (0, 0)) (heap_alloc_new wr _)) (by simp [Value.oneCell']) (by omega) (by unfold maxLen; omega) (by omega) (by have := HKW.out; simp; omega) (wr.heap.size + 1) (by simp) ?_; intro gg cap1 w2 hown1 hgrow hat hlt1))
            have R := fwork_rel (q := pileF held (c.take (k + 1)) []) (p := p) (r := m') HKW.out HBEL.out ((below_alloc1 wr _).drew) (by rw [List.map_take]; exact hown1) (by intro k hk; cases hk; exact hg) hgrow (by have := HM0.out; omega) (HP.out.symm.trans HQ.out)
            clear hown1 hgrow hat hlt1
            go_wp2
            go_roundw
            case rel => exact ⟨k + 1, _, by omega, by go_num, R.1, R.2.1, R.2.2, rfl⟩
            case measure => simp [intOf]; omega
      by_cases h8 : s = 12
      · subst h8
        have htk1 : 1 ≤ p.length := by
          rw [show takesF 12 = 1 from rfl] at htk; omega
        have HT : Hid (∀ W, Calls Tryd.prog 58 #[.int .i64 12] W fun e w' => e = .returned (.int .i64 1) ∧ W = w') := fun W => ftakes_any 12 W
        rcases hown0.2 with ⟨rfl, hp0⟩ | ⟨g, cap', cur, rfl, hg, hh, hm, hmax, _, _⟩
        · omega
        · obtain ⟨r, hr⟩ : ∃ r, p.length = r + 1 := ⟨p.length - 1, by omega⟩
          have HM0 : Hid (p.length = r + 1) := hr
          have HOW : Hid (wr.ownsRow K 4 1 (.slice (some ⟨g, 0, none⟩) (r + 1) cap') (r + 1) (p.map Value.bool)) := by
            unfold Hid; rw [← hr]; exact hown0
          have hcx : Hid (∀ W, Below wr.heap.size wr W → W.cell? ⟨g, r, none⟩ = some (.bool (p.getD r false))) := fun W hb => by
            rw [hb.cell (ownsRow_block hown0).2.1]; exact ownsRow_bool hown0 (by omega)
          obtain ⟨x, hx⟩ : ∃ x, x = p.getD r false := ⟨_, rfl⟩
          rw [← hx] at hcx
          have HM : Hid (∀ W c' v, Below wr.heap.size wr W → _) := fun W c' v hb => fmade_no x g r c' v W (hcx.out W hb) held
          have HQ : Hid (stepF held p 12 = p.take r ++ [madeF held 12 [x]]) := by
            have := stepF_one held p (by omega)
            rw [hr, Nat.add_sub_cancel, ← hx] at this; exact this
          obtain ⟨X, hX⟩ : ∃ X, X = madeF held 12 [x] := ⟨_, rfl⟩
          rw [← hX] at HM HQ
          have hle : (r : Int) ≤ (r : Int) + 1 := by omega
          have hcap : ¬ cap' = r := by omega
          have hcap2 : r < cap' := by omega
          have hcap3 : (r : Int) ≤ (cap' : Int) := by omega
          have hr0 : (0 : Int) ≤ (r : Int) := by omega
          rw [hr] at hm hpl ⊢
          clear hX hx hcx hown0 hh hr htk htk1 h4 hsg
          go_wp2_with (go_at_call 58; refine (HT.out _).mono ?_; rintro e w' ⟨rfl, rfl⟩)
          go_region_held3 (fun _ => True) (trivial)
            (first
              | (go_at_call 61; refine (HM.out _ _ _ ((Below.refl _ wr).drew)).mono ?_; rintro e w' ⟨rfl, rfl⟩)
              | (refine step_append_lies _ (by rfl) _ _ _ (by rfl) K 4 i0 (.bool false) 1 1 Tryd.underlying66 hi hz0 hz1 hz2 rfl (by decide) (.slice (some ⟨g, 0, none⟩) r cap') r ((p.map Value.bool).take r) (by rfl) (((ownsRow_take HOW.out (by omega)).alloc _).drew) ⟨wr.heap.size, 0, none⟩ 1 1 [.bool X] (by rfl) (by rfl) (World.news_of_block (cs := #[.bool X]) (t := 4) (fr := (0, 0)) (heap_alloc_new wr _)) (by simp [Value.oneCell']) (by omega) (by unfold maxLen; omega) (by omega) (by have := HKW.out; simp; omega) (wr.heap.size + 1) (by simp) ?_; intro gg cap1 w2 hown1 hgrow hat hlt1))
          have R := fwork_rel (q := pileF held (c.take (k + 1)) []) (p := p) (r := r) HKW.out HBEL.out ((below_alloc1 wr _).drew) (by rw [List.map_take]; exact hown1) (by intro k hk; cases hk; exact hg) hgrow (by have := HM0.out; omega) (HP.out.symm.trans HQ.out)
          clear hown1 hgrow hat hlt1
          go_wp2
          go_roundw
          case rel => exact ⟨k + 1, _, by omega, by go_num, R.1, R.2.1, R.2.2, rfl⟩
          case measure => simp [intOf]; omega
      · have hs3 : s = 10 ∨ s = 11 ∨ s = 13 := by
          by_cases h3 : s = 10 ∨ s = 11 ∨ s = 13
          · exact h3
          · exact absurd (show takesF s = 0 by unfold takesF; rw [if_neg h3, if_neg h8]) h4
        have ht2 : takesF s = 2 := by unfold takesF; rw [if_pos hs3]
        rw [ht2] at htk
        have HT : Hid (∀ W, Calls Tryd.prog 58 #[.int .i64 s] W fun e w' => e = .returned (.int .i64 2) ∧ W = w') := fun W => by
          have := ftakes_any s W
          rw [ht2] at this; exact this
        rcases hown0.2 with ⟨rfl, hp0⟩ | ⟨g, cap', cur, rfl, hg, hh, hm, hmax, _, _⟩
        · omega
        · obtain ⟨r, hr⟩ : ∃ r, p.length = r + 2 := ⟨p.length - 2, by omega⟩
          have HM0 : Hid (p.length = r + 2) := hr
          have HOW : Hid (wr.ownsRow K 4 1 (.slice (some ⟨g, 0, none⟩) (r + 2) cap') (r + 2) (p.map Value.bool)) := by
            unfold Hid; rw [← hr]; exact hown0
          have hcx : Hid (∀ W, Below wr.heap.size wr W → W.cell? ⟨g, r, none⟩ = some (.bool (p.getD r false)) ∧ W.cell? ⟨g, r + 1, none⟩ = some (.bool (p.getD (r + 1) false))) := fun W hb => by
            refine ⟨?_, ?_⟩
            · rw [hb.cell (ownsRow_block hown0).2.1]; exact ownsRow_bool hown0 (by omega)
            · rw [hb.cell (ownsRow_block hown0).2.1]; exact ownsRow_bool hown0 (by omega)
          obtain ⟨x, hx⟩ : ∃ x, x = p.getD r false := ⟨_, rfl⟩
          obtain ⟨y, hy⟩ : ∃ y, y = p.getD (r + 1) false := ⟨_, rfl⟩
          rw [← hx, ← hy] at hcx
          have HM : Hid (∀ W c' v, Below wr.heap.size wr W → _) := fun W c' v hb => fmade_op s x y hs3 g r c' v W (hcx.out W hb).1 (hcx.out W hb).2 held
          have HQ : Hid (stepF held p s = p.take r ++ [madeF held s [x, y]]) := by
            have := stepF_two held p s ht2 (by omega)
            rw [hr, show r + 2 - 2 = r by omega, ← hx, ← hy] at this; exact this
          obtain ⟨X, hX⟩ : ∃ X, X = madeF held s [x, y] := ⟨_, rfl⟩
          rw [← hX] at HM HQ
          have hle : (r : Int) ≤ (r : Int) + 2 := by omega
          have hcap : ¬ cap' = r := by omega
          have hcap2 : r < cap' := by omega
          have hcap3 : (r : Int) ≤ (cap' : Int) := by omega
          have hr0 : (0 : Int) ≤ (r : Int) := by omega
          rw [hr] at hm hpl ⊢
          clear hX hx hy hcx hown0 hh hr htk h4 hsg h8 ht2 hs3
          go_wp2_with (go_at_call 58; refine (HT.out _).mono ?_; rintro e w' ⟨rfl, rfl⟩)
          go_region_held3 (fun _ => True) (trivial)
            (first
              | (go_at_call 61; refine (HM.out _ _ _ ((Below.refl _ wr).drew)).mono ?_; rintro e w' ⟨rfl, rfl⟩)
              | (refine step_append_lies _ (by rfl) _ _ _ (by rfl) K 4 i0 (.bool false) 1 1 Tryd.underlying66 hi hz0 hz1 hz2 rfl (by decide) (.slice (some ⟨g, 0, none⟩) r cap') r ((p.map Value.bool).take r) (by rfl) (((ownsRow_take HOW.out (by omega)).alloc _).drew) ⟨wr.heap.size, 0, none⟩ 1 1 [.bool X] (by rfl) (by rfl) (World.news_of_block (cs := #[.bool X]) (t := 4) (fr := (0, 0)) (heap_alloc_new wr _)) (by simp [Value.oneCell']) (by omega) (by unfold maxLen; omega) (by omega) (by have := HKW.out; simp; omega) (wr.heap.size + 1) (by simp) ?_; intro gg cap1 w2 hown1 hgrow hat hlt1))
          have R := fwork_rel (q := pileF held (c.take (k + 1)) []) (p := p) (r := r) HKW.out HBEL.out ((below_alloc1 wr _).drew) (by rw [List.map_take]; exact hown1) (by intro k hk; cases hk; exact hg) hgrow (by have := HM0.out; omega) (HP.out.symm.trans HQ.out)
          clear hown1 hgrow hat hlt1
          go_wp2
          go_roundw
          case rel => exact ⟨k + 1, _, by omega, by go_num, R.1, R.2.1, R.2.2, rfl⟩
          case measure => simp [intOf]; omega
    · have hpv : p = [V] := by
        rw [hp0, List.take_of_length_le (by have := HN.out; omega), pileF_one held HO.out, HV.out]; rfl
      subst hpv
      rcases hown0.2 with ⟨_, h0⟩ | ⟨g, cap', cur, rfl, hg, hh, hm, hmax, _, _⟩
      · simp at h0
      have hx : wr.cell? ⟨g, 0, none⟩ = some (.bool V) := ownsRow_bool hown0 (j := 0) (by simp)
      have HBEL : Hid (Below K w wr) := hbel0
      clear hown0 hbel0 hh hm hkt0 hp0
      simp only [List.length_singleton]
      go_wp2
      go_ret
      exact ⟨rfl, HBEL.out⟩
end Go.Proofs.YtgkgbpbohgklhagDoor

namespace Go.Proofs.YtgkgbpbohgklhagDoor
open Go.ChangeShapes Go.WideShapes Go.ChangeAt Go.RowKit

theorem ones64_any (x : Int) (h0 : 0 ≤ x) (h1 : x < 64) (w : World) :
    Calls Tryd.prog 90 #[.int .u64 x] w fun e w' => e = .returned (.int .i64 (pcN x)) ∧ w = w' := by
  go_enter Tryd.func90, Tryd.ntmps90
  go_wp2
  go_ret
  refine ⟨ret_int ?_, rfl⟩
  revert h1 h0
  intro h0 h1
  obtain ⟨n, rfl⟩ := Int.eq_ofNat_of_zero_le h0
  have h : n < 64 := by omega
  clear h0 h1
  revert n
  decide +kernel

theorem ones_any (x : Int) (h0 : 0 ≤ x) (h1 : x < 64) (w : World) :
    Calls Tryd.prog 81 #[.int .u64 x] w fun e w' => e = .returned (.int .i64 (pcN x)) ∧ w = w' := by
  go_enter Tryd.func81, Tryd.ntmps81
  go_wp2_with (go_at_call 90; refine (ones64_any _ h0 h1 _).mono ?_; rintro e w' ⟨rfl, rfl⟩)
  go_ret
  exact ⟨rfl, rfl⟩
end Go.Proofs.YtgkgbpbohgklhagDoor
