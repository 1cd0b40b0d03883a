/-
  Proved: what fields.World returns, of any counts; what was in memory is as it was (a contract that the statements lean on).
  Proved: what core.heldIn returns, of any formulas and any number of things; what was in memory is as it was (a contract that the statements of chapter 13 lean on).
-/
import Derived.Test.YtjaedfjfcghgcaaDoorLibA6
import Derived.Test.YtjaedfjfcghgcaaDoorLibA19
import Derived.Test.YtjaedfjfcghgcaaDoorLibA8
import Derived.Test.YtjaedfjfcghgcaaDoorLibA18
import Derived.Maps.OwnIn
namespace Go.Proofs.YtjaedfjfcghgcaaDoor
open Go.ChangeShapes Go.WideShapes Go.ChangeAt Go.RowKit

/-- the world of so many in each field; the empty one, if the counts are wrong. -/
def madeW (N : Nat → Int) : Wd := if countsFault N = 0 then madeN N 8 else ⟨0, 0, 0, 0⟩

theorem with_more (D : Wd) (f : Nat) (hok : D.ok = true) (h5 : D.u ≤ 5) (hf : f < 8) (w : World) :
    Calls Tryd.prog 77 #[.agg #[.int .i64 D.u, .int .i64 D.a, .int .i64 D.b, .int .i64 D.c], .int .i64 f] w fun e w' => e = .returned (.agg #[.int .i64 (D.more f).u, .int .i64 (D.more f).a, .int .i64 (D.more f).b, .int .i64 (D.more f).c]) ∧ Below w.heap.size w w' := by
  obtain ⟨u, a, b, c⟩ := D
  obtain ⟨n, rfl⟩ := Int.eq_ofNat_of_zero_le (show 0 ≤ u from (ok_u hok).1)
  exact with_field n a b c f hok (by simp only at h5; omega) hf w

set_option maxRecDepth 100000 in
set_option maxHeartbeats 4000000 in
theorem fworld_wrong (N : Nat → Int) (w : World) (hf : ¬ countsFault N = 0) :
    Calls Tryd.prog 51 #[.agg #[.int .i64 (N 0), .int .i64 (N 1), .int .i64 (N 2), .int .i64 (N 3), .int .i64 (N 4), .int .i64 (N 5), .int .i64 (N 6), .int .i64 (N 7)]] w fun e w' => e = .returned (.tuple #[.agg #[.int .i64 0, .int .i64 0, .int .i64 0, .int .i64 0], .iface 64 (.int .i64 (countsFault N))]) ∧ Below w.heap.size w w' := by
  obtain ⟨w1, hw1⟩ : ∃ w1, w1 = (w.alloc (.cells #[.int .i64 (N 0), .int .i64 (N 1), .int .i64 (N 2), .int .i64 (N 3), .int .i64 (N 4), .int .i64 (N 5), .int .i64 (N 6), .int .i64 (N 7)] 89)).alloc (.cells #[.int .i64 0, .int .i64 0, .int .i64 0, .int .i64 0] 37) := ⟨_, rfl⟩
  have HW : Hid (Below w.heap.size w w1) := by unfold Hid; rw [hw1]; exact (below_alloc1 _ _).alloc (by simp) _
  have HK0 : Hid (Blk w1 w.heap.size 89 (arr8 N)) := by unfold Hid; rw [hw1]; exact (Blk.new _ _ _).old _
  have HK1 : Hid (Blk w1 (w.heap.size + 1) 37 (arrW ⟨0, 0, 0, 0⟩)) := by
    unfold Hid; rw [hw1]
    have := Blk.new (w.alloc (.cells (arr8 N) 89)) 37 (arrW ⟨0, 0, 0, 0⟩)
    simp only [World.size_alloc] at this
    exact this
  have HC : Hid (Calls Tryd.prog 76 #[.agg #[.int .i64 (N 0), .int .i64 (N 1), .int .i64 (N 2), .int .i64 (N 3), .int .i64 (N 4), .int .i64 (N 5), .int .i64 (N 6), .int .i64 (N 7)]] w1 fun e w' => e = .returned (.iface 64 (.int .i64 (countsFault N))) ∧ Below w1.heap.size w1 w') := by
    have := fcounts_any N w1
    unfold errV at this
    rw [if_neg hf] at this
    exact this
  obtain ⟨F, hF⟩ : ∃ F, F = countsFault N := ⟨_, rfl⟩
  rw [← hF] at HC ⊢
  clear hF hf
  obtain ⟨x0, x1, x2, x3, x4, x5, x6, x7⟩ := HK0.out.cells8
  go_enter Tryd.func51, Tryd.ntmps51
  go_wp2_with fail
  rw [← hw1]
  clear hw1
  go_wp2_with fail
  go_at_call 76
  refine HC.out.mono ?_
  rintro e w2 ⟨rfl, hb⟩
  have HB : Hid (Below w.heap.size w w2) := HW.out.trans (hb.mono HW.out.size)
  have HR : Hid (Blk w2 (w.heap.size + 1) 37 (arrW ⟨0, 0, 0, 0⟩)) := HK1.out.below hb
  clear hb x0 x1 x2 x3 x4 x5 x6 x7
  have r0 : w2.cell? ⟨w.heap.size + 1, 0, none⟩ = some (.int .i64 0) := HR.out.cell 0
  have r1 : w2.cell? ⟨w.heap.size + 1, 1, none⟩ = some (.int .i64 0) := HR.out.cell 1
  have r2 : w2.cell? ⟨w.heap.size + 1, 2, none⟩ = some (.int .i64 0) := HR.out.cell 2
  have r3 : w2.cell? ⟨w.heap.size + 1, 3, none⟩ = some (.int .i64 0) := HR.out.cell 3
  obtain ⟨f0, f1, f2, f3⟩ := HR.out.frozen4
  go_wp2
  have hld := loadW (putW_blk HR.out ⟨0, 0, 0, 0⟩)
  refine bodyPost_ret (v := .tuple #[.agg #[.int .i64 0, .int .i64 0, .int .i64 0, .int .i64 0], .iface 64 (.int .i64 F)]) ?_ rfl ⟨rfl, ?_⟩
  · rw [results_cell_tmp rfl]
    unfold putW arrW at hld
    simp only at hld
    simp [asAddr, Result.andThen, hld]
  · exact putW_below HB.out (by omega) ⟨0, 0, 0, 0⟩

set_option maxRecDepth 100000 in
set_option maxHeartbeats 4000000 in
theorem fworld_right (N : Nat → Int) (w : World) (hf : countsFault N = 0) :
    Calls Tryd.prog 51 #[.agg #[.int .i64 (N 0), .int .i64 (N 1), .int .i64 (N 2), .int .i64 (N 3), .int .i64 (N 4), .int .i64 (N 5), .int .i64 (N 6), .int .i64 (N 7)]] w fun e w' => e = .returned (.tuple #[.agg (arrW (madeN N 8)), .nilIface]) ∧ Below w.heap.size w w' := by
  obtain ⟨Z, hZ⟩ : ∃ Z : Wd, Z = ⟨0, 0, 0, 0⟩ := ⟨_, rfl⟩
  obtain ⟨w1, hw1⟩ : ∃ w1, w1 = (w.alloc (.cells #[.int .i64 (N 0), .int .i64 (N 1), .int .i64 (N 2), .int .i64 (N 3), .int .i64 (N 4), .int .i64 (N 5), .int .i64 (N 6), .int .i64 (N 7)] 89)).alloc (.cells #[.int .i64 0, .int .i64 0, .int .i64 0, .int .i64 0] 37) := ⟨_, rfl⟩
  have HW : Hid (Below w.heap.size w w1) := by unfold Hid; rw [hw1]; exact (below_alloc1 _ _).alloc (by simp) _
  have HK0 : Hid (Blk w1 w.heap.size 89 (arr8 N)) := by unfold Hid; rw [hw1]; exact (Blk.new _ _ _).old _
  have HK1 : Hid (Blk w1 (w.heap.size + 1) 37 (arrW Z)) := by
    unfold Hid; rw [hw1, hZ]
    have := Blk.new (w.alloc (.cells (arr8 N) 89)) 37 (arrW ⟨0, 0, 0, 0⟩)
    simp only [World.size_alloc] at this
    exact this
  have HC : Hid (Calls Tryd.prog 76 #[.agg #[.int .i64 (N 0), .int .i64 (N 1), .int .i64 (N 2), .int .i64 (N 3), .int .i64 (N 4), .int .i64 (N 5), .int .i64 (N 6), .int .i64 (N 7)]] w1 fun e w' => e = .returned .nilIface ∧ Below w1.heap.size w1 w') := by
    have := fcounts_any N w1
    rw [hf] at this
    exact this
  obtain ⟨hall, hsum⟩ := counts_zero.1 hf
  have HN : Hid (∀ k, k < 8 → 0 ≤ N k ∧ N k ≤ 6) := hall
  have HX : Hid (∀ W k, k < 8 → Blk W w.heap.size 89 (arr8 N) → W.cell? ⟨w.heap.size, k, none⟩ = some (.int .i64 (N k))) := fun W k hk h => by rw [h.cell, arr8_get _ hk]
  have HV : Hid (∀ (k j : Nat) W, k < 8 → (j : Int) < N k → Calls Tryd.prog 77 #[.agg #[.int .i64 ((madeN N k).mores k j).u, .int .i64 ((madeN N k).mores k j).a, .int .i64 ((madeN N k).mores k j).b, .int .i64 ((madeN N k).mores k j).c], .int .i64 k] W fun e w' => e = .returned (.agg #[.int .i64 ((madeN N k).mores k (j + 1)).u, .int .i64 ((madeN N k).mores k (j + 1)).a, .int .i64 ((madeN N k).mores k (j + 1)).b, .int .i64 ((madeN N k).mores k (j + 1)).c]) ∧ Below W.heap.size W w') := fun k j W hk hj => by
    obtain ⟨i1, i2, _⟩ := made_all hall hsum (k := k) (by omega)
    have hm := sumN_mono (N := N) (k := k + 1) (l := 8) (by omega) hall
    have es : sumN N (k + 1) = sumN N k + N k := rfl
    have e := mores_u (madeN N k) k j
    exact with_more _ k (mores_ok i1 k (by rw [i2]; omega)) (by rw [e, i2]; omega) hk W
  have HE : Hid (∀ k, k < 8 → (madeN N k).mores k (N k).toNat = madeN N (k + 1)) := fun k _ => rfl
  have HZ : Hid (Z = madeN N 0) := hZ
  clear hf hall hsum
  obtain ⟨x0, x1, x2, x3, x4, x5, x6, x7⟩ := HK0.out.cells8
  go_enter Tryd.func51, Tryd.ntmps51
  go_wp2_with fail
  rw [← hw1]
  clear hw1
  go_wp2_with fail
  go_at_call 76
  refine HC.out.mono ?_
  rintro e w2 ⟨rfl, hb⟩
  have HB : Hid (Below w.heap.size w w2) := HW.out.trans (hb.mono HW.out.size)
  have HP : Hid (Blk w2 w.heap.size 89 (arr8 N)) := HK0.out.below hb
  have HR : Hid (Blk w2 (w.heap.size + 1) 37 (arrW Z)) := HK1.out.below hb
  clear hb x0 x1 x2 x3 x4 x5 x6 x7
  obtain ⟨G, hG⟩ : ∃ G, G = w2.heap.size := ⟨_, rfl⟩
  have HG : Hid (w.heap.size + 1 < G) := by unfold Hid; rw [hG]; exact HR.out.lt
  obtain ⟨w3, hw3⟩ : ∃ w3, w3 = w2.alloc (.cells #[.int .i64 0, .int .i64 0, .int .i64 0, .int .i64 0] 37) := ⟨_, rfl⟩
  have HB3 : Hid (Below w.heap.size w w3) := by unfold Hid; rw [hw3]; exact HB.out.alloc HB.out.size _
  have HP3 : Hid (Blk w3 w.heap.size 89 (arr8 N)) := by unfold Hid; rw [hw3]; exact HP.out.old _
  have HR3 : Hid (Blk w3 (w.heap.size + 1) 37 (arrW Z)) := by unfold Hid; rw [hw3]; exact HR.out.old _
  have HM3 : Hid (Blk w3 G 37 (arrW (madeN N 0))) := by unfold Hid; rw [hw3, hG]; exact Blk.new _ _ _
  clear HB HP HR hZ
  go_wp2
  rw [← hw3, ← hG]
  clear hw3 hG
  go_loopw [13] (fun i wr => ∃ k : Nat, k ≤ 8 ∧ i = .int .i64 k ∧ Below w.heap.size w wr ∧ Blk wr w.heap.size 89 (arr8 N) ∧ Blk wr (w.heap.size + 1) 37 (arrW Z) ∧ Blk wr G 37 (arrW (madeN N k))) (fun i _ => 8 - (intOf i).toNat)
  case atStart => exact ⟨0, Nat.zero_le _, rfl, HB3.out, HP3.out, HR3.out, HM3.out⟩
  case round =>
    obtain ⟨k, hk, rfl, hb, hp, hr, hm⟩ := hrel
    have HB4 : Hid (Below w.heap.size w wr) := hb
    have HP4 : Hid (Blk wr w.heap.size 89 (arr8 N)) := hp
    have HR4 : Hid (Blk wr (w.heap.size + 1) 37 (arrW Z)) := hr
    have HM4 : Hid (Blk wr G 37 (arrW (madeN N k))) := hm
    clear hb hp hr hm
    by_cases hlt : k < 8
    · have y := HX.out wr k hlt HP4.out
      have p := HN.out k hlt
      obtain ⟨x, hx⟩ : ∃ x : Nat, (x : Int) = N k := ⟨(N k).toNat, by omega⟩
      have HXk : Hid ((x : Int) = N k) := hx
      have HEk : Hid ((madeN N k).mores k x = madeN N (k + 1)) := by
        have := HE.out k hlt
        rw [show (N k).toNat = x by omega] at this
        exact this
      rw [← hx] at y p
      clear hx
      go_wp2
      clear y
      rw [show decide ((k : Int) < 8) = true by simp; omega]
      go_loopw [19] (fun i wr => ∃ j : Nat, j ≤ x ∧ i = .int .i64 j ∧ Below w.heap.size w wr ∧ Blk wr w.heap.size 89 (arr8 N) ∧ Blk wr (w.heap.size + 1) 37 (arrW Z) ∧ Blk wr G 37 (arrW ((madeN N k).mores k j))) (fun i _ => x - (intOf i).toNat)
      case atStart => exact ⟨0, Nat.zero_le _, rfl, HB4.out, HP4.out, HR4.out, HM4.out⟩
      case round =>
        obtain ⟨j, hj, rfl, hb, hp, hr, hm⟩ := hrel
        have HB5 : Hid (Below w.heap.size w wr) := hb
        have HP5 : Hid (Blk wr w.heap.size 89 (arr8 N)) := hp
        have HR5 : Hid (Blk wr (w.heap.size + 1) 37 (arrW Z)) := hr
        have HM5 : Hid (Blk wr G 37 (arrW ((madeN N k).mores k j))) := hm
        clear hb hp hr hm
        by_cases hlj : j < x
        · have HVk : Hid (Calls Tryd.prog 77 #[.agg #[.int .i64 ((madeN N k).mores k j).u, .int .i64 ((madeN N k).mores k j).a, .int .i64 ((madeN N k).mores k j).b, .int .i64 ((madeN N k).mores k j).c], .int .i64 k] wr fun e w' => e = .returned (.agg #[.int .i64 ((madeN N k).mores k (j + 1)).u, .int .i64 ((madeN N k).mores k (j + 1)).a, .int .i64 ((madeN N k).mores k (j + 1)).b, .int .i64 ((madeN N k).mores k (j + 1)).c]) ∧ Below wr.heap.size wr w') := HV.out k j wr hlt (by rw [← HXk.out]; omega)
          obtain ⟨D, hD⟩ : ∃ D, D = (madeN N k).mores k j := ⟨_, rfl⟩
          rw [← hD] at HVk HM5
          obtain ⟨E, hE⟩ : ∃ E, E = (madeN N k).mores k (j + 1) := ⟨_, rfl⟩
          rw [← hE] at HVk
          have HEj : Hid (E = (madeN N k).mores k (j + 1)) := hE
          clear hD hE
          obtain ⟨y0, y1, y2, y3⟩ := HM5.out.cells4
          go_wp2_with fail
          go_at_call 77
          refine HVk.out.mono ?_
          rintro e w6 ⟨rfl, hb⟩
          have HB6 : Hid (Below w.heap.size w w6) := HB5.out.trans (hb.mono HB5.out.size)
          have HP6 : Hid (Blk w6 w.heap.size 89 (arr8 N)) := HP5.out.below hb
          have HR6 : Hid (Blk w6 (w.heap.size + 1) 37 (arrW Z)) := HR5.out.below hb
          have HM6 : Hid (Blk w6 G 37 (arrW D)) := HM5.out.below hb
          clear hb y0 y1 y2 y3
          obtain ⟨y0, y1, y2, y3⟩ := HM6.out.cells4
          obtain ⟨f0, f1, f2, f3⟩ := HM6.out.frozen4
          go_wp2
          go_roundw
          case rel =>
            have hg := HG.out
            exact ⟨j + 1, by omega, by go_num, putW_below HB6.out (by omega) E, putW_far HP6.out (by omega) E, putW_far HR6.out (by omega) E, by rw [← HEj.out]; exact putW_blk HM6.out E⟩
          case measure => simp [intOf]; omega
        · obtain rfl : j = x := by omega
          go_wp2
          go_roundw
          case rel => exact ⟨k + 1, by omega, by go_num, HB5.out, HP5.out, HR5.out, by rw [← HEk.out]; exact HM5.out⟩
          case measure => simp [intOf]; omega
    · obtain rfl : k = 8 := by omega
      obtain ⟨D, hD⟩ : ∃ D, D = madeN N 8 := ⟨_, rfl⟩
      rw [← hD] at HM4
      have HD : Hid (D = madeN N 8) := hD
      clear hD
      obtain ⟨y0, y1, y2, y3⟩ := HM4.out.cells4
      obtain ⟨r0, r1, r2, r3⟩ := HR4.out.cells4
      obtain ⟨f0, f1, f2, f3⟩ := HR4.out.frozen4
      go_wp2
      have hld := loadW (putW_blk HR4.out D)
      refine bodyPost_ret (v := .tuple #[.agg (arrW D), .nilIface]) ?_ rfl ⟨by rw [HD.out], ?_⟩
      · rw [results_cell_tmp rfl]
        unfold putW at hld
        simp [asAddr, Result.andThen, hld]
      · exact putW_below HB4.out (by omega) D

/-- World, whatever the counts. -/
theorem fworld_any (N : Nat → Int) (w : World) :
    Calls Tryd.prog 51 #[.agg #[.int .i64 (N 0), .int .i64 (N 1), .int .i64 (N 2), .int .i64 (N 3), .int .i64 (N 4), .int .i64 (N 5), .int .i64 (N 6), .int .i64 (N 7)]] w fun e w' => e = .returned (.tuple #[.agg (arrW (madeW N)), errV (countsFault N)]) ∧ Below w.heap.size w w' := by
  by_cases hf : countsFault N = 0
  · unfold madeW
    rw [if_pos hf, hf]
    exact fworld_right N w hf
  · unfold madeW errV
    rw [if_neg hf, if_neg hf]
    exact fworld_wrong N w hf
end Go.Proofs.YtjaedfjfcghgcaaDoor

namespace Go.Proofs.YtjaedfjfcghgcaaDoor
open Go.ChangeShapes Go.WideShapes Go.ChangeAt Go.RowKit
set_option maxRecDepth 100000
attribute [local go_sem] Oper.semAt_some

theorem held_new (w : World) (o0 o1 o2 : Obj) :
    (((w.alloc o0).alloc o1).alloc o2).heap.size = w.heap.size + 3 ∧
    (((w.alloc o0).alloc o1).alloc o2).heap[w.heap.size]? = some o0 ∧
    (((w.alloc o0).alloc o1).alloc o2).heap[w.heap.size + 1]? = some o1 ∧
    (((w.alloc o0).alloc o1).alloc o2).heap[w.heap.size + 1 + 1]? = some o2 ∧
    Below w.heap.size w (((w.alloc o0).alloc o1).alloc o2) := by
  have s1 : (w.alloc o0).heap.size = w.heap.size + 1 := World.size_alloc _ _
  have s2 : ((w.alloc o0).alloc o1).heap.size = w.heap.size + 1 + 1 := by rw [World.size_alloc, s1]
  refine ⟨by rw [World.size_alloc, s2], ?_, ?_, ?_, ?_⟩
  · rw [Below.heap_alloc _ _ _ (by omega), Below.heap_alloc _ _ _ (by omega)]; exact World.alloc_heap_new _ _
  · rw [Below.heap_alloc _ _ _ (by omega), ← s1]; exact World.alloc_heap_new _ _
  · rw [← s2]; exact World.alloc_heap_new _ _
  · exact (((Below.refl _ w).alloc (Nat.le_refl _) _).alloc (by omega) _).alloc (by omega) _
/-- a row lies as it lay where its own block does. -/
theorem own_keep {X Y : World} {K n size : Nat} {e : TypeId} {v : Value} {xs : List Value} (h : X.ownsRow K e size v n xs) (hs : ∀ b, v.ownBlock = some b → Y.heap[b]? = X.heap[b]?) : Y.ownsRow K e size v n xs := by
  refine ⟨h.1, ?_⟩
  rcases h.2 with h0 | ⟨g, cap, cur, hv, hb, hg, rest⟩
  · exact Or.inl h0
  · exact Or.inr ⟨g, cap, cur, hv, hb, (hs g (by rw [hv]; rfl)).trans hg, rest⟩
theorem held_slice {X : World} {K n size : Nat} {e : TypeId} {v : Value} {xs : List Value} (h : X.ownsRow K e size v n xs) : ∃ ao l cap, v = .slice ao l cap := by
  rcases h.2 with ⟨rfl, _⟩ | ⟨g, cap, cur, rfl, _⟩
  · exact ⟨_, _, _, rfl⟩
  · exact ⟨_, _, _, rfl⟩
theorem appendIn_long {F : Fence} {nF : Nat} {w : World} {ops : Array Oper} {rest : List Oper} {o : Oper} {a : Act} {Q : Exit → Act → World → Prop} (hgd : o.guard = none) (s x : Operand)
    (ho : o.op = .call { callee := .builtin .append, args := #[s, x], argTypes := #[30, 30] }) (K : Nat) (v : Value) (hs : a.eval s = v) (l : List Int) (r : Int) (B c : Nat) (hx : a.eval x = .slice (some ⟨B, 0, none⟩) 1 c)
    (hown : w.ownsRow K 3 1 v l.length (l.map (Value.int .i64))) (hB : w.heap[B]? = some (.cells #[.int .i64 r] 3 (0, 0))) (hK : K ≤ w.heap.size) (h12 : l.length ≤ 1000000)
    (h : ∀ v' w', w'.ownsRow K 3 1 v' (l.length + 1) ((l ++ [r]).map (Value.int .i64)) → w.grownBy w' v.ownBlock → (v'.ownBlock = v.ownBlock ∨ v'.ownBlock = some w.heap.size) → wpListIn F nF Tryd.prog ops Q rest (a.put o.dst v') w') :
    wpListIn F nF Tryd.prog ops Q (o :: rest) a w := by
  obtain ⟨i1, hi⟩ : ∃ i, Tryd.prog.info? 3 = some i := Option.isSome_iff_exists.1 infoH
  have hz0 : i1.zero = some (.int .i64 0) := by have := zeroH; rw [hi] at this; simpa using this
  have hz1 : i1.size = 1 := by have := sizeH; rw [hi] at this; simpa using this
  have hz2 : i1.bytes = 8 := by have := bytesH; rw [hi] at this; simpa using this
  refine wpListIn_append_own_at w hgd s x 30 ho K 3 i1 _ 1 8 Tryd.underlying30 hi hz0 hz1 hz2 rfl (by decide) v l.length (l.map (Value.int .i64)) hs hown ⟨B, 0, none⟩ 1 c [.int .i64 r] hx rfl (World.news_of_block hB) (by simp [Value.oneCell']) (by unfold maxLen; omega) (by omega) hK ?_
  intro v' w' h1 h2 _ h5
  refine h v' w' ?_ h2 h5
  rw [List.map_append]
  exact h1
theorem loadS {W : World} {R : Nat} {v : Value} (h : Blk W R 30 #[v]) : (loadVar 30 ⟨R, 0, none⟩).run Tryd.prog W = .ok v W := by
  have hc : W.cell? ⟨R, 0, none⟩ = some v := h.cell 0
  simp [loadVar, Tryd.isAgg30, Result.andThen, hc]

set_option maxHeartbeats 8000000 in
theorem held_right (lo : Option Addr) (ll lcap : Nat) (n : Nat) (hn : n ≤ 6) (p : (Nat → Int) → Int) (w : World)
    (hC : ∀ W, Below w.heap.size w W → Calls Tryd.prog 49 #[.slice lo ll lcap, .int .i64 n] W fun e w' => e = .returned .nilIface ∧ Below W.heap.size W w')
    (hW : ∀ (M : Nat → Int) W, M ∈ everyC n → Calls Tryd.prog 51 #[.agg #[.int .i64 (M 0), .int .i64 (M 1), .int .i64 (M 2), .int .i64 (M 3), .int .i64 (M 4), .int .i64 (M 5), .int .i64 (M 6), .int .i64 (M 7)]] W fun e w' => e = .returned (.tuple #[.agg #[.int .i64 (madeN M 8).u, .int .i64 (madeN M 8).a, .int .i64 (madeN M 8).b, .int .i64 (madeN M 8).c], .nilIface]) ∧ Below W.heap.size W w')
    (hH : ∀ (M : Nat → Int) W, M ∈ everyC n → Below w.heap.size w W → Calls Tryd.prog 52 #[.slice lo ll lcap, .agg #[.int .i64 (madeN M 8).u, .int .i64 (madeN M 8).a, .int .i64 (madeN M 8).b, .int .i64 (madeN M 8).c]] W fun e w' => e = .returned (.tuple #[.int .i64 (p M), .nilIface]) ∧ Below W.heap.size W w') :
    Calls Tryd.prog 27 #[.slice lo ll lcap, .int .i64 n] w fun e w' => (∃ v, e = .returned (.tuple #[v, .nilIface]) ∧ Reads w' v ((everyC n).map p)) ∧ Below w.heap.size w w' := by
  obtain ⟨A, hA⟩ : ∃ A, A = everyC n := ⟨_, rfl⟩
  have HC : Hid (∀ W, Below w.heap.size w W → Calls Tryd.prog 49 #[.slice lo ll lcap, .int .i64 n] W fun e w' => e = .returned .nilIface ∧ Below W.heap.size W w') := hC
  have HWo : Hid (∀ (k : Nat) (M : Nat → Int) W, A[k]? = some M → Calls Tryd.prog 51 #[.agg #[.int .i64 (M 0), .int .i64 (M 1), .int .i64 (M 2), .int .i64 (M 3), .int .i64 (M 4), .int .i64 (M 5), .int .i64 (M 6), .int .i64 (M 7)]] W fun e w' => e = .returned (.tuple #[.agg #[.int .i64 (madeN M 8).u, .int .i64 (madeN M 8).a, .int .i64 (madeN M 8).b, .int .i64 (madeN M 8).c], .nilIface]) ∧ Below W.heap.size W w') := fun k M W hM => hW M W (by rw [hA] at hM; exact List.mem_of_getElem? hM)
  have HH : Hid (∀ (k : Nat) (M : Nat → Int) W, A[k]? = some M → Below w.heap.size w W → Calls Tryd.prog 52 #[.slice lo ll lcap, .agg #[.int .i64 (madeN M 8).u, .int .i64 (madeN M 8).a, .int .i64 (madeN M 8).b, .int .i64 (madeN M 8).c]] W fun e w' => e = .returned (.tuple #[.int .i64 (p M), .nilIface]) ∧ Below W.heap.size W w') := fun k M W hM hW' => hH M W (by rw [hA] at hM; exact List.mem_of_getElem? hM) hW'
  have HS : Hid (∀ Bu W, W.cell? ⟨Bu, 0, none⟩ = some (.int .i64 n) → SeqR 2 Tryd.prog 73 #[.pointer (some ⟨Bu, 0, none⟩)] enc8 A W) := fun Bu W hB => by rw [hA]; exact iter_anyR n hn 2 (by omega) Bu W hB
  have HLn : Hid (A.length ≤ 1716) := by unfold Hid; rw [hA]; exact length_everyC hn
  rw [← hA]
  clear hA hn hC hH hW
  obtain ⟨hs1, b0, b1, b2, hB1⟩ := held_new w (.cells #[.slice lo ll lcap] 22) (.cells #[.slice none 0 0] 30) (.cells #[.nilIface] 26)
  obtain ⟨w1, hw1⟩ : ∃ x, x = ((w.alloc (.cells #[.slice lo ll lcap] 22)).alloc (.cells #[.slice none 0 0] 30)).alloc (.cells #[.nilIface] 26) := ⟨_, rfl⟩
  rw [← hw1] at hs1 b0 b1 b2 hB1
  have HB1 : Hid (Below w.heap.size w w1) := hB1
  have Hs1 : Hid (w1.heap.size = w.heap.size + 3) := hs1
  have I0 : Hid (Blk w1 w.heap.size 22 #[.slice lo ll lcap]) := b0
  have I1 : Hid (Blk w1 (w.heap.size + 1) 30 #[.slice none 0 0]) := b1
  have I2 : Hid (Blk w1 (w.heap.size + 1 + 1) 26 #[.nilIface]) := b2
  clear hs1 b0 b1 b2 hB1
  refine (callsIn_wide (n := 3)).1 ?_
  refine callsIn_of_wp_marks Tryd.func27 rfl trivial ?_ rfl
  simp only [Tryd.ntmps27, List.size_toArray, List.length_cons, List.length_nil, Nat.reduceAdd, Nat.reduceSub, Array.replicate_succ, Array.replicate_zero, List.push_toArray, List.append_toArray, List.nil_append, List.cons_append]
  gi_upto_region 1 with fail
  rw [← hw1]
  clear hw1
  have i0 : w1.cell? ⟨w.heap.size, 0, none⟩ = some (.slice lo ll lcap) := I0.out.cell 0
  gi_wp2_with fail
  refine ⟨trivial, ?_⟩
  gi_at_call 49
  refine (callsIn_wide.2 (HC.out _ HB1.out)).mono ?_
  rintro e w2 ⟨rfl, hb2⟩
  have HB2 : Hid (Below w.heap.size w w2) := HB1.out.trans (hb2.mono HB1.out.size)
  have J0 : Hid (Blk w2 w.heap.size 22 #[.slice lo ll lcap]) := I0.out.below hb2
  have J1 : Hid (Blk w2 (w.heap.size + 1) 30 #[.slice none 0 0]) := I1.out.below hb2
  have J2 : Hid (Blk w2 (w.heap.size + 1 + 1) 26 #[.nilIface]) := I2.out.below hb2
  obtain ⟨G, hG⟩ : ∃ G, G = w2.heap.size := ⟨_, rfl⟩
  have HG : Hid (w.heap.size + 3 ≤ G) := by unfold Hid; rw [hG, ← Hs1.out]; exact hb2.size
  clear hb2 i0
  gi_wp2_with fail
  refine ⟨trivial, ?_⟩
  gi_at_call 50
  refine (callsIn_wide.2 (fitAll_any _ _)).mono ?_
  rintro e w4 ⟨rfl, rfl⟩
  gi_wp2_with fail
  obtain ⟨wl, hwl⟩ : ∃ x, x = (w2.alloc (.cells #[.slice none 0 0] 30)).alloc (.cells #[.int .i64 n] 3) := ⟨_, rfl⟩
  have HB0 : Hid (Below w.heap.size w wl) := by unfold Hid; rw [hwl]; exact (HB2.out.alloc HB2.out.size _).alloc (by rw [World.size_alloc]; exact Nat.le_succ_of_le HB2.out.size) _
  have Hsz : Hid (wl.heap.size = G + 2) := by unfold Hid; rw [hwl, hG, World.size_alloc, World.size_alloc]
  have H0 : Hid (Blk wl w.heap.size 22 #[.slice lo ll lcap]) := by unfold Hid; rw [hwl]; exact (J0.out.old _).old _
  have H1 : Hid (Blk wl (w.heap.size + 1) 30 #[.slice none 0 0]) := by unfold Hid; rw [hwl]; exact (J1.out.old _).old _
  have H2 : Hid (Blk wl (w.heap.size + 1 + 1) 26 #[.nilIface]) := by unfold Hid; rw [hwl]; exact (J2.out.old _).old _
  have H3 : Hid (Blk wl G 30 #[.slice none 0 0]) := by unfold Hid; rw [hwl, hG]; exact (Blk.new _ _ _).old _
  have H4 : Hid (Blk wl (G + 1) 3 #[.int .i64 n]) := by
    unfold Hid; rw [hwl, hG]
    have := Blk.new (w2.alloc (.cells #[.slice none 0 0] 30)) 3 #[.int .i64 n]
    rw [World.size_alloc] at this
    exact this
  rw [← hwl, ← hG]
  clear hwl hG
  refine wpIn_range_ownR (by omega) (gf := 73) (lb := #[.pointer (some ⟨G + 1, 0, none⟩)]) rfl (enters_of Tryd.func73 (by kernel_rfl) rfl) (encs := enc8) (A := A)
    (fun W hW => HS.out _ W ((hW.cell (by rw [Hsz.out]; simp)).trans (H4.out.cell 0))) (fun _ => rfl)
    (fun k R W => Below w.heap.size w W ∧ Blk W w.heap.size 22 #[.slice lo ll lcap] ∧ Blk W (w.heap.size + 1) 30 #[.slice none 0 0] ∧ Blk W (w.heap.size + 1 + 1) 26 #[.nilIface] ∧ ∃ v, Blk W G 30 #[v] ∧ W.ownsRow (G + 2) 3 1 v ((A.take k).map p).length (((A.take k).map p).map (Value.int .i64)) ∧ ∀ b, v.ownBlock = some b → R b)
    (fun _ _ => False)
    (fun k R X Y h hb => by
      obtain ⟨h1, h2, h3, h4, v, h5, h6, h7⟩ := h
      have hg := HG.out
      have hz := Hsz.out
      refine ⟨h1.trans (hb.below.mono (by omega)), h2.keep hb.below (by omega), h3.keep hb.below (by omega), h4.keep hb.below (by omega), v, h5.keep hb.below (by omega), own_keep h6 fun b e => hb.own b (h7 b e) (h6.lt b e).2, h7⟩)
    (fun _ _ _ h _ => h) ⟨HB0.out, H0.out, H1.out, H2.out, .slice none 0 0, H3.out, World.ownsRow_nil _ _ _ _, fun b e => by cases e⟩ ?round ?done ?stop
  case round =>
    intro ln k x R W hx hl1 hl2 hlR ⟨hB, c0, c1, c2, v, c3, c4, c5⟩
    have HX : Hid (A[k]? = some x) := hx
    have HkL : Hid (k < A.length) := (List.getElem?_eq_some_iff.1 hx).1
    have Hl1 : Hid (G + 2 ≤ ln) := by unfold Hid; rw [← Hsz.out]; exact hl1
    have Hl2 : Hid (ln < W.heap.size) := hl2
    have HlR : Hid (¬ R ln) := hlR
    have HBk : Hid (Below w.heap.size w W) := hB
    have C0 : Hid (Blk W w.heap.size 22 #[.slice lo ll lcap]) := c0
    have C1 : Hid (Blk W (w.heap.size + 1) 30 #[.slice none 0 0]) := c1
    have C2 : Hid (Blk W (w.heap.size + 1 + 1) 26 #[.nilIface]) := c2
    have C3 : Hid (Blk W G 30 #[v]) := c3
    have C5 : Hid (∀ b, v.ownBlock = some b → R b) := c5
    obtain ⟨l, hl⟩ : ∃ l, l = (A.take k).map p := ⟨_, rfl⟩
    have HLl : Hid (l.length = k) := by unfold Hid; rw [hl, List.length_map, List.length_take]; have := HkL.out; omega
    have HLs : Hid ((A.take (k + 1)).map p = l ++ [p x]) := by
      unfold Hid; rw [List.take_add_one, hx, List.map_append, ← hl]; rfl
    rw [← hl] at c4
    have C4 : Hid (W.ownsRow (G + 2) 3 1 v l.length (l.map (Value.int .i64))) := c4
    clear hx hl1 hl2 hlR hB c0 c1 c2 c3 c4 c5 hl
    unfold enc8
    gi_wp2
    refine ⟨(Over.refl _ _).alloc _, fun o => ?_⟩
    obtain ⟨W2, hW2⟩ : ∃ X, X = (W.alloc (.cells #[.int .i64 (x 0), .int .i64 (x 1), .int .i64 (x 2), .int .i64 (x 3), .int .i64 (x 4), .int .i64 (x 5), .int .i64 (x 6), .int .i64 (x 7)] 89)).putObj ln o := ⟨_, rfl⟩
    obtain ⟨Gx, hGx⟩ : ∃ G, G = W.heap.size := ⟨_, rfl⟩
    have HB2 : Hid (Below w.heap.size w W2) := by unfold Hid; rw [hW2]; exact (HBk.out.alloc HBk.out.size _).trans (below_putObj _ _ (by have := Hl1.out; have := HG.out; omega))
    have D0 : Hid (Blk W2 w.heap.size 22 #[.slice lo ll lcap]) := by unfold Hid; rw [hW2]; exact (C0.out.old _).putO _ (by have := Hl1.out; have := HG.out; omega)
    have D1 : Hid (Blk W2 (w.heap.size + 1) 30 #[.slice none 0 0]) := by unfold Hid; rw [hW2]; exact (C1.out.old _).putO _ (by have := Hl1.out; have := HG.out; omega)
    have D2 : Hid (Blk W2 (w.heap.size + 1 + 1) 26 #[.nilIface]) := by unfold Hid; rw [hW2]; exact (C2.out.old _).putO _ (by have := Hl1.out; have := HG.out; omega)
    have D3 : Hid (Blk W2 G 30 #[v]) := by unfold Hid; rw [hW2]; exact (C3.out.old _).putO _ (by have := Hl1.out; omega)
    have D4 : Hid (W2.ownsRow (G + 2) 3 1 v l.length (l.map (Value.int .i64))) := by
      unfold Hid; rw [hW2]
      refine own_keep (C4.out.alloc _) fun b e => World.putObj_heap_other fun e' => HlR.out (C5.out _ (e' ▸ e))
    have D8 : Hid (Blk W2 Gx 89 (arr8 x)) := by unfold Hid; rw [hW2, hGx]; exact (Blk.new _ _ _).putO _ (by have := Hl2.out; omega)
    have HS2 : Hid (G + 2 ≤ W2.heap.size) := by unfold Hid; rw [hW2]; have := Hl1.out; have := Hl2.out; simp; omega
    rw [← hW2, ← hGx]
    clear hW2 hGx
    have HWk : Hid (Calls Tryd.prog 51 #[.agg #[.int .i64 (x 0), .int .i64 (x 1), .int .i64 (x 2), .int .i64 (x 3), .int .i64 (x 4), .int .i64 (x 5), .int .i64 (x 6), .int .i64 (x 7)]] W2 fun e w' => e = .returned (.tuple #[.agg #[.int .i64 (madeN x 8).u, .int .i64 (madeN x 8).a, .int .i64 (madeN x 8).b, .int .i64 (madeN x 8).c], .nilIface]) ∧ Below W2.heap.size W2 w') := HWo.out k x W2 HX.out
    have HHk : Hid (∀ W, Below w.heap.size w W → Calls Tryd.prog 52 #[.slice lo ll lcap, .agg #[.int .i64 (madeN x 8).u, .int .i64 (madeN x 8).a, .int .i64 (madeN x 8).b, .int .i64 (madeN x 8).c]] W fun e w' => e = .returned (.tuple #[.int .i64 (p x), .nilIface]) ∧ Below W.heap.size W w') := fun W hW => HH.out k x W HX.out hW
    obtain ⟨D, hD⟩ : ∃ D, D = madeN x 8 := ⟨_, rfl⟩
    obtain ⟨q, hq⟩ : ∃ q, q = p x := ⟨_, rfl⟩
    rw [← hD] at HWk HHk
    rw [← hq] at HHk HLs
    clear hD hq
    obtain ⟨x0, x1, x2, x3, x4, x5, x6, x7⟩ := D8.out.cells8
    gi_wp2_with fail
    refine ⟨trivial, ?_⟩
    gi_at_call 51
    refine (CallsIn.inRound ln (callsIn_wide.2 HWk.out)).mono ?_
    rintro e W3 ⟨rfl, hb3⟩
    obtain ⟨W4, hW4⟩ : ∃ x, x = W3.alloc (.cells #[.int .i64 D.u, .int .i64 D.a, .int .i64 D.b, .int .i64 D.c] 37) := ⟨_, rfl⟩
    obtain ⟨Gw, hGw⟩ : ∃ G, G = W3.heap.size := ⟨_, rfl⟩
    have hb4 : Below W2.heap.size W2 W4 := by rw [hW4]; exact hb3.alloc hb3.size _
    have HB4 : Hid (Below w.heap.size w W4) := HB2.out.trans (hb4.mono HB2.out.size)
    have E0 : Hid (Blk W4 w.heap.size 22 #[.slice lo ll lcap]) := D0.out.below hb4
    have E1 : Hid (Blk W4 (w.heap.size + 1) 30 #[.slice none 0 0]) := D1.out.below hb4
    have E2 : Hid (Blk W4 (w.heap.size + 1 + 1) 26 #[.nilIface]) := D2.out.below hb4
    have E3 : Hid (Blk W4 G 30 #[v]) := D3.out.below hb4
    have E4 : Hid (W4.ownsRow (G + 2) 3 1 v l.length (l.map (Value.int .i64))) := ownsRow_below D4.out hb4
    have E9 : Hid (Blk W4 Gw 37 #[.int .i64 D.u, .int .i64 D.a, .int .i64 D.b, .int .i64 D.c]) := by unfold Hid; rw [hW4, hGw]; exact Blk.new _ _ _
    have HO4 : Hid (Below W2.heap.size W2 W4) := hb4
    clear hb3 hb4 x0 x1 x2 x3 x4 x5 x6 x7
    gi_upto_region 10 with fail
    rw [← hW4, ← hGw]
    clear hW4 hGw
    have y0 : W4.cell? ⟨w.heap.size, 0, none⟩ = some (.slice lo ll lcap) := E0.out.cell 0
    have z0 : W4.cell? ⟨Gw, 0, none⟩ = some (.int .i64 D.u) := E9.out.cell 0
    have z1 : W4.cell? ⟨Gw, 1, none⟩ = some (.int .i64 D.a) := E9.out.cell 1
    have z2 : W4.cell? ⟨Gw, 2, none⟩ = some (.int .i64 D.b) := E9.out.cell 2
    have z3 : W4.cell? ⟨Gw, 3, none⟩ = some (.int .i64 D.c) := E9.out.cell 3
    gi_wp2_with fail
    refine ⟨trivial, ?_⟩
    gi_at_call 52
    refine (CallsIn.inRound ln (callsIn_wide.2 (HHk.out _ HB4.out))).mono ?_
    rintro e W5 ⟨rfl, hb5⟩
    have HB5 : Hid (Below w.heap.size w W5) := HB4.out.trans (hb5.mono HB4.out.size)
    have F0 : Hid (Blk W5 w.heap.size 22 #[.slice lo ll lcap]) := E0.out.below hb5
    have F1 : Hid (Blk W5 (w.heap.size + 1) 30 #[.slice none 0 0]) := E1.out.below hb5
    have F2 : Hid (Blk W5 (w.heap.size + 1 + 1) 26 #[.nilIface]) := E2.out.below hb5
    have F3 : Hid (Blk W5 G 30 #[v]) := E3.out.below hb5
    have F4 : Hid (W5.ownsRow (G + 2) 3 1 v l.length (l.map (Value.int .i64))) := ownsRow_below E4.out hb5
    have HO5 : Hid (Below W2.heap.size W2 W5) := HO4.out.trans (hb5.mono HO4.out.size)
    clear hb5 y0 z0 z1 z2 z3
    have y3 : W5.cell? ⟨G, 0, none⟩ = some v := F3.out.cell 0
    have hl12 : l.length ≤ 1000000 := by have := HLl.out; have := HkL.out; have := HLn.out; omega
    have HS5 : Hid (G + 2 ≤ W5.heap.size) := Nat.le_trans HS2.out HO5.out.size
    gi_wp2_with (gi_at_builtin; refine appendIn_long rfl _ _ rfl (G + 2) v rfl l q W5.heap.size 1 rfl (F4.out.alloc _) (heap_alloc_new W5 _) (by have := HS5.out; simp; omega) hl12 ?_)
    intro v9 W7 hown hgrow hat
    obtain ⟨vo, vn, vc, hv9⟩ := held_slice hown
    subst hv9
    obtain ⟨v9, hv9⟩ : ∃ x, x = Value.slice vo vn vc := ⟨_, rfl⟩
    rw [← hv9] at hown hat
    obtain ⟨W6, hW6⟩ : ∃ X, X = W5.alloc (.cells #[.int .i64 q] 3) := ⟨_, rfl⟩
    rw [← hW6] at hgrow
    have hb6 : Below W2.heap.size W2 W6 := by rw [hW6]; exact HO5.out.alloc HO5.out.size _
    have hB6 : Below w.heap.size w W6 := HB2.out.trans (hb6.mono HB2.out.size)
    have hge : ∀ b, v.ownBlock = some b → G + 2 ≤ b := fun b e => (F4.out.lt b e).1
    have hB7 : Below w.heap.size w W7 := hB6.grown hgrow hB6.size fun b e => by have := hge b e; have := HG.out; omega
    have keep : ∀ g T cs, Blk W2 g T cs → g < G + 2 → Blk W7 g T cs := fun g T cs h hg => by
      have h6 := h.below hb6
      unfold Blk
      rw [hgrow.block g h6.lt fun e => by have := hge g e.symm; omega]
      exact h6
    have hO7 : OverR R wl.heap.size W2 W7 := ⟨Nat.le_trans hb6.size hgrow.size, fun b hb hl hr => by
      rw [hgrow.block b (Nat.lt_of_lt_of_le hl hb6.size) fun e => hr (C5.out b e.symm)]
      exact hb6.block b hl⟩
    have hat' : ∀ b, v9.ownBlock = some b → R b ∨ W2.heap.size ≤ b := fun b e => by
      rcases hat with h | h
      · exact Or.inl (C5.out b (h ▸ e))
      · rw [h] at e
        have := Option.some.inj e
        have := HO5.out.size
        right; omega
    have H7 : Hid (Below w.heap.size w W7 ∧ Blk W7 w.heap.size 22 #[.slice lo ll lcap] ∧ Blk W7 (w.heap.size + 1) 30 #[.slice none 0 0] ∧ Blk W7 (w.heap.size + 1 + 1) 26 #[.nilIface] ∧ Blk W7 G 30 #[v] ∧ OverR R wl.heap.size W2 W7 ∧ ∀ b, v9.ownBlock = some b → R b ∨ W2.heap.size ≤ b) :=
      ⟨hB7, keep _ _ _ D0.out (by have := HG.out; omega), keep _ _ _ D1.out (by have := HG.out; omega), keep _ _ _ D2.out (by have := HG.out; omega), keep _ _ _ D3.out (by omega), hO7, hat'⟩
    have H9 : Hid (W7.ownsRow (G + 2) 3 1 v9 ((A.take (k + 1)).map p).length (((A.take (k + 1)).map p).map (Value.int .i64))) := by
      unfold Hid; rw [HLs.out, List.length_append, List.map_append]; exact hown
    clear hown hgrow hat hW6 hb6 hB6 hge hB7 keep hO7 hat' y3
    have y3 : W7.cell? ⟨G, 0, none⟩ = some v := H7.out.2.2.2.2.1.cell 0
    have z3 : W7.frozen? ⟨G, 0, none⟩ = false := H7.out.2.2.2.2.1.frozen 0
    have HV9 : Hid (v9 = Value.slice vo vn vc) := hv9
    clear hv9
    gi_wp2
    rw [← HV9.out]
    obtain ⟨q0, q1, q2, q3, q4, q5, q6⟩ := H7.out
    have hg := HG.out
    have hz := Hsz.out
    refine ⟨q5.trans (OverR.of ((Over.refl _ _).setCell (by rw [hz]; simp) _)), fun b => v9.ownBlock = some b, ⟨q0.setCell (by simp; omega) _, q1.far (by omega) _ _, q2.far (by omega) _ _, q3.far (by omega) _ _, v9, ?_, ?_, fun b e => e⟩, q6⟩
    · exact q4.set 0 v9
    · refine own_keep H9.out fun b e => Below.heap_setCell _ _ _ _ ?_
      have := (H9.out.lt b e).1
      simp; omega
  case done =>
    intro D R W hD hDR ⟨hB, c0, c1, c2, v, c3, c4, c5⟩ hK
    obtain ⟨vo, vn, vc, rfl⟩ := held_slice c4
    have HD : Hid (G + 2 ≤ D) := by unfold Hid; rw [← Hsz.out]; exact hD
    have HK : Hid (W.heap[D]? = some (.deferred (some []))) := hK
    have HBk : Hid (Below w.heap.size w W) := hB
    rw [List.take_length] at c4
    have C1 : Hid (Blk W (w.heap.size + 1) 30 #[.slice none 0 0]) := c1
    have C2 : Hid (Blk W (w.heap.size + 1 + 1) 26 #[.nilIface]) := c2
    have C3 : Hid (Blk W G 30 #[.slice vo vn vc]) := c3
    have C4 : Hid (W.ownsRow (G + 2) 3 1 (.slice vo vn vc) (A.map p).length ((A.map p).map (Value.int .i64))) := c4
    have HDR : Hid ((Value.slice vo vn vc).ownBlock ≠ some D) := fun e => hDR (c5 D e)
    clear hD hB c0 c1 c2 c3 c4 c5 hK hDR
    have e1 : W.cell? ⟨w.heap.size + 1, 0, none⟩ = some (.slice none 0 0) := C1.out.cell 0
    have z1 : W.frozen? ⟨w.heap.size + 1, 0, none⟩ = false := C1.out.frozen 0
    have e2 : W.cell? ⟨w.heap.size + 1 + 1, 0, none⟩ = some .nilIface := C2.out.cell 0
    have z2 : W.frozen? ⟨w.heap.size + 1 + 1, 0, none⟩ = false := C2.out.frozen 0
    have e3 : W.cell? ⟨G, 0, none⟩ = some (.slice vo vn vc) := C3.out.cell 0
    gi_wp2
    have hd := HD.out
    have hg := HG.out
    have hK' : ((W.setCell ⟨w.heap.size + 1, 0, none⟩ (.slice vo vn vc)).setCell ⟨w.heap.size + 1 + 1, 0, none⟩ .nilIface).heap[D]? = some (.deferred (some [])) := by
      rw [Below.heap_setCell _ _ _ _ (by simp; omega), Below.heap_setCell _ _ _ _ (by simp; omega)]; exact HK.out
    have r1 : Blk ((W.setCell ⟨w.heap.size + 1, 0, none⟩ (.slice vo vn vc)).setCell ⟨w.heap.size + 1 + 1, 0, none⟩ .nilIface) (w.heap.size + 1) 30 #[.slice vo vn vc] := (C1.out.set 0 _).far (by omega) _ _
    have r2 : Blk ((W.setCell ⟨w.heap.size + 1, 0, none⟩ (.slice vo vn vc)).setCell ⟨w.heap.size + 1 + 1, 0, none⟩ .nilIface) (w.heap.size + 1 + 1) 26 #[.nilIface] := (C2.out.far (by omega) _ _).set 0 _
    refine ⟨by simp, .inl ⟨_, _, rfl, run_takeDeferred hK', ?_⟩⟩
    have l1 := loadS (r1.putO (.deferred none) (l := D) (by omega))
    have l2 := loadE (r2.putO (.deferred none) (l := D) (by omega))
    refine ⟨.tuple #[.slice vo vn vc, .nilIface], ?_, ⟨_, rfl, ?_⟩, ?_⟩
    · rw [results_two rfl]
      simp [asAddr, Result.andThen, l1, l2]
    · refine own_readsL (own_keep C4.out fun b e => ?_) (by rw [List.length_map]; have := HLn.out; omega)
      have hge := (C4.out.lt b e).1
      rw [World.putObj_heap_other (show b ≠ D from fun e' => HDR.out (e' ▸ e)), Below.heap_setCell _ _ _ _ (by simp; omega), Below.heap_setCell _ _ _ _ (by simp; omega)]
    · exact ((HBk.out.setCell (by simp) _).setCell (by simp; omega) _).trans (below_putObj _ _ (by omega))
  case stop => exact fun _ _ _ _ _ h => h.elim

set_option maxHeartbeats 4000000 in
theorem held_wrong (lo : Option Addr) (ll lcap : Nat) (u F : Int) (w : World)
    (hC : ∀ W, Below w.heap.size w W → Calls Tryd.prog 49 #[.slice lo ll lcap, .int .i64 u] W fun e w' => e = .returned (.iface 64 (.int .i64 F)) ∧ Below W.heap.size W w') :
    Calls Tryd.prog 27 #[.slice lo ll lcap, .int .i64 u] w fun e w' => e = .returned (.tuple #[.slice none 0 0, .iface 64 (.int .i64 F)]) ∧ Below w.heap.size w w' := by
  have HC : Hid (∀ W, Below w.heap.size w W → Calls Tryd.prog 49 #[.slice lo ll lcap, .int .i64 u] W fun e w' => e = .returned (.iface 64 (.int .i64 F)) ∧ Below W.heap.size W w') := hC
  clear hC
  obtain ⟨hs1, b0, b1, b2, hB1⟩ := held_new w (.cells #[.slice lo ll lcap] 22) (.cells #[.slice none 0 0] 30) (.cells #[.nilIface] 26)
  obtain ⟨w1, hw1⟩ : ∃ x, x = ((w.alloc (.cells #[.slice lo ll lcap] 22)).alloc (.cells #[.slice none 0 0] 30)).alloc (.cells #[.nilIface] 26) := ⟨_, rfl⟩
  rw [← hw1] at hs1 b0 b1 b2 hB1
  have HB1 : Hid (Below w.heap.size w w1) := hB1
  have I0 : Hid (Blk w1 w.heap.size 22 #[.slice lo ll lcap]) := b0
  have I1 : Hid (Blk w1 (w.heap.size + 1) 30 #[.slice none 0 0]) := b1
  have I2 : Hid (Blk w1 (w.heap.size + 1 + 1) 26 #[.nilIface]) := b2
  clear hs1 b0 b1 b2 hB1
  go_enter Tryd.func27, Tryd.ntmps27
  go_upto_region 1 with fail
  rw [← hw1]
  clear hw1
  have i0 : w1.cell? ⟨w.heap.size, 0, none⟩ = some (.slice lo ll lcap) := I0.out.cell 0
  go_wp2_with fail
  go_at_call 49
  refine (HC.out _ HB1.out).mono ?_
  rintro e w2 ⟨rfl, hb2⟩
  have HB2 : Hid (Below w.heap.size w w2) := HB1.out.trans (hb2.mono HB1.out.size)
  have J1 : Hid (Blk w2 (w.heap.size + 1) 30 #[.slice none 0 0]) := I1.out.below hb2
  have J2 : Hid (Blk w2 (w.heap.size + 1 + 1) 26 #[.nilIface]) := I2.out.below hb2
  clear hb2 i0
  have e1 : w2.cell? ⟨w.heap.size + 1, 0, none⟩ = some (.slice none 0 0) := J1.out.cell 0
  have z1 : w2.frozen? ⟨w.heap.size + 1, 0, none⟩ = false := J1.out.frozen 0
  have e2 : w2.cell? ⟨w.heap.size + 1 + 1, 0, none⟩ = some .nilIface := J2.out.cell 0
  have z2 : w2.frozen? ⟨w.heap.size + 1 + 1, 0, none⟩ = false := J2.out.frozen 0
  go_wp2
  have r1 : Blk ((w2.setCell ⟨w.heap.size + 1, 0, none⟩ (.slice none 0 0)).setCell ⟨w.heap.size + 1 + 1, 0, none⟩ (.iface 64 (.int .i64 F))) (w.heap.size + 1) 30 #[.slice none 0 0] := (J1.out.set 0 _).far (by omega) _ _
  have r2 : Blk ((w2.setCell ⟨w.heap.size + 1, 0, none⟩ (.slice none 0 0)).setCell ⟨w.heap.size + 1 + 1, 0, none⟩ (.iface 64 (.int .i64 F))) (w.heap.size + 1 + 1) 26 #[.iface 64 (.int .i64 F)] := (J2.out.far (by omega) _ _).set 0 _
  have l1 := loadS r1
  have l2 := loadE r2
  refine bodyPost_ret (v := .tuple #[.slice none 0 0, .iface 64 (.int .i64 F)]) ?_ rfl ⟨rfl, ?_⟩
  · rw [results_two rfl]
    simp [asAddr, Result.andThen, l1, l2]
  · exact (HB2.out.setCell (by simp) _).setCell (by simp; omega) _

/-- which of the formulas hold, world by world, whatever they are. -/
theorem heldIn_any (v : Value) (fs : List Fm) (u : Int) (w : World) (hF : ReadsF w v fs) (hK : KindsLaid w) :
    Calls Tryd.prog 27 #[v, .int .i64 u] w fun e w' => (∃ x, e = .returned (.tuple #[x, errV (formsFault fs u)]) ∧ Reads w' x (if formsFault fs u = 0 then heldL fs u.toNat else [])) ∧ Below w.heap.size w w' := by
  have hC := fun W hW => coreCheck_any v fs u W (hF.below hW) (hK.below hW)
  have hH := fun h1 h2 (D : Wd) h3 W hW => holding_any v fs h1 h2 D h3 W (hF.below hW) (hK.below hW)
  obtain ⟨lo, lcap, rfl, _⟩ := hF.slice
  by_cases hf : formsFault fs u = 0
  · obtain ⟨⟨_, h6⟩, hg, hu⟩ := forms_zero.1 hf
    obtain ⟨n, rfl⟩ := Int.eq_ofNat_of_zero_le hu.1
    rw [hf] at hC ⊢
    rw [if_pos rfl, Int.toNat_natCast]
    refine held_right lo _ lcap n (by omega) (fun N => maskTo (holdsAt fs (madeN N 8)) fs.length) w hC (fun M W hM => ?_) fun M W hM hW => hH hg h6 (madeN M 8) (made_ok (everyC_right (by omega) hM)) W hW
    have h0 : countsFault M = 0 := everyC_right (by omega) hM
    have h := fworld_any M W
    have e : madeW M = madeN M 8 := by unfold madeW; rw [if_pos h0]
    rw [h0, e] at h
    exact h
  · have e : errV (formsFault fs u) = .iface 64 (.int .i64 (formsFault fs u)) := by unfold errV; rw [if_neg hf]
    rw [e] at hC ⊢
    rw [if_neg hf]
    exact (held_wrong lo _ lcap u _ w hC).mono fun e w' ⟨h1, h2⟩ => ⟨⟨_, h1, Or.inl ⟨none, 0, rfl, rfl⟩⟩, h2⟩
end Go.Proofs.YtjaedfjfcghgcaaDoor
