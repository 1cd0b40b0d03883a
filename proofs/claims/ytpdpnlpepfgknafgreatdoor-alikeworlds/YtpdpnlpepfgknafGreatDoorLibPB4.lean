/-
  Proved: what fit.All's function hands to whatever loop ranges over it: all counts of so many things, one behind the other, till the loop has enough (a contract that the statements lean on). Proved: what fit.check and fit.All return; what was in memory is as it was (contracts that the statements lean on).
  Proved: what slices.IndexFunc and slices.ContainsFunc return, of rows, at any function that tells of each; what was in memory is as it was (contracts that the statements lean on). Written by program.
  Proved: what fields.check returns, of any counts; what was in memory is as it was (a contract that the statements lean on).
  Proved: what fields.World returns, of any counts; what was in memory is as it was (a contract that the statements lean on).
  Proved: what rows.Fits returns, of any rows and any counts; what was in memory is as it was (a contract that the statements lean on). Written by program.
  Proved: what fit.Many returns, of any number of things and any rows; what was in memory is as it was (a contract that the statements lean on).
  Proved: what fit.Least returns, of any number of things and any rows; what was in memory is as it was (a contract that the statements lean on).
  Rows of booleans in memory (facts that the contracts lean on).
  Proved: what form.made and form.work return, of a right Code and which atoms hold; what was in memory is as it was (contracts that the statements lean on).
  Proved: what form.work returns, of a right Code and which atoms hold: whether the pile's last holds; what was in memory is as it was (a contract that the statements lean on).
  Proved: what form.copied, slices.Grow (of nothing) and slices.Concat return, of rows of numbers; what was in memory is as it was (contracts that the statements lean on). Written by program.
  Proved: what form.copies returns, of right atoms: a new row that reads as they do; what was in memory is as it was (a contract that the statements lean on).
  Proved: what form.Negate returns, of any formula: its opposite, in new rows; what was in memory is as it was (a contract that the statements lean on).
-/
import Derived.Test.YtpdpnlpepfgknafGreatDoorLibPB3
import Derived.Stop.RegionWithIn
import Derived.Sort.CutIn
import Derived.Shelf.Abstract
import Derived.Deep.LoopGhost
import Derived.Test.YtpdpnlpepfgknafGreatDoorLibPB1
import Derived.Deep.RegionHeld3
import Derived.Test.YtpdpnlpepfgknafGreatDoorLibPB2
import Derived.Deep.AppendLies
import Derived.Lib.AppendZerosOnto
import Derived.Lib.Walk
import Derived.Lib.SliceRun
import Derived.Deep.Onto
import Derived.Laws.ResultCell
import Derived.Laws.World
namespace Go.Proofs.YtpdpnlpepfgknafGreatDoor
open Go.ChangeShapes Go.WideShapes Go.ChangeAt Go.RowKit
set_option maxRecDepth 100000

theorem fitCheck_ok (n : Nat) (hn : n ≤ 6) (w : World) : Calls Tryz.prog 59 #[.int .i64 n] w fun e w' => e = .returned .nilIface ∧ w = w' := by
  have h : okB (n : Int) 0 = true := ok_zero (by omega) (by omega)
  go_enter Tryz.func59, Tryz.ntmps59
  go_wp2_with fail
  go_at_call 37
  refine (check_ok _ _ h _).mono ?_
  rintro e w' ⟨rfl, rfl⟩
  go_wp2
  go_ret
  exact ⟨rfl, rfl⟩
theorem fitCheck_no (u : Int) (hu : ¬ (0 ≤ u ∧ u ≤ 6)) (w : World) : Calls Tryz.prog 59 #[.int .i64 u] w fun e w' => e = .returned (.iface 61 (.int .i64 1)) ∧ w = w' := by
  have h : okB u 0 = false := okB_not.2 fun h => hu ⟨h.1, h.2.1⟩
  go_enter Tryz.func59, Tryz.ntmps59
  go_wp2_with fail
  go_at_call 37
  refine (check_no _ _ h _).mono ?_
  rintro e w' ⟨rfl, rfl⟩
  go_wp2
  go_ret
  exact ⟨rfl, rfl⟩
theorem fitAll_any (u : Int) (w : World) : Calls Tryz.prog 31 #[.int .i64 u] w fun e w' => e = .returned (.func (.func 58) #[] #[.pointer (some ⟨w.heap.size, 0, none⟩)]) ∧ w' = w.alloc (.cells #[.int .i64 u] 3) := by
  go_enter Tryz.func31, Tryz.ntmps31
  go_wp2
  go_ret
  exact ⟨rfl, rfl⟩
end Go.Proofs.YtpdpnlpepfgknafGreatDoor
namespace Go.Proofs.YtpdpnlpepfgknafGreatDoor
open Go.ChangeShapes Go.WideShapes Go.ChangeAt Go.RowKit
set_option maxRecDepth 100000

/-- the first has all in the last field, and nothing elsewhere. -/
theorem every_first (u : Nat) : ∃ M, (everyC u)[0]? = some M ∧ ∀ g, g < 8 → M g = if g = 7 then (u : Int) else 0 := by
  obtain ⟨M, h1, h2⟩ := allF_head 7 u fun _ => 0
  have hl : (allF 7 u fun _ => 0) = everyC u := rfl
  rw [hl] at h1
  refine ⟨M, h1, fun g hg => ?_⟩
  obtain ⟨h3, h4⟩ := everyC_sum (List.mem_of_getElem? h1)
  have e : sumN M 8 = M 0 + M 1 + M 2 + M 3 + M 4 + M 5 + M 6 + M 7 := by
    show (((((((((0 : Int) + M 0) + M 1) + M 2) + M 3) + M 4) + M 5) + M 6) + M 7) = _
    omega
  have a0 := h3 0 (by omega)
  have a1 := h3 1 (by omega)
  have a2 := h3 2 (by omega)
  have a3 := h3 3 (by omega)
  have a4 := h3 4 (by omega)
  have a5 := h3 5 (by omega)
  have a6 := h3 6 (by omega)
  rcases eight hg with rfl | rfl | rfl | rfl | rfl | rfl | rfl | rfl
  · rw [if_neg (by omega)]; omega
  · rw [if_neg (by omega)]; omega
  · rw [if_neg (by omega)]; omega
  · rw [if_neg (by omega)]; omega
  · rw [if_neg (by omega)]; omega
  · rw [if_neg (by omega)]; omega
  · rw [if_neg (by omega)]; omega
  · rw [if_pos rfl]; exact h2

/-- eight counts, as they are handed over. -/
def enc8 (M : Nat → Int) : Array Value := #[.agg #[.int .i64 (M 0), .int .i64 (M 1), .int .i64 (M 2), .int .i64 (M 3), .int .i64 (M 4), .int .i64 (M 5), .int .i64 (M 6), .int .i64 (M 7)]]

theorem Blk.over {B G : Nat} {W W' : World} {T : TypeId} {cs : Array Value} (h : Blk W G T cs) (hO : Over B W W') (hB : B ≤ G) : Blk W' G T cs := by
  unfold Blk; rw [hO.same G hB h.lt]; exact h

set_option maxHeartbeats 4000000 in
theorem iter_any (u : Nat) (hu : u ≤ 6) (n : Nat) (hn : 1 ≤ n) (Bu : Nat) (W : World) (hB : W.cell? ⟨Bu, 0, none⟩ = some (.int .i64 u)) :
    SeqG n Tryz.prog 58 #[.pointer (some ⟨Bu, 0, none⟩)] enc8 (everyC u) W := by
  intro l J Jx hJ hY h0
  obtain ⟨M0, hM0, hM0'⟩ := every_first u
  obtain ⟨A, hA⟩ : ∃ A, A = everyC u := ⟨_, rfl⟩
  have HST : Hid (∀ (i : Nat) (M : Nat → Int), A[i]? = some M → (lastTo M 8 ≠ 0 ∧ ∃ M', A[i + 1]? = some M' ∧ ∀ f, f < 8 → afterN M f = M' f) ∨ (lastTo M 8 = 0 ∧ i + 1 = A.length)) := fun i M hi => by
    rw [hA] at hi ⊢; exact every_steps hu hi
  have HBO : Hid (∀ (i : Nat) (M : Nat → Int), A[i]? = some M → ∀ f, f < 8 → 0 ≤ M f ∧ M f ≤ 6) := fun i M hi f hf => by
    rw [hA] at hi
    have := (everyC_sum (List.mem_of_getElem? hi)).1 f hf
    omega
  have HCk : Hid (∀ W, Calls Tryz.prog 59 #[.int .i64 u] W fun e w' => e = .returned .nilIface ∧ W = w') := fun W => fitCheck_ok u hu W
  rw [← hA] at hM0 hY ⊢
  clear hA hu
  have HY : Hid (∀ (k : Nat) (x : Nat → Int) (W1 : World), A[k]? = some x → J k W1 → YieldAt Fence.wide (n - 1) Tryz.prog l #[.agg #[.int .i64 (x 0), .int .i64 (x 1), .int .i64 (x 2), .int .i64 (x 3), .int .i64 (x 4), .int .i64 (x 5), .int .i64 (x 6), .int .i64 (x 7)]] W1 fun e W' =>
      (e = .returned (.bool true) ∧ J (k + 1) W' ∧ Over W.heap.size W1 W') ∨ (e = .returned (.bool false) ∧ Jx (k + 1) W')) := hY
  have HJ : Hid (∀ k W1 W2, J k W1 → Below W.heap.size W1 W2 → J k W2) := hJ
  clear hY hJ
  have e8 : Hid (arr8 M0 = #[.int .i64 0, .int .i64 0, .int .i64 0, .int .i64 0, .int .i64 0, .int .i64 0, .int .i64 0, .int .i64 u]) := by
    unfold Hid arr8
    rw [hM0' 0 (by omega), hM0' 1 (by omega), hM0' 2 (by omega), hM0' 3 (by omega), hM0' 4 (by omega), hM0' 5 (by omega), hM0' 6 (by omega), hM0' 7 (by omega)]
    rfl
  have H0 : Hid (J 0 W) := h0
  have HM0 : Hid (A[0]? = some M0) := hM0
  clear hM0' h0 hM0
  refine callsIn_of_wp Tryz.func58 rfl trivial ?_ rfl
  simp only [Tryz.ntmps58, List.size_toArray, List.length_cons, List.length_nil, Nat.reduceAdd, Nat.reduceSub, Array.replicate_succ, Array.replicate_zero, List.push_toArray, List.append_toArray, List.nil_append, List.cons_append]
  have hBu : Bu < W.heap.size := World.block_lt_of_cell? _ _ hB
  have hBa : (W.drew.alloc (.cells #[.int .i64 0, .int .i64 0, .int .i64 0, .int .i64 0, .int .i64 0, .int .i64 0, .int .i64 0, .int .i64 0] 64)).cell? ⟨Bu, 0, none⟩ = some (.int .i64 u) := (World.cell?_alloc_lt _ _ _ hBu).trans hB
  gi_upto_region 0 with fail
  gi_cut [3, 4] from 5 (fun p ok wr => p = .pointer (some ⟨W.heap.size, 0, none⟩) ∧ ok = .bool true ∧ Below W.heap.size W wr ∧ Blk wr W.heap.size 64 (arr8 M0))
  case first =>
    gi_region_with (refine ⟨trivial, ?_⟩; gi_at_call 59; refine (callsIn_wide.2 (HCk.out _)).mono ?_; rintro e w8 ⟨rfl, rfl⟩)
    all_goals (try gi_wp2)
    all_goals gi_meet
    all_goals exact ⟨rfl, rfl, (below_alloc1 W _).drew, by rw [e8.out]; exact (Blk.new W _ _).drew⟩
  case rest =>
  obtain ⟨rfl, rfl, hb1, hk1⟩ := hcut
  have HK1 : Hid (Blk wc W.heap.size 64 (arr8 M0)) := hk1
  have HJ1 : Hid (J 0 wc) := HJ.out _ _ _ H0.out hb1
  clear hb1 hk1
  gi_wp2
  gi_loopg [4] (A.length) (fun gk ok wr => (∃ (k : Nat) (M : Nat → Int), ok = .bool true ∧ A[k]? = some M ∧ gk = A.length - k ∧ J k wr ∧ Blk wr W.heap.size 64 (arr8 M)) ∨ (ok = .bool false ∧ J A.length wr))
  case atStart => exact Or.inl ⟨0, M0, rfl, HM0.out, rfl, HJ1.out, HK1.out⟩
  case round =>
    rcases hrel with ⟨k, M, rfl, hM, hg, hj, hk⟩ | ⟨rfl, hj⟩
    · have HM : Hid (A[k]? = some M) := hM
      have HG : Hid (gk = A.length - k) := hg
      have HKk : Hid (Blk wr W.heap.size 64 (arr8 M)) := hk
      have HL : Hid (k < A.length) := (List.getElem?_eq_some_iff.1 hM).1
      obtain ⟨fn, tmps, assign, body, hy, hR⟩ := HY.out k M wr hM hj
      obtain ⟨x0, x1, x2, x3, x4, x5, x6, x7⟩ := hk.cells8
      clear hM hg hk hj
      gi_wp2
      refine hR.mono ?_
      rintro e W3 (⟨rfl, hJ3, hO3⟩ | ⟨rfl, hJx3⟩)
      · have HJ3 : Hid (J (k + 1) W3) := hJ3
        have HK3 : Hid (Blk W3 W.heap.size 64 (arr8 M)) := HKk.out.over hO3 (Nat.le_refl _)
        obtain ⟨M', hM'⟩ : ∃ M', M' = afterO M := ⟨_, rfl⟩
        obtain ⟨ok, hok⟩ : ∃ b, b = !(lastTo M 8 == 0) := ⟨_, rfl⟩
        have HAf : Hid (∀ W, Calls Tryz.prog 60 #[.agg #[.int .i64 (M 0), .int .i64 (M 1), .int .i64 (M 2), .int .i64 (M 3), .int .i64 (M 4), .int .i64 (M 5), .int .i64 (M 6), .int .i64 (M 7)]] W fun e w' => e = .returned (.tuple #[.agg #[.int .i64 (M' 0), .int .i64 (M' 1), .int .i64 (M' 2), .int .i64 (M' 3), .int .i64 (M' 4), .int .i64 (M' 5), .int .i64 (M' 6), .int .i64 (M' 7)], .bool ok]) ∧ Below W.heap.size W w') := fun W => by
          rw [hM', hok]; exact after_any M W (HBO.out k M HM.out)
        have HM' : Hid (M' = afterO M) := hM'
        have Hok : Hid (ok = !(lastTo M 8 == 0)) := hok
        clear hJ3 hO3 x0 x1 x2 x3 x4 x5 x6 x7 hy hR hM' hok
        obtain ⟨x0, x1, x2, x3, x4, x5, x6, x7⟩ := HK3.out.cells8
        gi_wp2_with fail
        refine ⟨trivial, ?_⟩
        gi_at_call 60
        refine (callsIn_wide.2 (HAf.out _)).mono ?_
        rintro e W4 ⟨rfl, hb4⟩
        have HK4 : Hid (Blk W4 W.heap.size 64 (arr8 M)) := HK3.out.below hb4
        have HJ4 : Hid (J (k + 1) W4) := HJ.out _ _ _ HJ3.out (hb4.mono (Nat.le_of_lt HK3.out.lt))
        clear hb4 x0 x1 x2 x3 x4 x5 x6 x7
        obtain ⟨x0, x1, x2, x3, x4, x5, x6, x7⟩ := HK4.out.cells8
        obtain ⟨f0, f1, f2, f3, f4, f5, f6, f7⟩ := HK4.out.frozen8
        gi_wp2
        have hJ5 : J (k + 1) (put8 W4 W.heap.size M') := HJ.out _ _ _ HJ4.out (put8_below (Below.refl _ _) (Nat.le_refl _) _)
        rcases HST.out k M HM.out with ⟨h0, M2, hM2, he⟩ | ⟨h0, he⟩
        · gi_roundg (A.length - (k + 1))
          case rel =>
            refine Or.inl ⟨k + 1, M2, ?_, hM2, rfl, hJ5, ?_⟩
            · rw [Hok.out]; simp [h0]
            · have hb := put8_blk HK4.out M'
              have e : arr8 M' = arr8 M2 := arr8_same fun f hf => by rw [HM'.out]; unfold afterO; rw [if_neg h0]; exact he f hf
              rw [e] at hb
              exact hb
          case measure => have := HL.out; rw [HG.out]; omega
        · gi_roundg 0
          case rel => exact Or.inr ⟨by rw [Hok.out, h0]; rfl, by rw [← he]; exact hJ5⟩
          case measure => have := HL.out; rw [HG.out]; omega
      · gi_wp2
        go_end0
        exact ⟨⟨_, rfl⟩, .inr ⟨k, HL.out, hJx3⟩⟩
    · have HJe : Hid (J A.length wr) := hj
      clear hj
      gi_wp2
      refine ⟨fun _ _ => trivial, ?_⟩
      gi_wp2
      go_end0
      exact ⟨⟨_, rfl⟩, .inl HJe.out⟩

theorem Blk.keep {B G : Nat} {W W' : World} {T : TypeId} {cs : Array Value} (h : Blk W G T cs) (hb : Below B W W') (hG : G < B) : Blk W' G T cs := by
  unfold Blk; rw [hb.block G hG]; exact h
theorem Blk.putO {G l : Nat} {W : World} {T : TypeId} {cs : Array Value} (h : Blk W G T cs) (o : Obj) (hl : G ≠ l) : Blk (W.putObj l o) G T cs := by
  unfold Blk; rw [World.putObj_heap_other hl]; exact h

theorem results_two {fn : Func} {p q : Tmp} {ty tz : TypeId} (h : fn.results = #[.cell p ty, .cell q tz]) (tmps : Array Value) (P : Program) (w : World) :
    (results fn tmps).run P w = ((asAddr (tmps.getD p undef)).run P w).andThen fun a w1 => ((loadVar ty a).run P w1).andThen fun v w2 => ((asAddr (tmps.getD q undef)).run P w2).andThen fun b w3 => ((loadVar tz b).run P w3).andThen fun u w4 => .ok (.tuple #[v, u]) w4 := by
  simp only [results, h]
  simp [Sem.run_bind, Result.andThen]
theorem loadI {W : World} {R : Nat} {v : Value} (h : Blk W R 3 #[v]) : (loadVar 3 ⟨R, 0, none⟩).run Tryz.prog W = .ok v W := by
  have hc : W.cell? ⟨R, 0, none⟩ = some v := h.cell 0
  simp [loadVar, Tryz.isAgg3, Result.andThen, hc]
theorem loadE {W : World} {R : Nat} {v : Value} (h : Blk W R 23 #[v]) : (loadVar 23 ⟨R, 0, none⟩).run Tryz.prog W = .ok v W := by
  have hc : W.cell? ⟨R, 0, none⟩ = some v := h.cell 0
  simp [loadVar, Tryz.isAgg23, Result.andThen, hc]
theorem five_new (w : World) (o0 o1 o2 o3 o4 : Obj) :
    (((((w.alloc o0).alloc o1).alloc o2).alloc o3).alloc o4).heap.size = w.heap.size + 5 ∧
    (((((w.alloc o0).alloc o1).alloc o2).alloc o3).alloc o4).heap[w.heap.size]? = some o0 ∧
    (((((w.alloc o0).alloc o1).alloc o2).alloc o3).alloc o4).heap[w.heap.size + 1]? = some o1 ∧
    (((((w.alloc o0).alloc o1).alloc o2).alloc o3).alloc o4).heap[w.heap.size + 1 + 1]? = some o2 ∧
    (((((w.alloc o0).alloc o1).alloc o2).alloc o3).alloc o4).heap[w.heap.size + 1 + 1 + 1]? = some o3 ∧
    (((((w.alloc o0).alloc o1).alloc o2).alloc o3).alloc o4).heap[w.heap.size + 1 + 1 + 1 + 1]? = some o4 ∧
    Below w.heap.size w (((((w.alloc o0).alloc o1).alloc o2).alloc o3).alloc o4) := by
  have s1 : (w.alloc o0).heap.size = w.heap.size + 1 := World.size_alloc _ _
  have s2 : ((w.alloc o0).alloc o1).heap.size = w.heap.size + 1 + 1 := by rw [World.size_alloc, s1]
  have s3 : (((w.alloc o0).alloc o1).alloc o2).heap.size = w.heap.size + 1 + 1 + 1 := by rw [World.size_alloc, s2]
  have s4 : ((((w.alloc o0).alloc o1).alloc o2).alloc o3).heap.size = w.heap.size + 1 + 1 + 1 + 1 := by rw [World.size_alloc, s3]
  refine ⟨by rw [World.size_alloc, s4], ?_, ?_, ?_, ?_, ?_, ?_⟩
  · rw [Below.heap_alloc _ _ _ (by omega), Below.heap_alloc _ _ _ (by omega), Below.heap_alloc _ _ _ (by omega), Below.heap_alloc _ _ _ (by omega)]; exact World.alloc_heap_new _ _
  · rw [Below.heap_alloc _ _ _ (by omega), Below.heap_alloc _ _ _ (by omega), Below.heap_alloc _ _ _ (by omega), ← s1]; exact World.alloc_heap_new _ _
  · rw [Below.heap_alloc _ _ _ (by omega), Below.heap_alloc _ _ _ (by omega), ← s2]; exact World.alloc_heap_new _ _
  · rw [Below.heap_alloc _ _ _ (by omega), ← s3]; exact World.alloc_heap_new _ _
  · rw [← s4]; exact World.alloc_heap_new _ _
  · exact (((((Below.refl _ w).alloc (Nat.le_refl _) _).alloc (by omega) _).alloc (by omega) _).alloc (by omega) _).alloc (by omega) _
end Go.Proofs.YtpdpnlpepfgknafGreatDoor

namespace Go.Proofs.YtpdpnlpepfgknafGreatDoor
open Go.ChangeShapes Go.WideShapes Go.ChangeAt Go.RowKit
set_option maxRecDepth 100000

/-- a row lies at a place. -/
def RowAt (w : World) (b off : Nat) (r : Rw) : Prop := w.cell? ⟨b, off, none⟩ = some (.int .i64 (r.t 0)) ∧ w.cell? ⟨b, off + 1, none⟩ = some (.int .i64 (r.t 1)) ∧ w.cell? ⟨b, off + 2, none⟩ = some (.int .i64 (r.t 2)) ∧ w.cell? ⟨b, off + 3, none⟩ = some (.int .i64 (r.t 3)) ∧ w.cell? ⟨b, off + 4, none⟩ = some (.int .i64 (r.t 4)) ∧ w.cell? ⟨b, off + 5, none⟩ = some (.int .i64 (r.t 5)) ∧ w.cell? ⟨b, off + 6, none⟩ = some (.int .i64 (r.t 6)) ∧ w.cell? ⟨b, off + 7, none⟩ = some (.int .i64 (r.t 7)) ∧ w.cell? ⟨b, off + 8, none⟩ = some (.int .i64 r.m)
/-- the slice v reads, in the world w, as these rows. -/
def ReadsR (w : World) (v : Value) (l : List Rw) : Prop :=
  (∃ ao cap, v = .slice ao 0 cap ∧ l = []) ∨ (∃ b off cap, v = .slice (some ⟨b, off, none⟩) l.length cap ∧ b < w.heap.size ∧ 0 < l.length ∧ (l.length ≤ 9223372036854775807 ∧ l.length ≤ cap) ∧ ∀ i r, l[i]? = some r → RowAt w b (off + i * 9) r)
theorem RowAt.below {w w' : World} {b off : Nat} {r : Rw} (h : RowAt w b off r) (hB : b < w.heap.size) (hb : Below w.heap.size w w') : RowAt w' b off r := by
  obtain ⟨h0, h1, h2, h3, h4, h5, h6, h7, h8⟩ := h
  exact ⟨by rw [hb.cell hB]; exact h0, by rw [hb.cell hB]; exact h1, by rw [hb.cell hB]; exact h2, by rw [hb.cell hB]; exact h3, by rw [hb.cell hB]; exact h4, by rw [hb.cell hB]; exact h5, by rw [hb.cell hB]; exact h6, by rw [hb.cell hB]; exact h7, by rw [hb.cell hB]; exact h8⟩
theorem ReadsR.below {w w' : World} {v : Value} {l : List Rw} (h : ReadsR w v l) (hb : Below w.heap.size w w') : ReadsR w' v l := by
  rcases h with h | ⟨b, off, cap, h1, h2, h3, h4, h5⟩
  · exact Or.inl h
  · exact Or.inr ⟨b, off, cap, h1, Nat.lt_of_lt_of_le h2 hb.size, h3, h4, fun i a ha => (h5 i a ha).below h2 hb⟩
theorem ReadsR.slice {w : World} {v : Value} {l : List Rw} (h : ReadsR w v l) : ∃ ao cap, v = .slice ao l.length cap ∧ l.length ≤ 9223372036854775807 := by
  rcases h with ⟨ao, cap, rfl, rfl⟩ | ⟨b, off, cap, rfl, _, _, h, _⟩
  · exact ⟨ao, cap, rfl, by decide⟩
  · exact ⟨_, cap, rfl, h.1⟩
theorem getD_row {l : List Rw} {k : Nat} (hk : k < l.length) (d : Rw) : l.getD k d = l[k] := by rw [List.getD_eq_getElem?_getD, List.getElem?_eq_getElem hk]; rfl

theorem noneR (a : Option Addr) (cap : Nat) (fv : Value) (w : World) :
    Calls Tryz.prog 100 #[.slice a 0 cap, fv] w fun e w' => e = .returned (.bool false) ∧ Below w.heap.size w w' := by
  have c : Calls Tryz.prog 116 #[.slice a 0 cap, fv] w fun e w' => e = .returned (.int .i64 (-1)) ∧ w = w' := by
    go_enter Tryz.func116, Tryz.ntmps116
    go_wp2
    go_loopw [5, 8] (fun _ i wr => i = .int .i64 0 ∧ w = wr) (fun _ _ _ => 0)
    case atStart => exact ⟨rfl, rfl⟩
    case round =>
      obtain ⟨rfl, rfl⟩ := hrel
      go_wp2
      go_ret
      exact ⟨rfl, rfl⟩
  go_enter Tryz.func100, Tryz.ntmps100
  go_wp2_with (go_at_call 116; refine c.mono ?_; rintro e w' ⟨rfl, rfl⟩)
  go_ret
  exact ⟨rfl, Below.refl _ _⟩

set_option maxHeartbeats 4000000 in
theorem idxR (n b off cap g : Nat) (us : Nat → Rw) (p : Nat → Bool) (w : World) (hl : n ≤ 9223372036854775807) (hB : b < w.heap.size) (hc : ∀ k, k < n → RowAt w b (off + k * 9) (us k))
    (eg : ∀ args w, (callFunc g args).run Tryz.prog w = .ok (.enter g args) w)
    (hp : ∀ W k, Below w.heap.size w W → k < n → Calls Tryz.prog g #[.agg #[.int .i64 ((us k).t 0), .int .i64 ((us k).t 1), .int .i64 ((us k).t 2), .int .i64 ((us k).t 3), .int .i64 ((us k).t 4), .int .i64 ((us k).t 5), .int .i64 ((us k).t 6), .int .i64 ((us k).t 7), .int .i64 (us k).m]] W fun e w' => e = .returned (.bool (p k)) ∧ Below W.heap.size W w') :
    Calls Tryz.prog 116 #[.slice (some ⟨b, off, none⟩) n cap, .func (.func g) #[] #[]] w fun e w' => (∃ r : Int, e = .returned (.int .i64 r) ∧ (0 ≤ r ↔ ∃ k, k < n ∧ p k = true)) ∧ Below w.heap.size w w' := by
  have HC : Hid (∀ W k, Below w.heap.size w W → k < n → RowAt W b (off + k * 9) (us k)) := fun W k hW hk => (hc k hk).below hB hW
  have HP : Hid (∀ W k, Below w.heap.size w W → k < n → Calls Tryz.prog g #[.agg #[.int .i64 ((us k).t 0), .int .i64 ((us k).t 1), .int .i64 ((us k).t 2), .int .i64 ((us k).t 3), .int .i64 ((us k).t 4), .int .i64 ((us k).t 5), .int .i64 ((us k).t 6), .int .i64 ((us k).t 7), .int .i64 (us k).m]] W fun e w' => e = .returned (.bool (p k)) ∧ Below W.heap.size W w') := hp
  clear hc hp hB
  go_enter Tryz.func116, Tryz.ntmps116
  go_wp2
  go_loopw [5, 8] (fun _ i wr => ∃ k : Nat, k ≤ n ∧ i = .int .i64 k ∧ Below w.heap.size w wr ∧ Hid (∀ j, j < k → p j = false)) (fun _ i _ => n - (intOf i).toNat)
  case atStart => exact ⟨0, Nat.zero_le _, rfl, Below.refl _ _, fun j hj => absurd hj (Nat.not_lt_zero _)⟩
  case round =>
    obtain ⟨k, hk, rfl, hb0, A⟩ := hrel
    have HB : Hid (Below w.heap.size w wr) := hb0
    clear hb0
    by_cases hlt : k < n
    · have hcell := HC.out wr k HB.out hlt
      have hcall := HP.out wr k HB.out hlt
      unfold RowAt at hcell
      obtain ⟨T, hT⟩ : ∃ x, x = (us k).t := ⟨_, rfl⟩
      obtain ⟨m, hm⟩ : ∃ x, x = (us k).m := ⟨_, rfl⟩
      rw [← hT, ← hm] at hcell hcall
      clear hT hm
      obtain ⟨c0, c1, c2, c3, c4, c5, c6, c7, c8⟩ := hcell
      have hltz : (k : Int) < (n : Int) := by omega
      cases hq : p k with
      | true =>
        rw [hq] at hcall
        have HQ : Hid (p k = true) := hq
        have HCl : Hid (Calls Tryz.prog g #[.agg #[.int .i64 (T 0), .int .i64 (T 1), .int .i64 (T 2), .int .i64 (T 3), .int .i64 (T 4), .int .i64 (T 5), .int .i64 (T 6), .int .i64 (T 7), .int .i64 m]] wr fun e w' => e = .returned (.bool true) ∧ Below wr.heap.size wr w') := hcall
        clear hcall hq
        go_wp2_with (go_at_fn g; refine HCl.out.mono ?_; rintro e w' ⟨rfl, hb'⟩; have HB' : Hid (Below w.heap.size w w') := HB.out.trans (hb'.mono HB.out.size); clear hb')
        go_ret
        exact ⟨⟨_, rfl, fun _ => ⟨k, hlt, HQ.out⟩, fun _ => by omega⟩, HB'.out⟩
      | false =>
        rw [hq] at hcall
        have HQ : Hid (p k = false) := hq
        have HCl : Hid (Calls Tryz.prog g #[.agg #[.int .i64 (T 0), .int .i64 (T 1), .int .i64 (T 2), .int .i64 (T 3), .int .i64 (T 4), .int .i64 (T 5), .int .i64 (T 6), .int .i64 (T 7), .int .i64 m]] wr fun e w' => e = .returned (.bool false) ∧ Below wr.heap.size wr w') := hcall
        clear hcall hq
        go_wp2_with (go_at_fn g; refine HCl.out.mono ?_; rintro e w' ⟨rfl, hb'⟩; have HB' : Hid (Below w.heap.size w w') := HB.out.trans (hb'.mono HB.out.size); clear hb')
        go_roundw
        case rel =>
          refine ⟨k + 1, by omega, by go_num, HB'.out, fun j hj => ?_⟩
          by_cases e : j = k
          · rw [e]; exact HQ.out
          · exact A.out j (by omega)
        case measure => simp [intOf]; omega
    · have hltz : ¬ (k : Int) < (n : Int) := by omega
      go_wp2
      go_ret
      refine ⟨⟨_, rfl, fun h => absurd h (by decide), fun ⟨j, hj, hpj⟩ => ?_⟩, HB.out⟩
      rw [A.out j (by omega)] at hpj; cases hpj

set_option maxHeartbeats 2000000 in
theorem someR (n b off cap g : Nat) (us : Nat → Rw) (p : Nat → Bool) (w : World) (hl : n ≤ 9223372036854775807) (hB : b < w.heap.size) (hc : ∀ k, k < n → RowAt w b (off + k * 9) (us k))
    (eg : ∀ args w, (callFunc g args).run Tryz.prog w = .ok (.enter g args) w)
    (hp : ∀ W k, Below w.heap.size w W → k < n → Calls Tryz.prog g #[.agg #[.int .i64 ((us k).t 0), .int .i64 ((us k).t 1), .int .i64 ((us k).t 2), .int .i64 ((us k).t 3), .int .i64 ((us k).t 4), .int .i64 ((us k).t 5), .int .i64 ((us k).t 6), .int .i64 ((us k).t 7), .int .i64 (us k).m]] W fun e w' => e = .returned (.bool (p k)) ∧ Below W.heap.size W w') (R : Bool) (hR : R = true ↔ ∃ k, k < n ∧ p k = true) :
    Calls Tryz.prog 100 #[.slice (some ⟨b, off, none⟩) n cap, .func (.func g) #[] #[]] w fun e w' => e = .returned (.bool R) ∧ Below w.heap.size w w' := by
  have c := idxR n b off cap g us p w hl hB hc eg hp
  clear hc hp eg hB hl
  go_enter Tryz.func100, Tryz.ntmps100
  go_wp2_with fail
  go_at_call 116
  refine c.mono ?_
  rintro e w' ⟨⟨r, rfl, hr⟩, hb⟩
  have HB : Hid (Below w.heap.size w w') := hb
  have HR : Hid (R = decide (0 ≤ r)) := by
    unfold Hid
    rw [Bool.eq_iff_iff, hR, decide_eq_true_eq, hr]
  clear hb hr hR c
  go_wp2
  go_ret
  exact ⟨back_b HR.out.symm, HB.out⟩
/-- slices.ContainsFunc of rows. -/
theorem anyR (l : List Rw) (v : Value) (g : Nat) (p : Rw → Bool) (w : World) (hv : ReadsR w v l) (eg : ∀ args w, (callFunc g args).run Tryz.prog w = .ok (.enter g args) w)
    (hp : ∀ W r, Below w.heap.size w W → r ∈ l → Calls Tryz.prog g #[.agg #[.int .i64 (r.t 0), .int .i64 (r.t 1), .int .i64 (r.t 2), .int .i64 (r.t 3), .int .i64 (r.t 4), .int .i64 (r.t 5), .int .i64 (r.t 6), .int .i64 (r.t 7), .int .i64 r.m]] W fun e w' => e = .returned (.bool (p r)) ∧ Below W.heap.size W w') :
    Calls Tryz.prog 100 #[v, .func (.func g) #[] #[]] w fun e w' => e = .returned (.bool (l.any p)) ∧ Below w.heap.size w w' := by
  rcases hv with ⟨ao, cap, rfl, rfl⟩ | ⟨b, off, cap, rfl, hB, h0, ⟨hl, _⟩, hc⟩
  · exact noneR ao cap _ w
  · refine someR l.length b off cap g (fun k => l.getD k ⟨fun _ => 0, 0⟩) (fun k => p (l.getD k ⟨fun _ => 0, 0⟩)) w hl hB (fun k hk => ?_) eg (fun W k hW hk => ?_) _ ?_
    · rw [getD_row hk]; exact hc k _ (List.getElem?_eq_getElem hk)
    · rw [getD_row hk]; exact hp W _ hW (List.getElem_mem hk)
    · rw [List.any_eq_true]
      constructor
      · rintro ⟨m, hm, hpm⟩
        obtain ⟨k, hk, rfl⟩ := List.getElem_of_mem hm
        exact ⟨k, hk, by rw [getD_row hk]; exact hpm⟩
      · rintro ⟨k, hk, hpk⟩
        rw [getD_row hk] at hpk
        exact ⟨l[k], List.getElem_mem hk, hpk⟩

set_option maxHeartbeats 4000000 in
theorem idxP (n b off cap P g : Nat) (us : Nat → Rw) (p : Nat → Bool) (w : World) (hl : n ≤ 9223372036854775807) (hB : b < w.heap.size) (hc : ∀ k, k < n → RowAt w b (off + k * 9) (us k))
    (eg : ∀ args w, (callFunc g args).run Tryz.prog w = .ok (.enter g args) w)
    (hp : ∀ W k, Below w.heap.size w W → k < n → Calls Tryz.prog g #[.agg #[.int .i64 ((us k).t 0), .int .i64 ((us k).t 1), .int .i64 ((us k).t 2), .int .i64 ((us k).t 3), .int .i64 ((us k).t 4), .int .i64 ((us k).t 5), .int .i64 ((us k).t 6), .int .i64 ((us k).t 7), .int .i64 (us k).m], .pointer (some ⟨P, 0, none⟩)] W fun e w' => e = .returned (.bool (p k)) ∧ Below W.heap.size W w') :
    Calls Tryz.prog 116 #[.slice (some ⟨b, off, none⟩) n cap, .func (.func g) #[] #[.pointer (some ⟨P, 0, none⟩)]] w fun e w' => (∃ r : Int, e = .returned (.int .i64 r) ∧ (0 ≤ r ↔ ∃ k, k < n ∧ p k = true)) ∧ Below w.heap.size w w' := by
  have HC : Hid (∀ W k, Below w.heap.size w W → k < n → RowAt W b (off + k * 9) (us k)) := fun W k hW hk => (hc k hk).below hB hW
  have HP : Hid (∀ W k, Below w.heap.size w W → k < n → Calls Tryz.prog g #[.agg #[.int .i64 ((us k).t 0), .int .i64 ((us k).t 1), .int .i64 ((us k).t 2), .int .i64 ((us k).t 3), .int .i64 ((us k).t 4), .int .i64 ((us k).t 5), .int .i64 ((us k).t 6), .int .i64 ((us k).t 7), .int .i64 (us k).m], .pointer (some ⟨P, 0, none⟩)] W fun e w' => e = .returned (.bool (p k)) ∧ Below W.heap.size W w') := hp
  clear hc hp hB
  go_enter Tryz.func116, Tryz.ntmps116
  go_wp2
  go_loopw [5, 8] (fun _ i wr => ∃ k : Nat, k ≤ n ∧ i = .int .i64 k ∧ Below w.heap.size w wr ∧ Hid (∀ j, j < k → p j = false)) (fun _ i _ => n - (intOf i).toNat)
  case atStart => exact ⟨0, Nat.zero_le _, rfl, Below.refl _ _, fun j hj => absurd hj (Nat.not_lt_zero _)⟩
  case round =>
    obtain ⟨k, hk, rfl, hb0, A⟩ := hrel
    have HB : Hid (Below w.heap.size w wr) := hb0
    clear hb0
    by_cases hlt : k < n
    · have hcell := HC.out wr k HB.out hlt
      have hcall := HP.out wr k HB.out hlt
      unfold RowAt at hcell
      obtain ⟨T, hT⟩ : ∃ x, x = (us k).t := ⟨_, rfl⟩
      obtain ⟨m, hm⟩ : ∃ x, x = (us k).m := ⟨_, rfl⟩
      rw [← hT, ← hm] at hcell hcall
      clear hT hm
      obtain ⟨c0, c1, c2, c3, c4, c5, c6, c7, c8⟩ := hcell
      have hltz : (k : Int) < (n : Int) := by omega
      cases hq : p k with
      | true =>
        rw [hq] at hcall
        have HQ : Hid (p k = true) := hq
        have HCl : Hid (Calls Tryz.prog g #[.agg #[.int .i64 (T 0), .int .i64 (T 1), .int .i64 (T 2), .int .i64 (T 3), .int .i64 (T 4), .int .i64 (T 5), .int .i64 (T 6), .int .i64 (T 7), .int .i64 m], .pointer (some ⟨P, 0, none⟩)] wr fun e w' => e = .returned (.bool true) ∧ Below wr.heap.size wr w') := hcall
        clear hcall hq
        go_wp2_with (go_at_fn g; refine HCl.out.mono ?_; rintro e w' ⟨rfl, hb'⟩; have HB' : Hid (Below w.heap.size w w') := HB.out.trans (hb'.mono HB.out.size); clear hb')
        go_ret
        exact ⟨⟨_, rfl, fun _ => ⟨k, hlt, HQ.out⟩, fun _ => by omega⟩, HB'.out⟩
      | false =>
        rw [hq] at hcall
        have HQ : Hid (p k = false) := hq
        have HCl : Hid (Calls Tryz.prog g #[.agg #[.int .i64 (T 0), .int .i64 (T 1), .int .i64 (T 2), .int .i64 (T 3), .int .i64 (T 4), .int .i64 (T 5), .int .i64 (T 6), .int .i64 (T 7), .int .i64 m], .pointer (some ⟨P, 0, none⟩)] wr fun e w' => e = .returned (.bool false) ∧ Below wr.heap.size wr w') := hcall
        clear hcall hq
        go_wp2_with (go_at_fn g; refine HCl.out.mono ?_; rintro e w' ⟨rfl, hb'⟩; have HB' : Hid (Below w.heap.size w w') := HB.out.trans (hb'.mono HB.out.size); clear hb')
        go_roundw
        case rel =>
          refine ⟨k + 1, by omega, by go_num, HB'.out, fun j hj => ?_⟩
          by_cases e : j = k
          · rw [e]; exact HQ.out
          · exact A.out j (by omega)
        case measure => simp [intOf]; omega
    · have hltz : ¬ (k : Int) < (n : Int) := by omega
      go_wp2
      go_ret
      refine ⟨⟨_, rfl, fun h => absurd h (by decide), fun ⟨j, hj, hpj⟩ => ?_⟩, HB.out⟩
      rw [A.out j (by omega)] at hpj; cases hpj

set_option maxHeartbeats 2000000 in
theorem someP (n b off cap P g : Nat) (us : Nat → Rw) (p : Nat → Bool) (w : World) (hl : n ≤ 9223372036854775807) (hB : b < w.heap.size) (hc : ∀ k, k < n → RowAt w b (off + k * 9) (us k))
    (eg : ∀ args w, (callFunc g args).run Tryz.prog w = .ok (.enter g args) w)
    (hp : ∀ W k, Below w.heap.size w W → k < n → Calls Tryz.prog g #[.agg #[.int .i64 ((us k).t 0), .int .i64 ((us k).t 1), .int .i64 ((us k).t 2), .int .i64 ((us k).t 3), .int .i64 ((us k).t 4), .int .i64 ((us k).t 5), .int .i64 ((us k).t 6), .int .i64 ((us k).t 7), .int .i64 (us k).m], .pointer (some ⟨P, 0, none⟩)] W fun e w' => e = .returned (.bool (p k)) ∧ Below W.heap.size W w') (R : Bool) (hR : R = true ↔ ∃ k, k < n ∧ p k = true) :
    Calls Tryz.prog 100 #[.slice (some ⟨b, off, none⟩) n cap, .func (.func g) #[] #[.pointer (some ⟨P, 0, none⟩)]] w fun e w' => e = .returned (.bool R) ∧ Below w.heap.size w w' := by
  have c := idxP n b off cap P g us p w hl hB hc eg hp
  clear hc hp eg hB hl
  go_enter Tryz.func100, Tryz.ntmps100
  go_wp2_with fail
  go_at_call 116
  refine c.mono ?_
  rintro e w' ⟨⟨r, rfl, hr⟩, hb⟩
  have HB : Hid (Below w.heap.size w w') := hb
  have HR : Hid (R = decide (0 ≤ r)) := by
    unfold Hid
    rw [Bool.eq_iff_iff, hR, decide_eq_true_eq, hr]
  clear hb hr hR c
  go_wp2
  go_ret
  exact ⟨back_b HR.out.symm, HB.out⟩
/-- slices.ContainsFunc of rows. -/
theorem anyP (l : List Rw) (v : Value) (P g : Nat) (p : Rw → Bool) (w : World) (hv : ReadsR w v l) (eg : ∀ args w, (callFunc g args).run Tryz.prog w = .ok (.enter g args) w)
    (hp : ∀ W r, Below w.heap.size w W → r ∈ l → Calls Tryz.prog g #[.agg #[.int .i64 (r.t 0), .int .i64 (r.t 1), .int .i64 (r.t 2), .int .i64 (r.t 3), .int .i64 (r.t 4), .int .i64 (r.t 5), .int .i64 (r.t 6), .int .i64 (r.t 7), .int .i64 r.m], .pointer (some ⟨P, 0, none⟩)] W fun e w' => e = .returned (.bool (p r)) ∧ Below W.heap.size W w') :
    Calls Tryz.prog 100 #[v, .func (.func g) #[] #[.pointer (some ⟨P, 0, none⟩)]] w fun e w' => e = .returned (.bool (l.any p)) ∧ Below w.heap.size w w' := by
  rcases hv with ⟨ao, cap, rfl, rfl⟩ | ⟨b, off, cap, rfl, hB, h0, ⟨hl, _⟩, hc⟩
  · exact noneR ao cap _ w
  · refine someP l.length b off cap P g (fun k => l.getD k ⟨fun _ => 0, 0⟩) (fun k => p (l.getD k ⟨fun _ => 0, 0⟩)) w hl hB (fun k hk => ?_) eg (fun W k hW hk => ?_) _ ?_
    · rw [getD_row hk]; exact hc k _ (List.getElem?_eq_getElem hk)
    · rw [getD_row hk]; exact hp W _ hW (List.getElem_mem hk)
    · rw [List.any_eq_true]
      constructor
      · rintro ⟨m, hm, hpm⟩
        obtain ⟨k, hk, rfl⟩ := List.getElem_of_mem hm
        exact ⟨k, hk, by rw [getD_row hk]; exact hpm⟩
      · rintro ⟨k, hk, hpk⟩
        rw [getD_row hk] at hpk
        exact ⟨l[k], List.getElem_mem hk, hpk⟩
end Go.Proofs.YtpdpnlpepfgknafGreatDoor

namespace Go.Proofs.YtpdpnlpepfgknafGreatDoor
open Go.ChangeShapes Go.WideShapes Go.ChangeAt Go.RowKit

set_option maxRecDepth 100000 in
set_option maxHeartbeats 4000000 in
theorem fcounts_any (N : Nat → Int) (w : World) :
    Calls Tryz.prog 83 #[.agg #[.int .i64 (N 0), .int .i64 (N 1), .int .i64 (N 2), .int .i64 (N 3), .int .i64 (N 4), .int .i64 (N 5), .int .i64 (N 6), .int .i64 (N 7)]] w fun e w' => e = .returned (errV (countsFault N)) ∧ Below w.heap.size w w' := by
  obtain ⟨w1, hw1⟩ : ∃ w1, w1 = w.alloc (.cells #[.int .i64 (N 0), .int .i64 (N 1), .int .i64 (N 2), .int .i64 (N 3), .int .i64 (N 4), .int .i64 (N 5), .int .i64 (N 6), .int .i64 (N 7)] 64) := ⟨_, rfl⟩
  have HW : Hid (Below w.heap.size w w1) := by unfold Hid; rw [hw1]; exact below_alloc1 _ _
  have HX : Hid (∀ k, k < 8 → w1.cell? ⟨w.heap.size, k, none⟩ = some (.int .i64 (N k))) := fun k hk => by
    rw [hw1]
    rcases eight hk with rfl | rfl | rfl | rfl | rfl | rfl | rfl | rfl <;> simp
  obtain ⟨F, hF⟩ : ∃ F, F = countsFault N := ⟨_, rfl⟩
  have HF1 : Hid (∀ k, k < 8 → ¬ (0 ≤ N k ∧ N k ≤ 6) → errV F = .iface 61 (.int .i64 1)) := fun k hk h => by
    rw [hF]; unfold countsFault; rw [if_neg (by rw [eachB_no hk h]; decide)]; rfl
  have HF2 : Hid ((∀ f, f < 8 → 0 ≤ N f ∧ N f ≤ 6) → (sumN N 8 ≤ 6 → errV F = .nilIface) ∧ (6 < sumN N 8 → errV F = .iface 61 (.int .i64 4))) := fun h => by
    rw [hF]; unfold countsFault; rw [if_pos (eachB_iff.2 h)]
    exact ⟨fun h' => by rw [if_pos h']; rfl, fun h' => by rw [if_neg (by omega)]; rfl⟩
  rw [← hF]
  clear hF
  go_enter Tryz.func83, Tryz.ntmps83
  go_wp2
  rw [← hw1]
  clear hw1
  go_loop [6] (fun i => ∃ k : Nat, k ≤ 8 ∧ i = .int .i64 k ∧ ∀ f, f < k → 0 ≤ N f ∧ N f ≤ 6) (fun i => 8 - (intOf i).toNat)
  case atStart => exact ⟨0, Nat.zero_le _, rfl, fun f hf => by omega⟩
  case round =>
    obtain ⟨k, hk, rfl, hall⟩ := hrel
    have HA : Hid (∀ f, f < k → 0 ≤ N f ∧ N f ≤ 6) := hall
    clear hall
    by_cases hlt : k < 8
    · have hc := HX.out k hlt
      obtain ⟨x, hx⟩ : ∃ x, x = N k := ⟨_, rfl⟩
      rw [← hx] at hc
      have HXk : Hid (x = N k) := hx
      clear hx
      by_cases h0 : x < 0
      · have HE : Hid (errV F = .iface 61 (.int .i64 1)) := HF1.out k hlt (by rw [← HXk.out]; omega)
        go_wp2
        go_ret
        exact ⟨back_v HE.out.symm, HW.out⟩
      by_cases h6 : 6 < x
      · have HE : Hid (errV F = .iface 61 (.int .i64 1)) := HF1.out k hlt (by rw [← HXk.out]; omega)
        go_wp2
        go_ret
        exact ⟨back_v HE.out.symm, HW.out⟩
      · have HN : Hid (∀ f, f < k + 1 → 0 ≤ N f ∧ N f ≤ 6) := fun f hf => by
          rcases Nat.lt_or_ge f k with h' | h'
          · exact HA.out f h'
          · obtain rfl : f = k := by omega
            rw [← HXk.out]; omega
        go_wp2
        go_round
        case rel => exact ⟨k + 1, by omega, by go_num, HN.out⟩
        case measure => simp [intOf]; omega
    · obtain rfl : k = 8 := by omega
      go_wp2
      go_loop [4, 21] (fun s i => ∃ k : Nat, k ≤ 8 ∧ i = .int .i64 k ∧ s = .int .i64 (sumN N k)) (fun _ i => 8 - (intOf i).toNat)
      case atStart => exact ⟨0, Nat.zero_le _, rfl, rfl⟩
      case round =>
        obtain ⟨k, hk, rfl, rfl⟩ := hrel
        by_cases hlt2 : k < 8
        · have hc := HX.out k hlt2
          have p1 := sumN_le (N := N) (k := k) fun f hf => HA.out f (by omega)
          have p2 := HA.out k (by omega)
          have HS : Hid (sumN N (k + 1) = sumN N k + N k) := rfl
          go_wp2
          go_round
          case rel => exact ⟨k + 1, by omega, by go_num, by rw [HS.out]⟩
          case measure => simp [intOf]; omega
        · obtain rfl : k = 8 := by omega
          by_cases h6 : sumN N 8 ≤ 6
          · have HE : Hid (errV F = .nilIface) := (HF2.out HA.out).1 h6
            go_wp2
            go_ret
            exact ⟨back_v HE.out.symm, HW.out⟩
          · have h6' : 6 < sumN N 8 := by omega
            have HE : Hid (errV F = .iface 61 (.int .i64 4)) := (HF2.out HA.out).2 h6'
            go_wp2
            go_ret
            exact ⟨back_v HE.out.symm, HW.out⟩
end Go.Proofs.YtpdpnlpepfgknafGreatDoor

namespace Go.Proofs.YtpdpnlpepfgknafGreatDoor
open Go.ChangeShapes Go.WideShapes Go.ChangeAt Go.RowKit

/-- the world of so many in each field; the empty one, if the counts are wrong. -/
def madeW (N : Nat → Int) : Wd := if countsFault N = 0 then madeN N 8 else ⟨0, 0, 0, 0⟩

theorem with_more (D : Wd) (f : Nat) (hok : D.ok = true) (h5 : D.u ≤ 5) (hf : f < 8) (w : World) :
    Calls Tryz.prog 84 #[.agg #[.int .i64 D.u, .int .i64 D.a, .int .i64 D.b, .int .i64 D.c], .int .i64 f] w fun e w' => e = .returned (.agg #[.int .i64 (D.more f).u, .int .i64 (D.more f).a, .int .i64 (D.more f).b, .int .i64 (D.more f).c]) ∧ Below w.heap.size w w' := by
  obtain ⟨u, a, b, c⟩ := D
  obtain ⟨n, rfl⟩ := Int.eq_ofNat_of_zero_le (show 0 ≤ u from (ok_u hok).1)
  exact with_field n a b c f hok (by simp only at h5; omega) hf w

set_option maxRecDepth 100000 in
set_option maxHeartbeats 4000000 in
theorem fworld_wrong (N : Nat → Int) (w : World) (hf : ¬ countsFault N = 0) :
    Calls Tryz.prog 61 #[.agg #[.int .i64 (N 0), .int .i64 (N 1), .int .i64 (N 2), .int .i64 (N 3), .int .i64 (N 4), .int .i64 (N 5), .int .i64 (N 6), .int .i64 (N 7)]] w fun e w' => e = .returned (.tuple #[.agg #[.int .i64 0, .int .i64 0, .int .i64 0, .int .i64 0], .iface 61 (.int .i64 (countsFault N))]) ∧ Below w.heap.size w w' := by
  obtain ⟨w1, hw1⟩ : ∃ w1, w1 = (w.alloc (.cells #[.int .i64 (N 0), .int .i64 (N 1), .int .i64 (N 2), .int .i64 (N 3), .int .i64 (N 4), .int .i64 (N 5), .int .i64 (N 6), .int .i64 (N 7)] 64)).alloc (.cells #[.int .i64 0, .int .i64 0, .int .i64 0, .int .i64 0] 37) := ⟨_, rfl⟩
  have HW : Hid (Below w.heap.size w w1) := by unfold Hid; rw [hw1]; exact (below_alloc1 _ _).alloc (by simp) _
  have HK0 : Hid (Blk w1 w.heap.size 64 (arr8 N)) := by unfold Hid; rw [hw1]; exact (Blk.new _ _ _).old _
  have HK1 : Hid (Blk w1 (w.heap.size + 1) 37 (arrW ⟨0, 0, 0, 0⟩)) := by
    unfold Hid; rw [hw1]
    have := Blk.new (w.alloc (.cells (arr8 N) 64)) 37 (arrW ⟨0, 0, 0, 0⟩)
    simp only [World.size_alloc] at this
    exact this
  have HC : Hid (Calls Tryz.prog 83 #[.agg #[.int .i64 (N 0), .int .i64 (N 1), .int .i64 (N 2), .int .i64 (N 3), .int .i64 (N 4), .int .i64 (N 5), .int .i64 (N 6), .int .i64 (N 7)]] w1 fun e w' => e = .returned (.iface 61 (.int .i64 (countsFault N))) ∧ Below w1.heap.size w1 w') := by
    have := fcounts_any N w1
    unfold errV at this
    rw [if_neg hf] at this
    exact this
  obtain ⟨F, hF⟩ : ∃ F, F = countsFault N := ⟨_, rfl⟩
  rw [← hF] at HC ⊢
  clear hF hf
  obtain ⟨x0, x1, x2, x3, x4, x5, x6, x7⟩ := HK0.out.cells8
  go_enter Tryz.func61, Tryz.ntmps61
  go_wp2_with fail
  rw [← hw1]
  clear hw1
  go_wp2_with fail
  go_at_call 83
  refine HC.out.mono ?_
  rintro e w2 ⟨rfl, hb⟩
  have HB : Hid (Below w.heap.size w w2) := HW.out.trans (hb.mono HW.out.size)
  have HR : Hid (Blk w2 (w.heap.size + 1) 37 (arrW ⟨0, 0, 0, 0⟩)) := HK1.out.below hb
  clear hb x0 x1 x2 x3 x4 x5 x6 x7
  have r0 : w2.cell? ⟨w.heap.size + 1, 0, none⟩ = some (.int .i64 0) := HR.out.cell 0
  have r1 : w2.cell? ⟨w.heap.size + 1, 1, none⟩ = some (.int .i64 0) := HR.out.cell 1
  have r2 : w2.cell? ⟨w.heap.size + 1, 2, none⟩ = some (.int .i64 0) := HR.out.cell 2
  have r3 : w2.cell? ⟨w.heap.size + 1, 3, none⟩ = some (.int .i64 0) := HR.out.cell 3
  obtain ⟨f0, f1, f2, f3⟩ := HR.out.frozen4
  go_wp2
  have hld := loadW (putW_blk HR.out ⟨0, 0, 0, 0⟩)
  refine bodyPost_ret (v := .tuple #[.agg #[.int .i64 0, .int .i64 0, .int .i64 0, .int .i64 0], .iface 61 (.int .i64 F)]) ?_ rfl ⟨rfl, ?_⟩
  · rw [results_cell_tmp rfl]
    unfold putW arrW at hld
    simp only at hld
    simp [asAddr, Result.andThen, hld]
  · exact putW_below HB.out (by omega) ⟨0, 0, 0, 0⟩

set_option maxRecDepth 100000 in
set_option maxHeartbeats 4000000 in
theorem fworld_right (N : Nat → Int) (w : World) (hf : countsFault N = 0) :
    Calls Tryz.prog 61 #[.agg #[.int .i64 (N 0), .int .i64 (N 1), .int .i64 (N 2), .int .i64 (N 3), .int .i64 (N 4), .int .i64 (N 5), .int .i64 (N 6), .int .i64 (N 7)]] w fun e w' => e = .returned (.tuple #[.agg (arrW (madeN N 8)), .nilIface]) ∧ Below w.heap.size w w' := by
  obtain ⟨Z, hZ⟩ : ∃ Z : Wd, Z = ⟨0, 0, 0, 0⟩ := ⟨_, rfl⟩
  obtain ⟨w1, hw1⟩ : ∃ w1, w1 = (w.alloc (.cells #[.int .i64 (N 0), .int .i64 (N 1), .int .i64 (N 2), .int .i64 (N 3), .int .i64 (N 4), .int .i64 (N 5), .int .i64 (N 6), .int .i64 (N 7)] 64)).alloc (.cells #[.int .i64 0, .int .i64 0, .int .i64 0, .int .i64 0] 37) := ⟨_, rfl⟩
  have HW : Hid (Below w.heap.size w w1) := by unfold Hid; rw [hw1]; exact (below_alloc1 _ _).alloc (by simp) _
  have HK0 : Hid (Blk w1 w.heap.size 64 (arr8 N)) := by unfold Hid; rw [hw1]; exact (Blk.new _ _ _).old _
  have HK1 : Hid (Blk w1 (w.heap.size + 1) 37 (arrW Z)) := by
    unfold Hid; rw [hw1, hZ]
    have := Blk.new (w.alloc (.cells (arr8 N) 64)) 37 (arrW ⟨0, 0, 0, 0⟩)
    simp only [World.size_alloc] at this
    exact this
  have HC : Hid (Calls Tryz.prog 83 #[.agg #[.int .i64 (N 0), .int .i64 (N 1), .int .i64 (N 2), .int .i64 (N 3), .int .i64 (N 4), .int .i64 (N 5), .int .i64 (N 6), .int .i64 (N 7)]] w1 fun e w' => e = .returned .nilIface ∧ Below w1.heap.size w1 w') := by
    have := fcounts_any N w1
    rw [hf] at this
    exact this
  obtain ⟨hall, hsum⟩ := counts_zero.1 hf
  have HN : Hid (∀ k, k < 8 → 0 ≤ N k ∧ N k ≤ 6) := hall
  have HX : Hid (∀ W k, k < 8 → Blk W w.heap.size 64 (arr8 N) → W.cell? ⟨w.heap.size, k, none⟩ = some (.int .i64 (N k))) := fun W k hk h => by rw [h.cell, arr8_get _ hk]
  have HV : Hid (∀ (k j : Nat) W, k < 8 → (j : Int) < N k → Calls Tryz.prog 84 #[.agg #[.int .i64 ((madeN N k).mores k j).u, .int .i64 ((madeN N k).mores k j).a, .int .i64 ((madeN N k).mores k j).b, .int .i64 ((madeN N k).mores k j).c], .int .i64 k] W fun e w' => e = .returned (.agg #[.int .i64 ((madeN N k).mores k (j + 1)).u, .int .i64 ((madeN N k).mores k (j + 1)).a, .int .i64 ((madeN N k).mores k (j + 1)).b, .int .i64 ((madeN N k).mores k (j + 1)).c]) ∧ Below W.heap.size W w') := fun k j W hk hj => by
    obtain ⟨i1, i2, _⟩ := made_all hall hsum (k := k) (by omega)
    have hm := sumN_mono (N := N) (k := k + 1) (l := 8) (by omega) hall
    have es : sumN N (k + 1) = sumN N k + N k := rfl
    have e := mores_u (madeN N k) k j
    exact with_more _ k (mores_ok i1 k (by rw [i2]; omega)) (by rw [e, i2]; omega) hk W
  have HE : Hid (∀ k, k < 8 → (madeN N k).mores k (N k).toNat = madeN N (k + 1)) := fun k _ => rfl
  have HZ : Hid (Z = madeN N 0) := hZ
  clear hf hall hsum
  obtain ⟨x0, x1, x2, x3, x4, x5, x6, x7⟩ := HK0.out.cells8
  go_enter Tryz.func61, Tryz.ntmps61
  go_wp2_with fail
  rw [← hw1]
  clear hw1
  go_wp2_with fail
  go_at_call 83
  refine HC.out.mono ?_
  rintro e w2 ⟨rfl, hb⟩
  have HB : Hid (Below w.heap.size w w2) := HW.out.trans (hb.mono HW.out.size)
  have HP : Hid (Blk w2 w.heap.size 64 (arr8 N)) := HK0.out.below hb
  have HR : Hid (Blk w2 (w.heap.size + 1) 37 (arrW Z)) := HK1.out.below hb
  clear hb x0 x1 x2 x3 x4 x5 x6 x7
  obtain ⟨G, hG⟩ : ∃ G, G = w2.heap.size := ⟨_, rfl⟩
  have HG : Hid (w.heap.size + 1 < G) := by unfold Hid; rw [hG]; exact HR.out.lt
  obtain ⟨w3, hw3⟩ : ∃ w3, w3 = w2.alloc (.cells #[.int .i64 0, .int .i64 0, .int .i64 0, .int .i64 0] 37) := ⟨_, rfl⟩
  have HB3 : Hid (Below w.heap.size w w3) := by unfold Hid; rw [hw3]; exact HB.out.alloc HB.out.size _
  have HP3 : Hid (Blk w3 w.heap.size 64 (arr8 N)) := by unfold Hid; rw [hw3]; exact HP.out.old _
  have HR3 : Hid (Blk w3 (w.heap.size + 1) 37 (arrW Z)) := by unfold Hid; rw [hw3]; exact HR.out.old _
  have HM3 : Hid (Blk w3 G 37 (arrW (madeN N 0))) := by unfold Hid; rw [hw3, hG]; exact Blk.new _ _ _
  clear HB HP HR hZ
  go_wp2
  rw [← hw3, ← hG]
  clear hw3 hG
  go_loopw [13] (fun i wr => ∃ k : Nat, k ≤ 8 ∧ i = .int .i64 k ∧ Below w.heap.size w wr ∧ Blk wr w.heap.size 64 (arr8 N) ∧ Blk wr (w.heap.size + 1) 37 (arrW Z) ∧ Blk wr G 37 (arrW (madeN N k))) (fun i _ => 8 - (intOf i).toNat)
  case atStart => exact ⟨0, Nat.zero_le _, rfl, HB3.out, HP3.out, HR3.out, HM3.out⟩
  case round =>
    obtain ⟨k, hk, rfl, hb, hp, hr, hm⟩ := hrel
    have HB4 : Hid (Below w.heap.size w wr) := hb
    have HP4 : Hid (Blk wr w.heap.size 64 (arr8 N)) := hp
    have HR4 : Hid (Blk wr (w.heap.size + 1) 37 (arrW Z)) := hr
    have HM4 : Hid (Blk wr G 37 (arrW (madeN N k))) := hm
    clear hb hp hr hm
    by_cases hlt : k < 8
    · have y := HX.out wr k hlt HP4.out
      have p := HN.out k hlt
      obtain ⟨x, hx⟩ : ∃ x : Nat, (x : Int) = N k := ⟨(N k).toNat, by omega⟩
      have HXk : Hid ((x : Int) = N k) := hx
      have HEk : Hid ((madeN N k).mores k x = madeN N (k + 1)) := by
        have := HE.out k hlt
        rw [show (N k).toNat = x by omega] at this
        exact this
      rw [← hx] at y p
      clear hx
      go_wp2
      clear y
      rw [show decide ((k : Int) < 8) = true by simp; omega]
      go_loopw [19] (fun i wr => ∃ j : Nat, j ≤ x ∧ i = .int .i64 j ∧ Below w.heap.size w wr ∧ Blk wr w.heap.size 64 (arr8 N) ∧ Blk wr (w.heap.size + 1) 37 (arrW Z) ∧ Blk wr G 37 (arrW ((madeN N k).mores k j))) (fun i _ => x - (intOf i).toNat)
      case atStart => exact ⟨0, Nat.zero_le _, rfl, HB4.out, HP4.out, HR4.out, HM4.out⟩
      case round =>
        obtain ⟨j, hj, rfl, hb, hp, hr, hm⟩ := hrel
        have HB5 : Hid (Below w.heap.size w wr) := hb
        have HP5 : Hid (Blk wr w.heap.size 64 (arr8 N)) := hp
        have HR5 : Hid (Blk wr (w.heap.size + 1) 37 (arrW Z)) := hr
        have HM5 : Hid (Blk wr G 37 (arrW ((madeN N k).mores k j))) := hm
        clear hb hp hr hm
        by_cases hlj : j < x
        · have HVk : Hid (Calls Tryz.prog 84 #[.agg #[.int .i64 ((madeN N k).mores k j).u, .int .i64 ((madeN N k).mores k j).a, .int .i64 ((madeN N k).mores k j).b, .int .i64 ((madeN N k).mores k j).c], .int .i64 k] wr fun e w' => e = .returned (.agg #[.int .i64 ((madeN N k).mores k (j + 1)).u, .int .i64 ((madeN N k).mores k (j + 1)).a, .int .i64 ((madeN N k).mores k (j + 1)).b, .int .i64 ((madeN N k).mores k (j + 1)).c]) ∧ Below wr.heap.size wr w') := HV.out k j wr hlt (by rw [← HXk.out]; omega)
          obtain ⟨D, hD⟩ : ∃ D, D = (madeN N k).mores k j := ⟨_, rfl⟩
          rw [← hD] at HVk HM5
          obtain ⟨E, hE⟩ : ∃ E, E = (madeN N k).mores k (j + 1) := ⟨_, rfl⟩
          rw [← hE] at HVk
          have HEj : Hid (E = (madeN N k).mores k (j + 1)) := hE
          clear hD hE
          obtain ⟨y0, y1, y2, y3⟩ := HM5.out.cells4
          go_wp2_with fail
          go_at_call 84
          refine HVk.out.mono ?_
          rintro e w6 ⟨rfl, hb⟩
          have HB6 : Hid (Below w.heap.size w w6) := HB5.out.trans (hb.mono HB5.out.size)
          have HP6 : Hid (Blk w6 w.heap.size 64 (arr8 N)) := HP5.out.below hb
          have HR6 : Hid (Blk w6 (w.heap.size + 1) 37 (arrW Z)) := HR5.out.below hb
          have HM6 : Hid (Blk w6 G 37 (arrW D)) := HM5.out.below hb
          clear hb y0 y1 y2 y3
          obtain ⟨y0, y1, y2, y3⟩ := HM6.out.cells4
          obtain ⟨f0, f1, f2, f3⟩ := HM6.out.frozen4
          go_wp2
          go_roundw
          case rel =>
            have hg := HG.out
            exact ⟨j + 1, by omega, by go_num, putW_below HB6.out (by omega) E, putW_far HP6.out (by omega) E, putW_far HR6.out (by omega) E, by rw [← HEj.out]; exact putW_blk HM6.out E⟩
          case measure => simp [intOf]; omega
        · obtain rfl : j = x := by omega
          go_wp2
          go_roundw
          case rel => exact ⟨k + 1, by omega, by go_num, HB5.out, HP5.out, HR5.out, by rw [← HEk.out]; exact HM5.out⟩
          case measure => simp [intOf]; omega
    · obtain rfl : k = 8 := by omega
      obtain ⟨D, hD⟩ : ∃ D, D = madeN N 8 := ⟨_, rfl⟩
      rw [← hD] at HM4
      have HD : Hid (D = madeN N 8) := hD
      clear hD
      obtain ⟨y0, y1, y2, y3⟩ := HM4.out.cells4
      obtain ⟨r0, r1, r2, r3⟩ := HR4.out.cells4
      obtain ⟨f0, f1, f2, f3⟩ := HR4.out.frozen4
      go_wp2
      have hld := loadW (putW_blk HR4.out D)
      refine bodyPost_ret (v := .tuple #[.agg (arrW D), .nilIface]) ?_ rfl ⟨by rw [HD.out], ?_⟩
      · rw [results_cell_tmp rfl]
        unfold putW at hld
        simp [asAddr, Result.andThen, hld]
      · exact putW_below HB4.out (by omega) D

/-- World, whatever the counts. -/
theorem fworld_any (N : Nat → Int) (w : World) :
    Calls Tryz.prog 61 #[.agg #[.int .i64 (N 0), .int .i64 (N 1), .int .i64 (N 2), .int .i64 (N 3), .int .i64 (N 4), .int .i64 (N 5), .int .i64 (N 6), .int .i64 (N 7)]] w fun e w' => e = .returned (.tuple #[.agg (arrW (madeW N)), errV (countsFault N)]) ∧ Below w.heap.size w w' := by
  by_cases hf : countsFault N = 0
  · unfold madeW
    rw [if_pos hf, hf]
    exact fworld_right N w hf
  · unfold madeW errV
    rw [if_neg hf, if_neg hf]
    exact fworld_wrong N w hf
end Go.Proofs.YtpdpnlpepfgknafGreatDoor

namespace Go.Proofs.YtpdpnlpepfgknafGreatDoor
open Go.ChangeShapes Go.WideShapes Go.ChangeAt Go.RowKit
set_option maxRecDepth 100000

set_option maxHeartbeats 4000000 in
theorem exceeds_any (T N : Nat → Int) (m : Int) (P : Nat) (hT : ∀ f, f < 8 → -2 ≤ T f ∧ T f ≤ 2) (hN : ∀ f, f < 8 → 0 ≤ N f ∧ N f ≤ 6) (w : World) (hP : Blk w P 64 (arr8 N)) :
    Calls Tryz.prog 102 #[.agg #[.int .i64 (T 0), .int .i64 (T 1), .int .i64 (T 2), .int .i64 (T 3), .int .i64 (T 4), .int .i64 (T 5), .int .i64 (T 6), .int .i64 (T 7), .int .i64 m], .pointer (some ⟨P, 0, none⟩)] w fun e w' => e = .returned (.bool (!(Rw.mk T m).so N)) ∧ Below w.heap.size w w' := by
  obtain ⟨w1, hw1⟩ : ∃ w1, w1 = w.alloc (.cells #[.int .i64 (T 0), .int .i64 (T 1), .int .i64 (T 2), .int .i64 (T 3), .int .i64 (T 4), .int .i64 (T 5), .int .i64 (T 6), .int .i64 (T 7), .int .i64 m] 137) := ⟨_, rfl⟩
  have HW : Hid (Below w.heap.size w w1) := by unfold Hid; rw [hw1]; exact below_alloc1 _ _
  have HK0 : Hid (Blk w1 w.heap.size 137 (arrR T m)) := by unfold Hid; rw [hw1]; exact Blk.new _ _ _
  have HK1 : Hid (Blk w1 P 64 (arr8 N)) := hP.below HW.out
  obtain ⟨S, hS⟩ : ∃ S, S = sumT T N 8 := ⟨_, rfl⟩
  have HR : Hid ((!(Rw.mk T m).so N) = decide (S > m)) := by
    unfold Hid Rw.so
    rw [← hS]
    by_cases h : S ≤ m
    · simp [h]
    · simp [h]; omega
  have HC : Hid (∀ W, Below w1.heap.size w1 W → Calls Tryz.prog 103 #[.agg #[.int .i64 (T 0), .int .i64 (T 1), .int .i64 (T 2), .int .i64 (T 3), .int .i64 (T 4), .int .i64 (T 5), .int .i64 (T 6), .int .i64 (T 7)], .agg #[.int .i64 (N 0), .int .i64 (N 1), .int .i64 (N 2), .int .i64 (N 3), .int .i64 (N 4), .int .i64 (N 5), .int .i64 (N 6), .int .i64 (N 7)]] W fun e w' => e = .returned (.int .i64 S) ∧ Below w.heap.size w w' ∧ w'.cell? ⟨w.heap.size, 0, none⟩ = some (.int .i64 (T 0)) ∧ w'.cell? ⟨w.heap.size, 1, none⟩ = some (.int .i64 (T 1)) ∧ w'.cell? ⟨w.heap.size, 2, none⟩ = some (.int .i64 (T 2)) ∧ w'.cell? ⟨w.heap.size, 3, none⟩ = some (.int .i64 (T 3)) ∧ w'.cell? ⟨w.heap.size, 4, none⟩ = some (.int .i64 (T 4)) ∧ w'.cell? ⟨w.heap.size, 5, none⟩ = some (.int .i64 (T 5)) ∧ w'.cell? ⟨w.heap.size, 6, none⟩ = some (.int .i64 (T 6)) ∧ w'.cell? ⟨w.heap.size, 7, none⟩ = some (.int .i64 (T 7)) ∧ w'.cell? ⟨w.heap.size, 8, none⟩ = some (.int .i64 m) ∧ w'.cell? ⟨P, 0, none⟩ = some (.int .i64 (N 0)) ∧ w'.cell? ⟨P, 1, none⟩ = some (.int .i64 (N 1)) ∧ w'.cell? ⟨P, 2, none⟩ = some (.int .i64 (N 2)) ∧ w'.cell? ⟨P, 3, none⟩ = some (.int .i64 (N 3)) ∧ w'.cell? ⟨P, 4, none⟩ = some (.int .i64 (N 4)) ∧ w'.cell? ⟨P, 5, none⟩ = some (.int .i64 (N 5)) ∧ w'.cell? ⟨P, 6, none⟩ = some (.int .i64 (N 6)) ∧ w'.cell? ⟨P, 7, none⟩ = some (.int .i64 (N 7))) := fun W hW => by
    rw [hS]
    refine (sum_any T N hT hN W).mono fun e w' h => ⟨h.1, ?_, ?_⟩
    · exact HW.out.trans ((hW.mono HW.out.size).trans (h.2.mono (Nat.le_trans HW.out.size hW.size)))
    · have k0 := (HK0.out.below hW).below h.2
      have k1 := (HK1.out.below hW).below h.2
      exact ⟨k0.cell 0, k0.cell 1, k0.cell 2, k0.cell 3, k0.cell 4, k0.cell 5, k0.cell 6, k0.cell 7, k0.cell 8, k1.cell 0, k1.cell 1, k1.cell 2, k1.cell 3, k1.cell 4, k1.cell 5, k1.cell 6, k1.cell 7⟩
  obtain ⟨R, hR⟩ : ∃ R, R = (!(Rw.mk T m).so N) := ⟨_, rfl⟩
  rw [← hR] at HR ⊢
  obtain ⟨c0, c1, c2, c3, c4, c5, c6, c7, c8⟩ := HK0.out.cells9
  obtain ⟨d0, d1, d2, d3, d4, d5, d6, d7⟩ := HK1.out.cells8
  clear hR hS hT hN hP
  go_enter Tryz.func102, Tryz.ntmps102
  go_wp2_with fail
  rw [← hw1]
  clear hw1
  have HD0 : Hid (Below w1.heap.size w1 w1.drew) := (Below.refl _ _).drew
  go_region_held3 (fun w' => w'.cell? ⟨w.heap.size, 0, none⟩ = some (.int .i64 (T 0)) ∧ w'.cell? ⟨w.heap.size, 1, none⟩ = some (.int .i64 (T 1)) ∧ w'.cell? ⟨w.heap.size, 2, none⟩ = some (.int .i64 (T 2)) ∧ w'.cell? ⟨w.heap.size, 3, none⟩ = some (.int .i64 (T 3)) ∧ w'.cell? ⟨w.heap.size, 4, none⟩ = some (.int .i64 (T 4)) ∧ w'.cell? ⟨w.heap.size, 5, none⟩ = some (.int .i64 (T 5)) ∧ w'.cell? ⟨w.heap.size, 6, none⟩ = some (.int .i64 (T 6)) ∧ w'.cell? ⟨w.heap.size, 7, none⟩ = some (.int .i64 (T 7)) ∧ w'.cell? ⟨w.heap.size, 8, none⟩ = some (.int .i64 m) ∧ w'.cell? ⟨P, 0, none⟩ = some (.int .i64 (N 0)) ∧ w'.cell? ⟨P, 1, none⟩ = some (.int .i64 (N 1)) ∧ w'.cell? ⟨P, 2, none⟩ = some (.int .i64 (N 2)) ∧ w'.cell? ⟨P, 3, none⟩ = some (.int .i64 (N 3)) ∧ w'.cell? ⟨P, 4, none⟩ = some (.int .i64 (N 4)) ∧ w'.cell? ⟨P, 5, none⟩ = some (.int .i64 (N 5)) ∧ w'.cell? ⟨P, 6, none⟩ = some (.int .i64 (N 6)) ∧ w'.cell? ⟨P, 7, none⟩ = some (.int .i64 (N 7))) (first | (go_keep; done) | ((try dsimp only); (repeat' apply And.intro) <;> (first | (go_keep; done))))
    (first | (go_at_call 103; refine (HC.out _ ?_).mono ?_; (with_reducible exact HD0.out); rintro e w3 ⟨rfl, hb3, e0, e1, e2, e3, e4, e5, e6, e7, e8, e9, e10, e11, e12, e13, e14, e15, e16⟩))
  all_goals
    have HB3 : Hid (Below w.heap.size w w3) := hb3
    clear hb3
    go_wp2
    go_ret
    exact ⟨back_b HR.out.symm, HB3.out⟩

theorem any_rows {l : List Rw} {v : Value} {w : World} (h : ReadsR w v l) : Calls Tryz.prog 100 #[v, .func (.func 101) #[] #[]] w fun e w' => e = .returned (.bool (l.any Rw.wrong)) ∧ Below w.heap.size w w' := by
  have e1 : ∀ args w, (callFunc 101 args).run Tryz.prog w = .ok (.enter 101 args) w := enters_of Tryz.func101 (by kernel_rfl) rfl
  exact anyR l v _ Rw.wrong w h e1 fun W r _ _ => wrong_any r.t r.m W
theorem any_exceeds {l : List Rw} {v : Value} {w : World} (N : Nat → Int) (P : Nat) (h : ReadsR w v l) (hl : l.any Rw.wrong = false) (hN : ∀ f, f < 8 → 0 ≤ N f ∧ N f ≤ 6) (hP : Blk w P 64 (arr8 N)) : Calls Tryz.prog 100 #[v, .func (.func 102) #[] #[.pointer (some ⟨P, 0, none⟩)]] w fun e w' => e = .returned (.bool (l.any fun r => !r.so N)) ∧ Below w.heap.size w w' := by
  have e1 : ∀ args w, (callFunc 102 args).run Tryz.prog w = .ok (.enter 102 args) w := enters_of Tryz.func102 (by kernel_rfl) rfl
  refine anyP l v P _ (fun r => !r.so N) w h e1 fun W r hW hr => ?_
  have hr' : r.wrong = false := by
    have := List.any_eq_false.1 hl r hr
    simpa using this
  exact exceeds_any r.t N r.m P (right_iff.1 hr').1 hN W (hP.below hW)

set_option maxHeartbeats 4000000 in
theorem rfits_full (n : Nat) (ao : Option Addr) (cap : Nat) (N : Nat → Int) (w : World) (h12 : 12 < n) (hl : n ≤ 9223372036854775807) :
    Calls Tryz.prog 89 #[.slice ao n cap, .agg #[.int .i64 (N 0), .int .i64 (N 1), .int .i64 (N 2), .int .i64 (N 3), .int .i64 (N 4), .int .i64 (N 5), .int .i64 (N 6), .int .i64 (N 7)]] w fun e w' => e = .returned (.tuple #[.bool false, .iface 61 (.int .i64 4)]) ∧ Below w.heap.size w w' := by
  have HW : Hid (Below w.heap.size w (w.alloc (.cells #[.int .i64 (N 0), .int .i64 (N 1), .int .i64 (N 2), .int .i64 (N 3), .int .i64 (N 4), .int .i64 (N 5), .int .i64 (N 6), .int .i64 (N 7)] 64))) := below_alloc1 _ _
  go_enter Tryz.func89, Tryz.ntmps89
  go_wp2
  go_ret2
  exact ⟨rfl, HW.out⟩

set_option maxHeartbeats 4000000 in
theorem rfits_wrong (n : Nat) (ao : Option Addr) (cap : Nat) (N : Nat → Int) (w : World) (h12 : n ≤ 12)
    (HA : Hid (∀ W, Below w.heap.size w W → Calls Tryz.prog 100 #[.slice ao n cap, .func (.func 101) #[] #[]] W fun e w' => e = .returned (.bool true) ∧ Below W.heap.size W w')) :
    Calls Tryz.prog 89 #[.slice ao n cap, .agg #[.int .i64 (N 0), .int .i64 (N 1), .int .i64 (N 2), .int .i64 (N 3), .int .i64 (N 4), .int .i64 (N 5), .int .i64 (N 6), .int .i64 (N 7)]] w fun e w' => e = .returned (.tuple #[.bool false, .iface 61 (.int .i64 1)]) ∧ Below w.heap.size w w' := by
  obtain ⟨w1, hw1⟩ : ∃ w1, w1 = w.alloc (.cells #[.int .i64 (N 0), .int .i64 (N 1), .int .i64 (N 2), .int .i64 (N 3), .int .i64 (N 4), .int .i64 (N 5), .int .i64 (N 6), .int .i64 (N 7)] 64) := ⟨_, rfl⟩
  have HW : Hid (Below w.heap.size w w1) := by unfold Hid; rw [hw1]; exact below_alloc1 _ _
  go_enter Tryz.func89, Tryz.ntmps89
  go_wp2_with fail
  rw [← hw1]
  clear hw1
  go_wp2_with fail
  go_at_call 100
  refine (HA.out _ HW.out).mono ?_
  rintro e w2 ⟨rfl, hb⟩
  have HB : Hid (Below w.heap.size w w2) := HW.out.trans (hb.mono HW.out.size)
  clear hb
  go_wp2
  go_ret2
  exact ⟨rfl, HB.out⟩

set_option maxHeartbeats 4000000 in
theorem rfits_counts (n : Nat) (ao : Option Addr) (cap : Nat) (N : Nat → Int) (w : World) (h12 : n ≤ 12) (hf : ¬ countsFault N = 0)
    (HA : Hid (∀ W, Below w.heap.size w W → Calls Tryz.prog 100 #[.slice ao n cap, .func (.func 101) #[] #[]] W fun e w' => e = .returned (.bool false) ∧ Below W.heap.size W w')) :
    Calls Tryz.prog 89 #[.slice ao n cap, .agg #[.int .i64 (N 0), .int .i64 (N 1), .int .i64 (N 2), .int .i64 (N 3), .int .i64 (N 4), .int .i64 (N 5), .int .i64 (N 6), .int .i64 (N 7)]] w fun e w' => e = .returned (.tuple #[.bool false, .iface 61 (.int .i64 (countsFault N))]) ∧ Below w.heap.size w w' := by
  obtain ⟨w1, hw1⟩ : ∃ w1, w1 = w.alloc (.cells #[.int .i64 (N 0), .int .i64 (N 1), .int .i64 (N 2), .int .i64 (N 3), .int .i64 (N 4), .int .i64 (N 5), .int .i64 (N 6), .int .i64 (N 7)] 64) := ⟨_, rfl⟩
  have HW : Hid (Below w.heap.size w w1) := by unfold Hid; rw [hw1]; exact below_alloc1 _ _
  have HK0 : Hid (Blk w1 w.heap.size 64 (arr8 N)) := by unfold Hid; rw [hw1]; exact Blk.new _ _ _
  have HC : Hid (∀ W, Calls Tryz.prog 61 #[.agg #[.int .i64 (N 0), .int .i64 (N 1), .int .i64 (N 2), .int .i64 (N 3), .int .i64 (N 4), .int .i64 (N 5), .int .i64 (N 6), .int .i64 (N 7)]] W fun e w' => e = .returned (.tuple #[.agg #[.int .i64 0, .int .i64 0, .int .i64 0, .int .i64 0], .iface 61 (.int .i64 (countsFault N))]) ∧ Below W.heap.size W w') := fun W => fworld_wrong N W hf
  obtain ⟨F, hF⟩ : ∃ F, F = countsFault N := ⟨_, rfl⟩
  rw [← hF] at HC ⊢
  clear hF hf
  go_enter Tryz.func89, Tryz.ntmps89
  go_wp2_with fail
  rw [← hw1]
  clear hw1
  go_wp2_with fail
  go_at_call 100
  refine (HA.out _ HW.out).mono ?_
  rintro e w2 ⟨rfl, hb⟩
  have HB : Hid (Below w.heap.size w w2) := HW.out.trans (hb.mono HW.out.size)
  have HK : Hid (Blk w2 w.heap.size 64 (arr8 N)) := HK0.out.below hb
  clear hb
  obtain ⟨d0, d1, d2, d3, d4, d5, d6, d7⟩ := HK.out.cells8
  go_wp2_with fail
  go_at_call 61
  refine (HC.out _).mono ?_
  rintro e w3 ⟨rfl, hb⟩
  have HB3 : Hid (Below w.heap.size w w3) := HB.out.trans (hb.mono HB.out.size)
  clear hb d0 d1 d2 d3 d4 d5 d6 d7
  go_wp2
  go_ret2
  exact ⟨rfl, HB3.out.alloc HB3.out.size _⟩

set_option maxHeartbeats 4000000 in
theorem rfits_right (n : Nat) (ao : Option Addr) (cap : Nat) (N : Nat → Int) (w : World) (R : Bool) (h12 : n ≤ 12) (hf : countsFault N = 0)
    (HA : Hid (∀ W, Below w.heap.size w W → Calls Tryz.prog 100 #[.slice ao n cap, .func (.func 101) #[] #[]] W fun e w' => e = .returned (.bool false) ∧ Below W.heap.size W w'))
    (HX : Hid (∀ W, Below w.heap.size w W → Blk W w.heap.size 64 (arr8 N) → Calls Tryz.prog 100 #[.slice ao n cap, .func (.func 102) #[] #[.pointer (some ⟨w.heap.size, 0, none⟩)]] W fun e w' => e = .returned (.bool R) ∧ Below W.heap.size W w')) :
    Calls Tryz.prog 89 #[.slice ao n cap, .agg #[.int .i64 (N 0), .int .i64 (N 1), .int .i64 (N 2), .int .i64 (N 3), .int .i64 (N 4), .int .i64 (N 5), .int .i64 (N 6), .int .i64 (N 7)]] w fun e w' => e = .returned (.tuple #[.bool (!R), .nilIface]) ∧ Below w.heap.size w w' := by
  obtain ⟨w1, hw1⟩ : ∃ w1, w1 = w.alloc (.cells #[.int .i64 (N 0), .int .i64 (N 1), .int .i64 (N 2), .int .i64 (N 3), .int .i64 (N 4), .int .i64 (N 5), .int .i64 (N 6), .int .i64 (N 7)] 64) := ⟨_, rfl⟩
  have HW : Hid (Below w.heap.size w w1) := by unfold Hid; rw [hw1]; exact below_alloc1 _ _
  have HK0 : Hid (Blk w1 w.heap.size 64 (arr8 N)) := by unfold Hid; rw [hw1]; exact Blk.new _ _ _
  obtain ⟨u, hu⟩ : ∃ x, x = (madeN N 8).u := ⟨_, rfl⟩
  obtain ⟨a, ha⟩ : ∃ x, x = (madeN N 8).a := ⟨_, rfl⟩
  obtain ⟨b, hb⟩ : ∃ x, x = (madeN N 8).b := ⟨_, rfl⟩
  obtain ⟨c, hc⟩ : ∃ x, x = (madeN N 8).c := ⟨_, rfl⟩
  have HC : Hid (∀ W, Calls Tryz.prog 61 #[.agg #[.int .i64 (N 0), .int .i64 (N 1), .int .i64 (N 2), .int .i64 (N 3), .int .i64 (N 4), .int .i64 (N 5), .int .i64 (N 6), .int .i64 (N 7)]] W fun e w' => e = .returned (.tuple #[.agg #[.int .i64 u, .int .i64 a, .int .i64 b, .int .i64 c], .nilIface]) ∧ Below W.heap.size W w') := fun W => by
    rw [hu, ha, hb, hc]; exact fworld_right N W hf
  clear hf hu ha hb hc
  go_enter Tryz.func89, Tryz.ntmps89
  go_wp2_with fail
  rw [← hw1]
  clear hw1
  go_wp2_with fail
  go_at_call 100
  refine (HA.out _ HW.out).mono ?_
  rintro e w2 ⟨rfl, hb⟩
  have HB : Hid (Below w.heap.size w w2) := HW.out.trans (hb.mono HW.out.size)
  have HK : Hid (Blk w2 w.heap.size 64 (arr8 N)) := HK0.out.below hb
  clear hb
  obtain ⟨d0, d1, d2, d3, d4, d5, d6, d7⟩ := HK.out.cells8
  go_wp2_with fail
  go_at_call 61
  refine (HC.out _).mono ?_
  rintro e w3 ⟨rfl, hb⟩
  have HB3 : Hid (Below w.heap.size w w3) := HB.out.trans (hb.mono HB.out.size)
  have HK3 : Hid (Blk w3 w.heap.size 64 (arr8 N)) := HK.out.below hb
  clear hb d0 d1 d2 d3 d4 d5 d6 d7
  obtain ⟨w4, hw4⟩ : ∃ x, x = w3.alloc (.cells #[.int .i64 u, .int .i64 a, .int .i64 b, .int .i64 c] 37) := ⟨_, rfl⟩
  have HB4 : Hid (Below w.heap.size w w4) := by unfold Hid; rw [hw4]; exact HB3.out.alloc (HB3.out.size) _
  have HK4 : Hid (Blk w4 w.heap.size 64 (arr8 N)) := by unfold Hid; rw [hw4]; exact HK3.out.old _
  go_wp2_with fail
  rw [← hw4]
  clear hw4
  go_at_call 100
  refine (HX.out _ HB4.out HK4.out).mono ?_
  rintro e w5 ⟨rfl, hb⟩
  have HB5 : Hid (Below w.heap.size w w5) := HB4.out.trans (hb.mono HB4.out.size)
  clear hb
  go_wp2
  go_ret2
  exact ⟨rfl, HB5.out⟩

theorem any_not (l : List Rw) (N : Nat → Int) : (!l.any fun r => !r.so N) = l.all fun r => r.so N := by
  induction l with
  | nil => rfl
  | cons r l ih => rw [List.any_cons, List.all_cons, Bool.not_or, Bool.not_not, ih]
/-- Fits, whatever the rows and the counts. -/
theorem rfits_any (l : List Rw) (v : Value) (N : Nat → Int) (w : World) (h : ReadsR w v l) :
    Calls Tryz.prog 89 #[v, .agg #[.int .i64 (N 0), .int .i64 (N 1), .int .i64 (N 2), .int .i64 (N 3), .int .i64 (N 4), .int .i64 (N 5), .int .i64 (N 6), .int .i64 (N 7)]] w fun e w' => e = .returned (.tuple #[.bool (fitsIs l N), errV (fitsFault l N)]) ∧ Below w.heap.size w w' := by
  obtain ⟨ao, cap, rfl, hl⟩ := h.slice
  by_cases h12 : 12 < l.length
  · have e : fitsFault l N = 4 := by unfold fitsFault rowsFault; simp [h12]
    have e' : fitsIs l N = false := by unfold fitsIs; rw [e]; rfl
    rw [e, e']
    exact rfits_full _ ao cap N w h12 hl
  rcases (Bool.eq_false_or_eq_true (l.any Rw.wrong)).symm with hw | hw
  · have er : rowsFault l = 0 := by unfold rowsFault; rw [if_neg h12, hw]; rfl
    have ef : fitsFault l N = countsFault N := by unfold fitsFault; rw [if_pos er]
    have HA : Hid (∀ W, Below w.heap.size w W → Calls Tryz.prog 100 #[.slice ao l.length cap, .func (.func 101) #[] #[]] W fun e w' => e = .returned (.bool false) ∧ Below W.heap.size W w') := fun W hW => by
      have := any_rows (h.below hW)
      rw [hw] at this
      exact this
    by_cases hf : countsFault N = 0
    · have e' : fitsIs l N = !(l.any fun r => !r.so N) := by unfold fitsIs; rw [ef, if_pos hf, any_not]
      rw [e', ef, hf]
      exact rfits_right _ ao cap N w _ (by omega) hf HA fun W hW hB => any_exceeds N w.heap.size (h.below hW) hw (counts_zero.1 hf).1 hB
    · have e' : fitsIs l N = false := by unfold fitsIs; rw [ef, if_neg hf]
      rw [e', ef, errV_no hf]
      exact rfits_counts _ ao cap N w (by omega) hf HA
  · have er : rowsFault l = 1 := by unfold rowsFault; rw [if_neg h12, hw]; rfl
    have ef : fitsFault l N = 1 := by unfold fitsFault; rw [er]; rfl
    have e' : fitsIs l N = false := by unfold fitsIs; rw [ef]; rfl
    rw [e', ef]
    exact rfits_wrong _ ao cap N w (by omega) fun W hW => by
      have := any_rows (h.below hW)
      rw [hw] at this
      exact this
end Go.Proofs.YtpdpnlpepfgknafGreatDoor

namespace Go.Proofs.YtpdpnlpepfgknafGreatDoor
open Go.ChangeShapes Go.WideShapes Go.ChangeAt Go.RowKit
set_option maxRecDepth 100000
attribute [local go_sem] Oper.semAt_some

/-- how many of the first k fit. -/
def manyT (A : List (Nat → Int)) (p : (Nat → Int) → Bool) (k : Nat) : Nat := ((A.take k).filter p).length
theorem manyT_zero (A : List (Nat → Int)) (p : (Nat → Int) → Bool) : manyT A p 0 = 0 := by unfold manyT; simp
theorem manyT_step {A : List (Nat → Int)} {p : (Nat → Int) → Bool} {k : Nat} {M : Nat → Int} (h : A[k]? = some M) : manyT A p (k + 1) = manyT A p k + (if p M = true then 1 else 0) := by
  obtain ⟨hk, rfl⟩ := List.getElem?_eq_some_iff.1 h
  unfold manyT
  rw [List.take_succ_eq_append_getElem hk, List.filter_append, List.length_append, List.filter_cons]
  split <;> rfl
theorem manyT_all (A : List (Nat → Int)) (p : (Nat → Int) → Bool) : manyT A p A.length = manyD A p 0 := by unfold manyT manyD; simp
theorem manyT_le (A : List (Nat → Int)) (p : (Nat → Int) → Bool) (k : Nat) : manyT A p k ≤ A.length := by
  unfold manyT
  have h1 := List.length_filter_le p (A.take k)
  have h2 := List.length_take_le k A
  have h3 : (A.take k).length ≤ A.length := by rw [List.length_take]; omega
  omega
end Go.Proofs.YtpdpnlpepfgknafGreatDoor

namespace Go.Proofs.YtpdpnlpepfgknafGreatDoor
open Go.ChangeShapes Go.WideShapes Go.ChangeAt Go.RowKit
set_option maxRecDepth 100000
attribute [local go_sem] Oper.semAt_some

theorem first_fit {A : List (Nat → Int)} {p : (Nat → Int) → Bool} {k : Nat} {x : Nat → Int} (h : A[k]? = some x) (hn : ∀ j, j < k → ∀ M, A[j]? = some M → p M = false) (hp : p x = true) : leastD A p 0 = x ∧ ¬ manyD A p 0 = 0 := by
  obtain ⟨hk, rfl⟩ := List.getElem?_eq_some_iff.1 h
  have hf : A.find? p = some A[k] := List.find?_eq_some_iff_getElem.2 ⟨hp, k, hk, rfl, fun j hj => by simpa using hn j hj A[j] (List.getElem?_eq_getElem _)⟩
  refine ⟨by unfold leastD; rw [List.drop_zero, hf]; rfl, fun h0 => ?_⟩
  unfold manyD at h0
  rw [List.drop_zero] at h0
  have hm : A[k] ∈ A.filter p := List.mem_filter.2 ⟨List.getElem_mem _, hp⟩
  rw [List.eq_nil_of_length_eq_zero h0] at hm
  cases hm
theorem none_fit {A : List (Nat → Int)} {p : (Nat → Int) → Bool} (hn : ∀ j, j < A.length → ∀ M, A[j]? = some M → p M = false) : manyD A p 0 = 0 := by
  unfold manyD
  rw [List.drop_zero, List.length_eq_zero_iff, List.filter_eq_nil_iff]
  intro M hM
  obtain ⟨j, hj⟩ := List.mem_iff_getElem?.1 hM
  rw [hn j (List.getElem?_eq_some_iff.1 hj).1 M hj]
  decide
theorem four_new (w : World) (o0 o1 o2 o3 : Obj) :
    ((((w.alloc o0).alloc o1).alloc o2).alloc o3).heap.size = w.heap.size + 4 ∧
    ((((w.alloc o0).alloc o1).alloc o2).alloc o3).heap[w.heap.size]? = some o0 ∧
    ((((w.alloc o0).alloc o1).alloc o2).alloc o3).heap[w.heap.size + 1]? = some o1 ∧
    ((((w.alloc o0).alloc o1).alloc o2).alloc o3).heap[w.heap.size + 1 + 1]? = some o2 ∧
    ((((w.alloc o0).alloc o1).alloc o2).alloc o3).heap[w.heap.size + 1 + 1 + 1]? = some o3 ∧
    Below w.heap.size w ((((w.alloc o0).alloc o1).alloc o2).alloc o3) := by
  have s1 : (w.alloc o0).heap.size = w.heap.size + 1 := World.size_alloc _ _
  have s2 : ((w.alloc o0).alloc o1).heap.size = w.heap.size + 1 + 1 := by rw [World.size_alloc, s1]
  have s3 : (((w.alloc o0).alloc o1).alloc o2).heap.size = w.heap.size + 1 + 1 + 1 := by rw [World.size_alloc, s2]
  refine ⟨by rw [World.size_alloc, s3], ?_, ?_, ?_, ?_, ?_⟩
  · rw [Below.heap_alloc _ _ _ (by omega), Below.heap_alloc _ _ _ (by omega), Below.heap_alloc _ _ _ (by omega)]; exact World.alloc_heap_new _ _
  · rw [Below.heap_alloc _ _ _ (by omega), Below.heap_alloc _ _ _ (by omega), ← s1]; exact World.alloc_heap_new _ _
  · rw [Below.heap_alloc _ _ _ (by omega), ← s2]; exact World.alloc_heap_new _ _
  · rw [← s3]; exact World.alloc_heap_new _ _
  · exact ((((Below.refl _ w).alloc (Nat.le_refl _) _).alloc (by omega) _).alloc (by omega) _).alloc (by omega) _
theorem over_put8 {B : Nat} {X W : World} {R : Nat} (h : Over B X W) (hR : R < B) (M : Nat → Int) : Over B X (put8 W R M) :=
  (((((((h.setCell hR _).setCell hR _).setCell hR _).setCell hR _).setCell hR _).setCell hR _).setCell hR _).setCell hR _
theorem put8_block {W : World} {R D : Nat} (hD : D ≠ R) (M : Nat → Int) : (put8 W R M).heap[D]? = W.heap[D]? := by
  unfold put8
  rw [Below.heap_setCell _ _ _ _ (by exact hD), Below.heap_setCell _ _ _ _ (by exact hD), Below.heap_setCell _ _ _ _ (by exact hD), Below.heap_setCell _ _ _ _ (by exact hD), Below.heap_setCell _ _ _ _ (by exact hD), Below.heap_setCell _ _ _ _ (by exact hD), Below.heap_setCell _ _ _ _ (by exact hD), Below.heap_setCell _ _ _ _ (by exact hD)]

/-- the return behind the loop: what lies in the two cells. -/
theorem least_leaves {w W : World} {D : Nat} {R : Nat → Int} {E : Value} {tmps : Array Value} {Q : Ending → World → Prop} (hD : w.heap.size + 4 ≤ D) (hK : W.heap[D]? = some (.deferred (some []))) (hB : Below w.heap.size w W)
    (c1 : Blk W (w.heap.size + 1) 64 (arr8 R)) (c2 : Blk W (w.heap.size + 1 + 1) 23 #[E])
    (t1 : tmps.getD 4 undef = .pointer (some ⟨w.heap.size + 1, 0, none⟩)) (t2 : tmps.getD 5 undef = .pointer (some ⟨w.heap.size + 1 + 1, 0, none⟩))
    (hQ : ∀ W', Below w.heap.size w W' → Q (.returned (.tuple #[.agg (arr8 R), E])) W') :
    LeavesInM Fence.wide 3 Tryz.prog Tryz.f67 tmps Q [{ target := .collected D, args := #[] }] .returning W := by
  refine ⟨by simp, .inl ⟨_, _, rfl, run_takeDeferred hK, ?_⟩⟩
  have l1 := load8 (c1.putO (.deferred none) (l := D) (by omega))
  have l2 := loadE (c2.putO (.deferred none) (l := D) (by omega))
  refine ⟨.tuple #[.agg (arr8 R), E], ?_, hQ _ (hB.trans (below_putObj _ _ (by omega)))⟩
  rw [results_two rfl, t1, t2]
  simp [asAddr, Result.andThen, l1, l2]

set_option maxHeartbeats 4000000 in
theorem least_right (n : Nat) (hn : n ≤ 6) (l : List Rw) (v : Value) (w : World) (hR : ReadsR w v l) (hr : rowsFault l = 0) :
    Calls Tryz.prog 67 #[.int .i64 n, v] w fun e w' => ((e = .returned (.tuple #[.agg (arr8 (leastD (everyC n) (fitB l) 0)), .nilIface]) ∧ ¬ manyD (everyC n) (fitB l) 0 = 0) ∨ (e = .returned (.tuple #[.agg (arr8 zeroC), .iface 61 (.int .i64 5)]) ∧ manyD (everyC n) (fitB l) 0 = 0)) ∧ Below w.heap.size w w' := by
  obtain ⟨lao, lcap, rfl, hll⟩ := hR.slice
  obtain ⟨A, hA⟩ : ∃ A, A = everyC n := ⟨_, rfl⟩
  obtain ⟨p, hp⟩ : ∃ p, p = fitB l := ⟨_, rfl⟩
  have HF : Hid (∀ (k : Nat) (M : Nat → Int) W, A[k]? = some M → Below w.heap.size w W → Calls Tryz.prog 89 #[.slice lao l.length lcap, .agg #[.int .i64 (M 0), .int .i64 (M 1), .int .i64 (M 2), .int .i64 (M 3), .int .i64 (M 4), .int .i64 (M 5), .int .i64 (M 6), .int .i64 (M 7)]] W fun e w' => e = .returned (.tuple #[.bool (p M), .nilIface]) ∧ Below W.heap.size W w') := fun k M W hM hW => by
    have h := rfits_any l _ M W (hR.below hW)
    have hc : countsFault M = 0 := everyC_right hn (by rw [hA] at hM; exact List.mem_of_getElem? hM)
    have ef : fitsFault l M = 0 := by unfold fitsFault; rw [if_pos hr, hc]
    have e : fitsIs l M = p M := by unfold fitsIs; rw [if_pos ef, hp]; rfl
    rw [e, ef] at h
    exact h
  have HS : Hid (∀ Bu W, W.cell? ⟨Bu, 0, none⟩ = some (.int .i64 n) → SeqG 2 Tryz.prog 58 #[.pointer (some ⟨Bu, 0, none⟩)] enc8 A W) := fun Bu W hB => by rw [hA]; exact iter_any n hn 2 (by omega) Bu W hB
  have HLn : Hid (0 < A.length) := by unfold Hid; rw [hA]; exact List.length_pos_iff.2 (allF_ne 7 n _)
  have HCk : Hid (∀ W, Calls Tryz.prog 59 #[.int .i64 n] W fun e w' => e = .returned .nilIface ∧ W = w') := fun W => fitCheck_ok n hn W
  rw [← hA, ← hp]
  clear hA hp hr hn
  obtain ⟨Z, hZ⟩ : ∃ Z : Nat → Int, Z = zeroC := ⟨_, rfl⟩
  refine (callsIn_wide (n := 3)).1 ?_
  refine callsIn_of_wp_marks Tryz.func67 rfl trivial ?_ rfl
  simp only [Tryz.ntmps67, List.size_toArray, List.length_cons, List.length_nil, Nat.reduceAdd, Nat.reduceSub, Array.replicate_succ, Array.replicate_zero, List.push_toArray, List.append_toArray, List.nil_append, List.cons_append]
  have HZ : Hid (Z = zeroC) := hZ
  clear hZ
  gi_wp2_with fail
  refine ⟨trivial, ?_⟩
  gi_at_call 59
  refine (callsIn_wide.2 (HCk.out _)).mono ?_
  rintro e w1 ⟨rfl, rfl⟩
  gi_wp2_with fail
  refine ⟨trivial, ?_⟩
  gi_at_call 31
  refine (callsIn_wide.2 (fitAll_any _ _)).mono ?_
  rintro e w3 ⟨rfl, rfl⟩
  gi_wp2_with fail
  obtain ⟨hsz, b0, b1, b2, b3, hB0⟩ := four_new w (.cells #[.slice lao l.length lcap] 105) (.cells #[.int .i64 0, .int .i64 0, .int .i64 0, .int .i64 0, .int .i64 0, .int .i64 0, .int .i64 0, .int .i64 0] 64) (.cells #[.nilIface] 23) (.cells #[.int .i64 n] 3)
  obtain ⟨wl, hwl⟩ : ∃ x, x = (((w.alloc (.cells #[.slice lao l.length lcap] 105)).alloc (.cells #[.int .i64 0, .int .i64 0, .int .i64 0, .int .i64 0, .int .i64 0, .int .i64 0, .int .i64 0, .int .i64 0] 64)).alloc (.cells #[.nilIface] 23)).alloc (.cells #[.int .i64 n] 3) := ⟨_, rfl⟩
  rw [← hwl] at hsz b0 b1 b2 b3 hB0 ⊢
  clear hwl
  have HB0 : Hid (Below w.heap.size w wl) := hB0
  have Hsz : Hid (wl.heap.size = w.heap.size + 4) := hsz
  have H0 : Hid (Blk wl w.heap.size 105 #[.slice lao l.length lcap]) := b0
  have H1 : Hid (Blk wl (w.heap.size + 1) 64 (arr8 Z)) := by unfold Hid; rw [HZ.out]; exact b1
  have H2 : Hid (Blk wl (w.heap.size + 1 + 1) 23 #[.nilIface]) := b2
  have H4 : Hid (Blk wl (w.heap.size + 1 + 1 + 1) 3 #[.int .i64 n]) := b3
  clear hsz b0 b1 b2 b3 hB0
  refine wpIn_range_own (by omega) (gf := 58) (lb := #[.pointer (some ⟨w.heap.size + 1 + 1 + 1, 0, none⟩)]) rfl (enters_of Tryz.func58 (by kernel_rfl) rfl) (encs := enc8) (A := A)
    (fun W hW => HS.out _ W ((hW.cell (by rw [Hsz.out]; simp)).trans (H4.out.cell 0))) (fun _ => rfl)
    (fun k W => Below w.heap.size w W ∧ Blk W w.heap.size 105 #[.slice lao l.length lcap] ∧ Blk W (w.heap.size + 1) 64 (arr8 Z) ∧ Blk W (w.heap.size + 1 + 1) 23 #[.nilIface] ∧ ∀ j, j < k → ∀ M, A[j]? = some M → p M = false)
    (fun _ W => Below w.heap.size w W ∧ Blk W (w.heap.size + 1) 64 (arr8 (leastD A p 0)) ∧ Blk W (w.heap.size + 1 + 1) 23 #[.nilIface] ∧ ¬ manyD A p 0 = 0)
    (fun k X Y h hb => ⟨h.1.trans (hb.mono (by rw [Hsz.out]; omega)), h.2.1.keep hb (by rw [Hsz.out]; omega), h.2.2.1.keep hb (by rw [Hsz.out]; omega), h.2.2.2.1.keep hb (by rw [Hsz.out]; omega), h.2.2.2.2⟩)
    (fun _ X Y h hb => ⟨h.1.trans (hb.mono (by rw [Hsz.out]; omega)), h.2.1.keep hb (by rw [Hsz.out]; omega), h.2.2.1.keep hb (by rw [Hsz.out]; omega), h.2.2.2⟩) ⟨HB0.out, H0.out, H1.out, H2.out, fun j hj => by omega⟩ ?round ?done ?stop
  case round =>
    intro ln k x W hx hl1 hl2 ⟨hB, c0, c1, c2, c3⟩
    have HX : Hid (A[k]? = some x) := hx
    have Hl1 : Hid (w.heap.size + 4 ≤ ln) := by unfold Hid; rw [← Hsz.out]; exact hl1
    have Hl2 : Hid (ln < W.heap.size) := hl2
    have HBk : Hid (Below w.heap.size w W) := hB
    have C0 : Hid (Blk W w.heap.size 105 #[.slice lao l.length lcap]) := c0
    have C1 : Hid (Blk W (w.heap.size + 1) 64 (arr8 Z)) := c1
    have C2 : Hid (Blk W (w.heap.size + 1 + 1) 23 #[.nilIface]) := c2
    have C3 : Hid (∀ j, j < k → ∀ M, A[j]? = some M → p M = false) := c3
    clear hx hl1 hl2 hB c0 c1 c2 c3
    unfold enc8
    gi_wp2
    refine ⟨(Over.refl _ _).alloc _, fun o => ?_⟩
    obtain ⟨W2, hW2⟩ : ∃ X, X = (W.alloc (.cells #[.int .i64 (x 0), .int .i64 (x 1), .int .i64 (x 2), .int .i64 (x 3), .int .i64 (x 4), .int .i64 (x 5), .int .i64 (x 6), .int .i64 (x 7)] 64)).putObj ln o := ⟨_, rfl⟩
    obtain ⟨Gx, hGx⟩ : ∃ G, G = W.heap.size := ⟨_, rfl⟩
    have HB2 : Hid (Below w.heap.size w W2) := by unfold Hid; rw [hW2]; exact (HBk.out.alloc HBk.out.size _).trans (below_putObj _ _ (by have := Hl1.out; omega))
    have D0 : Hid (Blk W2 w.heap.size 105 #[.slice lao l.length lcap]) := by unfold Hid; rw [hW2]; exact (C0.out.old _).putO _ (by have := Hl1.out; omega)
    have D1 : Hid (Blk W2 (w.heap.size + 1) 64 (arr8 Z)) := by unfold Hid; rw [hW2]; exact (C1.out.old _).putO _ (by have := Hl1.out; omega)
    have D2 : Hid (Blk W2 (w.heap.size + 1 + 1) 23 #[.nilIface]) := by unfold Hid; rw [hW2]; exact (C2.out.old _).putO _ (by have := Hl1.out; omega)
    have D8 : Hid (Blk W2 Gx 64 (arr8 x)) := by unfold Hid; rw [hW2, hGx]; exact (Blk.new _ _ _).putO _ (by have := Hl2.out; omega)
    rw [← hW2, ← hGx]
    clear hW2 hGx
    have HFk : Hid (Calls Tryz.prog 89 #[.slice lao l.length lcap, .agg #[.int .i64 (x 0), .int .i64 (x 1), .int .i64 (x 2), .int .i64 (x 3), .int .i64 (x 4), .int .i64 (x 5), .int .i64 (x 6), .int .i64 (x 7)]] W2 fun e w' => e = .returned (.tuple #[.bool (p x), .nilIface]) ∧ Below W2.heap.size W2 w') := HF.out k x W2 HX.out HB2.out
    obtain ⟨q, hq⟩ : ∃ q, q = p x := ⟨_, rfl⟩
    rw [← hq] at HFk
    have HQ : Hid (q = p x) := hq
    clear hq
    have e0 : W2.cell? ⟨w.heap.size, 0, none⟩ = some (.slice lao l.length lcap) := D0.out.cell 0
    obtain ⟨x0, x1, x2, x3, x4, x5, x6, x7⟩ := D8.out.cells8
    gi_wp2_with fail
    refine ⟨trivial, ?_⟩
    gi_at_call 89
    refine (CallsIn.inRound ln (callsIn_wide.2 HFk.out)).mono ?_
    rintro e W3 ⟨rfl, hb3⟩
    have HB3 : Hid (Below w.heap.size w W3) := HB2.out.trans (hb3.mono HB2.out.size)
    have E0 : Hid (Blk W3 w.heap.size 105 #[.slice lao l.length lcap]) := D0.out.below hb3
    have E1 : Hid (Blk W3 (w.heap.size + 1) 64 (arr8 Z)) := D1.out.below hb3
    have E2 : Hid (Blk W3 (w.heap.size + 1 + 1) 23 #[.nilIface]) := D2.out.below hb3
    have E8 : Hid (Blk W3 Gx 64 (arr8 x)) := D8.out.below hb3
    have HO3 : Hid (Over wl.heap.size W2 W3) := Over.of_below hb3
    clear hb3 e0 x0 x1 x2 x3 x4 x5 x6 x7
    cases q with
    | true =>
      have HL : Hid (leastD A p 0 = x ∧ ¬ manyD A p 0 = 0) := first_fit HX.out C3.out HQ.out.symm
      clear HQ
      obtain ⟨x0, x1, x2, x3, x4, x5, x6, x7⟩ := E8.out.cells8
      obtain ⟨r0, r1, r2, r3, r4, r5, r6, r7⟩ := E1.out.cells8
      obtain ⟨f0, f1, f2, f3, f4, f5, f6, f7⟩ := E1.out.frozen8
      have e2 : W3.cell? ⟨w.heap.size + 1 + 1, 0, none⟩ = some .nilIface := E2.out.cell 0
      have z2 : W3.frozen? ⟨w.heap.size + 1 + 1, 0, none⟩ = false := E2.out.frozen 0
      gi_wp2
      refine ⟨(over_put8 HO3.out (by rw [Hsz.out]; omega) x).setCell (by rw [Hsz.out]; simp) _, (put8_below HB3.out (by omega) x).setCell (by simp; omega) _, ?_, (put8_far E2.out (by omega) x).set 0 _, HL.out.2⟩
      rw [HL.out.1]
      exact (put8_blk E1.out x).far (by omega) _ _
    | false =>
      have HN : Hid (∀ j, j < k + 1 → ∀ M, A[j]? = some M → p M = false) := fun j hj M hM => by
        rcases Nat.lt_or_ge j k with h | h
        · exact C3.out j h M hM
        · obtain rfl : j = k := by omega
          have e := HX.out.symm.trans hM
          rw [← Option.some.inj e]
          exact HQ.out.symm
      clear HQ
      gi_wp2
      exact ⟨HO3.out, HB3.out, E0.out, E1.out, E2.out, HN.out⟩
  case done =>
    intro D W hD ⟨hB, c0, c1, c2, c3⟩ hK
    have HD : Hid (w.heap.size + 4 ≤ D) := by unfold Hid; rw [← Hsz.out]; exact hD
    have HK : Hid (W.heap[D]? = some (.deferred (some []))) := hK
    have HB3 : Hid (Below w.heap.size w W) := hB
    have E1 : Hid (Blk W (w.heap.size + 1) 64 (arr8 Z)) := c1
    have E2 : Hid (Blk W (w.heap.size + 1 + 1) 23 #[.nilIface]) := c2
    have HE : Hid (manyD A p 0 = 0) := none_fit c3
    clear hD hB c0 c1 c2 c3 hK
    obtain ⟨r0, r1, r2, r3, r4, r5, r6, r7⟩ := E1.out.cells8
    obtain ⟨f0, f1, f2, f3, f4, f5, f6, f7⟩ := E1.out.frozen8
    have e2 : W.cell? ⟨w.heap.size + 1 + 1, 0, none⟩ = some .nilIface := E2.out.cell 0
    have z2 : W.frozen? ⟨w.heap.size + 1 + 1, 0, none⟩ = false := E2.out.frozen 0
    gi_wp2
    have hd := HD.out
    refine least_leaves (W := (put8 W (w.heap.size + 1) zeroC).setCell ⟨w.heap.size + 1 + 1, 0, none⟩ (.iface 61 (.int .i64 5))) hd ?_ ((put8_below HB3.out (by omega) zeroC).setCell (by simp; omega) _) ((put8_blk E1.out zeroC).far (by omega) _ _) ((put8_far E2.out (by omega) zeroC).set 0 _) rfl rfl (fun W' hW' => ⟨Or.inr ⟨rfl, HE.out⟩, hW'⟩)
    rw [Below.heap_setCell _ _ _ _ (by simp; omega), put8_block (by omega)]
    exact HK.out
  case stop =>
    intro D k W hD _ ⟨hB, c1, c2, c3⟩ hK
    have HD : Hid (w.heap.size + 4 ≤ D) := by unfold Hid; rw [← Hsz.out]; exact hD
    have HK : Hid (W.heap[D]? = some (.deferred (some []))) := hK
    have HBk : Hid (Below w.heap.size w W) := hB
    have C1 : Hid (Blk W (w.heap.size + 1) 64 (arr8 (leastD A p 0))) := c1
    have C2 : Hid (Blk W (w.heap.size + 1 + 1) 23 #[.nilIface]) := c2
    have C3 : Hid (¬ manyD A p 0 = 0) := c3
    clear hD hB c1 c2 c3 hK
    gi_wp2
    exact least_leaves HD.out HK.out HBk.out C1.out C2.out rfl rfl (fun W' hW' => ⟨Or.inl ⟨rfl, C3.out⟩, hW'⟩)

set_option maxHeartbeats 4000000 in
theorem least_wrong (n : Nat) (hn : n ≤ 6) (l : List Rw) (v : Value) (w : World) (hR : ReadsR w v l) (hr : ¬ rowsFault l = 0) :
    Calls Tryz.prog 67 #[.int .i64 n, v] w fun e w' => e = .returned (.tuple #[.agg (arr8 zeroC), .iface 61 (.int .i64 (rowsFault l))]) ∧ Below w.heap.size w w' := by
  obtain ⟨lao, lcap, rfl, hll⟩ := hR.slice
  obtain ⟨A, hA⟩ : ∃ A, A = everyC n := ⟨_, rfl⟩
  obtain ⟨F, hF⟩ : ∃ F, F = rowsFault l := ⟨_, rfl⟩
  have HF : Hid (∀ (M : Nat → Int) W, Below w.heap.size w W → Calls Tryz.prog 89 #[.slice lao l.length lcap, .agg #[.int .i64 (M 0), .int .i64 (M 1), .int .i64 (M 2), .int .i64 (M 3), .int .i64 (M 4), .int .i64 (M 5), .int .i64 (M 6), .int .i64 (M 7)]] W fun e w' => e = .returned (.tuple #[.bool false, .iface 61 (.int .i64 F)]) ∧ Below W.heap.size W w') := fun M W hW => by
    have h := rfits_any l _ M W (hR.below hW)
    have ef : fitsFault l M = rowsFault l := by unfold fitsFault; rw [if_neg hr]
    have e : fitsIs l M = false := by unfold fitsIs; rw [ef, if_neg hr]
    rw [e, ef, errV_no hr, ← hF] at h
    exact h
  have HS : Hid (∀ Bu W, W.cell? ⟨Bu, 0, none⟩ = some (.int .i64 n) → SeqG 2 Tryz.prog 58 #[.pointer (some ⟨Bu, 0, none⟩)] enc8 A W) := fun Bu W hB => by rw [hA]; exact iter_any n hn 2 (by omega) Bu W hB
  have HLn : Hid (0 < A.length) := by unfold Hid; rw [hA]; exact List.length_pos_iff.2 (allF_ne 7 n _)
  have HCk : Hid (∀ W, Calls Tryz.prog 59 #[.int .i64 n] W fun e w' => e = .returned .nilIface ∧ W = w') := fun W => fitCheck_ok n hn W
  rw [← hF]
  clear hA hF hr hn
  obtain ⟨Z, hZ⟩ : ∃ Z : Nat → Int, Z = zeroC := ⟨_, rfl⟩
  refine (callsIn_wide (n := 3)).1 ?_
  refine callsIn_of_wp_marks Tryz.func67 rfl trivial ?_ rfl
  simp only [Tryz.ntmps67, List.size_toArray, List.length_cons, List.length_nil, Nat.reduceAdd, Nat.reduceSub, Array.replicate_succ, Array.replicate_zero, List.push_toArray, List.append_toArray, List.nil_append, List.cons_append]
  have HZ : Hid (Z = zeroC) := hZ
  clear hZ
  gi_wp2_with fail
  refine ⟨trivial, ?_⟩
  gi_at_call 59
  refine (callsIn_wide.2 (HCk.out _)).mono ?_
  rintro e w1 ⟨rfl, rfl⟩
  gi_wp2_with fail
  refine ⟨trivial, ?_⟩
  gi_at_call 31
  refine (callsIn_wide.2 (fitAll_any _ _)).mono ?_
  rintro e w3 ⟨rfl, rfl⟩
  gi_wp2_with fail
  obtain ⟨hsz, b0, b1, b2, b3, hB0⟩ := four_new w (.cells #[.slice lao l.length lcap] 105) (.cells #[.int .i64 0, .int .i64 0, .int .i64 0, .int .i64 0, .int .i64 0, .int .i64 0, .int .i64 0, .int .i64 0] 64) (.cells #[.nilIface] 23) (.cells #[.int .i64 n] 3)
  obtain ⟨wl, hwl⟩ : ∃ x, x = (((w.alloc (.cells #[.slice lao l.length lcap] 105)).alloc (.cells #[.int .i64 0, .int .i64 0, .int .i64 0, .int .i64 0, .int .i64 0, .int .i64 0, .int .i64 0, .int .i64 0] 64)).alloc (.cells #[.nilIface] 23)).alloc (.cells #[.int .i64 n] 3) := ⟨_, rfl⟩
  rw [← hwl] at hsz b0 b1 b2 b3 hB0 ⊢
  clear hwl
  have HB0 : Hid (Below w.heap.size w wl) := hB0
  have Hsz : Hid (wl.heap.size = w.heap.size + 4) := hsz
  have H0 : Hid (Blk wl w.heap.size 105 #[.slice lao l.length lcap]) := b0
  have H1 : Hid (Blk wl (w.heap.size + 1) 64 (arr8 Z)) := by unfold Hid; rw [HZ.out]; exact b1
  have H2 : Hid (Blk wl (w.heap.size + 1 + 1) 23 #[.nilIface]) := b2
  have H4 : Hid (Blk wl (w.heap.size + 1 + 1 + 1) 3 #[.int .i64 n]) := b3
  clear hsz b0 b1 b2 b3 hB0
  refine wpIn_range_own (by omega) (gf := 58) (lb := #[.pointer (some ⟨w.heap.size + 1 + 1 + 1, 0, none⟩)]) rfl (enters_of Tryz.func58 (by kernel_rfl) rfl) (encs := enc8) (A := A)
    (fun W hW => HS.out _ W ((hW.cell (by rw [Hsz.out]; simp)).trans (H4.out.cell 0))) (fun _ => rfl)
    (fun k W => Below w.heap.size w W ∧ Blk W w.heap.size 105 #[.slice lao l.length lcap] ∧ Blk W (w.heap.size + 1) 64 (arr8 Z) ∧ Blk W (w.heap.size + 1 + 1) 23 #[.nilIface] ∧ k = 0)
    (fun _ W => Below w.heap.size w W ∧ Blk W (w.heap.size + 1) 64 (arr8 zeroC) ∧ Blk W (w.heap.size + 1 + 1) 23 #[.iface 61 (.int .i64 F)] ∧ True)
    (fun k X Y h hb => ⟨h.1.trans (hb.mono (by rw [Hsz.out]; omega)), h.2.1.keep hb (by rw [Hsz.out]; omega), h.2.2.1.keep hb (by rw [Hsz.out]; omega), h.2.2.2.1.keep hb (by rw [Hsz.out]; omega), h.2.2.2.2⟩)
    (fun _ X Y h hb => ⟨h.1.trans (hb.mono (by rw [Hsz.out]; omega)), h.2.1.keep hb (by rw [Hsz.out]; omega), h.2.2.1.keep hb (by rw [Hsz.out]; omega), h.2.2.2⟩) ⟨HB0.out, H0.out, H1.out, H2.out, rfl⟩ ?round ?done ?stop
  case round =>
    intro ln k x W hx hl1 hl2 ⟨hB, c0, c1, c2, c3⟩
    have HX : Hid (A[k]? = some x) := hx
    have Hl1 : Hid (w.heap.size + 4 ≤ ln) := by unfold Hid; rw [← Hsz.out]; exact hl1
    have Hl2 : Hid (ln < W.heap.size) := hl2
    have HBk : Hid (Below w.heap.size w W) := hB
    have C0 : Hid (Blk W w.heap.size 105 #[.slice lao l.length lcap]) := c0
    have C1 : Hid (Blk W (w.heap.size + 1) 64 (arr8 Z)) := c1
    have C2 : Hid (Blk W (w.heap.size + 1 + 1) 23 #[.nilIface]) := c2
    clear hx hl1 hl2 hB c0 c1 c2 c3
    unfold enc8
    gi_wp2
    refine ⟨(Over.refl _ _).alloc _, fun o => ?_⟩
    obtain ⟨W2, hW2⟩ : ∃ X, X = (W.alloc (.cells #[.int .i64 (x 0), .int .i64 (x 1), .int .i64 (x 2), .int .i64 (x 3), .int .i64 (x 4), .int .i64 (x 5), .int .i64 (x 6), .int .i64 (x 7)] 64)).putObj ln o := ⟨_, rfl⟩
    obtain ⟨Gx, hGx⟩ : ∃ G, G = W.heap.size := ⟨_, rfl⟩
    have HB2 : Hid (Below w.heap.size w W2) := by unfold Hid; rw [hW2]; exact (HBk.out.alloc HBk.out.size _).trans (below_putObj _ _ (by have := Hl1.out; omega))
    have D0 : Hid (Blk W2 w.heap.size 105 #[.slice lao l.length lcap]) := by unfold Hid; rw [hW2]; exact (C0.out.old _).putO _ (by have := Hl1.out; omega)
    have D1 : Hid (Blk W2 (w.heap.size + 1) 64 (arr8 Z)) := by unfold Hid; rw [hW2]; exact (C1.out.old _).putO _ (by have := Hl1.out; omega)
    have D2 : Hid (Blk W2 (w.heap.size + 1 + 1) 23 #[.nilIface]) := by unfold Hid; rw [hW2]; exact (C2.out.old _).putO _ (by have := Hl1.out; omega)
    have D8 : Hid (Blk W2 Gx 64 (arr8 x)) := by unfold Hid; rw [hW2, hGx]; exact (Blk.new _ _ _).putO _ (by have := Hl2.out; omega)
    rw [← hW2, ← hGx]
    clear hW2 hGx
    have HFk : Hid (Calls Tryz.prog 89 #[.slice lao l.length lcap, .agg #[.int .i64 (x 0), .int .i64 (x 1), .int .i64 (x 2), .int .i64 (x 3), .int .i64 (x 4), .int .i64 (x 5), .int .i64 (x 6), .int .i64 (x 7)]] W2 fun e w' => e = .returned (.tuple #[.bool false, .iface 61 (.int .i64 F)]) ∧ Below W2.heap.size W2 w') := HF.out x W2 HB2.out
    have e0 : W2.cell? ⟨w.heap.size, 0, none⟩ = some (.slice lao l.length lcap) := D0.out.cell 0
    obtain ⟨x0, x1, x2, x3, x4, x5, x6, x7⟩ := D8.out.cells8
    gi_wp2_with fail
    refine ⟨trivial, ?_⟩
    gi_at_call 89
    refine (CallsIn.inRound ln (callsIn_wide.2 HFk.out)).mono ?_
    rintro e W3 ⟨rfl, hb3⟩
    have HB3 : Hid (Below w.heap.size w W3) := HB2.out.trans (hb3.mono HB2.out.size)
    have E0 : Hid (Blk W3 w.heap.size 105 #[.slice lao l.length lcap]) := D0.out.below hb3
    have E1 : Hid (Blk W3 (w.heap.size + 1) 64 (arr8 Z)) := D1.out.below hb3
    have E2 : Hid (Blk W3 (w.heap.size + 1 + 1) 23 #[.nilIface]) := D2.out.below hb3
    have E8 : Hid (Blk W3 Gx 64 (arr8 x)) := D8.out.below hb3
    have HO3 : Hid (Over wl.heap.size W2 W3) := Over.of_below hb3
    clear hb3 e0 x0 x1 x2 x3 x4 x5 x6 x7
    obtain ⟨r0, r1, r2, r3, r4, r5, r6, r7⟩ := E1.out.cells8
    obtain ⟨f0, f1, f2, f3, f4, f5, f6, f7⟩ := E1.out.frozen8
    have e2 : W3.cell? ⟨w.heap.size + 1 + 1, 0, none⟩ = some .nilIface := E2.out.cell 0
    have z2 : W3.frozen? ⟨w.heap.size + 1 + 1, 0, none⟩ = false := E2.out.frozen 0
    gi_wp2
    exact ⟨(over_put8 HO3.out (by rw [Hsz.out]; omega) zeroC).setCell (by rw [Hsz.out]; simp) _, (put8_below HB3.out (by omega) zeroC).setCell (by simp; omega) _, (put8_blk E1.out zeroC).far (by omega) _ _, (put8_far E2.out (by omega) zeroC).set 0 _, trivial⟩
  case done =>
    intro D W _ ⟨_, _, _, _, h0⟩
    have := HLn.out
    omega
  case stop =>
    intro D k W hD _ ⟨hB, c1, c2, _⟩ hK
    have HD : Hid (w.heap.size + 4 ≤ D) := by unfold Hid; rw [← Hsz.out]; exact hD
    have HK : Hid (W.heap[D]? = some (.deferred (some []))) := hK
    have HBk : Hid (Below w.heap.size w W) := hB
    have C1 : Hid (Blk W (w.heap.size + 1) 64 (arr8 zeroC)) := c1
    have C2 : Hid (Blk W (w.heap.size + 1 + 1) 23 #[.iface 61 (.int .i64 F)]) := c2
    clear hD hB c1 c2 hK
    gi_wp2
    exact least_leaves HD.out HK.out HBk.out C1.out C2.out rfl rfl (fun W' hW' => ⟨rfl, hW'⟩)

set_option maxHeartbeats 4000000 in
theorem least_range (u : Int) (hu : ¬ (0 ≤ u ∧ u ≤ 6)) (lao : Option Addr) (ln lcap : Nat) (w : World) :
    Calls Tryz.prog 67 #[.int .i64 u, .slice lao ln lcap] w fun e w' => e = .returned (.tuple #[.agg (arr8 zeroC), .iface 61 (.int .i64 1)]) ∧ Below w.heap.size w w' := by
  have HCk : Hid (∀ W, Calls Tryz.prog 59 #[.int .i64 u] W fun e w' => e = .returned (.iface 61 (.int .i64 1)) ∧ W = w') := fun W => fitCheck_no u hu W
  clear hu
  obtain ⟨w1, hw1⟩ : ∃ x, x = ((w.alloc (.cells #[.slice lao ln lcap] 105)).alloc (.cells #[.int .i64 0, .int .i64 0, .int .i64 0, .int .i64 0, .int .i64 0, .int .i64 0, .int .i64 0, .int .i64 0] 64)).alloc (.cells #[.nilIface] 23) := ⟨_, rfl⟩
  have HB : Hid (Below w.heap.size w w1) := by unfold Hid; rw [hw1]; exact ((below_alloc1 _ _).alloc (by simp) _).alloc (by simp; omega) _
  have E1 : Hid (Blk w1 (w.heap.size + 1) 64 (arr8 zeroC)) := by
    unfold Hid; rw [hw1]
    have := Blk.new (w.alloc (.cells #[.slice lao ln lcap] 105)) 64 (arr8 zeroC)
    rw [World.size_alloc] at this
    exact this.old _
  have E2 : Hid (Blk w1 (w.heap.size + 1 + 1) 23 #[.nilIface]) := by
    unfold Hid; rw [hw1]
    have := Blk.new ((w.alloc (.cells #[.slice lao ln lcap] 105)).alloc (.cells (arr8 zeroC) 64)) 23 #[.nilIface]
    rw [World.size_alloc, World.size_alloc] at this
    exact this
  go_enter Tryz.func67, Tryz.ntmps67
  go_wp2_with fail
  rw [← hw1]
  clear hw1
  go_at_call 59
  refine (HCk.out _).mono ?_
  rintro e w2 ⟨rfl, rfl⟩
  have r0 : w1.cell? ⟨w.heap.size + 1, 0, none⟩ = some (.int .i64 0) := E1.out.cell 0
  have r1 : w1.cell? ⟨w.heap.size + 1, 1, none⟩ = some (.int .i64 0) := E1.out.cell 1
  have r2 : w1.cell? ⟨w.heap.size + 1, 2, none⟩ = some (.int .i64 0) := E1.out.cell 2
  have r3 : w1.cell? ⟨w.heap.size + 1, 3, none⟩ = some (.int .i64 0) := E1.out.cell 3
  have r4 : w1.cell? ⟨w.heap.size + 1, 4, none⟩ = some (.int .i64 0) := E1.out.cell 4
  have r5 : w1.cell? ⟨w.heap.size + 1, 5, none⟩ = some (.int .i64 0) := E1.out.cell 5
  have r6 : w1.cell? ⟨w.heap.size + 1, 6, none⟩ = some (.int .i64 0) := E1.out.cell 6
  have r7 : w1.cell? ⟨w.heap.size + 1, 7, none⟩ = some (.int .i64 0) := E1.out.cell 7
  obtain ⟨f0, f1, f2, f3, f4, f5, f6, f7⟩ := E1.out.frozen8
  have e2 : w1.cell? ⟨w.heap.size + 1 + 1, 0, none⟩ = some .nilIface := E2.out.cell 0
  have z2 : w1.frozen? ⟨w.heap.size + 1 + 1, 0, none⟩ = false := E2.out.frozen 0
  go_wp2
  have l1 := load8 ((put8_blk E1.out zeroC).far (R := w.heap.size + 1 + 1) (by omega) 0 (.iface 61 (.int .i64 1)))
  have l2 := loadE ((put8_far E2.out (R := w.heap.size + 1) (by omega) zeroC).set 0 (.iface 61 (.int .i64 1)))
  refine bodyPost_ret (v := .tuple #[.agg (arr8 zeroC), .iface 61 (.int .i64 1)]) ?_ rfl ⟨rfl, (put8_below HB.out (by omega) zeroC).setCell (by simp; omega) _⟩
  rw [results_two rfl]
  unfold put8 zeroC at l1 l2
  simp [asAddr, Result.andThen, l1, l2]
  rfl

/-- Least, whatever the number of things and the rows. -/
theorem least_any (u : Int) (l : List Rw) (v : Value) (w : World) (hR : ReadsR w v l) :
    Calls Tryz.prog 67 #[.int .i64 u, v] w fun e w' => e = .returned (.tuple #[.agg (arr8 (leastN u l)), errV (leastFault u l)]) ∧ Below w.heap.size w w' := by
  by_cases hu : 0 ≤ u ∧ u ≤ 6
  · obtain ⟨n, rfl⟩ := Int.eq_ofNat_of_zero_le hu.1
    have eff : fitFault (n : Int) l = rowsFault l := by unfold fitFault; rw [if_pos hu]
    by_cases hr : rowsFault l = 0
    · have em : fitManyN (n : Int) l = (manyD (everyC n) (fitB l) 0 : Int) := by unfold fitManyN; rw [eff, if_pos hr, Int.toNat_natCast]
      have el : leastN (n : Int) l = leastD (everyC n) (fitB l) 0 := by unfold leastN; rw [eff, if_pos hr, Int.toNat_natCast]
      have ef : leastFault (n : Int) l = if manyD (everyC n) (fitB l) 0 = 0 then 5 else 0 := by
        unfold leastFault
        rw [eff, if_pos hr, em]
        by_cases h : manyD (everyC n) (fitB l) 0 = 0
        · rw [if_pos h, if_pos (by omega)]
        · rw [if_neg h, if_neg (by omega)]
      refine (least_right n (by omega) l v w hR hr).mono ?_
      rintro e w' ⟨⟨rfl, h⟩ | ⟨rfl, h⟩, hb⟩
      · rw [el, ef, if_neg h]; exact ⟨rfl, hb⟩
      · rw [el, ef, if_pos h, manyD_none h]; exact ⟨rfl, hb⟩
    · have el : leastN (n : Int) l = zeroC := by unfold leastN; rw [eff, if_neg hr]
      have ef : leastFault (n : Int) l = rowsFault l := by unfold leastFault; rw [eff, if_neg hr]
      rw [el, ef, errV_no hr]
      exact least_wrong n (by omega) l v w hR hr
  · have eff : fitFault u l = 1 := by unfold fitFault; rw [if_neg hu]
    have el : leastN u l = zeroC := by unfold leastN; rw [eff, if_neg (by decide)]
    have ef : leastFault u l = 1 := by unfold leastFault; rw [eff, if_neg (by decide)]
    rw [el, ef]
    obtain ⟨lao, lcap, rfl, _⟩ := hR.slice
    exact least_range u hu lao _ lcap w
end Go.Proofs.YtpdpnlpepfgknafGreatDoor

namespace Go.Proofs.YtpdpnlpepfgknafGreatDoor
open Go.ChangeShapes Go.WideShapes Go.ChangeAt Go.RowKit
set_option maxRecDepth 100000

theorem infoBool : (Tryz.prog.info? 4).map (fun i => (i.zero, i.size, i.bytes)) = some (some (.bool false), 1, 1) := by kernel_rfl

/-- the slice v reads, in the world w, as these booleans. -/
def ReadsB (w : World) (b off : Nat) (hs : List Bool) : Prop := b < w.heap.size ∧ ∀ k, k < hs.length → w.cell? ⟨b, off + k, none⟩ = some (.bool (hs.getD k false))

end Go.Proofs.YtpdpnlpepfgknafGreatDoor

namespace Go.Proofs.YtpdpnlpepfgknafGreatDoor
open Go.ChangeShapes Go.WideShapes Go.ChangeAt Go.RowKit
set_option maxRecDepth 100000

theorem fmade_op (s : Int) (x y : Bool) (hs : s = 10 ∨ s = 11 ∨ s = 13) (B off cap : Nat) (vh : Value) (w : World) (c0 : w.cell? ⟨B, off, none⟩ = some (.bool x)) (c1 : w.cell? ⟨B, off + 1, none⟩ = some (.bool y)) (held : List Bool) :
    Calls Tryz.prog 69 #[.int .i64 s, .slice (some ⟨B, off, none⟩) 2 cap, vh] w fun e w' => e = .returned (.bool (madeF held s [x, y])) ∧ w = w' := by
  rcases hs with rfl | rfl | rfl
  · cases x
    all_goals
      go_enter Tryz.func69, Tryz.ntmps69
      go_wp2
      go_ret
      exact ⟨rfl, rfl⟩
  · cases x
    all_goals
      go_enter Tryz.func69, Tryz.ntmps69
      go_wp2
      go_ret
      exact ⟨rfl, rfl⟩
  · cases x
    all_goals
      go_enter Tryz.func69, Tryz.ntmps69
      go_wp2
      go_ret
      exact ⟨rfl, rfl⟩
theorem fmade_no (x : Bool) (B off cap : Nat) (vh : Value) (w : World) (c0 : w.cell? ⟨B, off, none⟩ = some (.bool x)) (held : List Bool) :
    Calls Tryz.prog 69 #[.int .i64 12, .slice (some ⟨B, off, none⟩) 1 cap, vh] w fun e w' => e = .returned (.bool (madeF held 12 [x])) ∧ w = w' := by
  go_enter Tryz.func69, Tryz.ntmps69
  go_wp2
  go_ret
  exact ⟨rfl, rfl⟩
theorem fmade_leaf (s : Int) (held : List Bool) (h0 : 0 ≤ s) (h1 : s < held.length) (h6 : held.length ≤ 6) (hb ho hcap : Nat) (v : Value) (w : World) (hR : ReadsB w hb ho held) :
    Calls Tryz.prog 69 #[.int .i64 s, v, .slice (some ⟨hb, ho, none⟩) held.length hcap] w fun e w' => e = .returned (.bool (madeF held s [])) ∧ w = w' := by
  obtain ⟨k, rfl⟩ := Int.eq_ofNat_of_zero_le h0
  have e : madeF held (k : Int) [] = held.getD k false := by rw [madeF_leaf held (takesF_low (by omega)) []]; simp
  rw [e]
  have hc := hR.2 k (by omega)
  obtain ⟨x, hx⟩ : ∃ x, x = held.getD k false := ⟨_, rfl⟩
  rw [← hx] at hc ⊢
  obtain ⟨m, hm⟩ : ∃ m, m = held.length := ⟨_, rfl⟩
  rw [← hm] at h1 h6 ⊢
  clear hx hm hR e
  have g0 : ((k : Int) == 10) = false := by simp; omega
  have g1 : ((k : Int) == 11) = false := by simp; omega
  have g2 : ((k : Int) == 13) = false := by simp; omega
  have g3 : ((k : Int) == 12) = false := by simp; omega
  have h0' : (0 : Int) ≤ (k : Int) := by omega
  go_enter Tryz.func69, Tryz.ntmps69
  go_wp2
  go_ret
  exact ⟨rfl, rfl⟩
end Go.Proofs.YtpdpnlpepfgknafGreatDoor

namespace Go.Proofs.YtpdpnlpepfgknafGreatDoor
open Go.ChangeShapes Go.WideShapes Go.ChangeAt Go.RowKit
set_option maxRecDepth 100000

theorem stepF_leaf (held p : List Bool) (s : Int) (h : takesF s = 0) : stepF held p s = p.take p.length ++ [madeF held s []] := by
  unfold stepF restF
  rw [h, madeF_leaf held h, madeF_leaf held h]; rfl
theorem stepF_one (held p : List Bool) (h : 1 ≤ p.length) : stepF held p 12 = p.take (p.length - 1) ++ [madeF held 12 [p.getD (p.length - 1) false]] := by
  unfold stepF restF
  have e : (p.drop (p.length - 1)) = [p.getD (p.length - 1) false] := by
    rw [List.drop_eq_getElem_cons (by omega), List.drop_eq_nil_of_le (by omega)]
    simp [List.getElem?_eq_getElem (show p.length - 1 < p.length by omega)]
  simp only [show takesF 12 = 1 from rfl, show (1 : Int).toNat = 1 from rfl, e]
theorem stepF_two (held p : List Bool) (s : Int) (ht : takesF s = 2) (h : 2 ≤ p.length) : stepF held p s = p.take (p.length - 2) ++ [madeF held s [p.getD (p.length - 2) false, p.getD (p.length - 2 + 1) false]] := by
  unfold stepF restF
  have e : (p.drop (p.length - 2)) = [p.getD (p.length - 2) false, p.getD (p.length - 2 + 1) false] := by
    rw [List.drop_eq_getElem_cons (by omega), List.drop_eq_getElem_cons (by omega), List.drop_eq_nil_of_le (by omega)]
    simp [List.getElem?_eq_getElem (show p.length - 2 < p.length by omega), List.getElem?_eq_getElem (show p.length - 2 + 1 < p.length by omega)]
  rw [ht]
  simp only [show (2 : Int).toNat = 2 from rfl, e]

theorem ownsRow_bool {w : World} {base : Nat} {e : TypeId} {g cap : Nat} {p : List Bool} (h : w.ownsRow base e 1 (.slice (some ⟨g, 0, none⟩) p.length cap) p.length (p.map Value.bool)) {j : Nat} (hj : j < p.length) : w.cell? ⟨g, j, none⟩ = some (.bool (p.getD j false)) := by
  rw [h.cellAt j (by omega)]
  simp [List.getElem?_eq_getElem hj]
/-- what a round leaves. -/
theorem fwork_rel {w1 wr w0 w2 : World} {K : Nat} {v v' : Value} {p q : List Bool} {r : Nat} {X : Bool} (hK : K ≤ wr.heap.size) (hb : Below K w1 wr) (h0 : Below wr.heap.size wr w0)
    (hown : w2.ownsRow K 4 1 v' (r + 1) (((p.take r).map Value.bool) ++ [.bool X])) (hv : ∀ k, v.ownBlock = some k → K ≤ k)
    (hg : w0.grownBy w2 v.ownBlock) (hr : r ≤ p.length) (hq : q = p.take r ++ [X]) :
    w2.ownsRow K 4 1 v' q.length (q.map Value.bool) ∧ Below K w1 w2 ∧ K ≤ w2.heap.size := by
  have hs : wr.heap.size ≤ w0.heap.size := h0.size
  have e1 : q.length = r + 1 := by rw [hq]; simp; omega
  have e2 : q.map Value.bool = ((p.take r).map Value.bool) ++ [.bool X] := by rw [hq]; simp
  have b1 : Below K w1 w0 := hb.trans (h0.mono hK)
  have b2 : Below K w1 w2 := b1.grown hg (by omega) hv
  refine ⟨by rw [e1, e2]; exact hown, b2, ?_⟩
  have := hg.size
  omega

set_option maxHeartbeats 4000000 in
theorem fwork_any (c : List Int) (B off cap : Nat) (held : List Bool) (hb ho hcap : Nat) (w : World) (hs : c.all (signF held.length) = true) (hone : cntF c 0 = some 1) (hl : c.length ≤ 20) (h6 : held.length ≤ 6) (hB : B < w.heap.size)
    (hc : ∀ k, k < c.length → w.cell? ⟨B, off + k, none⟩ = some (.int .i64 (c.getD k 0))) (hR : ReadsB w hb ho held) :
    Calls Tryz.prog 41 #[.slice (some ⟨B, off, none⟩) c.length cap, .slice (some ⟨hb, ho, none⟩) held.length hcap] w fun e w' => e = .returned (.bool (valF held c)) ∧ Below w.heap.size w w' := by
  obtain ⟨i0, hi, hz0, hz1, hz2⟩ := info_parts infoBool
  obtain ⟨K, hK⟩ : ∃ K, K = w.heap.size := ⟨_, rfl⟩
  have HK1 : Hid (w.heap.size = K) := hK.symm
  have HC : Hid (∀ k, k < c.length → w.cell? ⟨B, off + k, none⟩ = some (.int .i64 (c.getD k 0))) := hc
  have HBK : Hid (B < K) := by unfold Hid; omega
  have HRh : Hid (∀ W, Below K w W → ReadsB W hb ho held) := fun W hw => ⟨by have := hw.size; have := hR.1; omega, fun k hk => by rw [hw.cell (show (⟨hb, ho + k, none⟩ : Addr).block < K by have := hR.1; simp; omega)]; exact hR.2 k hk⟩
  rw [← hK]
  clear hc hB hK hR
  obtain ⟨n, hn⟩ : ∃ n, n = c.length := ⟨_, rfl⟩
  rw [← hn] at hl ⊢
  have HN : Hid (n = c.length) := hn
  clear hn
  have HL : Hid (∀ (s : Int) v W, 0 ≤ s → s < held.length → Below K w W → _) := fun s v W s0 s1 hw => fmade_leaf s held s0 s1 h6 hb ho hcap v W (HRh.out W hw)
  obtain ⟨m, hm⟩ : ∃ m, m = held.length := ⟨_, rfl⟩
  rw [← hm] at hs h6 HL ⊢
  clear hm HRh
  have HS : Hid (c.all (signF m) = true) := hs
  have HO : Hid (cntF c 0 = some 1) := hone
  clear hs hone
  obtain ⟨V, hV⟩ : ∃ V, V = valF held c := ⟨_, rfl⟩
  rw [← hV]
  have HV : Hid (V = valF held c) := hV
  clear hV
  go_enter Tryz.func41, Tryz.ntmps41
  go_wp2
  go_loopw [5, 11] (fun v i wr => ∃ (k : Nat) (p : List Bool), k ≤ n ∧ i = .int .i64 k ∧ wr.ownsRow K 4 1 v p.length (p.map Value.bool) ∧ Below K w wr ∧ K ≤ wr.heap.size ∧ p = pileF held (c.take k) [])
    (fun _ i _ => n - (intOf i).toNat)
  case atStart => exact ⟨0, [], Nat.zero_le _, rfl, World.ownsRow_nil _ _ _ _, Below.refl _ _, by rw [HK1.out]; exact Nat.le_refl _, rfl⟩
  case round =>
    obtain ⟨k, p, hk, rfl, hown0, hbel0, hKw0, hp0⟩ := hrel
    have hkt0 : cntF (c.take k) 0 = some (p.length : Int) := by
      obtain ⟨j, hj⟩ := cntF_take_some c k HO.out
      have := pileF_length held (c.take k) [] hj
      rw [← hp0] at this
      rw [this]; exact hj
    by_cases hlt : k < n
    · obtain ⟨s, hs⟩ : ∃ s, s = c.getD k 0 := ⟨_, rfl⟩
      have hkt : k < c.length := by rw [← HN.out]; exact hlt
      have hcell : wr.cell? ⟨B, off + k, none⟩ = some (.int .i64 s) := by rw [hs, hbel0.cell HBK.out]; exact HC.out k hkt
      have hsg : takesF s ≠ 0 ∨ (0 ≤ s ∧ s < m) := by
        refine signF_iff.1 (List.all_eq_true.1 HS.out s ?_)
        rw [hs, List.getD_eq_getElem?_getD, List.getElem?_eq_getElem hkt]; exact List.getElem_mem hkt
      have htk : takesF s ≤ p.length := by
        have h1 := cntF_take_succ c hkt hkt0
        rw [← hs] at h1
        obtain ⟨j, hj⟩ := cntF_take_some c (k + 1) HO.out
        by_cases h2 : (p.length : Int) < takesF s
        · rw [if_pos h2] at h1; rw [h1] at hj; cases hj
        · omega
      have HP : Hid (stepF held p s = pileF held (c.take (k + 1)) []) := by
        unfold Hid; rw [pileF_succ _ c [] hkt, ← hs, ← hp0]
      have hpl : p.length ≤ 20 := by
        have := (cntF_nonneg (Int.le_refl 0) hkt0).2
        simp at this; omega
      clear hs hkt hkt0 hp0
      have HBEL : Hid (Below K w wr) := hbel0
      have HKW : Hid (K ≤ wr.heap.size) := hKw0
      clear hbel0 hKw0
      by_cases h4 : takesF s = 0
      · have hsr : 0 ≤ s ∧ s < m := hsg.resolve_left (by simp [h4])
        have HM : Hid (∀ v W, Below wr.heap.size wr W → Calls Tryz.prog 69 #[.int .i64 s, v, .slice (some ⟨hb, ho, none⟩) m hcap] W fun e w' => e = .returned (.bool (madeF held s [])) ∧ W = w') := fun v W hW => HL.out s v W hsr.1 hsr.2 (HBEL.out.trans (hW.mono HKW.out))
        have HQ : Hid (stepF held p s = p.take p.length ++ [madeF held s []]) := stepF_leaf held p s h4
        have HT : Hid (∀ W, Calls Tryz.prog 55 #[.int .i64 s] W fun e w' => e = .returned (.int .i64 0) ∧ W = w') := fun W => by
          have := ftakes_any s W
          rw [h4] at this; exact this
        obtain ⟨X, hX⟩ : ∃ X, X = madeF held s [] := ⟨_, rfl⟩
        rw [← hX] at HM HQ
        clear hX htk hsg h4
        rcases hown0.2 with ⟨rfl, hp0⟩ | ⟨g, cap', cur, rfl, hg, hh, hm, hmax, _, _⟩
        · obtain rfl : p = [] := List.eq_nil_of_length_eq_zero hp0
          clear hown0 hp0
          go_wp2_with (go_at_call 55; refine (HT.out _).mono ?_; rintro e w' ⟨rfl, rfl⟩)
          go_region_held3 (fun _ => True) (trivial)
            (first
              | (go_at_call 69; refine (HM.out _ _ ((Below.refl _ wr).drew)).mono ?_; rintro e w' ⟨rfl, rfl⟩)
              | (refine step_append_lies _ (by rfl) _ _ _ (by rfl) K 4 i0 (.bool false) 1 1 Tryz.underlying57 hi hz0 hz1 hz2 rfl (by decide) (.slice none 0 0) 0 ([]) (by rfl) (World.ownsRow_nil _ _ _ _) ⟨wr.heap.size, 0, none⟩ 1 1 [.bool X] (by rfl) (by rfl) (World.news_of_block (cs := #[.bool X]) (t := 4) (fr := (0, 0)) (heap_alloc_new wr _)) (by simp [Value.oneCell']) (by omega) (by unfold maxLen; omega) (by omega) (by have := HKW.out; simp; omega) (wr.heap.size + 1) (by simp) ?_; intro gg cap1 w2 hown1 hgrow hat hlt1))
          have R := fwork_rel (q := pileF held (c.take (k + 1)) []) (p := []) (r := 0) HKW.out HBEL.out ((below_alloc1 wr _).drew) (hown1) (by intro k hk; cases hk) hgrow (Nat.zero_le _) (HP.out.symm.trans HQ.out)
          clear hown1 hgrow hat hlt1
          go_wp2
          go_roundw
          case rel => exact ⟨k + 1, _, by omega, by go_num, R.1, R.2.1, R.2.2, rfl⟩
          case measure => simp [intOf]; omega
        · obtain ⟨m', hm0⟩ : ∃ m', m' = p.length := ⟨_, rfl⟩
          have HOW : Hid (wr.ownsRow K 4 1 (.slice (some ⟨g, 0, none⟩) m' cap') m' (p.map Value.bool)) := by
            unfold Hid; rw [hm0]; exact hown0
          rw [← hm0] at HQ hm hpl ⊢
          have HM0 : Hid (m' = p.length) := hm0
          clear hown0 hm0 hh
          by_cases hcap : cap' = m'
          · subst hcap
            go_wp2_with (go_at_call 55; refine (HT.out _).mono ?_; rintro e w' ⟨rfl, rfl⟩)
            go_region_held3 (fun _ => True) (trivial)
              (first
                | (go_at_call 69; refine (HM.out _ _ ((Below.refl _ wr).drew)).mono ?_; rintro e w' ⟨rfl, rfl⟩)
                | (refine step_append_lies _ (by rfl) _ _ _ (by rfl) K 4 i0 (.bool false) 1 1 Tryz.underlying57 hi hz0 hz1 hz2 rfl (by decide) (.slice (some ⟨g, 0, none⟩) cap' cap') cap' ((p.map Value.bool).take cap') (by rfl) (((ownsRow_take HOW.out (by omega)).alloc _).drew) ⟨wr.heap.size, 0, none⟩ 1 1 [.bool X] (by rfl) (by rfl) (World.news_of_block (cs := #[.bool X]) (t := 4) (fr := (0, 0)) (heap_alloc_new wr _)) (by simp [Value.oneCell']) (by omega) (by unfold maxLen; omega) (by omega) (by have := HKW.out; simp; omega) (wr.heap.size + 1) (by simp) ?_; intro gg cap1 w2 hown1 hgrow hat hlt1))
            have R := fwork_rel (q := pileF held (c.take (k + 1)) []) (p := p) (r := cap') HKW.out HBEL.out ((below_alloc1 wr _).drew) (by rw [List.map_take]; exact hown1) (by intro k hk; cases hk; exact hg) hgrow (by have := HM0.out; omega) (HP.out.symm.trans HQ.out)
            clear hown1 hgrow hat hlt1
            go_wp2
            go_roundw
            case rel => exact ⟨k + 1, _, by omega, by go_num, R.1, R.2.1, R.2.2, rfl⟩
            case measure => simp [intOf]; omega
          · go_wp2_with (go_at_call 55; refine (HT.out _).mono ?_; rintro e w' ⟨rfl, rfl⟩)
            go_region_held3 (fun _ => True) (trivial)
              (first
                | (go_at_call 69; refine (HM.out _ _ ((Below.refl _ wr).drew)).mono ?_; rintro e w' ⟨rfl, rfl⟩)
                | (refine step_append_lies _ (by rfl) _ _ _ (by rfl) K 4 i0 (.bool false) 1 1 Tryz.underlying57 hi hz0 hz1 hz2 rfl (by decide) (.slice (some ⟨g, 0, none⟩) m' cap') m' ((p.map Value.bool).take m') (by rfl) (((ownsRow_take HOW.out (by omega)).alloc _).drew) ⟨wr.heap.size, 0, none⟩ 1 1 [.bool X] (by rfl) (by rfl) (World.news_of_block (cs := #[.bool X]) (t := 4) (fr := (0, 0)) (heap_alloc_new wr _)) (by simp [Value.oneCell']) (by omega) (by unfold maxLen; omega) (by omega) (by have := HKW.out; simp; omega) (wr.heap.size + 1) (by simp) ?_; intro gg cap1 w2 hown1 hgrow hat hlt1))
            have R := fwork_rel (q := pileF held (c.take (k + 1)) []) (p := p) (r := m') HKW.out HBEL.out ((below_alloc1 wr _).drew) (by rw [List.map_take]; exact hown1) (by intro k hk; cases hk; exact hg) hgrow (by have := HM0.out; omega) (HP.out.symm.trans HQ.out)
            clear hown1 hgrow hat hlt1
            go_wp2
            go_roundw
            case rel => exact ⟨k + 1, _, by omega, by go_num, R.1, R.2.1, R.2.2, rfl⟩
            case measure => simp [intOf]; omega
      by_cases h8 : s = 12
      · subst h8
        have htk1 : 1 ≤ p.length := by
          rw [show takesF 12 = 1 from rfl] at htk; omega
        have HT : Hid (∀ W, Calls Tryz.prog 55 #[.int .i64 12] W fun e w' => e = .returned (.int .i64 1) ∧ W = w') := fun W => ftakes_any 12 W
        rcases hown0.2 with ⟨rfl, hp0⟩ | ⟨g, cap', cur, rfl, hg, hh, hm, hmax, _, _⟩
        · omega
        · obtain ⟨r, hr⟩ : ∃ r, p.length = r + 1 := ⟨p.length - 1, by omega⟩
          have HM0 : Hid (p.length = r + 1) := hr
          have HOW : Hid (wr.ownsRow K 4 1 (.slice (some ⟨g, 0, none⟩) (r + 1) cap') (r + 1) (p.map Value.bool)) := by
            unfold Hid; rw [← hr]; exact hown0
          have hcx : Hid (∀ W, Below wr.heap.size wr W → W.cell? ⟨g, r, none⟩ = some (.bool (p.getD r false))) := fun W hb => by
            rw [hb.cell (ownsRow_block hown0).2.1]; exact ownsRow_bool hown0 (by omega)
          obtain ⟨x, hx⟩ : ∃ x, x = p.getD r false := ⟨_, rfl⟩
          rw [← hx] at hcx
          have HM : Hid (∀ W c' v, Below wr.heap.size wr W → _) := fun W c' v hb => fmade_no x g r c' v W (hcx.out W hb) held
          have HQ : Hid (stepF held p 12 = p.take r ++ [madeF held 12 [x]]) := by
            have := stepF_one held p (by omega)
            rw [hr, Nat.add_sub_cancel, ← hx] at this; exact this
          obtain ⟨X, hX⟩ : ∃ X, X = madeF held 12 [x] := ⟨_, rfl⟩
          rw [← hX] at HM HQ
          have hle : (r : Int) ≤ (r : Int) + 1 := by omega
          have hcap : ¬ cap' = r := by omega
          have hcap2 : r < cap' := by omega
          have hcap3 : (r : Int) ≤ (cap' : Int) := by omega
          have hr0 : (0 : Int) ≤ (r : Int) := by omega
          rw [hr] at hm hpl ⊢
          clear hX hx hcx hown0 hh hr htk htk1 h4 hsg
          go_wp2_with (go_at_call 55; refine (HT.out _).mono ?_; rintro e w' ⟨rfl, rfl⟩)
          go_region_held3 (fun _ => True) (trivial)
            (first
              | (go_at_call 69; refine (HM.out _ _ _ ((Below.refl _ wr).drew)).mono ?_; rintro e w' ⟨rfl, rfl⟩)
              | (refine step_append_lies _ (by rfl) _ _ _ (by rfl) K 4 i0 (.bool false) 1 1 Tryz.underlying57 hi hz0 hz1 hz2 rfl (by decide) (.slice (some ⟨g, 0, none⟩) r cap') r ((p.map Value.bool).take r) (by rfl) (((ownsRow_take HOW.out (by omega)).alloc _).drew) ⟨wr.heap.size, 0, none⟩ 1 1 [.bool X] (by rfl) (by rfl) (World.news_of_block (cs := #[.bool X]) (t := 4) (fr := (0, 0)) (heap_alloc_new wr _)) (by simp [Value.oneCell']) (by omega) (by unfold maxLen; omega) (by omega) (by have := HKW.out; simp; omega) (wr.heap.size + 1) (by simp) ?_; intro gg cap1 w2 hown1 hgrow hat hlt1))
          have R := fwork_rel (q := pileF held (c.take (k + 1)) []) (p := p) (r := r) HKW.out HBEL.out ((below_alloc1 wr _).drew) (by rw [List.map_take]; exact hown1) (by intro k hk; cases hk; exact hg) hgrow (by have := HM0.out; omega) (HP.out.symm.trans HQ.out)
          clear hown1 hgrow hat hlt1
          go_wp2
          go_roundw
          case rel => exact ⟨k + 1, _, by omega, by go_num, R.1, R.2.1, R.2.2, rfl⟩
          case measure => simp [intOf]; omega
      · have hs3 : s = 10 ∨ s = 11 ∨ s = 13 := by
          by_cases h3 : s = 10 ∨ s = 11 ∨ s = 13
          · exact h3
          · exact absurd (show takesF s = 0 by unfold takesF; rw [if_neg h3, if_neg h8]) h4
        have ht2 : takesF s = 2 := by unfold takesF; rw [if_pos hs3]
        rw [ht2] at htk
        have HT : Hid (∀ W, Calls Tryz.prog 55 #[.int .i64 s] W fun e w' => e = .returned (.int .i64 2) ∧ W = w') := fun W => by
          have := ftakes_any s W
          rw [ht2] at this; exact this
        rcases hown0.2 with ⟨rfl, hp0⟩ | ⟨g, cap', cur, rfl, hg, hh, hm, hmax, _, _⟩
        · omega
        · obtain ⟨r, hr⟩ : ∃ r, p.length = r + 2 := ⟨p.length - 2, by omega⟩
          have HM0 : Hid (p.length = r + 2) := hr
          have HOW : Hid (wr.ownsRow K 4 1 (.slice (some ⟨g, 0, none⟩) (r + 2) cap') (r + 2) (p.map Value.bool)) := by
            unfold Hid; rw [← hr]; exact hown0
          have hcx : Hid (∀ W, Below wr.heap.size wr W → W.cell? ⟨g, r, none⟩ = some (.bool (p.getD r false)) ∧ W.cell? ⟨g, r + 1, none⟩ = some (.bool (p.getD (r + 1) false))) := fun W hb => by
            refine ⟨?_, ?_⟩
            · rw [hb.cell (ownsRow_block hown0).2.1]; exact ownsRow_bool hown0 (by omega)
            · rw [hb.cell (ownsRow_block hown0).2.1]; exact ownsRow_bool hown0 (by omega)
          obtain ⟨x, hx⟩ : ∃ x, x = p.getD r false := ⟨_, rfl⟩
          obtain ⟨y, hy⟩ : ∃ y, y = p.getD (r + 1) false := ⟨_, rfl⟩
          rw [← hx, ← hy] at hcx
          have HM : Hid (∀ W c' v, Below wr.heap.size wr W → _) := fun W c' v hb => fmade_op s x y hs3 g r c' v W (hcx.out W hb).1 (hcx.out W hb).2 held
          have HQ : Hid (stepF held p s = p.take r ++ [madeF held s [x, y]]) := by
            have := stepF_two held p s ht2 (by omega)
            rw [hr, show r + 2 - 2 = r by omega, ← hx, ← hy] at this; exact this
          obtain ⟨X, hX⟩ : ∃ X, X = madeF held s [x, y] := ⟨_, rfl⟩
          rw [← hX] at HM HQ
          have hle : (r : Int) ≤ (r : Int) + 2 := by omega
          have hcap : ¬ cap' = r := by omega
          have hcap2 : r < cap' := by omega
          have hcap3 : (r : Int) ≤ (cap' : Int) := by omega
          have hr0 : (0 : Int) ≤ (r : Int) := by omega
          rw [hr] at hm hpl ⊢
          clear hX hx hy hcx hown0 hh hr htk h4 hsg h8 ht2 hs3
          go_wp2_with (go_at_call 55; refine (HT.out _).mono ?_; rintro e w' ⟨rfl, rfl⟩)
          go_region_held3 (fun _ => True) (trivial)
            (first
              | (go_at_call 69; refine (HM.out _ _ _ ((Below.refl _ wr).drew)).mono ?_; rintro e w' ⟨rfl, rfl⟩)
              | (refine step_append_lies _ (by rfl) _ _ _ (by rfl) K 4 i0 (.bool false) 1 1 Tryz.underlying57 hi hz0 hz1 hz2 rfl (by decide) (.slice (some ⟨g, 0, none⟩) r cap') r ((p.map Value.bool).take r) (by rfl) (((ownsRow_take HOW.out (by omega)).alloc _).drew) ⟨wr.heap.size, 0, none⟩ 1 1 [.bool X] (by rfl) (by rfl) (World.news_of_block (cs := #[.bool X]) (t := 4) (fr := (0, 0)) (heap_alloc_new wr _)) (by simp [Value.oneCell']) (by omega) (by unfold maxLen; omega) (by omega) (by have := HKW.out; simp; omega) (wr.heap.size + 1) (by simp) ?_; intro gg cap1 w2 hown1 hgrow hat hlt1))
          have R := fwork_rel (q := pileF held (c.take (k + 1)) []) (p := p) (r := r) HKW.out HBEL.out ((below_alloc1 wr _).drew) (by rw [List.map_take]; exact hown1) (by intro k hk; cases hk; exact hg) hgrow (by have := HM0.out; omega) (HP.out.symm.trans HQ.out)
          clear hown1 hgrow hat hlt1
          go_wp2
          go_roundw
          case rel => exact ⟨k + 1, _, by omega, by go_num, R.1, R.2.1, R.2.2, rfl⟩
          case measure => simp [intOf]; omega
    · have hpv : p = [V] := by
        rw [hp0, List.take_of_length_le (by have := HN.out; omega), pileF_one held HO.out, HV.out]; rfl
      subst hpv
      rcases hown0.2 with ⟨_, h0⟩ | ⟨g, cap', cur, rfl, hg, hh, hm, hmax, _, _⟩
      · simp at h0
      have hx : wr.cell? ⟨g, 0, none⟩ = some (.bool V) := ownsRow_bool hown0 (j := 0) (by simp)
      have HBEL : Hid (Below K w wr) := hbel0
      clear hown0 hbel0 hh hm hkt0 hp0
      simp only [List.length_singleton]
      go_wp2
      go_ret
      exact ⟨rfl, HBEL.out⟩
end Go.Proofs.YtpdpnlpepfgknafGreatDoor

namespace Go.Proofs.YtpdpnlpepfgknafGreatDoor
open Go.ChangeShapes Go.WideShapes Go.ChangeAt Go.RowKit
set_option maxRecDepth 100000

/-- the slice v is a new row of these numbers: it lies in K or behind. -/
def Fresh (K : Nat) (w : World) (v : Value) (t : List Int) : Prop := w.ownsRow K 3 1 v t.length (t.map (Value.int .i64))
theorem Fresh.reads {K : Nat} {w : World} {v : Value} {t : List Int} (h : Fresh K w v t) : Reads w v t := by
  rcases h.2 with ⟨rfl, h0⟩ | ⟨g, cap, cur, rfl, hg, hh, hn, hm, _, _⟩
  · exact Or.inl ⟨none, 0, rfl, List.eq_nil_of_length_eq_zero h0⟩
  · rcases Nat.eq_zero_or_pos t.length with h0 | h0
    · refine Or.inl ⟨some ⟨g, 0, none⟩, cap, by rw [h0], List.eq_nil_of_length_eq_zero h0⟩
    · refine Or.inr ⟨g, 0, cap, rfl, (Array.getElem?_eq_some_iff.1 hh).1, h0, ⟨by unfold maxLen at hm; omega, hn⟩, fun k hk => ?_⟩
      rw [Nat.zero_add]; exact ownsRow_int h hk
theorem Fresh.below {K : Nat} {w w' : World} {v : Value} {t : List Int} (h : Fresh K w v t) (hb : Below w.heap.size w w') : Fresh K w' v t := ownsRow_below h hb

set_option maxHeartbeats 2000000 in
theorem copied_any (t : List Int) (v : Value) (w : World) (h : Reads w v t) (hl : t.length ≤ 40) :
    Calls Tryz.prog 62 #[v] w fun e w' => ∃ v', e = .returned v' ∧ Fresh w.heap.size w' v' t ∧ Below w.heap.size w w' := by
  obtain ⟨i0, hi, hz0, hz1, hz2⟩ := info_parts infoInt
  rcases h with ⟨ao, cap, rfl, rfl⟩ | ⟨b, off, cap, rfl, hB, h0, ⟨_, hcap⟩, hc⟩
  · cases ao with
    | none =>
      have hrz : ∀ ty W, (Builtin.append_ #[27, 27] ty #[.slice none 0 0, .slice none 0 cap]).run Tryz.prog W = .ok (.slice none 0 0) W := fun ty W => by
        simp [Builtin.append_, Builtin.lenOf, Builtin.firstCells, run_underlying Tryz.underlying27]
      go_enter Tryz.func62, Tryz.ntmps62
      go_wp2_with (at_builtin; refine Lib.wpList_append_run _ rfl _ _ _ _ rfl _ _ rfl rfl _ _ (hrz _ _) ?_)
      go_ret
      exact ⟨_, rfl, World.ownsRow_nil _ _ _ _, Below.refl _ _⟩
    | some ad =>
      obtain ⟨K, hK⟩ : ∃ K, K = w.heap.size := ⟨_, rfl⟩
      have HK : Hid (K = w.heap.size) := hK
      rw [← hK]
      clear hK
      go_enter Tryz.func62, Tryz.ntmps62
      go_wp2_with (first | (at_builtin; refine wpList_append_own _ rfl _ (.tmp 3) 27 rfl K 3 i0 (.int .i64 0) 1 8 Tryz.underlying27 hi hz0 hz1 hz2 rfl (by decide) (.slice none 0 0) 0 [] rfl (World.ownsRow_nil _ _ _ _) ad 0 cap [] rfl rfl ?a1 ?a2 ?a3 ?a4 ?a5 ?_))
      case a1 => intro j u hu; simp at hu
      case a2 => intro u hu; cases hu
      case a3 => unfold maxLen; omega
      case a4 => omega
      case a5 => rw [HK.out]; exact Nat.le_refl _
      intro v' w2 hown' hgrow _
      have HO : Hid (Fresh K w2 v' [] ∧ Below K w w2) := ⟨hown', (Below.refl _ w).grown hgrow (by rw [HK.out]; exact Nat.le_refl _) (fun k hk => by cases hk)⟩
      clear hown' hgrow
      go_wp2
      go_ret
      exact ⟨_, rfl, HO.out.1, HO.out.2⟩
  · have HC : Hid (∀ k, k < t.length → w.cell? ⟨b, off + k, none⟩ = some (.int .i64 (t.getD k 0))) := hc
    clear hc hB
    obtain ⟨n, hn⟩ : ∃ n, n = t.length := ⟨_, rfl⟩
    have HN : Hid (n = t.length) := hn
    obtain ⟨K, hK⟩ : ∃ K, K = w.heap.size := ⟨_, rfl⟩
    have HK : Hid (K = w.heap.size) := hK
    rw [← hn] at hl h0 hcap ⊢
    rw [← hK]
    clear hn hK
    go_enter Tryz.func62, Tryz.ntmps62
    go_wp2_with (first | (at_builtin; refine wpList_append_own _ rfl _ (.tmp 3) 27 rfl K 3 i0 (.int .i64 0) 1 8 Tryz.underlying27 hi hz0 hz1 hz2 rfl (by decide) (.slice none 0 0) 0 [] rfl (World.ownsRow_nil _ _ _ _) ⟨b, off, none⟩ n cap (t.map (Value.int .i64)) rfl ?a0 ?a1 ?a2 ?a3 ?a4 ?a5 ?_))
    case a0 => rw [List.length_map, HN.out, Nat.mul_one]
    case a1 =>
      intro j u hu
      rw [Go.WideShapes.add_plain]
      have hj : j < t.length := by have := (List.getElem?_eq_some_iff.1 hu).1; simpa using this
      rw [HC.out j hj]
      rw [← hu]
      simp [List.getElem?_eq_getElem hj]
    case a2 => intro u hu; simp at hu; obtain ⟨_, _, rfl⟩ := hu; rfl
    case a3 => unfold maxLen; omega
    case a4 => omega
    case a5 => rw [HK.out]; exact Nat.le_refl _
    intro v' w2 hown' hgrow _
    have HO : Hid (Fresh K w2 v' t ∧ Below K w w2) := by
      refine ⟨?_, (Below.refl _ w).grown hgrow (by rw [HK.out]; exact Nat.le_refl _) (fun k hk => by cases hk)⟩
      have : w2.ownsRow K 3 1 v' n (t.map (Value.int .i64)) := by simpa using hown'
      rw [HN.out] at this
      exact this
    clear hown' hgrow
    go_wp2
    go_ret
    exact ⟨_, rfl, HO.out.1, HO.out.2⟩

theorem infoI : (Tryz.prog.info? 3).map (fun i => (i.zero, i.size, i.bytes)) = some (some (.int .i64 0), 1, 8) := by kernel_rfl

set_option maxHeartbeats 2000000 in
/-- slices.Grow of nothing: a new row with room. -/
theorem growI (n : Nat) (h0 : 0 < n) (h1 : n ≤ 40) (w : World) :
    Calls Tryz.prog 63 #[.slice none 0 0, .int .i64 n] w fun e w' => ∃ cap, e = .returned (.slice (some ⟨w.heap.size, 0, none⟩) 0 cap) ∧ w'.ownsRow w.heap.size 3 1 (.slice (some ⟨w.heap.size, 0, none⟩) 0 cap) 0 [] ∧ Below w.heap.size w w' ∧ w.heap.size < w'.heap.size := by
  obtain ⟨i0, hi, hz0, hz1, hz2⟩ := info_parts infoI
  have a1 : ¬ ((n : Int) < 0) := by omega
  have a4 : (n : Int) > 0 := by omega
  have hold : (Builtin.firstCells i0.size 0 (.slice none 0 0)).run Tryz.prog w.drew = .ok #[] w.drew := run_firstCells_none w.drew i0.size 0 0 0
  have hrz : ∀ ty, (Builtin.append_ #[27, 3] ty #[.slice none 0 0, .int .i64 n]).run Tryz.prog w =
      .ok (.slice (some ⟨w.heap.size, 0, none⟩) n (grownCap w n 0 3)) (w.drew.alloc (.cells (#[] ++ Builtin.zeroCells (Value.cells (.int .i64 0)) n ++ Builtin.zeroCells (Value.cells (.int .i64 0)) (grownCap w n 0 3 - n)) 3)) := fun ty => by
    have h := Lib.run_append_grow_zeros w 27 3 ty 3 i0 (.int .i64 0) .i64 .i64 Tryz.underlying27 Tryz.underlying3 hi hz0 none 0 0 [] hold n h0 (by omega) (by omega) (by omega) (by rw [hz2]; omega) (by rw [Nat.zero_add, hz2]; exact growslice_fits (by omega) (by omega))
    rw [Nat.zero_add] at h
    exact h
  have hGn : n ≤ grownCap w n 0 3 := grownCap_ge w _ _ _
  have hG63 : grownCap w n 0 3 ≤ maxLen := grownCap_le_maxLen w n 0 3 (by unfold maxLen; omega)
  obtain ⟨G, hG⟩ : ∃ G, G = grownCap w n 0 3 := ⟨_, rfl⟩
  rw [← hG] at hrz hGn hG63
  have HE : Hid (∃ w', w' = w.drew.alloc (.cells (#[] ++ Builtin.zeroCells (Value.cells (.int .i64 0)) n ++ Builtin.zeroCells (Value.cells (.int .i64 0)) (G - n)) 3) ∧ w'.ownsRow w.heap.size 3 1 (.slice (some ⟨w.heap.size, 0, none⟩) 0 G) 0 [] ∧ Below w.heap.size w w' ∧ w.heap.size < w'.heap.size) := by
    refine ⟨_, rfl, ?_, ?_, ?_⟩
    · refine ⟨by simp, .inr ⟨w.heap.size, G, _, rfl, Nat.le_refl _, heap_alloc_new w.drew _, Nat.zero_le _, hG63, ?_, by simp⟩⟩
      simp [Builtin.zeroCells, Value.cells]
      omega
    · exact ((Below.refl _ w).drew).trans (below_alloc1 w.drew _)
    · simp
  have hG63' : G ≤ 9223372036854775807 := by unfold maxLen at hG63; omega
  clear hold hG hG63
  obtain ⟨w', hw', HE⟩ := HE.out
  rw [← hw'] at hrz
  have HE' : Hid (w'.ownsRow w.heap.size 3 1 (.slice (some ⟨w.heap.size, 0, none⟩) 0 G) 0 [] ∧ Below w.heap.size w w' ∧ w.heap.size < w'.heap.size) := HE
  clear hw' HE
  go_enter Tryz.func63, Tryz.ntmps63
  go_wp2_with (at_builtin; refine Lib.wpList_append_run _ rfl _ _ _ _ rfl _ _ rfl rfl _ _ (hrz _) ?_)
  go_ret
  exact ⟨G, rfl, HE'.out⟩

/-- a row among those that are put together. -/
structure RowI where
  b : Nat
  off : Nat
  cap : Nat
  m : Nat
  vs : List Value
/-- a row lies there. -/
def RowI.Lies (w : World) (r : RowI) : Prop := r.b < w.heap.size ∧ 0 < r.m ∧ r.m ≤ r.cap ∧ r.vs.length = r.m * 1 ∧ (∀ u ∈ r.vs, u.oneCell' = true) ∧ ∀ j u, r.vs[j]? = some u → w.cell? ⟨r.b, r.off + j, none⟩ = some u
theorem RowI.Lies.below {w w' : World} {r : RowI} (h : r.Lies w) (hb : Below w.heap.size w w') : r.Lies w' :=
  ⟨Nat.lt_of_lt_of_le h.1 hb.size, h.2.1, h.2.2.1, h.2.2.2.1, h.2.2.2.2.1, fun j u hu => by rw [hb.cell h.1]; exact h.2.2.2.2.2 j u hu⟩
/-- how many, and what, they have together. -/
def manyI (l : List RowI) : Nat := (l.map (·.m)).sum
def allI (l : List RowI) : List Value := (l.map (·.vs)).flatten
theorem manyI_succ (l : List RowI) {k : Nat} {r : RowI} (h : l[k]? = some r) : manyI (l.take (k + 1)) = manyI (l.take k) + r.m := by
  unfold manyI
  rw [List.take_add_one, h]; simp
theorem allI_succ (l : List RowI) {k : Nat} {r : RowI} (h : l[k]? = some r) : allI (l.take (k + 1)) = allI (l.take k) ++ r.vs := by
  unfold allI
  rw [List.take_add_one, h]; simp
theorem manyI_take (l : List RowI) (k : Nat) : manyI (l.take k) ≤ manyI l := by
  have : manyI l = manyI (l.take k) + manyI (l.drop k) := by
    unfold manyI
    rw [← List.sum_append_nat, ← List.map_append, List.take_append_drop]
  omega

set_option maxHeartbeats 4000000 in
/-- slices.Concat: a new row of all. -/
theorem concatI (l : List RowI) (A lcap : Nat) (w : World) (hl : l.length ≤ 4) (hA : A < w.heap.size) (hc : ∀ k r, l[k]? = some r → w.cell? ⟨A, k, none⟩ = some (.slice (some ⟨r.b, r.off, none⟩) r.m r.cap)) (hr : ∀ r ∈ l, r.Lies w) (h0 : 0 < manyI l) (h1 : manyI l ≤ 40) :
    Calls Tryz.prog 35 #[.slice (some ⟨A, 0, none⟩) l.length lcap] w fun e w' => ∃ v, e = .returned v ∧ w'.ownsRow w.heap.size 3 1 v (manyI l) (allI l) ∧ Below w.heap.size w w' := by
  obtain ⟨i0, hi, hz0, hz1, hz2⟩ := info_parts infoI
  obtain ⟨N, hN⟩ : ∃ N, N = l.length := ⟨_, rfl⟩
  rw [← hN] at hl ⊢
  have HN : Hid (N = l.length) := hN
  clear hN
  have HC : Hid (∀ W, Below w.heap.size w W → ∀ k r, l[k]? = some r → W.cell? ⟨A, k, none⟩ = some (.slice (some ⟨r.b, r.off, none⟩) r.m r.cap)) := fun W hW k r h => by rw [hW.cell (show (⟨A, k, none⟩ : Addr).block < _ from hA)]; exact hc k r h
  have HR : Hid (∀ W, Below w.heap.size w W → ∀ (k : Nat) (r : RowI), l[k]? = some r → r.Lies W) := fun W hW k r h => (hr r (List.mem_of_getElem? h)).below hW
  have HS : Hid (∀ k, manyI (l.take k) ≤ 40) := fun k => Nat.le_trans (manyI_take l k) h1
  have HG : Hid (∀ W, Calls Tryz.prog 63 #[.slice none 0 0, .int .i64 (manyI l)] W fun e w' => ∃ cap, e = .returned (.slice (some ⟨W.heap.size, 0, none⟩) 0 cap) ∧ w'.ownsRow W.heap.size 3 1 (.slice (some ⟨W.heap.size, 0, none⟩) 0 cap) 0 [] ∧ Below W.heap.size W w' ∧ W.heap.size < w'.heap.size) := fun W => growI _ h0 h1 W
  obtain ⟨M, hM⟩ : ∃ M, M = manyI l := ⟨_, rfl⟩
  rw [← hM] at HG ⊢
  have HM : Hid (M = manyI l) := hM
  clear hM hc hr h0 h1 hA
  go_enter Tryz.func35, Tryz.ntmps35
  go_wp2_with fail
  go_loop [3, 11] (fun c i => ∃ k : Nat, k ≤ N ∧ i = .int .i64 k ∧ c = .int .i64 (manyI (l.take k))) (fun _ i => N - (intOf i).toNat)
  case atStart => exact ⟨0, Nat.zero_le _, rfl, rfl⟩
  case round =>
    obtain ⟨k, hk, rfl, rfl⟩ := hrel
    by_cases hlt : k < N
    · obtain ⟨r, hr⟩ : ∃ r, l[k]? = some r := ⟨_, List.getElem?_eq_getElem (by have := HN.out; omega)⟩
      have hcell := HC.out w (Below.refl _ _) k r hr
      have HE : Hid (manyI (l.take (k + 1)) = manyI (l.take k) + r.m) := manyI_succ l hr
      have hs1 := HS.out (k + 1)
      rw [HE.out] at hs1
      obtain ⟨S, hS⟩ : ∃ S, S = manyI (l.take k) := ⟨_, rfl⟩
      rw [← hS] at HE hs1 ⊢
      clear hS hr
      obtain ⟨rb, ro, rc, rm, rvs⟩ := r
      simp only at hcell HE hs1
      have q : ¬ ((S : Int) + (rm : Int) < 0) := by omega
      go_wp2
      go_round
      case rel => exact ⟨k + 1, by omega, by go_num, by rw [HE.out]; go_num⟩
      case measure => simp [intOf]; omega
    · have HE : Hid (manyI (l.take k) = M) := by unfold Hid; rw [List.take_of_length_le (by have := HN.out; omega), HM.out]
      rw [HE.out]
      go_wp2_with fail
      go_at_call 63
      refine (HG.out _).mono ?_
      rintro e w2 ⟨cap, rfl, hown, hb, hlt2⟩
      obtain ⟨K, hK⟩ : ∃ K, K = w.heap.size := ⟨_, rfl⟩
      rw [← hK] at hown hb hlt2 HC HR ⊢
      have HB2 : Hid (Below K w w2 ∧ K ≤ w2.heap.size) := ⟨hb, by omega⟩
      have HO2 : Hid (w2.ownsRow K 3 1 (.slice (some ⟨K, 0, none⟩) 0 cap) 0 []) := hown
      have HKe : Hid (w.heap.size = K) := hK.symm
      clear hb hown hK hlt2
      go_wp2_with fail
      go_loopw [6, 27] (fun v i wr => ∃ k : Nat, k ≤ N ∧ i = .int .i64 k ∧ wr.ownsRow K 3 1 v (manyI (l.take k)) (allI (l.take k)) ∧ Below K w wr ∧ K ≤ wr.heap.size) (fun _ i _ => N - (intOf i).toNat)
      case atStart => exact ⟨0, Nat.zero_le _, rfl, HO2.out, HB2.out.1, HB2.out.2⟩
      case round =>
        obtain ⟨j, hj, rfl, hown, hbel, hKw⟩ := hrel
        by_cases hjl : j < N
        · obtain ⟨r, hr⟩ : ∃ r, l[j]? = some r := ⟨_, List.getElem?_eq_getElem (by have := HN.out; omega)⟩
          have hcell := HC.out wr hbel j r hr
          have HL : Hid (r.Lies wr) := HR.out wr hbel j r hr
          have HE : Hid (manyI (l.take (j + 1)) = manyI (l.take j) + r.m) := manyI_succ l hr
          have HE2 : Hid (allI (l.take (j + 1)) = allI (l.take j) ++ r.vs) := allI_succ l hr
          have hs1 := HS.out (j + 1)
          rw [HE.out] at hs1
          obtain ⟨S, hS⟩ : ∃ S, S = manyI (l.take j) := ⟨_, rfl⟩
          obtain ⟨XS, hXS⟩ : ∃ XS, XS = allI (l.take j) := ⟨_, rfl⟩
          rw [← hS] at HE hs1 hown
          rw [← hXS] at HE2 hown
          clear hS hXS hr
          obtain ⟨rb, ro, rc, rm, rvs⟩ := r
          simp only at hcell HE HE2 hs1
          have HOW : Hid (wr.ownsRow K 3 1 u6 S XS) := hown
          have HBW : Hid (Below K w wr ∧ K ≤ wr.heap.size) := ⟨hbel, hKw⟩
          have hrm : 0 < rm := HL.out.2.1
          clear hown hbel hKw
          go_wp2_with (first | (at_builtin; refine wpList_append_own _ rfl (.tmp 31) (.tmp 32) 27 rfl K 3 i0 (.int .i64 0) 1 8 Tryz.underlying27 hi hz0 hz1 hz2 rfl (by decide) u6 S XS rfl HOW.out ⟨rb, ro, none⟩ rm rc rvs rfl HL.out.2.2.2.1 ?a1 HL.out.2.2.2.2.1 ?a3 ?a4 ?a5 ?_))
          case a1 =>
            intro i u hu
            rw [Go.WideShapes.add_plain]
            exact HL.out.2.2.2.2.2 i u hu
          case a3 => unfold maxLen; omega
          case a4 => omega
          case a5 => exact HBW.out.2
          intro v' w3 hown' hgrow _
          have HB3 : Hid (Below K w w3 ∧ K ≤ w3.heap.size) := by
            refine ⟨HBW.out.1.grown hgrow HBW.out.2 (fun k hk => (HOW.out.lt k hk).1), ?_⟩
            have := hgrow.size
            have := HBW.out.2
            omega
          have HO3 : Hid (w3.ownsRow K 3 1 v' (manyI (l.take (j + 1))) (allI (l.take (j + 1)))) := by
            unfold Hid; rw [HE.out, HE2.out]; exact hown'
          clear hown' hgrow
          go_wp2
          go_roundw
          case rel => exact ⟨j + 1, by omega, by go_num, HO3.out, HB3.out.1, HB3.out.2⟩
          case measure => simp [intOf]; omega
        · rw [List.take_of_length_le (by have := HN.out; omega)] at hown
          have HO3 : Hid (wr.ownsRow K 3 1 u6 M (allI l)) := by unfold Hid; rw [HM.out]; exact hown
          have HB3 : Hid (Below K w wr) := hbel
          clear hown hbel
          go_wp2
          go_ret
          refine ⟨_, rfl, ?_, ?_⟩
          · rw [HKe.out]; exact HO3.out
          · rw [HKe.out]; exact HB3.out

end Go.Proofs.YtpdpnlpepfgknafGreatDoor

namespace Go.Proofs.YtpdpnlpepfgknafGreatDoor
open Go.ChangeShapes Go.WideShapes Go.ChangeAt Go.RowKit
set_option maxRecDepth 100000

theorem infoA : (Tryz.prog.info? 51).map (fun i => (i.zero, i.size, i.bytes)) = some (some (.agg #[.int .i64 0, .slice none 0 0, .slice none 0 0, .int .i64 0]), 4, 64) := by kernel_rfl

/-- four cells that are an atom, whose rows lie in K or behind. -/
def AtomOf (K : Nat) (w : World) (xs : List Value) (i : Nat) (a : At) : Prop :=
  ∃ vs vt, xs[i * 4]? = some (.int .i64 a.k) ∧ xs[i * 4 + 1]? = some vs ∧ xs[i * 4 + 2]? = some vt ∧ xs[i * 4 + 3]? = some (.int .i64 a.n) ∧ Fresh K w vs a.s ∧ Fresh K w vt a.t
theorem AtomOf.below {K : Nat} {w w' : World} {xs : List Value} {i : Nat} {a : At} (h : AtomOf K w xs i a) (hb : Below w.heap.size w w') : AtomOf K w' xs i a := by
  obtain ⟨vs, vt, h1, h2, h3, h4, h5, h6⟩ := h
  exact ⟨vs, vt, h1, h2, h3, h4, h5.below hb, h6.below hb⟩
theorem AtomOf.mono {K K' : Nat} {w : World} {xs : List Value} {i : Nat} {a : At} (h : AtomOf K w xs i a) (hK : K' ≤ K) : AtomOf K' w xs i a := by
  obtain ⟨vs, vt, h1, h2, h3, h4, h5, h6⟩ := h
  exact ⟨vs, vt, h1, h2, h3, h4, World.ownsRow.mono h5 hK, World.ownsRow.mono h6 hK⟩
/-- what lies behind a place is as it was when that place is written. -/
theorem Fresh.set {K G j : Nat} {w : World} {v u : Value} {t : List Int} (h : Fresh K w v t) (hG : G < K) : Fresh K (w.setCell ⟨G, j, none⟩ u) v t := by
  obtain ⟨h1, h2⟩ := h
  refine ⟨h1, ?_⟩
  rcases h2 with h2 | ⟨g, cap, cur, hv, hg, hh, r⟩
  · exact .inl h2
  · refine .inr ⟨g, cap, cur, hv, hg, ?_, r⟩
    rw [RowKit.Below.heap_setCell _ _ _ _ (by simp; omega)]; exact hh
theorem AtomOf.set {K G j : Nat} {w : World} {xs : List Value} {i : Nat} {a : At} (h : AtomOf K w xs i a) (hG : G < K) (u : Value) : AtomOf K (w.setCell ⟨G, j, none⟩ u) xs i a := by
  obtain ⟨vs, vt, h1, h2, h3, h4, h5, h6⟩ := h
  exact ⟨vs, vt, h1, h2, h3, h4, h5.set hG, h6.set hG⟩
theorem fresh_slice {K : Nat} {w : World} {v : Value} {t : List Int} (h : Fresh K w v t) : ∃ o c, v = .slice o t.length c := by
  rcases h.2 with ⟨rfl, h0⟩ | ⟨g, cap, cur, rfl, _⟩
  · exact ⟨none, 0, by rw [h0]⟩
  · exact ⟨_, cap, rfl⟩
/-- the row of atoms, as far as it is filled. -/
def FillA (G : Nat) (w : World) (ats : List At) (m k : Nat) : Prop :=
  ∃ xs, w.ownsRow G 51 4 (.slice (some ⟨G, 0, none⟩) m m) m xs ∧ ∀ i a, i < k → ats[i]? = some a → AtomOf (G + 1) w xs i a
theorem FillA.below {G : Nat} {w w' : World} {ats : List At} {m k : Nat} (h : FillA G w ats m k) (hb : Below w.heap.size w w') : FillA G w' ats m k := by
  obtain ⟨xs, h1, h2⟩ := h
  exact ⟨xs, ownsRow_below h1 hb, fun i a hi ha => (h2 i a hi ha).below hb⟩
/-- one atom more. -/
theorem FillA.set {G : Nat} {w : World} {ats : List At} {m k : Nat} (h : FillA G w ats m k) {a : At} (ha : ats[k]? = some a) (hk : k < m) {vs vt : Value} (hs : Fresh (G + 1) w vs a.s) (ht : Fresh (G + 1) w vt a.t) :
    FillA G ((((w.setCell ⟨G, k * 4, none⟩ (.int .i64 a.k)).setCell ⟨G, k * 4 + 1, none⟩ vs).setCell ⟨G, k * 4 + 2, none⟩ vt).setCell ⟨G, k * 4 + 3, none⟩ (.int .i64 a.n)) ats m (k + 1) := by
  obtain ⟨xs, h1, h2⟩ := h
  have hl : xs.length = m * 4 := h1.1
  have g1 := (h1.stored (k * 4) (.int .i64 a.k)).1
  have g2 := (g1.stored (k * 4 + 1) vs).1
  have g3 := (g2.stored (k * 4 + 2) vt).1
  have g4 := (g3.stored (k * 4 + 3) (.int .i64 a.n)).1
  refine ⟨_, g4, fun i b hi hb => ?_⟩
  have hG : G < G + 1 := by omega
  by_cases hik : i = k
  · subst hik
    obtain rfl := Option.some.inj (ha.symm.trans hb)
    refine ⟨vs, vt, ?_, ?_, ?_, ?_, (((hs.set hG).set hG).set hG).set hG, (((ht.set hG).set hG).set hG).set hG⟩
    · rw [List.getElem?_set_ne (by omega), List.getElem?_set_ne (by omega), List.getElem?_set_ne (by omega), List.getElem?_set_self (by omega)]
    · rw [List.getElem?_set_ne (by omega), List.getElem?_set_ne (by omega), List.getElem?_set_self (by simp; omega)]
    · rw [List.getElem?_set_ne (by omega), List.getElem?_set_self (by simp; omega)]
    · rw [List.getElem?_set_self (by simp; omega)]
  · obtain ⟨us, ut, e1, e2, e3, e4, f1, f2⟩ := h2 i b (by omega) hb
    refine ⟨us, ut, ?_, ?_, ?_, ?_, (((f1.set hG).set hG).set hG).set hG, (((f2.set hG).set hG).set hG).set hG⟩
    · rw [List.getElem?_set_ne (by omega), List.getElem?_set_ne (by omega), List.getElem?_set_ne (by omega), List.getElem?_set_ne (by omega)]; exact e1
    · rw [List.getElem?_set_ne (by omega), List.getElem?_set_ne (by omega), List.getElem?_set_ne (by omega), List.getElem?_set_ne (by omega)]; exact e2
    · rw [List.getElem?_set_ne (by omega), List.getElem?_set_ne (by omega), List.getElem?_set_ne (by omega), List.getElem?_set_ne (by omega)]; exact e3
    · rw [List.getElem?_set_ne (by omega), List.getElem?_set_ne (by omega), List.getElem?_set_ne (by omega), List.getElem?_set_ne (by omega)]; exact e4
/-- its cells are there, and may be written. -/
theorem FillA.there {G : Nat} {w : World} {ats : List At} {m k : Nat} (h : FillA G w ats m k) (hk : k < m) :
    ∃ z0 z1 z2 z3, (w.cell? ⟨G, k * 4, none⟩ = some z0 ∧ w.cell? ⟨G, k * 4 + 1, none⟩ = some z1 ∧ w.cell? ⟨G, k * 4 + 2, none⟩ = some z2 ∧ w.cell? ⟨G, k * 4 + 3, none⟩ = some z3) ∧ (w.frozen? ⟨G, k * 4, none⟩ = false ∧ w.frozen? ⟨G, k * 4 + 1, none⟩ = false ∧ w.frozen? ⟨G, k * 4 + 2, none⟩ = false ∧ w.frozen? ⟨G, k * 4 + 3, none⟩ = false) := by
  obtain ⟨xs, h1, _⟩ := h
  have hl : xs.length = m * 4 := h1.1
  have e : ∀ j, j < m * 4 → ∃ z, w.cell? ⟨G, j, none⟩ = some z := fun j hj => ⟨xs[j]'(by omega), by rw [h1.cellAt j hj, List.getElem?_eq_getElem]⟩
  obtain ⟨z0, e0⟩ := e (k * 4) (by omega)
  obtain ⟨z1, e1⟩ := e (k * 4 + 1) (by omega)
  obtain ⟨z2, e2⟩ := e (k * 4 + 2) (by omega)
  obtain ⟨z3, e3⟩ := e (k * 4 + 3) (by omega)
  exact ⟨z0, z1, z2, z3, ⟨e0, e1, e2, e3⟩, h1.frozenAt _, h1.frozenAt _, h1.frozenAt _, h1.frozenAt _⟩

theorem set4_far {w : World} {G B o0 o1 o2 o3 j : Nat} {u0 u1 u2 u3 : Value} (h : G ≠ B) : ((((w.setCell ⟨G, o0, none⟩ u0).setCell ⟨G, o1, none⟩ u1).setCell ⟨G, o2, none⟩ u2).setCell ⟨G, o3, none⟩ u3).cell? ⟨B, j, none⟩ = w.cell? ⟨B, j, none⟩ := by
  have e : ∀ (W : World) (o : Nat) (u : Value), (W.setCell ⟨G, o, none⟩ u).cell? ⟨B, j, none⟩ = W.cell? ⟨B, j, none⟩ := fun W o u => by
    apply World.cell?_setCell_other
    intro e
    injection e with e1
    exact h e1
  rw [e, e, e, e]

set_option maxHeartbeats 4000000 in
theorem copies_any (ats : List At) (v : Value) (w : World) (hA : ReadsA w v ats) (h0 : 0 < ats.length) (h6 : ats.length ≤ 6) (hall : ∀ a ∈ ats, a.s.length ≤ 40 ∧ a.t.length ≤ 40) :
    Calls Tryz.prog 34 #[v] w fun e w' => ∃ G, w.heap.size ≤ G ∧ e = .returned (.slice (some ⟨G, 0, none⟩) ats.length ats.length) ∧ FillA G w' ats ats.length ats.length ∧ Below w.heap.size w w' := by
  obtain ⟨i0, hi, hz0, hz1, hz2⟩ := info_parts infoA
  rcases hA with ⟨_, _, _, rfl⟩ | ⟨B, off, cap, rfl, hB, _, ⟨_, hcap⟩, hatm⟩
  · simp at h0
  have HA : Hid (∀ W, Below w.heap.size w W → ∀ k a, ats[k]? = some a → AtomAt W B (off + k * 4) a) := fun W hW k a h => (hatm k a h).below hB hW
  have HAl : Hid (∀ a ∈ ats, a.s.length ≤ 40 ∧ a.t.length ≤ 40) := hall
  clear hall hatm hB
  obtain ⟨m, hm⟩ : ∃ m, m = ats.length := ⟨_, rfl⟩
  rw [← hm] at h0 h6 hcap ⊢
  have HM : Hid (m = ats.length) := hm
  clear hm
  obtain ⟨G, hG⟩ : ∃ G, G = w.heap.size := ⟨_, rfl⟩
  have HG : Hid (w.heap.size = G) := hG.symm
  go_enter Tryz.func34, Tryz.ntmps34
  go_wp2_with (first | (at_make; refine wpList_make_full _ rfl _ _ 26 rfl G 51 i0 (.agg #[.int .i64 0, .slice none 0 0, .slice none 0 0, .int .i64 0]) 4 Tryz.underlying26 hi hz0 hz1 .i64 .i64 _ _ m rfl rfl ?m0 ?m1 ?m2 ?m3 ?m4 ?_))
  case m0 => rfl
  case m1 => rfl
  case m2 => rw [hz2]; omega
  case m3 => unfold maxLen; omega
  case m4 => omega
  intro w3 hown1 hgrow1
  have HO : Hid (FillA G w3 ats m 0 ∧ Below G w w3) := by
    have h3 : ∃ xs, w3.ownsRow G 51 4 (.slice (some ⟨G, 0, none⟩) m m) m xs := by
      have h4 := hown1
      rw [hG]
      exact ⟨_, h4⟩
    obtain ⟨xs, h3⟩ := h3
    exact ⟨⟨xs, h3, fun i a h => by omega⟩, (Below.refl _ _).grown hgrow1 (by omega) (fun k hk => by cases hk)⟩
  rw [← hG]
  clear hown1 hgrow1 hG
  go_wp2
  go_loopw [11] (fun i wr => ∃ k : Nat, k ≤ m ∧ i = .int .i64 k ∧ FillA G wr ats m k ∧ Below G w wr) (fun i _ => m - (intOf i).toNat)
  case atStart => exact ⟨0, Nat.zero_le _, rfl, HO.out.1, HO.out.2⟩
  case round =>
    obtain ⟨k, hk, rfl, hfill, hbel⟩ := hrel
    have HF : Hid (FillA G wr ats m k) := hfill
    have HB : Hid (Below G w wr) := hbel
    clear hfill hbel
    by_cases hlt : k < m
    · obtain ⟨a, ha⟩ : ∃ a, ats[k]? = some a := ⟨_, List.getElem?_eq_getElem (by have := HM.out; omega)⟩
      have HGr : Hid (G < wr.heap.size) := by
        obtain ⟨xs, h1, _⟩ := HF.out
        exact (ownsRow_block h1).2.1
      obtain ⟨vs, vt, c0, c1, c2, c3, r1, r2⟩ := HA.out wr (by rw [HG.out]; exact HB.out) k a ha
      obtain ⟨sao, scap, rfl, _⟩ := r1.slice
      obtain ⟨tao, tcap, rfl, _⟩ := r2.slice
      have HAll := HAl.out a (List.mem_of_getElem? ha)
      obtain ⟨ak, as', at', an⟩ := a
      simp only at c0 c1 c2 c3 r1 r2 HAll ⊢
      have Ha : Hid (ats[k]? = some ⟨ak, as', at', an⟩) := ha
      clear ha
      obtain ⟨w5, hw5⟩ : ∃ w5, w5 = wr.alloc (.cells #[.int .i64 ak, .slice sao as'.length scap, .slice tao at'.length tcap, .int .i64 an] 51) := ⟨_, rfl⟩
      have HB5 : Hid (Below wr.heap.size wr w5) := by unfold Hid; rw [hw5]; exact below_alloc1 wr _
      have HS5 : Hid (w5.heap.size = wr.heap.size + 1) := by unfold Hid; rw [hw5]; simp
      have HX5 : Hid (w5.cell? ⟨wr.heap.size, 0, none⟩ = some (.int .i64 ak) ∧ w5.cell? ⟨wr.heap.size, 1, none⟩ = some (.slice sao as'.length scap) ∧ w5.cell? ⟨wr.heap.size, 2, none⟩ = some (.slice tao at'.length tcap) ∧ w5.cell? ⟨wr.heap.size, 3, none⟩ = some (.int .i64 an)) := by
        unfold Hid; rw [hw5]; simp
      have HF5 : Hid (FillA G w5 ats m k) := HF.out.below HB5.out
      have HX : Hid (∀ W, Below w5.heap.size w5 W → (W.cell? ⟨wr.heap.size, 0, none⟩ = some (.int .i64 ak) ∧ W.cell? ⟨wr.heap.size, 1, none⟩ = some (.slice sao as'.length scap) ∧ W.cell? ⟨wr.heap.size, 2, none⟩ = some (.slice tao at'.length tcap) ∧ W.cell? ⟨wr.heap.size, 3, none⟩ = some (.int .i64 an))) := fun W hW => by
        have e : ∀ j, W.cell? ⟨wr.heap.size, j, none⟩ = w5.cell? ⟨wr.heap.size, j, none⟩ := fun j => hW.cell (show (⟨wr.heap.size, j, none⟩ : Addr).block < _ by have := HS5.out; simp; omega)
        simp only [e]; exact HX5.out
      obtain ⟨z0, z1, z2, z3, ⟨t0, t1, t2, t3⟩, ⟨f0, f1, f2, f3⟩⟩ := HF5.out.there hlt
      have HT : Hid (∀ W, Below w5.heap.size w5 W → (W.cell? ⟨G, k * 4, none⟩ = some z0 ∧ W.cell? ⟨G, k * 4 + 1, none⟩ = some z1 ∧ W.cell? ⟨G, k * 4 + 2, none⟩ = some z2 ∧ W.cell? ⟨G, k * 4 + 3, none⟩ = some z3) ∧ (W.frozen? ⟨G, k * 4, none⟩ = false ∧ W.frozen? ⟨G, k * 4 + 1, none⟩ = false ∧ W.frozen? ⟨G, k * 4 + 2, none⟩ = false ∧ W.frozen? ⟨G, k * 4 + 3, none⟩ = false)) := fun W hW => by
        have hb : G < w5.heap.size := by have := HS5.out; have := HGr.out; omega
        refine ⟨⟨?_, ?_, ?_, ?_⟩, ?_, ?_, ?_, ?_⟩
        · rw [hW.cell hb]; exact t0
        · rw [hW.cell hb]; exact t1
        · rw [hW.cell hb]; exact t2
        · rw [hW.cell hb]; exact t3
        · rw [hW.frozen hb]; exact f0
        · rw [hW.frozen hb]; exact f1
        · rw [hW.frozen hb]; exact f2
        · rw [hW.frozen hb]; exact f3
      clear t0 t1 t2 t3 f0 f1 f2 f3
      have HCs : Hid (∀ (v : Value) (x : List Int), Reads w5 v x → x.length ≤ 40 → ∀ W, Below w5.heap.size w5 W → Calls Tryz.prog 62 #[v] W fun e w' => ∃ o c, e = .returned (.slice o x.length c) ∧ Fresh W.heap.size w' (.slice o x.length c) x ∧ Below W.heap.size W w' ∧ Below w5.heap.size w5 w' ∧ (w'.cell? ⟨wr.heap.size, 0, none⟩ = some (.int .i64 ak) ∧ w'.cell? ⟨wr.heap.size, 1, none⟩ = some (.slice sao as'.length scap) ∧ w'.cell? ⟨wr.heap.size, 2, none⟩ = some (.slice tao at'.length tcap) ∧ w'.cell? ⟨wr.heap.size, 3, none⟩ = some (.int .i64 an)) ∧ ((w'.cell? ⟨G, k * 4, none⟩ = some z0 ∧ w'.cell? ⟨G, k * 4 + 1, none⟩ = some z1 ∧ w'.cell? ⟨G, k * 4 + 2, none⟩ = some z2 ∧ w'.cell? ⟨G, k * 4 + 3, none⟩ = some z3) ∧ (w'.frozen? ⟨G, k * 4, none⟩ = false ∧ w'.frozen? ⟨G, k * 4 + 1, none⟩ = false ∧ w'.frozen? ⟨G, k * 4 + 2, none⟩ = false ∧ w'.frozen? ⟨G, k * 4 + 3, none⟩ = false))) := fun v x hR hx W hW => by
        refine (copied_any x v W (hR.below hW) hx).mono ?_
        rintro e w' ⟨v', rfl, hfr, hb⟩
        obtain ⟨o, c, rfl⟩ := fresh_slice hfr
        have hb5 : Below w5.heap.size w5 w' := hW.trans (hb.mono hW.size)
        exact ⟨o, c, rfl, hfr, hb, hb5, HX.out w' hb5, HT.out w' hb5⟩
      have HCS : Hid (∀ W, Below w5.heap.size w5 W → _) := HCs.out (.slice sao as'.length scap) as' (r1.below HB5.out) HAll.1
      have HCT : Hid (∀ W, Below w5.heap.size w5 W → _) := HCs.out (.slice tao at'.length tcap) at' (r2.below HB5.out) HAll.2
      clear HCs r1 r2 HAll
      have hk0 : (0 : Int) ≤ (k : Int) := by omega
      have hk1 : (k : Int) < (m : Int) := by omega
      have hGne : G ≠ wr.heap.size := by have := HGr.out; omega
      obtain ⟨lS, hlS⟩ : ∃ lS, lS = as'.length := ⟨_, rfl⟩
      obtain ⟨lT, hlT⟩ : ∃ lT, lT = at'.length := ⟨_, rfl⟩
      rw [← hlS] at c1 hw5 HX5 HX HCS HCT
      rw [← hlT] at c2 hw5 HX5 HX HCS HCT
      clear hlS hlT
      go_wp2_with fail
      rw [← hw5]
      clear hw5 c0 c1 c2 c3
      obtain ⟨y0, y1, y2, y3⟩ := HX5.out
      clear HX5
      go_region_held3 (fun w' => w'.cell? ⟨wr.heap.size, 0, none⟩ = some (.int .i64 ak) ∧ w'.cell? ⟨wr.heap.size, 1, none⟩ = some (.slice sao lS scap) ∧ w'.cell? ⟨wr.heap.size, 2, none⟩ = some (.slice tao lT tcap) ∧ w'.cell? ⟨wr.heap.size, 3, none⟩ = some (.int .i64 an)) (first | go_keep | (go_split_ands; refine ⟨?_, ?_, ?_, ?_⟩ <;> (rw [set4_far hGne]; assumption)))
        (first
          | (go_at_call_of 62 (Value.slice sao lS scap); refine (HCS.out _ ?_).mono ?_; (first | assumption | exact (Below.refl _ _).drew); rintro e w6 ⟨o1, q1, rfl, hfs, hbs, hb5s, _, ⟨⟨t0, t1, t2, t3⟩, ⟨f0, f1, f2, f3⟩⟩⟩)
          | (go_at_call_of 62 (Value.slice tao lT tcap); refine (HCT.out _ ?_).mono ?_; (first | assumption | exact (Below.refl _ _).drew); rintro e w' ⟨o2, q2, rfl, hft, hbt, hb5t, _, ⟨⟨t0, t1, t2, t3⟩, ⟨f0, f1, f2, f3⟩⟩⟩))
      have hGw : G + 1 ≤ w5.heap.size := by have := HS5.out; have := HGr.out; omega
      have hs6 : w5.heap.size ≤ w6.heap.size := hb5s.size
      have HR : Hid (FillA G ((((w'.setCell ⟨G, k * 4, none⟩ (.int .i64 ak)).setCell ⟨G, k * 4 + 1, none⟩ (.slice o1 lS q1)).setCell ⟨G, k * 4 + 2, none⟩ (.slice o2 lT q2)).setCell ⟨G, k * 4 + 3, none⟩ (.int .i64 an)) ats m (k + 1) ∧ Below G w ((((w'.setCell ⟨G, k * 4, none⟩ (.int .i64 ak)).setCell ⟨G, k * 4 + 1, none⟩ (.slice o1 lS q1)).setCell ⟨G, k * 4 + 2, none⟩ (.slice o2 lT q2)).setCell ⟨G, k * 4 + 3, none⟩ (.int .i64 an))) := by
        refine ⟨FillA.set (HF5.out.below hb5t) Ha.out hlt (World.ownsRow.mono (hfs.below hbt) hGw) (World.ownsRow.mono hft (by omega)), ?_⟩
        have hb : Below G w w' := HB.out.trans ((HB5.out.trans (hb5t.mono HB5.out.size)).mono (by have := HGr.out; omega))
        exact (((hb.setCell (Nat.le_refl _) _).setCell (Nat.le_refl _) _).setCell (Nat.le_refl _) _).setCell (Nat.le_refl _) _
      clear hfs hbs hb5s hft hbt hb5t hs6 hGw
      go_wp2
      go_roundw
      case rel => exact ⟨k + 1, by omega, by go_num, HR.out.1, HR.out.2⟩
      case measure => simp [intOf]; omega
    · obtain rfl : k = m := by omega
      go_wp2
      go_ret
      refine ⟨G, by rw [HG.out]; exact Nat.le_refl _, rfl, HF.out, ?_⟩
      rw [HG.out]; exact HB.out

/-- a full row of atoms reads as they do. -/
theorem FillA.reads {G : Nat} {w : World} {ats : List At} (h : FillA G w ats ats.length ats.length) (h0 : 0 < ats.length) (h6 : ats.length ≤ 40) : ReadsA w (.slice (some ⟨G, 0, none⟩) ats.length ats.length) ats := by
  obtain ⟨xs, h1, h2⟩ := h
  refine Or.inr ⟨G, 0, ats.length, rfl, (ownsRow_block h1).2.1, h0, ⟨by omega, Nat.le_refl _⟩, fun i a ha => ?_⟩
  have hi : i < ats.length := (List.getElem?_eq_some_iff.1 ha).1
  obtain ⟨vs, vt, e1, e2, e3, e4, f1, f2⟩ := h2 i a hi ha
  rw [Nat.zero_add]
  exact ⟨vs, vt, by rw [h1.cellAt _ (by omega)]; exact e1, by rw [h1.cellAt _ (by omega)]; exact e2, by rw [h1.cellAt _ (by omega)]; exact e3, by rw [h1.cellAt _ (by omega)]; exact e4, f1.reads, f2.reads⟩
end Go.Proofs.YtpdpnlpepfgknafGreatDoor

namespace Go.Proofs.YtpdpnlpepfgknafGreatDoor
open Go.ChangeShapes Go.WideShapes Go.ChangeAt Go.RowKit
set_option maxRecDepth 100000

theorem load_form {W : World} {R : Nat} {c0 c1 : Value} (h0 : W.cell? ⟨R, 0, none⟩ = some c0) (h1 : W.cell? ⟨R, 1, none⟩ = some c1) : (loadVar 29 ⟨R, 0, none⟩).run Tryz.prog W = .ok (.agg #[c0, c1]) W := by
  have hl := run_loadCells_list (P := Tryz.prog) W ⟨R, 0, none⟩ [c0, c1] (fun j v hj => by
    match j, hj with
    | 0, hj => simp at hj; subst hj; simpa [Addr.add] using h0
    | 1, hj => simp at hj; subst hj; simpa [Addr.add] using h1)
  simp [loadVar, Tryz.isAgg29, Tryz.sizeOf29, Result.andThen] at hl ⊢
  simp [hl]
theorem FillA.far {G R j : Nat} {w : World} {ats : List At} {m k : Nat} (h : FillA G w ats m k) (hR : R < G) (u : Value) : FillA G (w.setCell ⟨R, j, none⟩ u) ats m k := by
  obtain ⟨xs, ⟨h1, h2⟩, h3⟩ := h
  refine ⟨xs, ⟨h1, ?_⟩, fun i a hi ha => (h3 i a hi ha).set (by omega) u⟩
  rcases h2 with h2 | ⟨g, cap, cur, hv, hg, hh, r⟩
  · exact .inl h2
  · refine .inr ⟨g, cap, cur, hv, hg, ?_, r⟩
    rw [RowKit.Below.heap_setCell _ _ _ _ (by simp; omega)]; exact hh
/-- two cells that are written: what lies in them, and elsewhere. -/
theorem set2_cells {w : World} {R : Nat} {z0 z1 u0 u1 : Value} (h0 : w.cell? ⟨R, 0, none⟩ = some z0) (h1 : w.cell? ⟨R, 1, none⟩ = some z1) : ((w.setCell ⟨R, 0, none⟩ u0).setCell ⟨R, 1, none⟩ u1).cell? ⟨R, 0, none⟩ = some u0 ∧ ((w.setCell ⟨R, 0, none⟩ u0).setCell ⟨R, 1, none⟩ u1).cell? ⟨R, 1, none⟩ = some u1 := by
  have n1 : (⟨R, 1, none⟩ : Addr) ≠ ⟨R, 0, none⟩ := by intro e; injection e with _ e; omega
  refine ⟨?_, ?_⟩
  · rw [World.cell?_setCell_other (w.setCell ⟨R, 0, none⟩ u0) _ _ _ n1]
    exact World.cell?_setCell_same _ _ _ h0
  · exact World.cell?_setCell_same _ _ _ ((World.cell?_setCell_other w _ _ _ n1.symm).trans h1)
theorem set2_far {w : World} {R B o0 o1 j : Nat} {u0 u1 : Value} (h : R ≠ B) : ((w.setCell ⟨R, o0, none⟩ u0).setCell ⟨R, o1, none⟩ u1).cell? ⟨B, j, none⟩ = w.cell? ⟨B, j, none⟩ := by
  have e : ∀ (W : World) (o : Nat) (u : Value), (W.setCell ⟨R, o, none⟩ u).cell? ⟨B, j, none⟩ = W.cell? ⟨B, j, none⟩ := fun W o u => by
    apply World.cell?_setCell_other
    intro e
    injection e with e1
    exact h e1
  rw [e, e]

/-- the two places that Negate makes: the formula's, and the answer's. -/
def BoxN (W : World) (S0 : Nat) (va vc : Value) : Prop :=
  (W.cell? ⟨S0, 0, none⟩ = some va ∧ W.cell? ⟨S0, 1, none⟩ = some vc) ∧ (W.cell? ⟨S0 + 1, 0, none⟩ = some (.slice none 0 0) ∧ W.cell? ⟨S0 + 1, 1, none⟩ = some (.slice none 0 0)) ∧ (W.frozen? ⟨S0 + 1, 0, none⟩ = false ∧ W.frozen? ⟨S0 + 1, 1, none⟩ = false)
theorem boxN_alloc (w : World) (va vc : Value) : BoxN ((w.alloc (.cells #[va, vc] 29)).alloc (.cells #[.slice none 0 0, .slice none 0 0] 29)) w.heap.size va vc := by
  have r : ∀ o j, ((w.alloc (.cells #[va, vc] 29)).alloc o).cell? ⟨w.heap.size, j, none⟩ = (w.alloc (.cells #[va, vc] 29)).cell? ⟨w.heap.size, j, none⟩ := fun o j => World.cell?_alloc_lt _ _ ⟨w.heap.size, j, none⟩ (by simp)
  have q : w.heap.size + 1 = (w.alloc (.cells #[va, vc] 29)).heap.size := by simp
  unfold BoxN
  simp only [r]
  rw [q]
  simp
theorem BoxN.below {W W' : World} {S0 : Nat} {va vc : Value} (h : BoxN W S0 va vc) (hS : S0 + 1 < W.heap.size) (hb : Below W.heap.size W W') : BoxN W' S0 va vc := by
  obtain ⟨⟨a0, a1⟩, ⟨b0, b1⟩, f0, f1⟩ := h
  have h0 : S0 < W.heap.size := by omega
  exact ⟨⟨(hb.cell h0).trans a0, (hb.cell h0).trans a1⟩, ⟨(hb.cell hS).trans b0, (hb.cell hS).trans b1⟩, (hb.frozen hS).trans f0, (hb.frozen hS).trans f1⟩

set_option maxHeartbeats 2000000 in
theorem negate_bad (va vc : Value) (ats : List At) (c : List Int) (w : World) (hA : ReadsA w va ats) (hC : Reads w vc c) (hK : KindsLaid w) (hf : ¬ formFault ats c = 0) :
    Calls Tryz.prog 13 #[.agg #[va, vc]] w fun e w' => e = .returned (.tuple #[.agg #[.slice none 0 0, .slice none 0 0], .iface 61 (.int .i64 (formFault ats c))]) ∧ Below w.heap.size w w' := by
  obtain ⟨ao, acap, rfl, _⟩ := hA.slice
  obtain ⟨co, ccap, rfl, _⟩ := hC.slice
  obtain ⟨w1, hw1⟩ : ∃ w1, w1 = (w.alloc (.cells #[.slice ao ats.length acap, .slice co c.length ccap] 29)).alloc (.cells #[.slice none 0 0, .slice none 0 0] 29) := ⟨_, rfl⟩
  have HB1 : Hid (Below w.heap.size w w1) := by unfold Hid; rw [hw1]; exact (below_alloc1 _ _).trans ((below_alloc1 _ _).mono (by simp))
  have HS1 : Hid (w1.heap.size = w.heap.size + 2) := by unfold Hid; rw [hw1]; simp
  have HX1 : Hid (BoxN w1 w.heap.size (.slice ao ats.length acap) (.slice co c.length ccap)) := by unfold Hid; rw [hw1]; exact boxN_alloc w _ _
  have HC : Hid (Calls Tryz.prog 30 #[.agg #[.slice ao ats.length acap, .slice co c.length ccap]] w1 fun e w' => e = .returned (.iface 61 (.int .i64 (formFault ats c))) ∧ Below w1.heap.size w1 w') := by
    have := fcheck_any _ _ ats c w1 (hA.below HB1.out) (hC.below HB1.out) (hK.below HB1.out)
    rw [errV_no hf] at this
    exact this
  clear hA hC hK
  obtain ⟨F, hF⟩ : ∃ F, F = formFault ats c := ⟨_, rfl⟩
  rw [← hF] at HC ⊢
  clear hF hf
  obtain ⟨m, hm⟩ : ∃ m, m = ats.length := ⟨_, rfl⟩
  obtain ⟨n, hn⟩ : ∃ n, n = c.length := ⟨_, rfl⟩
  rw [← hm, ← hn] at HC hw1 HX1 ⊢
  clear hm hn
  obtain ⟨⟨x0, x1⟩, _, _⟩ := HX1.out
  rw [hw1] at x0 x1
  go_enter Tryz.func13, Tryz.ntmps13
  go_wp2_with fail
  rw [← hw1]
  clear hw1 x0 x1
  go_at_call 30
  refine HC.out.mono ?_
  rintro e w2 ⟨rfl, hb⟩
  have HB2 : Hid (Below w.heap.size w w2) := HB1.out.trans (hb.mono HB1.out.size)
  obtain ⟨⟨x0, x1⟩, ⟨y0, y1⟩, ⟨f0, f1⟩⟩ := HX1.out.below (by have := HS1.out; omega) hb
  clear hb
  go_wp2_with fail
  obtain ⟨m0, m1⟩ := set2_cells (u0 := .slice none 0 0) (u1 := .slice none 0 0) y0 y1
  have hld := load_form m0 m1
  refine bodyPost_ret (v := .tuple #[.agg #[.slice none 0 0, .slice none 0 0], .iface 61 (.int .i64 F)]) ?_ rfl ⟨rfl, ?_⟩
  · rw [results_cell_tmp rfl]
    simp [asAddr, Result.andThen, hld]
  · exact (HB2.out.setCell (by simp) _).setCell (by simp) _

set_option maxHeartbeats 2000000 in
theorem negate_full (va vc : Value) (ats : List At) (c : List Int) (w : World) (hA : ReadsA w va ats) (hC : Reads w vc c) (hK : KindsLaid w) (hf : formFault ats c = 0) (h20 : c.length = 20) :
    Calls Tryz.prog 13 #[.agg #[va, vc]] w fun e w' => e = .returned (.tuple #[.agg #[.slice none 0 0, .slice none 0 0], .iface 61 (.int .i64 4)]) ∧ Below w.heap.size w w' := by
  obtain ⟨⟨m1, m6⟩, _, _⟩ := formFault_zero.1 hf
  obtain ⟨ao, acap, rfl, _⟩ := hA.slice
  obtain ⟨co, ccap, rfl, _⟩ := hC.slice
  obtain ⟨w1, hw1⟩ : ∃ w1, w1 = (w.alloc (.cells #[.slice ao ats.length acap, .slice co c.length ccap] 29)).alloc (.cells #[.slice none 0 0, .slice none 0 0] 29) := ⟨_, rfl⟩
  have HB1 : Hid (Below w.heap.size w w1) := by unfold Hid; rw [hw1]; exact (below_alloc1 _ _).trans ((below_alloc1 _ _).mono (by simp))
  have HS1 : Hid (w1.heap.size = w.heap.size + 2) := by unfold Hid; rw [hw1]; simp
  have HX1 : Hid (BoxN w1 w.heap.size (.slice ao ats.length acap) (.slice co c.length ccap)) := by unfold Hid; rw [hw1]; exact boxN_alloc w _ _
  have HC : Hid (Calls Tryz.prog 30 #[.agg #[.slice ao ats.length acap, .slice co c.length ccap]] w1 fun e w' => e = .returned .nilIface ∧ Below w1.heap.size w1 w') := by
    have := fcheck_any _ _ ats c w1 (hA.below HB1.out) (hC.below HB1.out) (hK.below HB1.out)
    rw [hf, errV_0] at this
    exact this
  clear hA hC hK hf
  obtain ⟨m, hm⟩ : ∃ m, m = ats.length := ⟨_, rfl⟩
  rw [← hm] at HC hw1 HX1 m6 ⊢
  rw [h20] at HC hw1 HX1 ⊢
  clear hm h20 m1
  have HT : Hid (∀ W, Calls Tryz.prog 33 #[.int .i64 m, .int .i64 21] W fun e w' => e = .returned (.bool true) ∧ W = w') := fun W => by
    have := tooMany_any m 21 W
    rw [show (decide (6 < (m : Int)) || decide ((20 : Int) < 21)) = true by simp] at this
    exact this
  obtain ⟨⟨x0, x1⟩, _, _⟩ := HX1.out
  rw [hw1] at x0 x1
  go_enter Tryz.func13, Tryz.ntmps13
  go_wp2_with fail
  rw [← hw1]
  clear hw1 x0 x1
  go_at_call 30
  refine HC.out.mono ?_
  rintro e w2 ⟨rfl, hb⟩
  have HB2 : Hid (Below w.heap.size w w2) := HB1.out.trans (hb.mono HB1.out.size)
  obtain ⟨⟨x0, x1⟩, ⟨y0, y1⟩, ⟨f0, f1⟩⟩ := HX1.out.below (by have := HS1.out; omega) hb
  clear hb
  go_wp2_with fail
  go_at_call 33
  refine (HT.out _).mono ?_
  rintro e w' ⟨rfl, rfl⟩
  go_wp2_with fail
  obtain ⟨m0, m1⟩ := set2_cells (u0 := .slice none 0 0) (u1 := .slice none 0 0) y0 y1
  have hld := load_form m0 m1
  refine bodyPost_ret (v := .tuple #[.agg #[.slice none 0 0, .slice none 0 0], .iface 61 (.int .i64 4)]) ?_ rfl ⟨rfl, ?_⟩
  · rw [results_cell_tmp rfl]
    simp [asAddr, Result.andThen, hld]
  · exact (HB2.out.setCell (by simp) _).setCell (by simp) _
end Go.Proofs.YtpdpnlpepfgknafGreatDoor
