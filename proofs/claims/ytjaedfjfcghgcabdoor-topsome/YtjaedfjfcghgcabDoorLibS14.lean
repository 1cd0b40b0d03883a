/-
  Proved: what fit.All's function hands to whatever loop ranges over it: all counts of so many things, one behind the other, till the loop has enough (a contract that the statements lean on). Proved: what fit.check and fit.All return; what was in memory is as it was (contracts that the statements lean on).
  Proved: what worlds.Of returns, of any formula and any number of things; what was in memory is as it was (a contract that the statements lean on).
-/
import Derived.Test.YtjaedfjfcghgcabDoorLibS13
import Derived.Stop.RegionWithIn
import Derived.Sort.CutIn
import Derived.Test.YtjaedfjfcghgcabDoorLibS8
namespace Go.Proofs.YtjaedfjfcghgcabDoor
open Go.ChangeShapes Go.WideShapes Go.ChangeAt Go.RowKit
set_option maxRecDepth 100000

theorem fitCheck_ok (n : Nat) (hn : n ≤ 6) (w : World) : Calls Tryd.prog 39 #[.int .i64 n] w fun e w' => e = .returned .nilIface ∧ w = w' := by
  have h : okB (n : Int) 0 = true := ok_zero (by omega) (by omega)
  go_enter Tryd.func39, Tryd.ntmps39
  go_wp2_with fail
  go_at_call 27
  refine (check_ok _ _ h _).mono ?_
  rintro e w' ⟨rfl, rfl⟩
  go_wp2
  go_ret
  exact ⟨rfl, rfl⟩
theorem fitCheck_no (u : Int) (hu : ¬ (0 ≤ u ∧ u ≤ 6)) (w : World) : Calls Tryd.prog 39 #[.int .i64 u] w fun e w' => e = .returned (.iface 58 (.int .i64 1)) ∧ w = w' := by
  have h : okB u 0 = false := okB_not.2 fun h => hu ⟨h.1, h.2.1⟩
  go_enter Tryd.func39, Tryd.ntmps39
  go_wp2_with fail
  go_at_call 27
  refine (check_no _ _ h _).mono ?_
  rintro e w' ⟨rfl, rfl⟩
  go_wp2
  go_ret
  exact ⟨rfl, rfl⟩
theorem fitAll_any (u : Int) (w : World) : Calls Tryd.prog 21 #[.int .i64 u] w fun e w' => e = .returned (.func (.func 38) #[] #[.pointer (some ⟨w.heap.size, 0, none⟩)]) ∧ w' = w.alloc (.cells #[.int .i64 u] 3) := by
  go_enter Tryd.func21, Tryd.ntmps21
  go_wp2
  go_ret
  exact ⟨rfl, rfl⟩
end Go.Proofs.YtjaedfjfcghgcabDoor
namespace Go.Proofs.YtjaedfjfcghgcabDoor
open Go.ChangeShapes Go.WideShapes Go.ChangeAt Go.RowKit
set_option maxRecDepth 100000

/-- the first has all in the last field, and nothing elsewhere. -/
theorem every_first (u : Nat) : ∃ M, (everyC u)[0]? = some M ∧ ∀ g, g < 8 → M g = if g = 7 then (u : Int) else 0 := by
  obtain ⟨M, h1, h2⟩ := allF_head 7 u fun _ => 0
  have hl : (allF 7 u fun _ => 0) = everyC u := rfl
  rw [hl] at h1
  refine ⟨M, h1, fun g hg => ?_⟩
  obtain ⟨h3, h4⟩ := everyC_sum (List.mem_of_getElem? h1)
  have e : sumN M 8 = M 0 + M 1 + M 2 + M 3 + M 4 + M 5 + M 6 + M 7 := by
    show (((((((((0 : Int) + M 0) + M 1) + M 2) + M 3) + M 4) + M 5) + M 6) + M 7) = _
    omega
  have a0 := h3 0 (by omega)
  have a1 := h3 1 (by omega)
  have a2 := h3 2 (by omega)
  have a3 := h3 3 (by omega)
  have a4 := h3 4 (by omega)
  have a5 := h3 5 (by omega)
  have a6 := h3 6 (by omega)
  rcases eight hg with rfl | rfl | rfl | rfl | rfl | rfl | rfl | rfl
  · rw [if_neg (by omega)]; omega
  · rw [if_neg (by omega)]; omega
  · rw [if_neg (by omega)]; omega
  · rw [if_neg (by omega)]; omega
  · rw [if_neg (by omega)]; omega
  · rw [if_neg (by omega)]; omega
  · rw [if_neg (by omega)]; omega
  · rw [if_pos rfl]; exact h2

/-- eight counts, as they are handed over. -/
def enc8 (M : Nat → Int) : Array Value := #[.agg #[.int .i64 (M 0), .int .i64 (M 1), .int .i64 (M 2), .int .i64 (M 3), .int .i64 (M 4), .int .i64 (M 5), .int .i64 (M 6), .int .i64 (M 7)]]

theorem Blk.over {B G : Nat} {W W' : World} {T : TypeId} {cs : Array Value} (h : Blk W G T cs) (hO : Over B W W') (hB : B ≤ G) : Blk W' G T cs := by
  unfold Blk; rw [hO.same G hB h.lt]; exact h

set_option maxHeartbeats 4000000 in
theorem iter_any (u : Nat) (hu : u ≤ 6) (n : Nat) (hn : 1 ≤ n) (Bu : Nat) (W : World) (hB : W.cell? ⟨Bu, 0, none⟩ = some (.int .i64 u)) :
    SeqG n Tryd.prog 38 #[.pointer (some ⟨Bu, 0, none⟩)] enc8 (everyC u) W := by
  intro l J Jx hJ hY h0
  obtain ⟨M0, hM0, hM0'⟩ := every_first u
  obtain ⟨A, hA⟩ : ∃ A, A = everyC u := ⟨_, rfl⟩
  have HST : Hid (∀ (i : Nat) (M : Nat → Int), A[i]? = some M → (lastTo M 8 ≠ 0 ∧ ∃ M', A[i + 1]? = some M' ∧ ∀ f, f < 8 → afterN M f = M' f) ∨ (lastTo M 8 = 0 ∧ i + 1 = A.length)) := fun i M hi => by
    rw [hA] at hi ⊢; exact every_steps hu hi
  have HBO : Hid (∀ (i : Nat) (M : Nat → Int), A[i]? = some M → ∀ f, f < 8 → 0 ≤ M f ∧ M f ≤ 6) := fun i M hi f hf => by
    rw [hA] at hi
    have := (everyC_sum (List.mem_of_getElem? hi)).1 f hf
    omega
  have HCk : Hid (∀ W, Calls Tryd.prog 39 #[.int .i64 u] W fun e w' => e = .returned .nilIface ∧ W = w') := fun W => fitCheck_ok u hu W
  rw [← hA] at hM0 hY ⊢
  clear hA hu
  have HY : Hid (∀ (k : Nat) (x : Nat → Int) (W1 : World), A[k]? = some x → J k W1 → YieldAt Fence.wide (n - 1) Tryd.prog l #[.agg #[.int .i64 (x 0), .int .i64 (x 1), .int .i64 (x 2), .int .i64 (x 3), .int .i64 (x 4), .int .i64 (x 5), .int .i64 (x 6), .int .i64 (x 7)]] W1 fun e W' =>
      (e = .returned (.bool true) ∧ J (k + 1) W' ∧ Over W.heap.size W1 W') ∨ (e = .returned (.bool false) ∧ Jx (k + 1) W')) := hY
  have HJ : Hid (∀ k W1 W2, J k W1 → Below W.heap.size W1 W2 → J k W2) := hJ
  clear hY hJ
  have e8 : Hid (arr8 M0 = #[.int .i64 0, .int .i64 0, .int .i64 0, .int .i64 0, .int .i64 0, .int .i64 0, .int .i64 0, .int .i64 u]) := by
    unfold Hid arr8
    rw [hM0' 0 (by omega), hM0' 1 (by omega), hM0' 2 (by omega), hM0' 3 (by omega), hM0' 4 (by omega), hM0' 5 (by omega), hM0' 6 (by omega), hM0' 7 (by omega)]
    rfl
  have H0 : Hid (J 0 W) := h0
  have HM0 : Hid (A[0]? = some M0) := hM0
  clear hM0' h0 hM0
  refine callsIn_of_wp Tryd.func38 rfl trivial ?_ rfl
  simp only [Tryd.ntmps38, List.size_toArray, List.length_cons, List.length_nil, Nat.reduceAdd, Nat.reduceSub, Array.replicate_succ, Array.replicate_zero, List.push_toArray, List.append_toArray, List.nil_append, List.cons_append]
  have hBu : Bu < W.heap.size := World.block_lt_of_cell? _ _ hB
  have hBa : (W.drew.alloc (.cells #[.int .i64 0, .int .i64 0, .int .i64 0, .int .i64 0, .int .i64 0, .int .i64 0, .int .i64 0, .int .i64 0] 30)).cell? ⟨Bu, 0, none⟩ = some (.int .i64 u) := (World.cell?_alloc_lt _ _ _ hBu).trans hB
  gi_upto_region 0 with fail
  gi_cut [3, 4] from 5 (fun p ok wr => p = .pointer (some ⟨W.heap.size, 0, none⟩) ∧ ok = .bool true ∧ Below W.heap.size W wr ∧ Blk wr W.heap.size 30 (arr8 M0))
  case first =>
    gi_region_with (refine ⟨trivial, ?_⟩; gi_at_call 39; refine (callsIn_wide.2 (HCk.out _)).mono ?_; rintro e w8 ⟨rfl, rfl⟩)
    all_goals (try gi_wp2)
    all_goals gi_meet
    all_goals exact ⟨rfl, rfl, (below_alloc1 W _).drew, by rw [e8.out]; exact (Blk.new W _ _).drew⟩
  case rest =>
  obtain ⟨rfl, rfl, hb1, hk1⟩ := hcut
  have HK1 : Hid (Blk wc W.heap.size 30 (arr8 M0)) := hk1
  have HJ1 : Hid (J 0 wc) := HJ.out _ _ _ H0.out hb1
  clear hb1 hk1
  gi_wp2
  gi_loopg [4] (A.length) (fun gk ok wr => (∃ (k : Nat) (M : Nat → Int), ok = .bool true ∧ A[k]? = some M ∧ gk = A.length - k ∧ J k wr ∧ Blk wr W.heap.size 30 (arr8 M)) ∨ (ok = .bool false ∧ J A.length wr))
  case atStart => exact Or.inl ⟨0, M0, rfl, HM0.out, rfl, HJ1.out, HK1.out⟩
  case round =>
    rcases hrel with ⟨k, M, rfl, hM, hg, hj, hk⟩ | ⟨rfl, hj⟩
    · have HM : Hid (A[k]? = some M) := hM
      have HG : Hid (gk = A.length - k) := hg
      have HKk : Hid (Blk wr W.heap.size 30 (arr8 M)) := hk
      have HL : Hid (k < A.length) := (List.getElem?_eq_some_iff.1 hM).1
      obtain ⟨fn, tmps, assign, body, hy, hR⟩ := HY.out k M wr hM hj
      obtain ⟨x0, x1, x2, x3, x4, x5, x6, x7⟩ := hk.cells8
      clear hM hg hk hj
      gi_wp2
      refine hR.mono ?_
      rintro e W3 (⟨rfl, hJ3, hO3⟩ | ⟨rfl, hJx3⟩)
      · have HJ3 : Hid (J (k + 1) W3) := hJ3
        have HK3 : Hid (Blk W3 W.heap.size 30 (arr8 M)) := HKk.out.over hO3 (Nat.le_refl _)
        obtain ⟨M', hM'⟩ : ∃ M', M' = afterO M := ⟨_, rfl⟩
        obtain ⟨ok, hok⟩ : ∃ b, b = !(lastTo M 8 == 0) := ⟨_, rfl⟩
        have HAf : Hid (∀ W, Calls Tryd.prog 40 #[.agg #[.int .i64 (M 0), .int .i64 (M 1), .int .i64 (M 2), .int .i64 (M 3), .int .i64 (M 4), .int .i64 (M 5), .int .i64 (M 6), .int .i64 (M 7)]] W fun e w' => e = .returned (.tuple #[.agg #[.int .i64 (M' 0), .int .i64 (M' 1), .int .i64 (M' 2), .int .i64 (M' 3), .int .i64 (M' 4), .int .i64 (M' 5), .int .i64 (M' 6), .int .i64 (M' 7)], .bool ok]) ∧ Below W.heap.size W w') := fun W => by
          rw [hM', hok]; exact after_any M W (HBO.out k M HM.out)
        have HM' : Hid (M' = afterO M) := hM'
        have Hok : Hid (ok = !(lastTo M 8 == 0)) := hok
        clear hJ3 hO3 x0 x1 x2 x3 x4 x5 x6 x7 hy hR hM' hok
        obtain ⟨x0, x1, x2, x3, x4, x5, x6, x7⟩ := HK3.out.cells8
        gi_wp2_with fail
        refine ⟨trivial, ?_⟩
        gi_at_call 40
        refine (callsIn_wide.2 (HAf.out _)).mono ?_
        rintro e W4 ⟨rfl, hb4⟩
        have HK4 : Hid (Blk W4 W.heap.size 30 (arr8 M)) := HK3.out.below hb4
        have HJ4 : Hid (J (k + 1) W4) := HJ.out _ _ _ HJ3.out (hb4.mono (Nat.le_of_lt HK3.out.lt))
        clear hb4 x0 x1 x2 x3 x4 x5 x6 x7
        obtain ⟨x0, x1, x2, x3, x4, x5, x6, x7⟩ := HK4.out.cells8
        obtain ⟨f0, f1, f2, f3, f4, f5, f6, f7⟩ := HK4.out.frozen8
        gi_wp2
        have hJ5 : J (k + 1) (put8 W4 W.heap.size M') := HJ.out _ _ _ HJ4.out (put8_below (Below.refl _ _) (Nat.le_refl _) _)
        rcases HST.out k M HM.out with ⟨h0, M2, hM2, he⟩ | ⟨h0, he⟩
        · gi_roundg (A.length - (k + 1))
          case rel =>
            refine Or.inl ⟨k + 1, M2, ?_, hM2, rfl, hJ5, ?_⟩
            · rw [Hok.out]; simp [h0]
            · have hb := put8_blk HK4.out M'
              have e : arr8 M' = arr8 M2 := arr8_same fun f hf => by rw [HM'.out]; unfold afterO; rw [if_neg h0]; exact he f hf
              rw [e] at hb
              exact hb
          case measure => have := HL.out; rw [HG.out]; omega
        · gi_roundg 0
          case rel => exact Or.inr ⟨by rw [Hok.out, h0]; rfl, by rw [← he]; exact hJ5⟩
          case measure => have := HL.out; rw [HG.out]; omega
      · gi_wp2
        go_end0
        exact ⟨⟨_, rfl⟩, .inr ⟨k, HL.out, hJx3⟩⟩
    · have HJe : Hid (J A.length wr) := hj
      clear hj
      gi_wp2
      refine ⟨fun _ _ => trivial, ?_⟩
      gi_wp2
      go_end0
      exact ⟨⟨_, rfl⟩, .inl HJe.out⟩

theorem Blk.keep {B G : Nat} {W W' : World} {T : TypeId} {cs : Array Value} (h : Blk W G T cs) (hb : Below B W W') (hG : G < B) : Blk W' G T cs := by
  unfold Blk; rw [hb.block G hG]; exact h
theorem Blk.putO {G l : Nat} {W : World} {T : TypeId} {cs : Array Value} (h : Blk W G T cs) (o : Obj) (hl : G ≠ l) : Blk (W.putObj l o) G T cs := by
  unfold Blk; rw [World.putObj_heap_other hl]; exact h

theorem results_two {fn : Func} {p q : Tmp} {ty tz : TypeId} (h : fn.results = #[.cell p ty, .cell q tz]) (tmps : Array Value) (P : Program) (w : World) :
    (results fn tmps).run P w = ((asAddr (tmps.getD p undef)).run P w).andThen fun a w1 => ((loadVar ty a).run P w1).andThen fun v w2 => ((asAddr (tmps.getD q undef)).run P w2).andThen fun b w3 => ((loadVar tz b).run P w3).andThen fun u w4 => .ok (.tuple #[v, u]) w4 := by
  simp only [results, h]
  simp [Sem.run_bind, Result.andThen]
theorem loadI {W : World} {R : Nat} {v : Value} (h : Blk W R 3 #[v]) : (loadVar 3 ⟨R, 0, none⟩).run Tryd.prog W = .ok v W := by
  have hc : W.cell? ⟨R, 0, none⟩ = some v := h.cell 0
  simp [loadVar, Tryd.isAgg3, Result.andThen, hc]
theorem loadE {W : World} {R : Nat} {v : Value} (h : Blk W R 32 #[v]) : (loadVar 32 ⟨R, 0, none⟩).run Tryd.prog W = .ok v W := by
  have hc : W.cell? ⟨R, 0, none⟩ = some v := h.cell 0
  simp [loadVar, Tryd.isAgg32, Result.andThen, hc]
theorem five_new (w : World) (o0 o1 o2 o3 o4 : Obj) :
    (((((w.alloc o0).alloc o1).alloc o2).alloc o3).alloc o4).heap.size = w.heap.size + 5 ∧
    (((((w.alloc o0).alloc o1).alloc o2).alloc o3).alloc o4).heap[w.heap.size]? = some o0 ∧
    (((((w.alloc o0).alloc o1).alloc o2).alloc o3).alloc o4).heap[w.heap.size + 1]? = some o1 ∧
    (((((w.alloc o0).alloc o1).alloc o2).alloc o3).alloc o4).heap[w.heap.size + 1 + 1]? = some o2 ∧
    (((((w.alloc o0).alloc o1).alloc o2).alloc o3).alloc o4).heap[w.heap.size + 1 + 1 + 1]? = some o3 ∧
    (((((w.alloc o0).alloc o1).alloc o2).alloc o3).alloc o4).heap[w.heap.size + 1 + 1 + 1 + 1]? = some o4 ∧
    Below w.heap.size w (((((w.alloc o0).alloc o1).alloc o2).alloc o3).alloc o4) := by
  have s1 : (w.alloc o0).heap.size = w.heap.size + 1 := World.size_alloc _ _
  have s2 : ((w.alloc o0).alloc o1).heap.size = w.heap.size + 1 + 1 := by rw [World.size_alloc, s1]
  have s3 : (((w.alloc o0).alloc o1).alloc o2).heap.size = w.heap.size + 1 + 1 + 1 := by rw [World.size_alloc, s2]
  have s4 : ((((w.alloc o0).alloc o1).alloc o2).alloc o3).heap.size = w.heap.size + 1 + 1 + 1 + 1 := by rw [World.size_alloc, s3]
  refine ⟨by rw [World.size_alloc, s4], ?_, ?_, ?_, ?_, ?_, ?_⟩
  · rw [Below.heap_alloc _ _ _ (by omega), Below.heap_alloc _ _ _ (by omega), Below.heap_alloc _ _ _ (by omega), Below.heap_alloc _ _ _ (by omega)]; exact World.alloc_heap_new _ _
  · rw [Below.heap_alloc _ _ _ (by omega), Below.heap_alloc _ _ _ (by omega), Below.heap_alloc _ _ _ (by omega), ← s1]; exact World.alloc_heap_new _ _
  · rw [Below.heap_alloc _ _ _ (by omega), Below.heap_alloc _ _ _ (by omega), ← s2]; exact World.alloc_heap_new _ _
  · rw [Below.heap_alloc _ _ _ (by omega), ← s3]; exact World.alloc_heap_new _ _
  · rw [← s4]; exact World.alloc_heap_new _ _
  · exact (((((Below.refl _ w).alloc (Nat.le_refl _) _).alloc (by omega) _).alloc (by omega) _).alloc (by omega) _).alloc (by omega) _
end Go.Proofs.YtjaedfjfcghgcabDoor

namespace Go.Proofs.YtjaedfjfcghgcabDoor
open Go.ChangeShapes Go.WideShapes Go.ChangeAt Go.RowKit
set_option maxRecDepth 100000
attribute [local go_sem] Oper.semAt_some

theorem three_new (w : World) (o0 o1 o2 : Obj) :
    (((w.alloc o0).alloc o1).alloc o2).heap.size = w.heap.size + 3 ∧
    (((w.alloc o0).alloc o1).alloc o2).heap[w.heap.size]? = some o0 ∧
    (((w.alloc o0).alloc o1).alloc o2).heap[w.heap.size + 1]? = some o1 ∧
    (((w.alloc o0).alloc o1).alloc o2).heap[w.heap.size + 1 + 1]? = some o2 ∧
    Below w.heap.size w (((w.alloc o0).alloc o1).alloc o2) := by
  have s1 : (w.alloc o0).heap.size = w.heap.size + 1 := World.size_alloc _ _
  have s2 : ((w.alloc o0).alloc o1).heap.size = w.heap.size + 1 + 1 := by rw [World.size_alloc, s1]
  refine ⟨by rw [World.size_alloc, s2], ?_, ?_, ?_, ?_⟩
  · rw [Below.heap_alloc _ _ _ (by omega), Below.heap_alloc _ _ _ (by omega)]; exact World.alloc_heap_new _ _
  · rw [Below.heap_alloc _ _ _ (by omega), ← s1]; exact World.alloc_heap_new _ _
  · rw [← s2]; exact World.alloc_heap_new _ _
  · exact (((Below.refl _ w).alloc (Nat.le_refl _) _).alloc (by omega) _).alloc (by omega) _

set_option maxHeartbeats 4000000 in
theorem wof_right (ao : Option Addr) (al acap : Nat) (co : Option Addr) (cl ccap : Nat) (n : Nat) (hn : n ≤ 6) (p : (Nat → Int) → Bool) (w : World)
    (hC : ∀ W, Below w.heap.size w W → Calls Tryd.prog 17 #[.agg #[.slice ao al acap, .slice co cl ccap]] W fun e w' => e = .returned .nilIface ∧ Below W.heap.size W w')
    (hH : ∀ (M : Nat → Int) W, M ∈ everyC n → Below w.heap.size w W → Calls Tryd.prog 22 #[.agg #[.slice ao al acap, .slice co cl ccap], .agg #[.int .i64 (M 0), .int .i64 (M 1), .int .i64 (M 2), .int .i64 (M 3), .int .i64 (M 4), .int .i64 (M 5), .int .i64 (M 6), .int .i64 (M 7)]] W fun e w' => e = .returned (.tuple #[.bool (p M), .nilIface]) ∧ Below W.heap.size W w') :
    Calls Tryd.prog 10 #[.agg #[.slice ao al acap, .slice co cl ccap], .int .i64 n] w fun e w' => e = .returned (.tuple #[.int .i64 (sumL p (everyC n)), .nilIface]) ∧ Below w.heap.size w w' := by
  obtain ⟨A, hA⟩ : ∃ A, A = everyC n := ⟨_, rfl⟩
  have HC : Hid (∀ W, Below w.heap.size w W → Calls Tryd.prog 17 #[.agg #[.slice ao al acap, .slice co cl ccap]] W fun e w' => e = .returned .nilIface ∧ Below W.heap.size W w') := hC
  have HF : Hid (∀ (k : Nat) (M : Nat → Int) W, A[k]? = some M → Below w.heap.size w W → Calls Tryd.prog 22 #[.agg #[.slice ao al acap, .slice co cl ccap], .agg #[.int .i64 (M 0), .int .i64 (M 1), .int .i64 (M 2), .int .i64 (M 3), .int .i64 (M 4), .int .i64 (M 5), .int .i64 (M 6), .int .i64 (M 7)]] W fun e w' => e = .returned (.tuple #[.bool (p M), .nilIface]) ∧ Below W.heap.size W w') := fun k M W hM hW => hH M W (by rw [hA] at hM; exact List.mem_of_getElem? hM) hW
  have HAl : Hid (∀ (k : Nat) (M : Nat → Int) W, A[k]? = some M → Calls Tryd.prog 23 #[.agg #[.int .i64 (M 0), .int .i64 (M 1), .int .i64 (M 2), .int .i64 (M 3), .int .i64 (M 4), .int .i64 (M 5), .int .i64 (M 6), .int .i64 (M 7)]] W fun e w' => e = .returned (.int .i64 (likeN M)) ∧ Below W.heap.size W w') := fun k M W hM => walike_any M (everyC_right hn (by rw [hA] at hM; exact List.mem_of_getElem? hM)) W
  have HS : Hid (∀ Bu W, W.cell? ⟨Bu, 0, none⟩ = some (.int .i64 n) → SeqG 2 Tryd.prog 38 #[.pointer (some ⟨Bu, 0, none⟩)] enc8 A W) := fun Bu W hB => by rw [hA]; exact iter_any n hn 2 (by omega) Bu W hB
  have HR : Hid (∀ (k : Nat) (M : Nat → Int), A[k]? = some M → 0 ≤ likeN M ∧ likeN M ≤ 262144 ∧ 0 ≤ sumL p (A.take k) ∧ sumL p (A.take k) ≤ 262144) := fun k M hM => by
    rw [hA] at hM ⊢
    have hmem := List.mem_of_getElem? hM
    have hp : ∀ N ∈ everyC n, 1 ≤ likeN N := fun N hN => like_pos hn hN
    have h1 := hp M hmem
    have h2 := sumL_has hp (p := fun _ => true) hmem rfl
    rw [(like_facts n hn).2] at h2
    have h3 := eight_le n hn
    have h4 := sumL_range (A := (everyC n).take k) (fun N hN => hp N (List.mem_of_mem_take hN)) p
    have h5 := sumL_part (A := everyC n) (fun N hN => Int.le_trans (by decide) (hp N hN)) (p := p) k
    have h6 := sumL_range hp p
    rw [(like_facts n hn).2] at h6
    omega
  rw [← hA]
  have HCk : Hid (∀ W, Calls Tryd.prog 20 #[.int .i64 n] W fun e w' => e = .returned .nilIface ∧ W = w') := fun W => wcheck_ok n hn W
  clear hA hn hC hH
  obtain ⟨hs1, b0, b1, b2, hB1⟩ := three_new w (.cells #[.slice ao al acap, .slice co cl ccap] 25) (.cells #[.int .i64 0] 3) (.cells #[.nilIface] 32)
  obtain ⟨w1, hw1⟩ : ∃ x, x = ((w.alloc (.cells #[.slice ao al acap, .slice co cl ccap] 25)).alloc (.cells #[.int .i64 0] 3)).alloc (.cells #[.nilIface] 32) := ⟨_, rfl⟩
  rw [← hw1] at hs1 b0 b1 b2 hB1
  have HB1 : Hid (Below w.heap.size w w1) := hB1
  have Hs1 : Hid (w1.heap.size = w.heap.size + 3) := hs1
  have I0 : Hid (Blk w1 w.heap.size 25 #[.slice ao al acap, .slice co cl ccap]) := b0
  have I1 : Hid (Blk w1 (w.heap.size + 1) 3 #[.int .i64 0]) := b1
  have I2 : Hid (Blk w1 (w.heap.size + 1 + 1) 32 #[.nilIface]) := b2
  clear hs1 b0 b1 b2 hB1
  refine (callsIn_wide (n := 3)).1 ?_
  refine callsIn_of_wp_marks Tryd.func10 rfl trivial ?_ rfl
  simp only [Tryd.ntmps10, List.size_toArray, List.length_cons, List.length_nil, Nat.reduceAdd, Nat.reduceSub, Array.replicate_succ, Array.replicate_zero, List.push_toArray, List.append_toArray, List.nil_append, List.cons_append]
  gi_upto_region 1 with fail
  rw [← hw1]
  clear hw1
  have i0 : w1.cell? ⟨w.heap.size, 0, none⟩ = some (.slice ao al acap) := I0.out.cell 0
  have i1 : w1.cell? ⟨w.heap.size, 1, none⟩ = some (.slice co cl ccap) := I0.out.cell 1
  gi_wp2_with fail
  refine ⟨trivial, ?_⟩
  gi_at_call 17
  refine (callsIn_wide.2 (HC.out _ HB1.out)).mono ?_
  rintro e w2 ⟨rfl, hb2⟩
  have HB2 : Hid (Below w.heap.size w w2) := HB1.out.trans (hb2.mono HB1.out.size)
  have J0 : Hid (Blk w2 w.heap.size 25 #[.slice ao al acap, .slice co cl ccap]) := I0.out.below hb2
  have J1 : Hid (Blk w2 (w.heap.size + 1) 3 #[.int .i64 0]) := I1.out.below hb2
  have J2 : Hid (Blk w2 (w.heap.size + 1 + 1) 32 #[.nilIface]) := I2.out.below hb2
  obtain ⟨G, hG⟩ : ∃ G, G = w2.heap.size := ⟨_, rfl⟩
  have HG : Hid (w.heap.size + 3 ≤ G) := by unfold Hid; rw [hG, ← Hs1.out]; exact hb2.size
  clear hb2 i0 i1
  gi_wp2_with fail
  refine ⟨trivial, ?_⟩
  gi_at_call 20
  refine (callsIn_wide.2 (HCk.out _)).mono ?_
  rintro e w3 ⟨rfl, rfl⟩
  gi_wp2_with fail
  refine ⟨trivial, ?_⟩
  gi_at_call 21
  refine (callsIn_wide.2 (fitAll_any _ _)).mono ?_
  rintro e w4 ⟨rfl, rfl⟩
  gi_wp2_with fail
  obtain ⟨wl, hwl⟩ : ∃ x, x = (w2.alloc (.cells #[.int .i64 0] 3)).alloc (.cells #[.int .i64 n] 3) := ⟨_, rfl⟩
  have HB0 : Hid (Below w.heap.size w wl) := by unfold Hid; rw [hwl]; exact (HB2.out.alloc HB2.out.size _).alloc (by rw [World.size_alloc]; exact Nat.le_succ_of_le HB2.out.size) _
  have Hsz : Hid (wl.heap.size = G + 2) := by unfold Hid; rw [hwl, hG, World.size_alloc, World.size_alloc]
  have H0 : Hid (Blk wl w.heap.size 25 #[.slice ao al acap, .slice co cl ccap]) := by unfold Hid; rw [hwl]; exact (J0.out.old _).old _
  have H1 : Hid (Blk wl (w.heap.size + 1) 3 #[.int .i64 0]) := by unfold Hid; rw [hwl]; exact (J1.out.old _).old _
  have H2 : Hid (Blk wl (w.heap.size + 1 + 1) 32 #[.nilIface]) := by unfold Hid; rw [hwl]; exact (J2.out.old _).old _
  have H3 : Hid (Blk wl G 3 #[.int .i64 0]) := by unfold Hid; rw [hwl, hG]; exact (Blk.new _ _ _).old _
  have H4 : Hid (Blk wl (G + 1) 3 #[.int .i64 n]) := by
    unfold Hid; rw [hwl, hG]
    have := Blk.new (w2.alloc (.cells #[.int .i64 0] 3)) 3 #[.int .i64 n]
    rw [World.size_alloc] at this
    exact this
  rw [← hwl, ← hG]
  clear hwl hG
  refine wpIn_range_own (by omega) (gf := 38) (lb := #[.pointer (some ⟨G + 1, 0, none⟩)]) rfl (enters_of Tryd.func38 (by kernel_rfl) rfl) (encs := enc8) (A := A)
    (fun W hW => HS.out _ W ((hW.cell (by rw [Hsz.out]; simp)).trans (H4.out.cell 0))) (fun _ => rfl)
    (fun k W => Below w.heap.size w W ∧ Blk W w.heap.size 25 #[.slice ao al acap, .slice co cl ccap] ∧ Blk W (w.heap.size + 1) 3 #[.int .i64 0] ∧ Blk W (w.heap.size + 1 + 1) 32 #[.nilIface] ∧ Blk W G 3 #[.int .i64 (sumL p (A.take k))])
    (fun _ _ => False)
    (fun k X Y h hb => ⟨h.1.trans (hb.mono (by have := HG.out; rw [Hsz.out]; omega)), h.2.1.keep hb (by have := HG.out; rw [Hsz.out]; omega), h.2.2.1.keep hb (by have := HG.out; rw [Hsz.out]; omega), h.2.2.2.1.keep hb (by have := HG.out; rw [Hsz.out]; omega), h.2.2.2.2.keep hb (by rw [Hsz.out]; omega)⟩)
    (fun _ _ _ h _ => h) ⟨HB0.out, H0.out, H1.out, H2.out, H3.out⟩ ?round ?done ?stop
  case round =>
    intro ln k x W hx hl1 hl2 ⟨hB, c0, c1, c2, c3⟩
    have HX : Hid (A[k]? = some x) := hx
    have Hl1 : Hid (G + 2 ≤ ln) := by unfold Hid; rw [← Hsz.out]; exact hl1
    have Hl2 : Hid (ln < W.heap.size) := hl2
    have HBk : Hid (Below w.heap.size w W) := hB
    have C0 : Hid (Blk W w.heap.size 25 #[.slice ao al acap, .slice co cl ccap]) := c0
    have C1 : Hid (Blk W (w.heap.size + 1) 3 #[.int .i64 0]) := c1
    have C2 : Hid (Blk W (w.heap.size + 1 + 1) 32 #[.nilIface]) := c2
    have C3 : Hid (Blk W G 3 #[.int .i64 (sumL p (A.take k))]) := c3
    clear hx hl1 hl2 hB c0 c1 c2 c3
    unfold enc8
    gi_wp2
    refine ⟨(Over.refl _ _).alloc _, fun o => ?_⟩
    obtain ⟨W2, hW2⟩ : ∃ X, X = (W.alloc (.cells #[.int .i64 (x 0), .int .i64 (x 1), .int .i64 (x 2), .int .i64 (x 3), .int .i64 (x 4), .int .i64 (x 5), .int .i64 (x 6), .int .i64 (x 7)] 30)).putObj ln o := ⟨_, rfl⟩
    obtain ⟨Gx, hGx⟩ : ∃ G, G = W.heap.size := ⟨_, rfl⟩
    have HB2 : Hid (Below w.heap.size w W2) := by unfold Hid; rw [hW2]; exact (HBk.out.alloc HBk.out.size _).trans (below_putObj _ _ (by have := Hl1.out; have := HG.out; omega))
    have D0 : Hid (Blk W2 w.heap.size 25 #[.slice ao al acap, .slice co cl ccap]) := by unfold Hid; rw [hW2]; exact (C0.out.old _).putO _ (by have := Hl1.out; have := HG.out; omega)
    have D1 : Hid (Blk W2 (w.heap.size + 1) 3 #[.int .i64 0]) := by unfold Hid; rw [hW2]; exact (C1.out.old _).putO _ (by have := Hl1.out; have := HG.out; omega)
    have D2 : Hid (Blk W2 (w.heap.size + 1 + 1) 32 #[.nilIface]) := by unfold Hid; rw [hW2]; exact (C2.out.old _).putO _ (by have := Hl1.out; have := HG.out; omega)
    have D3 : Hid (Blk W2 G 3 #[.int .i64 (sumL p (A.take k))]) := by unfold Hid; rw [hW2]; exact (C3.out.old _).putO _ (by have := Hl1.out; omega)
    have D8 : Hid (Blk W2 Gx 30 (arr8 x)) := by unfold Hid; rw [hW2, hGx]; exact (Blk.new _ _ _).putO _ (by have := Hl2.out; omega)
    rw [← hW2, ← hGx]
    clear hW2 hGx
    have HFk : Hid (Calls Tryd.prog 22 #[.agg #[.slice ao al acap, .slice co cl ccap], .agg #[.int .i64 (x 0), .int .i64 (x 1), .int .i64 (x 2), .int .i64 (x 3), .int .i64 (x 4), .int .i64 (x 5), .int .i64 (x 6), .int .i64 (x 7)]] W2 fun e w' => e = .returned (.tuple #[.bool (p x), .nilIface]) ∧ Below W2.heap.size W2 w') := HF.out k x W2 HX.out HB2.out
    have HM : Hid (sumL p (A.take (k + 1)) = sumL p (A.take k) + (if p x = true then likeN x else 0)) := sumL_take HX.out
    have HAk : Hid (∀ W, Calls Tryd.prog 23 #[.agg #[.int .i64 (x 0), .int .i64 (x 1), .int .i64 (x 2), .int .i64 (x 3), .int .i64 (x 4), .int .i64 (x 5), .int .i64 (x 6), .int .i64 (x 7)]] W fun e w' => e = .returned (.int .i64 (likeN x)) ∧ Below W.heap.size W w') := fun W => HAl.out k x W HX.out
    obtain ⟨hr1, hr2, hr3, hr4⟩ := HR.out k x HX.out
    obtain ⟨q, hq⟩ : ∃ q, q = p x := ⟨_, rfl⟩
    rw [← hq] at HFk HM
    clear hq
    obtain ⟨m, hm⟩ : ∃ m, m = sumL p (A.take k) := ⟨_, rfl⟩
    obtain ⟨L, hL⟩ : ∃ L, L = likeN x := ⟨_, rfl⟩
    rw [← hm] at HM D3 hr3 hr4
    rw [← hL] at HM HAk hr1 hr2
    have Hr : Hid (0 ≤ L ∧ L ≤ 262144 ∧ 0 ≤ m ∧ m ≤ 262144) := ⟨hr1, hr2, hr3, hr4⟩
    clear hm hL hr1 hr2 hr3 hr4
    have e0 : W2.cell? ⟨w.heap.size, 0, none⟩ = some (.slice ao al acap) := D0.out.cell 0
    have e1 : W2.cell? ⟨w.heap.size, 1, none⟩ = some (.slice co cl ccap) := D0.out.cell 1
    obtain ⟨x0, x1, x2, x3, x4, x5, x6, x7⟩ := D8.out.cells8
    gi_wp2_with fail
    refine ⟨trivial, ?_⟩
    gi_at_call 22
    refine (CallsIn.inRound ln (callsIn_wide.2 HFk.out)).mono ?_
    rintro e W3 ⟨rfl, hb3⟩
    have HB3 : Hid (Below w.heap.size w W3) := HB2.out.trans (hb3.mono HB2.out.size)
    have E0 : Hid (Blk W3 w.heap.size 25 #[.slice ao al acap, .slice co cl ccap]) := D0.out.below hb3
    have E1 : Hid (Blk W3 (w.heap.size + 1) 3 #[.int .i64 0]) := D1.out.below hb3
    have E2 : Hid (Blk W3 (w.heap.size + 1 + 1) 32 #[.nilIface]) := D2.out.below hb3
    have E3 : Hid (Blk W3 G 3 #[.int .i64 m]) := D3.out.below hb3
    have E8 : Hid (Blk W3 Gx 30 (arr8 x)) := D8.out.below hb3
    have HO3 : Hid (Over wl.heap.size W2 W3) := Over.of_below hb3
    clear hb3 e0 e1 x0 x1 x2 x3 x4 x5 x6 x7
    cases q with
    | true =>
      have HM1 : Hid (sumL p (A.take (k + 1)) = m + L) := by unfold Hid; have h := HM.out; simpa using h
      clear HM
      have e3 : W3.cell? ⟨G, 0, none⟩ = some (.int .i64 m) := E3.out.cell 0
      have z3 : W3.frozen? ⟨G, 0, none⟩ = false := E3.out.frozen 0
      obtain ⟨x0, x1, x2, x3, x4, x5, x6, x7⟩ := E8.out.cells8
      obtain ⟨hr1, hr2, hr3, hr4⟩ := Hr.out
      have HA3 : Hid (∀ W, Below W3.heap.size W3 W → Calls Tryd.prog 23 #[.agg #[.int .i64 (x 0), .int .i64 (x 1), .int .i64 (x 2), .int .i64 (x 3), .int .i64 (x 4), .int .i64 (x 5), .int .i64 (x 6), .int .i64 (x 7)]] W fun e w' => e = .returned (.int .i64 L) ∧ Below W3.heap.size W3 w' ∧ w'.cell? ⟨G, 0, none⟩ = some (.int .i64 m) ∧ w'.frozen? ⟨G, 0, none⟩ = false) := fun W hW => (HAk.out W).mono fun e w' ⟨h1, h2⟩ => ⟨h1, hW.trans (h2.mono hW.size), (E3.out.below (hW.trans (h2.mono hW.size))).cell 0, (E3.out.below (hW.trans (h2.mono hW.size))).frozen 0⟩
      gi_upto_region 14 with fail
      gi_region_with (refine ⟨trivial, ?_⟩; gi_at_call 23; refine (CallsIn.inRound ln (callsIn_wide.2 (HA3.out _ (by first | exact Below.drew (Below.refl _ _) | exact Below.refl _ _)))).mono ?_; rintro e w8 ⟨rfl, hb8, g8, z8⟩)
      all_goals gi_wp2
      all_goals have hM := HM1.out
      all_goals have hg := HG.out
      all_goals refine ⟨(HO3.out.trans (Over.of_below hb8)).setCell (by rw [Hsz.out]; simp) _, (HB3.out.trans (hb8.mono HB3.out.size)).setCell (by simp; omega) _, (E0.out.below hb8).far (by omega) _ _, (E1.out.below hb8).far (by omega) _ _, (E2.out.below hb8).far (by omega) _ _, ?_⟩
      all_goals show Blk _ _ _ #[.int .i64 (sumL p (A.take (k + 1)))]
      all_goals rw [hM]
      all_goals have ew : IntKind.i64.wrap (m + L) = m + L := by rw [IntKind.wrap_i64]; omega
      all_goals rw [ew]
      all_goals exact (E3.out.below hb8).set 0 (.int .i64 (m + L))
    | false =>
      have HM1 : Hid (sumL p (A.take (k + 1)) = m) := by unfold Hid; have h := HM.out; simpa using h
      clear HM
      gi_wp2
      have hM := HM1.out
      exact ⟨HO3.out, HB3.out, E0.out, E1.out, E2.out, by rw [hM]; exact E3.out⟩
  case done =>
    intro D W hD ⟨hB, c0, c1, c2, c3⟩ hK
    have HD : Hid (G + 2 ≤ D) := by unfold Hid; rw [← Hsz.out]; exact hD
    have HK : Hid (W.heap[D]? = some (.deferred (some []))) := hK
    have HBk : Hid (Below w.heap.size w W) := hB
    rw [List.take_length] at c3
    obtain ⟨S, hS⟩ : ∃ S, S = sumL p A := ⟨_, rfl⟩
    rw [← hS] at c3
    have HE : Hid (S = sumL p A) := hS
    clear hS
    have C1 : Hid (Blk W (w.heap.size + 1) 3 #[.int .i64 0]) := c1
    have C2 : Hid (Blk W (w.heap.size + 1 + 1) 32 #[.nilIface]) := c2
    have C3 : Hid (Blk W G 3 #[.int .i64 S]) := c3
    clear hD hB c0 c1 c2 c3 hK
    have e1 : W.cell? ⟨w.heap.size + 1, 0, none⟩ = some (.int .i64 0) := C1.out.cell 0
    have z1 : W.frozen? ⟨w.heap.size + 1, 0, none⟩ = false := C1.out.frozen 0
    have e2 : W.cell? ⟨w.heap.size + 1 + 1, 0, none⟩ = some .nilIface := C2.out.cell 0
    have z2 : W.frozen? ⟨w.heap.size + 1 + 1, 0, none⟩ = false := C2.out.frozen 0
    have e3 : W.cell? ⟨G, 0, none⟩ = some (.int .i64 S) := C3.out.cell 0
    gi_wp2
    have hK' : ((W.setCell ⟨w.heap.size + 1, 0, none⟩ (.int .i64 S)).setCell ⟨w.heap.size + 1 + 1, 0, none⟩ .nilIface).heap[D]? = some (.deferred (some [])) := by
      have := HD.out
      have := HG.out
      rw [Below.heap_setCell _ _ _ _ (by simp; omega), Below.heap_setCell _ _ _ _ (by simp; omega)]; exact HK.out
    have r1 : Blk ((W.setCell ⟨w.heap.size + 1, 0, none⟩ (.int .i64 S)).setCell ⟨w.heap.size + 1 + 1, 0, none⟩ .nilIface) (w.heap.size + 1) 3 #[.int .i64 S] := (C1.out.set 0 _).far (by omega) _ _
    have r2 : Blk ((W.setCell ⟨w.heap.size + 1, 0, none⟩ (.int .i64 S)).setCell ⟨w.heap.size + 1 + 1, 0, none⟩ .nilIface) (w.heap.size + 1 + 1) 32 #[.nilIface] := (C2.out.far (by omega) _ _).set 0 _
    refine ⟨by simp, .inl ⟨_, _, rfl, run_takeDeferred hK', ?_⟩⟩
    have hd := HD.out
    have hg := HG.out
    have l1 := loadI (r1.putO (.deferred none) (l := D) (by omega))
    have l2 := loadE (r2.putO (.deferred none) (l := D) (by omega))
    refine ⟨.tuple #[.int .i64 S, .nilIface], ?_, by rw [HE.out], ?_⟩
    · rw [results_two rfl]
      simp [asAddr, Result.andThen, l1, l2]
    · exact ((HBk.out.setCell (by simp) _).setCell (by simp; omega) _).trans (below_putObj _ _ (by omega))
  case stop => exact fun _ _ _ _ _ h => h.elim

set_option maxHeartbeats 4000000 in
theorem wof_form (ao : Option Addr) (al acap : Nat) (co : Option Addr) (cl ccap : Nat) (u F : Int) (w : World)
    (hC : ∀ W, Below w.heap.size w W → Calls Tryd.prog 17 #[.agg #[.slice ao al acap, .slice co cl ccap]] W fun e w' => e = .returned (.iface 58 (.int .i64 F)) ∧ Below W.heap.size W w') :
    Calls Tryd.prog 10 #[.agg #[.slice ao al acap, .slice co cl ccap], .int .i64 u] w fun e w' => e = .returned (.tuple #[.int .i64 0, .iface 58 (.int .i64 F)]) ∧ Below w.heap.size w w' := by
  have HC : Hid (∀ W, Below w.heap.size w W → Calls Tryd.prog 17 #[.agg #[.slice ao al acap, .slice co cl ccap]] W fun e w' => e = .returned (.iface 58 (.int .i64 F)) ∧ Below W.heap.size W w') := hC
  clear hC
  obtain ⟨hs1, b0, b1, b2, hB1⟩ := three_new w (.cells #[.slice ao al acap, .slice co cl ccap] 25) (.cells #[.int .i64 0] 3) (.cells #[.nilIface] 32)
  obtain ⟨w1, hw1⟩ : ∃ x, x = ((w.alloc (.cells #[.slice ao al acap, .slice co cl ccap] 25)).alloc (.cells #[.int .i64 0] 3)).alloc (.cells #[.nilIface] 32) := ⟨_, rfl⟩
  rw [← hw1] at hs1 b0 b1 b2 hB1
  have HB1 : Hid (Below w.heap.size w w1) := hB1
  have I0 : Hid (Blk w1 w.heap.size 25 #[.slice ao al acap, .slice co cl ccap]) := b0
  have I1 : Hid (Blk w1 (w.heap.size + 1) 3 #[.int .i64 0]) := b1
  have I2 : Hid (Blk w1 (w.heap.size + 1 + 1) 32 #[.nilIface]) := b2
  clear hs1 b0 b1 b2 hB1
  go_enter Tryd.func10, Tryd.ntmps10
  go_upto_region 1 with fail
  rw [← hw1]
  clear hw1
  have i0 : w1.cell? ⟨w.heap.size, 0, none⟩ = some (.slice ao al acap) := I0.out.cell 0
  have i1 : w1.cell? ⟨w.heap.size, 1, none⟩ = some (.slice co cl ccap) := I0.out.cell 1
  go_wp2_with fail
  go_at_call 17
  refine (HC.out _ HB1.out).mono ?_
  rintro e w2 ⟨rfl, hb2⟩
  have HB2 : Hid (Below w.heap.size w w2) := HB1.out.trans (hb2.mono HB1.out.size)
  have J1 : Hid (Blk w2 (w.heap.size + 1) 3 #[.int .i64 0]) := I1.out.below hb2
  have J2 : Hid (Blk w2 (w.heap.size + 1 + 1) 32 #[.nilIface]) := I2.out.below hb2
  clear hb2 i0 i1
  have e1 : w2.cell? ⟨w.heap.size + 1, 0, none⟩ = some (.int .i64 0) := J1.out.cell 0
  have z1 : w2.frozen? ⟨w.heap.size + 1, 0, none⟩ = false := J1.out.frozen 0
  have e2 : w2.cell? ⟨w.heap.size + 1 + 1, 0, none⟩ = some .nilIface := J2.out.cell 0
  have z2 : w2.frozen? ⟨w.heap.size + 1 + 1, 0, none⟩ = false := J2.out.frozen 0
  go_wp2
  have r1 : Blk ((w2.setCell ⟨w.heap.size + 1, 0, none⟩ (.int .i64 0)).setCell ⟨w.heap.size + 1 + 1, 0, none⟩ (.iface 58 (.int .i64 F))) (w.heap.size + 1) 3 #[.int .i64 0] := (J1.out.set 0 _).far (by omega) _ _
  have r2 : Blk ((w2.setCell ⟨w.heap.size + 1, 0, none⟩ (.int .i64 0)).setCell ⟨w.heap.size + 1 + 1, 0, none⟩ (.iface 58 (.int .i64 F))) (w.heap.size + 1 + 1) 32 #[.iface 58 (.int .i64 F)] := (J2.out.far (by omega) _ _).set 0 _
  have l1 := loadI r1
  have l2 := loadE r2
  refine bodyPost_ret (v := .tuple #[.int .i64 0, .iface 58 (.int .i64 F)]) ?_ rfl ⟨rfl, ?_⟩
  · rw [results_two rfl]
    simp [asAddr, Result.andThen, l1, l2]
  · exact (HB2.out.setCell (by simp) _).setCell (by simp; omega) _

set_option maxHeartbeats 4000000 in
theorem wof_range (ao : Option Addr) (al acap : Nat) (co : Option Addr) (cl ccap : Nat) (u : Int) (hu : ¬ (0 ≤ u ∧ u ≤ 6)) (w : World)
    (hC : ∀ W, Below w.heap.size w W → Calls Tryd.prog 17 #[.agg #[.slice ao al acap, .slice co cl ccap]] W fun e w' => e = .returned .nilIface ∧ Below W.heap.size W w') :
    Calls Tryd.prog 10 #[.agg #[.slice ao al acap, .slice co cl ccap], .int .i64 u] w fun e w' => e = .returned (.tuple #[.int .i64 0, .iface 58 (.int .i64 1)]) ∧ Below w.heap.size w w' := by
  have HC : Hid (∀ W, Below w.heap.size w W → Calls Tryd.prog 17 #[.agg #[.slice ao al acap, .slice co cl ccap]] W fun e w' => e = .returned .nilIface ∧ Below W.heap.size W w') := hC
  have HCk : Hid (∀ W, Calls Tryd.prog 20 #[.int .i64 u] W fun e w' => e = .returned (.iface 58 (.int .i64 1)) ∧ W = w') := fun W => wcheck_no u hu W
  clear hC hu
  obtain ⟨hs1, b0, b1, b2, hB1⟩ := three_new w (.cells #[.slice ao al acap, .slice co cl ccap] 25) (.cells #[.int .i64 0] 3) (.cells #[.nilIface] 32)
  obtain ⟨w1, hw1⟩ : ∃ x, x = ((w.alloc (.cells #[.slice ao al acap, .slice co cl ccap] 25)).alloc (.cells #[.int .i64 0] 3)).alloc (.cells #[.nilIface] 32) := ⟨_, rfl⟩
  rw [← hw1] at hs1 b0 b1 b2 hB1
  have HB1 : Hid (Below w.heap.size w w1) := hB1
  have I0 : Hid (Blk w1 w.heap.size 25 #[.slice ao al acap, .slice co cl ccap]) := b0
  have I1 : Hid (Blk w1 (w.heap.size + 1) 3 #[.int .i64 0]) := b1
  have I2 : Hid (Blk w1 (w.heap.size + 1 + 1) 32 #[.nilIface]) := b2
  clear hs1 b0 b1 b2 hB1
  go_enter Tryd.func10, Tryd.ntmps10
  go_upto_region 1 with fail
  rw [← hw1]
  clear hw1
  have i0 : w1.cell? ⟨w.heap.size, 0, none⟩ = some (.slice ao al acap) := I0.out.cell 0
  have i1 : w1.cell? ⟨w.heap.size, 1, none⟩ = some (.slice co cl ccap) := I0.out.cell 1
  go_wp2_with fail
  go_at_call 17
  refine (HC.out _ HB1.out).mono ?_
  rintro e w2 ⟨rfl, hb2⟩
  have HB2 : Hid (Below w.heap.size w w2) := HB1.out.trans (hb2.mono HB1.out.size)
  have J1 : Hid (Blk w2 (w.heap.size + 1) 3 #[.int .i64 0]) := I1.out.below hb2
  have J2 : Hid (Blk w2 (w.heap.size + 1 + 1) 32 #[.nilIface]) := I2.out.below hb2
  clear hb2 i0 i1
  go_wp2_with fail
  go_at_call 20
  refine (HCk.out _).mono ?_
  rintro e w3 ⟨rfl, rfl⟩
  have e1 : w2.cell? ⟨w.heap.size + 1, 0, none⟩ = some (.int .i64 0) := J1.out.cell 0
  have z1 : w2.frozen? ⟨w.heap.size + 1, 0, none⟩ = false := J1.out.frozen 0
  have e2 : w2.cell? ⟨w.heap.size + 1 + 1, 0, none⟩ = some .nilIface := J2.out.cell 0
  have z2 : w2.frozen? ⟨w.heap.size + 1 + 1, 0, none⟩ = false := J2.out.frozen 0
  go_wp2
  have r1 : Blk ((w2.setCell ⟨w.heap.size + 1, 0, none⟩ (.int .i64 0)).setCell ⟨w.heap.size + 1 + 1, 0, none⟩ (.iface 58 (.int .i64 1))) (w.heap.size + 1) 3 #[.int .i64 0] := (J1.out.set 0 _).far (by omega) _ _
  have r2 : Blk ((w2.setCell ⟨w.heap.size + 1, 0, none⟩ (.int .i64 0)).setCell ⟨w.heap.size + 1 + 1, 0, none⟩ (.iface 58 (.int .i64 1))) (w.heap.size + 1 + 1) 32 #[.iface 58 (.int .i64 1)] := (J2.out.far (by omega) _ _).set 0 _
  have l1 := loadI r1
  have l2 := loadE r2
  refine bodyPost_ret (v := .tuple #[.int .i64 0, .iface 58 (.int .i64 1)]) ?_ rfl ⟨rfl, ?_⟩
  · rw [results_two rfl]
    simp [asAddr, Result.andThen, l1, l2]
  · exact (HB2.out.setCell (by simp) _).setCell (by simp; omega) _

/-- in how many worlds it holds, whatever the formula and the number of things. -/
theorem worldsOf_any (va vc : Value) (ats : List At) (c : List Int) (u : Int) (w : World) (hA : ReadsA w va ats) (hC : Reads w vc c) (hK : KindsLaid w) :
    Calls Tryd.prog 10 #[.agg #[va, vc], .int .i64 u] w fun e w' => e = .returned (.tuple #[.int .i64 (worldsN ats c u), errV (worldsFault ats c u)]) ∧ Below w.heap.size w w' := by
  have hF := fun W hW => fcheck_any va vc ats c W (hA.below hW) (hC.below hW) (hK.below hW)
  have hH := fun (N : Nat → Int) W hW => wholds_any va vc ats c N W (hA.below hW) (hC.below hW) (hK.below hW)
  obtain ⟨ao, acap, rfl, _⟩ := hA.slice
  obtain ⟨co, ccap, rfl, _⟩ := hC.slice
  by_cases hf : formFault ats c = 0
  · rw [hf] at hF
    by_cases hu : 0 ≤ u ∧ u ≤ 6
    · obtain ⟨n, rfl⟩ := Int.eq_ofNat_of_zero_le hu.1
      have e0 : worldsFault ats c (n : Int) = 0 := by unfold worldsFault allFault; rw [if_pos hf, if_pos hu]
      have en : worldsN ats c (n : Int) = sumL (fun N => (madeN N 8).formIs ats c) (everyC n) := by unfold worldsN; rw [if_pos e0, Int.toNat_natCast]
      rw [e0, en]
      exact wof_right ao _ acap co _ ccap n (by omega) (fun N => (madeN N 8).formIs ats c) w hF fun M W hM hW => hH M W hW hf (everyC_right (by omega) hM)
    · have e0 : worldsFault ats c u = 1 := by unfold worldsFault allFault; rw [if_pos hf, if_neg hu]
      have en : worldsN ats c u = 0 := by unfold worldsN; rw [if_neg (by rw [e0]; decide)]
      rw [e0, en]
      exact wof_range ao _ acap co _ ccap u hu w hF
  · rw [errV_no hf] at hF
    have e0 : worldsFault ats c u = formFault ats c := by unfold worldsFault; rw [if_neg hf]
    have en : worldsN ats c u = 0 := by unfold worldsN; rw [if_neg (by rw [e0]; exact hf)]
    rw [e0, en, errV_no hf]
    exact wof_form ao _ acap co _ ccap u _ w hF
end Go.Proofs.YtjaedfjfcghgcabDoor
