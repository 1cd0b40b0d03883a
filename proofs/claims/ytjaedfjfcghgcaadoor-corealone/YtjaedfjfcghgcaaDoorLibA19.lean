/-
  Proved: what fit.All's function hands to whatever loop ranges over it: all counts of so many things, one behind the other, till the loop has enough (a contract that the statements lean on). Proved: what fit.check and fit.All return; what was in memory is as it was (contracts that the statements lean on).
  Proved: a range over a function whose rounds write on in blocks that earlier rounds made (as a row that grows): what the caller must show of one round, and what it then knows behind the loop; and that fit.All's function keeps its word to such a loop (laws that the walks of chapter 13's program lean on).
  Proved: what fields.check returns, of any counts; what was in memory is as it was (a contract that the statements lean on).
-/
import Derived.Test.YtjaedfjfcghgcaaDoorLibA18
import Derived.Stop.RegionWithIn
import Derived.Sort.CutIn
import Derived.Test.YtjaedfjfcghgcaaDoorLibA2
import Derived.Test.YtjaedfjfcghgcaaDoorLibA8
import Derived.Test.YtjaedfjfcghgcaaDoorLibA5
namespace Go.Proofs.YtjaedfjfcghgcaaDoor
open Go.ChangeShapes Go.WideShapes Go.ChangeAt Go.RowKit
set_option maxRecDepth 100000

theorem fitCheck_ok (n : Nat) (hn : n ≤ 6) (w : World) : Calls Tryd.prog 74 #[.int .i64 n] w fun e w' => e = .returned .nilIface ∧ w = w' := by
  have h : okB (n : Int) 0 = true := ok_zero (by omega) (by omega)
  go_enter Tryd.func74, Tryd.ntmps74
  go_wp2_with fail
  go_at_call 72
  refine (check_ok _ _ h _).mono ?_
  rintro e w' ⟨rfl, rfl⟩
  go_wp2
  go_ret
  exact ⟨rfl, rfl⟩
theorem fitCheck_no (u : Int) (hu : ¬ (0 ≤ u ∧ u ≤ 6)) (w : World) : Calls Tryd.prog 74 #[.int .i64 u] w fun e w' => e = .returned (.iface 64 (.int .i64 1)) ∧ w = w' := by
  have h : okB u 0 = false := okB_not.2 fun h => hu ⟨h.1, h.2.1⟩
  go_enter Tryd.func74, Tryd.ntmps74
  go_wp2_with fail
  go_at_call 72
  refine (check_no _ _ h _).mono ?_
  rintro e w' ⟨rfl, rfl⟩
  go_wp2
  go_ret
  exact ⟨rfl, rfl⟩
theorem fitAll_any (u : Int) (w : World) : Calls Tryd.prog 50 #[.int .i64 u] w fun e w' => e = .returned (.func (.func 73) #[] #[.pointer (some ⟨w.heap.size, 0, none⟩)]) ∧ w' = w.alloc (.cells #[.int .i64 u] 3) := by
  go_enter Tryd.func50, Tryd.ntmps50
  go_wp2
  go_ret
  exact ⟨rfl, rfl⟩
end Go.Proofs.YtjaedfjfcghgcaaDoor
namespace Go.Proofs.YtjaedfjfcghgcaaDoor
open Go.ChangeShapes Go.WideShapes Go.ChangeAt Go.RowKit
set_option maxRecDepth 100000

/-- the first has all in the last field, and nothing elsewhere. -/
theorem every_first (u : Nat) : ∃ M, (everyC u)[0]? = some M ∧ ∀ g, g < 8 → M g = if g = 7 then (u : Int) else 0 := by
  obtain ⟨M, h1, h2⟩ := allF_head 7 u fun _ => 0
  have hl : (allF 7 u fun _ => 0) = everyC u := rfl
  rw [hl] at h1
  refine ⟨M, h1, fun g hg => ?_⟩
  obtain ⟨h3, h4⟩ := everyC_sum (List.mem_of_getElem? h1)
  have e : sumN M 8 = M 0 + M 1 + M 2 + M 3 + M 4 + M 5 + M 6 + M 7 := by
    show (((((((((0 : Int) + M 0) + M 1) + M 2) + M 3) + M 4) + M 5) + M 6) + M 7) = _
    omega
  have a0 := h3 0 (by omega)
  have a1 := h3 1 (by omega)
  have a2 := h3 2 (by omega)
  have a3 := h3 3 (by omega)
  have a4 := h3 4 (by omega)
  have a5 := h3 5 (by omega)
  have a6 := h3 6 (by omega)
  rcases eight hg with rfl | rfl | rfl | rfl | rfl | rfl | rfl | rfl
  · rw [if_neg (by omega)]; omega
  · rw [if_neg (by omega)]; omega
  · rw [if_neg (by omega)]; omega
  · rw [if_neg (by omega)]; omega
  · rw [if_neg (by omega)]; omega
  · rw [if_neg (by omega)]; omega
  · rw [if_neg (by omega)]; omega
  · rw [if_pos rfl]; exact h2

/-- eight counts, as they are handed over. -/
def enc8 (M : Nat → Int) : Array Value := #[.agg #[.int .i64 (M 0), .int .i64 (M 1), .int .i64 (M 2), .int .i64 (M 3), .int .i64 (M 4), .int .i64 (M 5), .int .i64 (M 6), .int .i64 (M 7)]]

theorem Blk.over {B G : Nat} {W W' : World} {T : TypeId} {cs : Array Value} (h : Blk W G T cs) (hO : Over B W W') (hB : B ≤ G) : Blk W' G T cs := by
  unfold Blk; rw [hO.same G hB h.lt]; exact h

set_option maxHeartbeats 4000000 in
theorem iter_any (u : Nat) (hu : u ≤ 6) (n : Nat) (hn : 1 ≤ n) (Bu : Nat) (W : World) (hB : W.cell? ⟨Bu, 0, none⟩ = some (.int .i64 u)) :
    SeqG n Tryd.prog 73 #[.pointer (some ⟨Bu, 0, none⟩)] enc8 (everyC u) W := by
  intro l J Jx hJ hY h0
  obtain ⟨M0, hM0, hM0'⟩ := every_first u
  obtain ⟨A, hA⟩ : ∃ A, A = everyC u := ⟨_, rfl⟩
  have HST : Hid (∀ (i : Nat) (M : Nat → Int), A[i]? = some M → (lastTo M 8 ≠ 0 ∧ ∃ M', A[i + 1]? = some M' ∧ ∀ f, f < 8 → afterN M f = M' f) ∨ (lastTo M 8 = 0 ∧ i + 1 = A.length)) := fun i M hi => by
    rw [hA] at hi ⊢; exact every_steps hu hi
  have HBO : Hid (∀ (i : Nat) (M : Nat → Int), A[i]? = some M → ∀ f, f < 8 → 0 ≤ M f ∧ M f ≤ 6) := fun i M hi f hf => by
    rw [hA] at hi
    have := (everyC_sum (List.mem_of_getElem? hi)).1 f hf
    omega
  have HCk : Hid (∀ W, Calls Tryd.prog 74 #[.int .i64 u] W fun e w' => e = .returned .nilIface ∧ W = w') := fun W => fitCheck_ok u hu W
  rw [← hA] at hM0 hY ⊢
  clear hA hu
  have HY : Hid (∀ (k : Nat) (x : Nat → Int) (W1 : World), A[k]? = some x → J k W1 → YieldAt Fence.wide (n - 1) Tryd.prog l #[.agg #[.int .i64 (x 0), .int .i64 (x 1), .int .i64 (x 2), .int .i64 (x 3), .int .i64 (x 4), .int .i64 (x 5), .int .i64 (x 6), .int .i64 (x 7)]] W1 fun e W' =>
      (e = .returned (.bool true) ∧ J (k + 1) W' ∧ Over W.heap.size W1 W') ∨ (e = .returned (.bool false) ∧ Jx (k + 1) W')) := hY
  have HJ : Hid (∀ k W1 W2, J k W1 → Below W.heap.size W1 W2 → J k W2) := hJ
  clear hY hJ
  have e8 : Hid (arr8 M0 = #[.int .i64 0, .int .i64 0, .int .i64 0, .int .i64 0, .int .i64 0, .int .i64 0, .int .i64 0, .int .i64 u]) := by
    unfold Hid arr8
    rw [hM0' 0 (by omega), hM0' 1 (by omega), hM0' 2 (by omega), hM0' 3 (by omega), hM0' 4 (by omega), hM0' 5 (by omega), hM0' 6 (by omega), hM0' 7 (by omega)]
    rfl
  have H0 : Hid (J 0 W) := h0
  have HM0 : Hid (A[0]? = some M0) := hM0
  clear hM0' h0 hM0
  refine callsIn_of_wp Tryd.func73 rfl trivial ?_ rfl
  simp only [Tryd.ntmps73, List.size_toArray, List.length_cons, List.length_nil, Nat.reduceAdd, Nat.reduceSub, Array.replicate_succ, Array.replicate_zero, List.push_toArray, List.append_toArray, List.nil_append, List.cons_append]
  have hBu : Bu < W.heap.size := World.block_lt_of_cell? _ _ hB
  have hBa : (W.drew.alloc (.cells #[.int .i64 0, .int .i64 0, .int .i64 0, .int .i64 0, .int .i64 0, .int .i64 0, .int .i64 0, .int .i64 0] 89)).cell? ⟨Bu, 0, none⟩ = some (.int .i64 u) := (World.cell?_alloc_lt _ _ _ hBu).trans hB
  gi_upto_region 0 with fail
  gi_cut [3, 4] from 5 (fun p ok wr => p = .pointer (some ⟨W.heap.size, 0, none⟩) ∧ ok = .bool true ∧ Below W.heap.size W wr ∧ Blk wr W.heap.size 89 (arr8 M0))
  case first =>
    gi_region_with (refine ⟨trivial, ?_⟩; gi_at_call 74; refine (callsIn_wide.2 (HCk.out _)).mono ?_; rintro e w8 ⟨rfl, rfl⟩)
    all_goals (try gi_wp2)
    all_goals gi_meet
    all_goals exact ⟨rfl, rfl, (below_alloc1 W _).drew, by rw [e8.out]; exact (Blk.new W _ _).drew⟩
  case rest =>
  obtain ⟨rfl, rfl, hb1, hk1⟩ := hcut
  have HK1 : Hid (Blk wc W.heap.size 89 (arr8 M0)) := hk1
  have HJ1 : Hid (J 0 wc) := HJ.out _ _ _ H0.out hb1
  clear hb1 hk1
  gi_wp2
  gi_loopg [4] (A.length) (fun gk ok wr => (∃ (k : Nat) (M : Nat → Int), ok = .bool true ∧ A[k]? = some M ∧ gk = A.length - k ∧ J k wr ∧ Blk wr W.heap.size 89 (arr8 M)) ∨ (ok = .bool false ∧ J A.length wr))
  case atStart => exact Or.inl ⟨0, M0, rfl, HM0.out, rfl, HJ1.out, HK1.out⟩
  case round =>
    rcases hrel with ⟨k, M, rfl, hM, hg, hj, hk⟩ | ⟨rfl, hj⟩
    · have HM : Hid (A[k]? = some M) := hM
      have HG : Hid (gk = A.length - k) := hg
      have HKk : Hid (Blk wr W.heap.size 89 (arr8 M)) := hk
      have HL : Hid (k < A.length) := (List.getElem?_eq_some_iff.1 hM).1
      obtain ⟨fn, tmps, assign, body, hy, hR⟩ := HY.out k M wr hM hj
      obtain ⟨x0, x1, x2, x3, x4, x5, x6, x7⟩ := hk.cells8
      clear hM hg hk hj
      gi_wp2
      refine hR.mono ?_
      rintro e W3 (⟨rfl, hJ3, hO3⟩ | ⟨rfl, hJx3⟩)
      · have HJ3 : Hid (J (k + 1) W3) := hJ3
        have HK3 : Hid (Blk W3 W.heap.size 89 (arr8 M)) := HKk.out.over hO3 (Nat.le_refl _)
        obtain ⟨M', hM'⟩ : ∃ M', M' = afterO M := ⟨_, rfl⟩
        obtain ⟨ok, hok⟩ : ∃ b, b = !(lastTo M 8 == 0) := ⟨_, rfl⟩
        have HAf : Hid (∀ W, Calls Tryd.prog 75 #[.agg #[.int .i64 (M 0), .int .i64 (M 1), .int .i64 (M 2), .int .i64 (M 3), .int .i64 (M 4), .int .i64 (M 5), .int .i64 (M 6), .int .i64 (M 7)]] W fun e w' => e = .returned (.tuple #[.agg #[.int .i64 (M' 0), .int .i64 (M' 1), .int .i64 (M' 2), .int .i64 (M' 3), .int .i64 (M' 4), .int .i64 (M' 5), .int .i64 (M' 6), .int .i64 (M' 7)], .bool ok]) ∧ Below W.heap.size W w') := fun W => by
          rw [hM', hok]; exact after_any M W (HBO.out k M HM.out)
        have HM' : Hid (M' = afterO M) := hM'
        have Hok : Hid (ok = !(lastTo M 8 == 0)) := hok
        clear hJ3 hO3 x0 x1 x2 x3 x4 x5 x6 x7 hy hR hM' hok
        obtain ⟨x0, x1, x2, x3, x4, x5, x6, x7⟩ := HK3.out.cells8
        gi_wp2_with fail
        refine ⟨trivial, ?_⟩
        gi_at_call 75
        refine (callsIn_wide.2 (HAf.out _)).mono ?_
        rintro e W4 ⟨rfl, hb4⟩
        have HK4 : Hid (Blk W4 W.heap.size 89 (arr8 M)) := HK3.out.below hb4
        have HJ4 : Hid (J (k + 1) W4) := HJ.out _ _ _ HJ3.out (hb4.mono (Nat.le_of_lt HK3.out.lt))
        clear hb4 x0 x1 x2 x3 x4 x5 x6 x7
        obtain ⟨x0, x1, x2, x3, x4, x5, x6, x7⟩ := HK4.out.cells8
        obtain ⟨f0, f1, f2, f3, f4, f5, f6, f7⟩ := HK4.out.frozen8
        gi_wp2
        have hJ5 : J (k + 1) (put8 W4 W.heap.size M') := HJ.out _ _ _ HJ4.out (put8_below (Below.refl _ _) (Nat.le_refl _) _)
        rcases HST.out k M HM.out with ⟨h0, M2, hM2, he⟩ | ⟨h0, he⟩
        · gi_roundg (A.length - (k + 1))
          case rel =>
            refine Or.inl ⟨k + 1, M2, ?_, hM2, rfl, hJ5, ?_⟩
            · rw [Hok.out]; simp [h0]
            · have hb := put8_blk HK4.out M'
              have e : arr8 M' = arr8 M2 := arr8_same fun f hf => by rw [HM'.out]; unfold afterO; rw [if_neg h0]; exact he f hf
              rw [e] at hb
              exact hb
          case measure => have := HL.out; rw [HG.out]; omega
        · gi_roundg 0
          case rel => exact Or.inr ⟨by rw [Hok.out, h0]; rfl, by rw [← he]; exact hJ5⟩
          case measure => have := HL.out; rw [HG.out]; omega
      · gi_wp2
        go_end0
        exact ⟨⟨_, rfl⟩, .inr ⟨k, HL.out, hJx3⟩⟩
    · have HJe : Hid (J A.length wr) := hj
      clear hj
      gi_wp2
      refine ⟨fun _ _ => trivial, ?_⟩
      gi_wp2
      go_end0
      exact ⟨⟨_, rfl⟩, .inl HJe.out⟩

theorem Blk.keep {B G : Nat} {W W' : World} {T : TypeId} {cs : Array Value} (h : Blk W G T cs) (hb : Below B W W') (hG : G < B) : Blk W' G T cs := by
  unfold Blk; rw [hb.block G hG]; exact h
theorem Blk.putO {G l : Nat} {W : World} {T : TypeId} {cs : Array Value} (h : Blk W G T cs) (o : Obj) (hl : G ≠ l) : Blk (W.putObj l o) G T cs := by
  unfold Blk; rw [World.putObj_heap_other hl]; exact h

theorem results_two {fn : Func} {p q : Tmp} {ty tz : TypeId} (h : fn.results = #[.cell p ty, .cell q tz]) (tmps : Array Value) (P : Program) (w : World) :
    (results fn tmps).run P w = ((asAddr (tmps.getD p undef)).run P w).andThen fun a w1 => ((loadVar ty a).run P w1).andThen fun v w2 => ((asAddr (tmps.getD q undef)).run P w2).andThen fun b w3 => ((loadVar tz b).run P w3).andThen fun u w4 => .ok (.tuple #[v, u]) w4 := by
  simp only [results, h]
  simp [Sem.run_bind, Result.andThen]
theorem loadI {W : World} {R : Nat} {v : Value} (h : Blk W R 3 #[v]) : (loadVar 3 ⟨R, 0, none⟩).run Tryd.prog W = .ok v W := by
  have hc : W.cell? ⟨R, 0, none⟩ = some v := h.cell 0
  simp [loadVar, Tryd.isAgg3, Result.andThen, hc]
theorem loadE {W : World} {R : Nat} {v : Value} (h : Blk W R 26 #[v]) : (loadVar 26 ⟨R, 0, none⟩).run Tryd.prog W = .ok v W := by
  have hc : W.cell? ⟨R, 0, none⟩ = some v := h.cell 0
  simp [loadVar, Tryd.isAgg26, Result.andThen, hc]
theorem five_new (w : World) (o0 o1 o2 o3 o4 : Obj) :
    (((((w.alloc o0).alloc o1).alloc o2).alloc o3).alloc o4).heap.size = w.heap.size + 5 ∧
    (((((w.alloc o0).alloc o1).alloc o2).alloc o3).alloc o4).heap[w.heap.size]? = some o0 ∧
    (((((w.alloc o0).alloc o1).alloc o2).alloc o3).alloc o4).heap[w.heap.size + 1]? = some o1 ∧
    (((((w.alloc o0).alloc o1).alloc o2).alloc o3).alloc o4).heap[w.heap.size + 1 + 1]? = some o2 ∧
    (((((w.alloc o0).alloc o1).alloc o2).alloc o3).alloc o4).heap[w.heap.size + 1 + 1 + 1]? = some o3 ∧
    (((((w.alloc o0).alloc o1).alloc o2).alloc o3).alloc o4).heap[w.heap.size + 1 + 1 + 1 + 1]? = some o4 ∧
    Below w.heap.size w (((((w.alloc o0).alloc o1).alloc o2).alloc o3).alloc o4) := by
  have s1 : (w.alloc o0).heap.size = w.heap.size + 1 := World.size_alloc _ _
  have s2 : ((w.alloc o0).alloc o1).heap.size = w.heap.size + 1 + 1 := by rw [World.size_alloc, s1]
  have s3 : (((w.alloc o0).alloc o1).alloc o2).heap.size = w.heap.size + 1 + 1 + 1 := by rw [World.size_alloc, s2]
  have s4 : ((((w.alloc o0).alloc o1).alloc o2).alloc o3).heap.size = w.heap.size + 1 + 1 + 1 + 1 := by rw [World.size_alloc, s3]
  refine ⟨by rw [World.size_alloc, s4], ?_, ?_, ?_, ?_, ?_, ?_⟩
  · rw [Below.heap_alloc _ _ _ (by omega), Below.heap_alloc _ _ _ (by omega), Below.heap_alloc _ _ _ (by omega), Below.heap_alloc _ _ _ (by omega)]; exact World.alloc_heap_new _ _
  · rw [Below.heap_alloc _ _ _ (by omega), Below.heap_alloc _ _ _ (by omega), Below.heap_alloc _ _ _ (by omega), ← s1]; exact World.alloc_heap_new _ _
  · rw [Below.heap_alloc _ _ _ (by omega), Below.heap_alloc _ _ _ (by omega), ← s2]; exact World.alloc_heap_new _ _
  · rw [Below.heap_alloc _ _ _ (by omega), ← s3]; exact World.alloc_heap_new _ _
  · rw [← s4]; exact World.alloc_heap_new _ _
  · exact (((((Below.refl _ w).alloc (Nat.le_refl _) _).alloc (by omega) _).alloc (by omega) _).alloc (by omega) _).alloc (by omega) _
end Go.Proofs.YtjaedfjfcghgcaaDoor

namespace Go.Proofs.YtjaedfjfcghgcaaDoor
open Go.RowKit

/-- whatever lay from block B on lies as it lay, but for the loop's own blocks. -/
structure OverR (R : Nat → Prop) (B : Nat) (W W' : World) : Prop where
  size : W.heap.size ≤ W'.heap.size
  same : ∀ b, B ≤ b → b < W.heap.size → ¬ R b → W'.heap[b]? = W.heap[b]?
theorem OverR.of {R : Nat → Prop} {B : Nat} {W W' : World} (h : Over B W W') : OverR R B W W' := ⟨h.size, fun b hb hl _ => h.same b hb hl⟩
theorem OverR.trans {R : Nat → Prop} {B : Nat} {X Y Z : World} (h : OverR R B X Y) (k : OverR R B Y Z) : OverR R B X Z :=
  ⟨Nat.le_trans h.size k.size, fun b hb hl hr => (k.same b hb (Nat.lt_of_lt_of_le hl h.size) hr).trans (h.same b hb hl hr)⟩
/-- what lay below B, and the loop's own blocks, lie as they lay. -/
structure KeepR (R : Nat → Prop) (B : Nat) (W W' : World) : Prop where
  below : Below B W W'
  own : ∀ b, R b → b < W.heap.size → W'.heap[b]? = W.heap[b]?
theorem KeepR.of_below {R : Nat → Prop} {B : Nat} {W W' : World} (h : Below W.heap.size W W') (hB : B ≤ W.heap.size) : KeepR R B W W' := ⟨h.mono hB, fun b _ hl => h.block b hl⟩
theorem KeepR.putObj {R : Nat → Prop} {B l : Nat} (W : World) (o : Obj) (h : B ≤ l) (hr : ¬ R l) : KeepR R B W (W.putObj l o) :=
  ⟨below_putObj _ _ h, fun _ hb _ => World.putObj_heap_other (fun e => hr (e ▸ hb))⟩

/-- the iterator's word: A, one behind the other, to whatever loop whose rounds leave alone what the iterator has made since. -/
def SeqR {α : Type} (n : Nat) (P : Program) (g : Nat) (lb : Array Value) (encs : α → Array Value) (A : List α) (W : World) : Prop :=
  ∀ (l : Nat) (J : Nat → (Nat → Prop) → World → Prop) (Jx : Nat → World → Prop),
    (∀ k R W1 W2, J k R W1 → KeepR R W.heap.size W1 W2 → J k R W2) →
    (∀ k x R W1, A[k]? = some x → J k R W1 → YieldAt Fence.wide (n - 1) P l (encs x) W1 fun e W' =>
      (e = .returned (.bool true) ∧ ∃ R', J (k + 1) R' W' ∧ OverR R W.heap.size W1 W' ∧ ∀ b, R' b → R b ∨ W1.heap.size ≤ b) ∨ (e = .returned (.bool false) ∧ Jx (k + 1) W')) →
    J 0 (fun _ => False) W →
    CallsIn Fence.wide n P g (#[.func (.yield l) #[] #[]] ++ lb) W fun e W' => (∃ v, e = .returned v) ∧ ((∃ R, J A.length R W') ∨ ∃ k, k < A.length ∧ Jx (k + 1) W')

/-- how a round's body may be left. -/
def roundPostR (R : Nat → Prop) (B : Nat) (I : Nat → (Nat → Prop) → World → Prop) (Ix : Nat → World → Prop) (k : Nat) (W : World) : Exit → Act → World → Prop
  | .normal, _, W' => OverR R B W W' ∧ ∃ R', I (k + 1) R' W' ∧ ∀ b, R' b → R b ∨ W.heap.size ≤ b
  | .ret, _, W' => OverR R B W W' ∧ Ix (k + 1) W'
  | _, _, _ => False

theorem wpIn_range_ownR {α : Type} {P : Program} {n : Nat} {g : Operand} {ps : Array Tmp} {assign body : Code} {Q : Exit → Act → World → Prop} {a : Act} {w : World}
    (h1 : 1 ≤ n) {gf : Nat} {lb : Array Value} (hg : a.eval g = .func (.func gf) #[] lb) (eg : ∀ args w, (callFunc gf args).run P w = .ok (.enter gf args) w)
    {encs : α → Array Value} {A : List α} (hseq : ∀ W, Below w.heap.size w W → SeqR (n - 1) P gf lb encs A W) (hps : ∀ x, (encs x).size = ps.size)
    (I : Nat → (Nat → Prop) → World → Prop) (Ix : Nat → World → Prop) (hI : ∀ k R W1 W2, I k R W1 → KeepR R w.heap.size W1 W2 → I k R W2) (hIx : ∀ k W1 W2, Ix k W1 → Below w.heap.size W1 W2 → Ix k W2) (h0 : I 0 (fun _ => False) w)
    (hround : ∀ (l k : Nat) (x : α) (R : Nat → Prop) (W : World), A[k]? = some x → w.heap.size ≤ l → l < W.heap.size → ¬ R l → I k R W →
      assign.wpIn (Fence.wide.inRound l) (n - 1 - 1) P (Exit.then (fun a1 W1 => Over w.heap.size W W1 ∧ ∀ o, body.wpIn (Fence.wide.inRound l) (n - 1 - 1) P (roundPostR R w.heap.size I Ix k (W1.putObj l o)) a1 (W1.putObj l o)) (fun _ _ _ => False))
        { tmps := (ps.zip (encs x)).foldl (fun t (p, v) => t.setIfInBounds p v) a.tmps, defers := [] } W)
    (hdone : ∀ (D : Nat) (R : Nat → Prop) (W : World), w.heap.size ≤ D → ¬ R D → I A.length R W → W.heap[D]? = some (.deferred (some [])) → Q .normal { a with defers := { target := .collected D, args := #[] } :: a.defers } W)
    (hstop : ∀ (D k : Nat) (W : World), w.heap.size ≤ D → k < A.length → Ix (k + 1) W → W.heap[D]? = some (.deferred (some [])) → Code.ret.wpIn Fence.wide n P Q { a with defers := { target := .collected D, args := #[] } :: a.defers } W) :
    (Code.rangeFunc g ps assign body).wpIn Fence.wide n P Q a w := by
  refine wpIn_rangeFunc ?_
  intro fn hfn
  rw [show Fence.wide.round = none from rfl]
  obtain ⟨rec, hrec⟩ : ∃ rec : LoopState → Option Code → Loop, rec = fun st pe => { state := st, pending := pe, fn, tmps := a.tmps, params := ps, assign, body, defers := w.heap.size } := ⟨_, rfl⟩
  obtain ⟨W1, hW1⟩ : ∃ W1, (w.alloc (.deferred (some []))).alloc (.loop (rec .ready none)) = W1 := ⟨_, rfl⟩
  have hs1 : W1.heap.size = w.heap.size + 1 + 1 := by rw [← hW1, World.size_alloc, World.size_alloc]
  have hL1 : W1.heap[w.heap.size + 1]? = some (.loop (rec .ready none)) := by
    rw [← hW1]; have := World.alloc_heap_new (w.alloc (.deferred (some []))) (.loop (rec .ready none)); rwa [World.size_alloc] at this
  have hK1 : W1.heap[w.heap.size]? = some (.deferred (some [])) := by
    rw [← hW1]; exact (Below.heap_alloc _ _ _ (by simp)).trans (World.alloc_heap_new w _)
  have hb1 : Below w.heap.size w W1 := by
    rw [← hW1]; exact ((Below.refl _ w).alloc (Nat.le_refl _) _).alloc (by simp) _
  have hI1 : I 0 (fun _ => False) W1 := hI _ _ _ _ h0 ⟨hb1, fun _ h _ => h.elim⟩
  refine ⟨w.heap.size + 1, [{ target := .collected w.heap.size, args := #[] }], W1, { target := .fn (.func gf) lb, args := #[.func (.yield (w.heap.size + 1)) #[] #[]] }, W1, gf,
    #[.func (.yield (w.heap.size + 1)) #[] #[]] ++ lb, W1, ?_, ?_, ?_, ?_, fun _ => h1, ?_⟩
  · rw [← hW1, hrec]; exact run_enterLoop_outer _ _ _ _ _
  · simp only [resolve, hg]
    simp [go_sem]
  · intro f' _; exact trivial
  · simp [invoke, go_sem, eg]
  · refine (hseq W1 hb1 (w.heap.size + 1)
      (fun k R W => I k R W ∧ (∀ b, R b → w.heap.size + 1 + 1 ≤ b) ∧ W.heap[w.heap.size + 1]? = some (.loop (rec .ready none)) ∧ W.heap[w.heap.size]? = some (.deferred (some [])))
      (fun k W => Ix k W ∧ W.heap[w.heap.size + 1]? = some (.loop (rec .done (some .ret))) ∧ W.heap[w.heap.size]? = some (.deferred (some [])))
      (fun k R X Y hs hb => ⟨hI k R X Y hs.1 ⟨hb.below.mono (by omega), hb.own⟩, hs.2.1, (hb.below.block _ (by omega)).trans hs.2.2.1, (hb.below.block _ (by omega)).trans hs.2.2.2⟩)
      ?_ ⟨hI1, fun _ h => h.elim, hL1, hK1⟩).mono ?_
    · rintro k x R W hx ⟨hi, hR, hl, hk⟩
      have hlt : w.heap.size + 1 < W.heap.size := (Array.getElem?_eq_some_iff.1 hl).1
      have hR1 : ¬ R (w.heap.size + 1) := fun h => by have := hR _ h; omega
      have hR0 : ¬ R w.heap.size := fun h => by have := hR _ h; omega
      have hy := run_yield (P := P) (args := encs x) hl (by rw [hrec]; exact hps x)
      rw [hrec] at hy
      refine ⟨fn, _, assign, body, hy, roundIn_of_wpIn hfn (wpIn_mono (hround _ k x R W hx (by omega) hlt hR1 hi) ?_)⟩
      intro e a1 Wa hp
      cases e with
      | normal =>
        obtain ⟨ha, hb⟩ := hp
        have hla : Wa.heap[w.heap.size + 1]? = some (.loop (rec .ready none)) := (ha.same _ (by omega) hlt).trans hl
        have hka : Wa.heap[w.heap.size]? = some (.deferred (some [])) := (ha.same _ (by omega) (by omega)).trans hk
        have hlta : w.heap.size + 1 < Wa.heap.size := (Array.getElem?_eq_some_iff.1 hla).1
        refine ⟨_, run_beginRound hla (by rw [hrec]), ?_⟩
        have hl2 : (Wa.putObj (w.heap.size + 1) (.loop { rec .ready none with state := .busy })).heap[w.heap.size + 1]? = some (.loop { rec .ready none with state := .busy }) := World.putObj_heap_same hlta
        have hk2 : (Wa.putObj (w.heap.size + 1) (.loop { rec .ready none with state := .busy })).heap[w.heap.size]? = some (.deferred (some [])) := (World.putObj_heap_other (by omega)).trans hka
        refine wpIn_mono (hb _) ?_
        have fin : ∀ (jump : Option Code) (W3 : World), OverR R w.heap.size (Wa.putObj (w.heap.size + 1) (.loop { rec .ready none with state := .busy })) W3 →
            (Instr.endRound (w.heap.size + 1) jump).run P W3 = .ok (.bool jump.isNone) (W3.putObj (w.heap.size + 1) (.loop (rec (if jump.isNone then .ready else .done) jump))) ∧
            (W3.putObj (w.heap.size + 1) (.loop (rec (if jump.isNone then .ready else .done) jump))).heap[w.heap.size + 1]? = some (.loop (rec (if jump.isNone then .ready else .done) jump)) ∧
            (W3.putObj (w.heap.size + 1) (.loop (rec (if jump.isNone then .ready else .done) jump))).heap[w.heap.size]? = some (.deferred (some [])) := fun jump W3 hk3 => by
          have hl3 := (hk3.same _ (by omega) (by simpa using hlta) hR1).trans hl2
          have := run_endRound (P := P) jump hl3
          rw [hrec] at this ⊢
          exact ⟨this, World.putObj_heap_same (Array.getElem?_eq_some_iff.1 hl3).1, (World.putObj_heap_other (by omega)).trans ((hk3.same _ (by omega) (by simp; omega) hR0).trans hk2)⟩
        rintro e a3 W3 hp
        cases e with
        | normal =>
          obtain ⟨hk3, R', hi3, hr3⟩ := hp
          obtain ⟨hr, hl4, hk4⟩ := fin none W3 hk3
          have hsz : W.heap.size ≤ Wa.heap.size := ha.size
          have hR' : ∀ b, R' b → w.heap.size + 1 + 1 ≤ b := fun b hb => by
            rcases hr3 b hb with h | h
            · exact hR b h
            · simp at h; omega
          refine ⟨_, _, hr, .inl ⟨rfl, R', ⟨hI _ _ _ _ hi3 (KeepR.putObj _ _ (by omega) fun h => by have := hR' _ h; omega), hR', hl4, hk4⟩, ?_, fun b hb => ?_⟩⟩
          · refine ⟨?_, fun b hb1 hb2 hb3 => ?_⟩
            · have := ha.size
              have := hk3.size
              simp at this
              simp
              omega
            · rw [hs1] at hb1
              refine (World.putObj_heap_other (by omega)).trans ((hk3.same b (by omega) (by simp; omega) hb3).trans ((World.putObj_heap_other (by omega)).trans (ha.same b (by omega) hb2)))
          · rcases hr3 b hb with h | h
            · exact Or.inl h
            · right; simp at h; omega
        | ret =>
          obtain ⟨hk3, hi3⟩ := hp
          obtain ⟨hr, hl4, hk4⟩ := fin (some .ret) W3 hk3
          exact ⟨_, _, hr, .inr ⟨rfl, hIx _ _ _ hi3 (below_putObj _ _ (by omega)), hl4, hk4⟩⟩
        | exit id => exact hp.elim
        | goto t => exact hp.elim
        | panic ch => exact hp.elim
        | outgrown => exact hp.elim
      | ret => exact hp.elim
      | exit id => exact hp.elim
      | goto t => exact hp.elim
      | panic ch => exact hp.elim
      | outgrown => exact hp.elim
    · rintro e W2 ⟨⟨v, rfl⟩, (⟨R, hi, hR, hl, hk⟩ | ⟨k, hkl, hi, hl, hk⟩)⟩
      · exact ⟨none, _, by have := run_endLoop (P := P) hl (by rw [hrec]; simp); rw [hrec] at this; exact this, hdone _ R _ (Nat.le_refl _) (fun h => by have := hR _ h; omega) (hI _ _ _ _ hi (KeepR.putObj _ _ (by omega) fun h => by have := hR _ h; omega)) ((World.putObj_heap_other (by omega)).trans hk)⟩
      · exact ⟨some .ret, _, by have := run_endLoop (P := P) hl (by rw [hrec]; simp); rw [hrec] at this; exact this, hstop _ k _ (Nat.le_refl _) hkl (hIx _ _ _ hi (below_putObj _ _ (by omega))) ((World.putObj_heap_other (by omega)).trans hk)⟩
end Go.Proofs.YtjaedfjfcghgcaaDoor
namespace Go.Proofs.YtjaedfjfcghgcaaDoor
open Go.ChangeShapes Go.WideShapes Go.ChangeAt Go.RowKit
set_option maxRecDepth 100000

set_option maxHeartbeats 4000000 in
theorem iter_anyR (u : Nat) (hu : u ≤ 6) (n : Nat) (hn : 1 ≤ n) (Bu : Nat) (W : World) (hB : W.cell? ⟨Bu, 0, none⟩ = some (.int .i64 u)) :
    SeqR n Tryd.prog 73 #[.pointer (some ⟨Bu, 0, none⟩)] enc8 (everyC u) W := by
  intro l J Jx hJ hY h0
  obtain ⟨M0, hM0, hM0'⟩ := every_first u
  obtain ⟨A, hA⟩ : ∃ A, A = everyC u := ⟨_, rfl⟩
  have HST : Hid (∀ (i : Nat) (M : Nat → Int), A[i]? = some M → (lastTo M 8 ≠ 0 ∧ ∃ M', A[i + 1]? = some M' ∧ ∀ f, f < 8 → afterN M f = M' f) ∨ (lastTo M 8 = 0 ∧ i + 1 = A.length)) := fun i M hi => by
    rw [hA] at hi ⊢; exact every_steps hu hi
  have HBO : Hid (∀ (i : Nat) (M : Nat → Int), A[i]? = some M → ∀ f, f < 8 → 0 ≤ M f ∧ M f ≤ 6) := fun i M hi f hf => by
    rw [hA] at hi
    have := (everyC_sum (List.mem_of_getElem? hi)).1 f hf
    omega
  have HCk : Hid (∀ W, Calls Tryd.prog 74 #[.int .i64 u] W fun e w' => e = .returned .nilIface ∧ W = w') := fun W => fitCheck_ok u hu W
  rw [← hA] at hM0 hY ⊢
  clear hA hu
  have HY : Hid (∀ (k : Nat) (x : Nat → Int) (R : Nat → Prop) (W1 : World), A[k]? = some x → J k R W1 → YieldAt Fence.wide (n - 1) Tryd.prog l #[.agg #[.int .i64 (x 0), .int .i64 (x 1), .int .i64 (x 2), .int .i64 (x 3), .int .i64 (x 4), .int .i64 (x 5), .int .i64 (x 6), .int .i64 (x 7)]] W1 fun e W' =>
      (e = .returned (.bool true) ∧ ∃ R', J (k + 1) R' W' ∧ OverR R W.heap.size W1 W' ∧ ∀ b, R' b → R b ∨ W1.heap.size ≤ b) ∨ (e = .returned (.bool false) ∧ Jx (k + 1) W')) := hY
  have HJ : Hid (∀ k R W1 W2, J k R W1 → KeepR R W.heap.size W1 W2 → J k R W2) := hJ
  clear hY hJ
  have e8 : Hid (arr8 M0 = #[.int .i64 0, .int .i64 0, .int .i64 0, .int .i64 0, .int .i64 0, .int .i64 0, .int .i64 0, .int .i64 u]) := by
    unfold Hid arr8
    rw [hM0' 0 (by omega), hM0' 1 (by omega), hM0' 2 (by omega), hM0' 3 (by omega), hM0' 4 (by omega), hM0' 5 (by omega), hM0' 6 (by omega), hM0' 7 (by omega)]
    rfl
  have H0 : Hid (J 0 (fun _ => False) W) := h0
  have HM0 : Hid (A[0]? = some M0) := hM0
  clear hM0' h0 hM0
  refine callsIn_of_wp Tryd.func73 rfl trivial ?_ rfl
  simp only [Tryd.ntmps73, List.size_toArray, List.length_cons, List.length_nil, Nat.reduceAdd, Nat.reduceSub, Array.replicate_succ, Array.replicate_zero, List.push_toArray, List.append_toArray, List.nil_append, List.cons_append]
  have hBu : Bu < W.heap.size := World.block_lt_of_cell? _ _ hB
  have hBa : (W.drew.alloc (.cells #[.int .i64 0, .int .i64 0, .int .i64 0, .int .i64 0, .int .i64 0, .int .i64 0, .int .i64 0, .int .i64 0] 89)).cell? ⟨Bu, 0, none⟩ = some (.int .i64 u) := (World.cell?_alloc_lt _ _ _ hBu).trans hB
  gi_upto_region 0 with fail
  gi_cut [3, 4] from 5 (fun p ok wr => p = .pointer (some ⟨W.heap.size, 0, none⟩) ∧ ok = .bool true ∧ Below W.heap.size W wr ∧ Blk wr W.heap.size 89 (arr8 M0))
  case first =>
    gi_region_with (refine ⟨trivial, ?_⟩; gi_at_call 74; refine (callsIn_wide.2 (HCk.out _)).mono ?_; rintro e w8 ⟨rfl, rfl⟩)
    all_goals (try gi_wp2)
    all_goals gi_meet
    all_goals exact ⟨rfl, rfl, (below_alloc1 W _).drew, by rw [e8.out]; exact (Blk.new W _ _).drew⟩
  case rest =>
  obtain ⟨rfl, rfl, hb1, hk1⟩ := hcut
  have HK1 : Hid (Blk wc W.heap.size 89 (arr8 M0)) := hk1
  have HJ1 : Hid (J 0 (fun _ => False) wc) := HJ.out _ _ _ _ H0.out ⟨hb1, fun _ h _ => h.elim⟩
  clear hb1 hk1
  gi_wp2
  gi_loopg [4] (A.length) (fun gk ok wr => (∃ (k : Nat) (M : Nat → Int) (R : Nat → Prop), ok = .bool true ∧ A[k]? = some M ∧ gk = A.length - k ∧ (J k R wr ∧ ¬ R W.heap.size) ∧ Blk wr W.heap.size 89 (arr8 M)) ∨ (ok = .bool false ∧ ∃ R, J A.length R wr))
  case atStart => exact Or.inl ⟨0, M0, _, rfl, HM0.out, rfl, ⟨HJ1.out, fun h => h⟩, HK1.out⟩
  case round =>
    rcases hrel with ⟨k, M, R, rfl, hM, hg, ⟨hj, hr⟩, hk⟩ | ⟨rfl, hj⟩
    · have HM : Hid (A[k]? = some M) := hM
      have HG : Hid (gk = A.length - k) := hg
      have HKk : Hid (Blk wr W.heap.size 89 (arr8 M)) := hk
      have HL : Hid (k < A.length) := (List.getElem?_eq_some_iff.1 hM).1
      have HRn : Hid (¬ R W.heap.size) := hr
      obtain ⟨fn, tmps, assign, body, hy, hR⟩ := HY.out k M R wr hM hj
      obtain ⟨x0, x1, x2, x3, x4, x5, x6, x7⟩ := hk.cells8
      clear hM hg hk hj hr
      gi_wp2
      refine hR.mono ?_
      rintro e W3 (⟨rfl, R', hJ3, hO3, hR3⟩ | ⟨rfl, hJx3⟩)
      · have HJ3 : Hid (J (k + 1) R' W3) := hJ3
        have HK3 : Hid (Blk W3 W.heap.size 89 (arr8 M)) := by
          unfold Hid Blk; rw [hO3.same _ (Nat.le_refl _) HKk.out.lt HRn.out]; exact HKk.out
        have HR' : Hid (¬ R' W.heap.size) := fun h => by
          rcases hR3 _ h with h | h
          · exact HRn.out h
          · have := HKk.out.lt; omega
        obtain ⟨M', hM'⟩ : ∃ M', M' = afterO M := ⟨_, rfl⟩
        obtain ⟨ok, hok⟩ : ∃ b, b = !(lastTo M 8 == 0) := ⟨_, rfl⟩
        have HAf : Hid (∀ W, Calls Tryd.prog 75 #[.agg #[.int .i64 (M 0), .int .i64 (M 1), .int .i64 (M 2), .int .i64 (M 3), .int .i64 (M 4), .int .i64 (M 5), .int .i64 (M 6), .int .i64 (M 7)]] W fun e w' => e = .returned (.tuple #[.agg #[.int .i64 (M' 0), .int .i64 (M' 1), .int .i64 (M' 2), .int .i64 (M' 3), .int .i64 (M' 4), .int .i64 (M' 5), .int .i64 (M' 6), .int .i64 (M' 7)], .bool ok]) ∧ Below W.heap.size W w') := fun W => by
          rw [hM', hok]; exact after_any M W (HBO.out k M HM.out)
        have HM' : Hid (M' = afterO M) := hM'
        have Hok : Hid (ok = !(lastTo M 8 == 0)) := hok
        clear hJ3 hO3 hR3 x0 x1 x2 x3 x4 x5 x6 x7 hy hR hM' hok
        obtain ⟨x0, x1, x2, x3, x4, x5, x6, x7⟩ := HK3.out.cells8
        gi_wp2_with fail
        refine ⟨trivial, ?_⟩
        gi_at_call 75
        refine (callsIn_wide.2 (HAf.out _)).mono ?_
        rintro e W4 ⟨rfl, hb4⟩
        have HK4 : Hid (Blk W4 W.heap.size 89 (arr8 M)) := HK3.out.below hb4
        have HJ4 : Hid (J (k + 1) R' W4) := HJ.out _ _ _ _ HJ3.out (.of_below hb4 (Nat.le_of_lt HK3.out.lt))
        clear hb4 x0 x1 x2 x3 x4 x5 x6 x7
        obtain ⟨x0, x1, x2, x3, x4, x5, x6, x7⟩ := HK4.out.cells8
        obtain ⟨f0, f1, f2, f3, f4, f5, f6, f7⟩ := HK4.out.frozen8
        gi_wp2
        have hJ5 : J (k + 1) R' (put8 W4 W.heap.size M') := HJ.out _ _ _ _ HJ4.out ⟨put8_below (Below.refl _ _) (Nat.le_refl _) _, fun b hb _ => by
          have hne : b ≠ W.heap.size := fun e => HR'.out (e ▸ hb)
          unfold put8
          repeat rw [Below.heap_setCell _ _ _ _ (by exact hne)]⟩
        rcases HST.out k M HM.out with ⟨h0, M2, hM2, he⟩ | ⟨h0, he⟩
        · gi_roundg (A.length - (k + 1))
          case rel =>
            refine Or.inl ⟨k + 1, M2, R', ?_, hM2, rfl, ⟨hJ5, HR'.out⟩, ?_⟩
            · rw [Hok.out]; simp [h0]
            · have hb := put8_blk HK4.out M'
              have e : arr8 M' = arr8 M2 := arr8_same fun f hf => by rw [HM'.out]; unfold afterO; rw [if_neg h0]; exact he f hf
              rw [e] at hb
              exact hb
          case measure => have := HL.out; rw [HG.out]; omega
        · gi_roundg 0
          case rel => exact Or.inr ⟨by rw [Hok.out, h0]; rfl, R', by rw [← he]; exact hJ5⟩
          case measure => have := HL.out; rw [HG.out]; omega
      · gi_wp2
        go_end0
        exact ⟨⟨_, rfl⟩, .inr ⟨k, HL.out, hJx3⟩⟩
    · have HJe : Hid (∃ R, J A.length R wr) := hj
      clear hj
      gi_wp2
      refine ⟨fun _ _ => trivial, ?_⟩
      gi_wp2
      go_end0
      exact ⟨⟨_, rfl⟩, .inl HJe.out⟩
end Go.Proofs.YtjaedfjfcghgcaaDoor

namespace Go.Proofs.YtjaedfjfcghgcaaDoor
open Go.ChangeShapes Go.WideShapes Go.ChangeAt Go.RowKit

set_option maxRecDepth 100000 in
set_option maxHeartbeats 4000000 in
theorem fcounts_any (N : Nat → Int) (w : World) :
    Calls Tryd.prog 76 #[.agg #[.int .i64 (N 0), .int .i64 (N 1), .int .i64 (N 2), .int .i64 (N 3), .int .i64 (N 4), .int .i64 (N 5), .int .i64 (N 6), .int .i64 (N 7)]] w fun e w' => e = .returned (errV (countsFault N)) ∧ Below w.heap.size w w' := by
  obtain ⟨w1, hw1⟩ : ∃ w1, w1 = w.alloc (.cells #[.int .i64 (N 0), .int .i64 (N 1), .int .i64 (N 2), .int .i64 (N 3), .int .i64 (N 4), .int .i64 (N 5), .int .i64 (N 6), .int .i64 (N 7)] 89) := ⟨_, rfl⟩
  have HW : Hid (Below w.heap.size w w1) := by unfold Hid; rw [hw1]; exact below_alloc1 _ _
  have HX : Hid (∀ k, k < 8 → w1.cell? ⟨w.heap.size, k, none⟩ = some (.int .i64 (N k))) := fun k hk => by
    rw [hw1]
    rcases eight hk with rfl | rfl | rfl | rfl | rfl | rfl | rfl | rfl <;> simp
  obtain ⟨F, hF⟩ : ∃ F, F = countsFault N := ⟨_, rfl⟩
  have HF1 : Hid (∀ k, k < 8 → ¬ (0 ≤ N k ∧ N k ≤ 6) → errV F = .iface 64 (.int .i64 1)) := fun k hk h => by
    rw [hF]; unfold countsFault; rw [if_neg (by rw [eachB_no hk h]; decide)]; rfl
  have HF2 : Hid ((∀ f, f < 8 → 0 ≤ N f ∧ N f ≤ 6) → (sumN N 8 ≤ 6 → errV F = .nilIface) ∧ (6 < sumN N 8 → errV F = .iface 64 (.int .i64 4))) := fun h => by
    rw [hF]; unfold countsFault; rw [if_pos (eachB_iff.2 h)]
    exact ⟨fun h' => by rw [if_pos h']; rfl, fun h' => by rw [if_neg (by omega)]; rfl⟩
  rw [← hF]
  clear hF
  go_enter Tryd.func76, Tryd.ntmps76
  go_wp2
  rw [← hw1]
  clear hw1
  go_loop [6] (fun i => ∃ k : Nat, k ≤ 8 ∧ i = .int .i64 k ∧ ∀ f, f < k → 0 ≤ N f ∧ N f ≤ 6) (fun i => 8 - (intOf i).toNat)
  case atStart => exact ⟨0, Nat.zero_le _, rfl, fun f hf => by omega⟩
  case round =>
    obtain ⟨k, hk, rfl, hall⟩ := hrel
    have HA : Hid (∀ f, f < k → 0 ≤ N f ∧ N f ≤ 6) := hall
    clear hall
    by_cases hlt : k < 8
    · have hc := HX.out k hlt
      obtain ⟨x, hx⟩ : ∃ x, x = N k := ⟨_, rfl⟩
      rw [← hx] at hc
      have HXk : Hid (x = N k) := hx
      clear hx
      by_cases h0 : x < 0
      · have HE : Hid (errV F = .iface 64 (.int .i64 1)) := HF1.out k hlt (by rw [← HXk.out]; omega)
        go_wp2
        go_ret
        exact ⟨back_v HE.out.symm, HW.out⟩
      by_cases h6 : 6 < x
      · have HE : Hid (errV F = .iface 64 (.int .i64 1)) := HF1.out k hlt (by rw [← HXk.out]; omega)
        go_wp2
        go_ret
        exact ⟨back_v HE.out.symm, HW.out⟩
      · have HN : Hid (∀ f, f < k + 1 → 0 ≤ N f ∧ N f ≤ 6) := fun f hf => by
          rcases Nat.lt_or_ge f k with h' | h'
          · exact HA.out f h'
          · obtain rfl : f = k := by omega
            rw [← HXk.out]; omega
        go_wp2
        go_round
        case rel => exact ⟨k + 1, by omega, by go_num, HN.out⟩
        case measure => simp [intOf]; omega
    · obtain rfl : k = 8 := by omega
      go_wp2
      go_loop [4, 21] (fun s i => ∃ k : Nat, k ≤ 8 ∧ i = .int .i64 k ∧ s = .int .i64 (sumN N k)) (fun _ i => 8 - (intOf i).toNat)
      case atStart => exact ⟨0, Nat.zero_le _, rfl, rfl⟩
      case round =>
        obtain ⟨k, hk, rfl, rfl⟩ := hrel
        by_cases hlt2 : k < 8
        · have hc := HX.out k hlt2
          have p1 := sumN_le (N := N) (k := k) fun f hf => HA.out f (by omega)
          have p2 := HA.out k (by omega)
          have HS : Hid (sumN N (k + 1) = sumN N k + N k) := rfl
          go_wp2
          go_round
          case rel => exact ⟨k + 1, by omega, by go_num, by rw [HS.out]⟩
          case measure => simp [intOf]; omega
        · obtain rfl : k = 8 := by omega
          by_cases h6 : sumN N 8 ≤ 6
          · have HE : Hid (errV F = .nilIface) := (HF2.out HA.out).1 h6
            go_wp2
            go_ret
            exact ⟨back_v HE.out.symm, HW.out⟩
          · have h6' : 6 < sumN N 8 := by omega
            have HE : Hid (errV F = .iface 64 (.int .i64 4)) := (HF2.out HA.out).2 h6'
            go_wp2
            go_ret
            exact ⟨back_v HE.out.symm, HW.out⟩
end Go.Proofs.YtjaedfjfcghgcaaDoor
