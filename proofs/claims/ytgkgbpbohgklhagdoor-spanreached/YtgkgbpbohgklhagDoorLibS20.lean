/-
  Proved: what fit.All's function hands to whatever loop ranges over it: all counts of so many things, one behind the other, till the loop has enough (a contract that the statements lean on). Proved: what fit.check and fit.All return; what was in memory is as it was (contracts that the statements lean on).
  Proved: what fields.Count returns, of any row of signs and any counts; what was in memory is as it was (a contract that the statements lean on).
-/
import Derived.Test.YtgkgbpbohgklhagDoorLibS19
import Derived.Stop.RegionWithIn
import Derived.Sort.CutIn
import Derived.Test.YtgkgbpbohgklhagDoorLibS4
import Derived.Test.YtgkgbpbohgklhagDoorLibS16
namespace Go.Proofs.YtgkgbpbohgklhagDoor
open Go.ChangeShapes Go.WideShapes Go.ChangeAt Go.RowKit
set_option maxRecDepth 100000

theorem fitCheck_ok (n : Nat) (hn : n ≤ 6) (w : World) : Calls Tryd.prog 69 #[.int .i64 n] w fun e w' => e = .returned .nilIface ∧ w = w' := by
  have h : okB (n : Int) 0 = true := ok_zero (by omega) (by omega)
  go_enter Tryd.func69, Tryd.ntmps69
  go_wp2_with fail
  go_at_call 67
  refine (check_ok _ _ h _).mono ?_
  rintro e w' ⟨rfl, rfl⟩
  go_wp2
  go_ret
  exact ⟨rfl, rfl⟩
theorem fitCheck_no (u : Int) (hu : ¬ (0 ≤ u ∧ u ≤ 6)) (w : World) : Calls Tryd.prog 69 #[.int .i64 u] w fun e w' => e = .returned (.iface 64 (.int .i64 1)) ∧ w = w' := by
  have h : okB u 0 = false := okB_not.2 fun h => hu ⟨h.1, h.2.1⟩
  go_enter Tryd.func69, Tryd.ntmps69
  go_wp2_with fail
  go_at_call 67
  refine (check_no _ _ h _).mono ?_
  rintro e w' ⟨rfl, rfl⟩
  go_wp2
  go_ret
  exact ⟨rfl, rfl⟩
theorem fitAll_any (u : Int) (w : World) : Calls Tryd.prog 41 #[.int .i64 u] w fun e w' => e = .returned (.func (.func 68) #[] #[.pointer (some ⟨w.heap.size, 0, none⟩)]) ∧ w' = w.alloc (.cells #[.int .i64 u] 3) := by
  go_enter Tryd.func41, Tryd.ntmps41
  go_wp2
  go_ret
  exact ⟨rfl, rfl⟩
end Go.Proofs.YtgkgbpbohgklhagDoor
namespace Go.Proofs.YtgkgbpbohgklhagDoor
open Go.ChangeShapes Go.WideShapes Go.ChangeAt Go.RowKit
set_option maxRecDepth 100000

/-- the first has all in the last field, and nothing elsewhere. -/
theorem every_first (u : Nat) : ∃ M, (everyC u)[0]? = some M ∧ ∀ g, g < 8 → M g = if g = 7 then (u : Int) else 0 := by
  obtain ⟨M, h1, h2⟩ := allF_head 7 u fun _ => 0
  have hl : (allF 7 u fun _ => 0) = everyC u := rfl
  rw [hl] at h1
  refine ⟨M, h1, fun g hg => ?_⟩
  obtain ⟨h3, h4⟩ := everyC_sum (List.mem_of_getElem? h1)
  have e : sumN M 8 = M 0 + M 1 + M 2 + M 3 + M 4 + M 5 + M 6 + M 7 := by
    show (((((((((0 : Int) + M 0) + M 1) + M 2) + M 3) + M 4) + M 5) + M 6) + M 7) = _
    omega
  have a0 := h3 0 (by omega)
  have a1 := h3 1 (by omega)
  have a2 := h3 2 (by omega)
  have a3 := h3 3 (by omega)
  have a4 := h3 4 (by omega)
  have a5 := h3 5 (by omega)
  have a6 := h3 6 (by omega)
  rcases eight hg with rfl | rfl | rfl | rfl | rfl | rfl | rfl | rfl
  · rw [if_neg (by omega)]; omega
  · rw [if_neg (by omega)]; omega
  · rw [if_neg (by omega)]; omega
  · rw [if_neg (by omega)]; omega
  · rw [if_neg (by omega)]; omega
  · rw [if_neg (by omega)]; omega
  · rw [if_neg (by omega)]; omega
  · rw [if_pos rfl]; exact h2

/-- eight counts, as they are handed over. -/
def enc8 (M : Nat → Int) : Array Value := #[.agg #[.int .i64 (M 0), .int .i64 (M 1), .int .i64 (M 2), .int .i64 (M 3), .int .i64 (M 4), .int .i64 (M 5), .int .i64 (M 6), .int .i64 (M 7)]]

theorem Blk.over {B G : Nat} {W W' : World} {T : TypeId} {cs : Array Value} (h : Blk W G T cs) (hO : Over B W W') (hB : B ≤ G) : Blk W' G T cs := by
  unfold Blk; rw [hO.same G hB h.lt]; exact h

set_option maxHeartbeats 4000000 in
theorem iter_any (u : Nat) (hu : u ≤ 6) (n : Nat) (hn : 1 ≤ n) (Bu : Nat) (W : World) (hB : W.cell? ⟨Bu, 0, none⟩ = some (.int .i64 u)) :
    SeqG n Tryd.prog 68 #[.pointer (some ⟨Bu, 0, none⟩)] enc8 (everyC u) W := by
  intro l J Jx hJ hY h0
  obtain ⟨M0, hM0, hM0'⟩ := every_first u
  obtain ⟨A, hA⟩ : ∃ A, A = everyC u := ⟨_, rfl⟩
  have HST : Hid (∀ (i : Nat) (M : Nat → Int), A[i]? = some M → (lastTo M 8 ≠ 0 ∧ ∃ M', A[i + 1]? = some M' ∧ ∀ f, f < 8 → afterN M f = M' f) ∨ (lastTo M 8 = 0 ∧ i + 1 = A.length)) := fun i M hi => by
    rw [hA] at hi ⊢; exact every_steps hu hi
  have HBO : Hid (∀ (i : Nat) (M : Nat → Int), A[i]? = some M → ∀ f, f < 8 → 0 ≤ M f ∧ M f ≤ 6) := fun i M hi f hf => by
    rw [hA] at hi
    have := (everyC_sum (List.mem_of_getElem? hi)).1 f hf
    omega
  have HCk : Hid (∀ W, Calls Tryd.prog 69 #[.int .i64 u] W fun e w' => e = .returned .nilIface ∧ W = w') := fun W => fitCheck_ok u hu W
  rw [← hA] at hM0 hY ⊢
  clear hA hu
  have HY : Hid (∀ (k : Nat) (x : Nat → Int) (W1 : World), A[k]? = some x → J k W1 → YieldAt Fence.wide (n - 1) Tryd.prog l #[.agg #[.int .i64 (x 0), .int .i64 (x 1), .int .i64 (x 2), .int .i64 (x 3), .int .i64 (x 4), .int .i64 (x 5), .int .i64 (x 6), .int .i64 (x 7)]] W1 fun e W' =>
      (e = .returned (.bool true) ∧ J (k + 1) W' ∧ Over W.heap.size W1 W') ∨ (e = .returned (.bool false) ∧ Jx (k + 1) W')) := hY
  have HJ : Hid (∀ k W1 W2, J k W1 → Below W.heap.size W1 W2 → J k W2) := hJ
  clear hY hJ
  have e8 : Hid (arr8 M0 = #[.int .i64 0, .int .i64 0, .int .i64 0, .int .i64 0, .int .i64 0, .int .i64 0, .int .i64 0, .int .i64 u]) := by
    unfold Hid arr8
    rw [hM0' 0 (by omega), hM0' 1 (by omega), hM0' 2 (by omega), hM0' 3 (by omega), hM0' 4 (by omega), hM0' 5 (by omega), hM0' 6 (by omega), hM0' 7 (by omega)]
    rfl
  have H0 : Hid (J 0 W) := h0
  have HM0 : Hid (A[0]? = some M0) := hM0
  clear hM0' h0 hM0
  refine callsIn_of_wp Tryd.func68 rfl trivial ?_ rfl
  simp only [Tryd.ntmps68, List.size_toArray, List.length_cons, List.length_nil, Nat.reduceAdd, Nat.reduceSub, Array.replicate_succ, Array.replicate_zero, List.push_toArray, List.append_toArray, List.nil_append, List.cons_append]
  have hBu : Bu < W.heap.size := World.block_lt_of_cell? _ _ hB
  have hBa : (W.drew.alloc (.cells #[.int .i64 0, .int .i64 0, .int .i64 0, .int .i64 0, .int .i64 0, .int .i64 0, .int .i64 0, .int .i64 0] 81)).cell? ⟨Bu, 0, none⟩ = some (.int .i64 u) := (World.cell?_alloc_lt _ _ _ hBu).trans hB
  gi_upto_region 0 with fail
  gi_cut [3, 4] from 5 (fun p ok wr => p = .pointer (some ⟨W.heap.size, 0, none⟩) ∧ ok = .bool true ∧ Below W.heap.size W wr ∧ Blk wr W.heap.size 81 (arr8 M0))
  case first =>
    gi_region_with (refine ⟨trivial, ?_⟩; gi_at_call 69; refine (callsIn_wide.2 (HCk.out _)).mono ?_; rintro e w8 ⟨rfl, rfl⟩)
    all_goals (try gi_wp2)
    all_goals gi_meet
    all_goals exact ⟨rfl, rfl, (below_alloc1 W _).drew, by rw [e8.out]; exact (Blk.new W _ _).drew⟩
  case rest =>
  obtain ⟨rfl, rfl, hb1, hk1⟩ := hcut
  have HK1 : Hid (Blk wc W.heap.size 81 (arr8 M0)) := hk1
  have HJ1 : Hid (J 0 wc) := HJ.out _ _ _ H0.out hb1
  clear hb1 hk1
  gi_wp2
  gi_loopg [4] (A.length) (fun gk ok wr => (∃ (k : Nat) (M : Nat → Int), ok = .bool true ∧ A[k]? = some M ∧ gk = A.length - k ∧ J k wr ∧ Blk wr W.heap.size 81 (arr8 M)) ∨ (ok = .bool false ∧ J A.length wr))
  case atStart => exact Or.inl ⟨0, M0, rfl, HM0.out, rfl, HJ1.out, HK1.out⟩
  case round =>
    rcases hrel with ⟨k, M, rfl, hM, hg, hj, hk⟩ | ⟨rfl, hj⟩
    · have HM : Hid (A[k]? = some M) := hM
      have HG : Hid (gk = A.length - k) := hg
      have HKk : Hid (Blk wr W.heap.size 81 (arr8 M)) := hk
      have HL : Hid (k < A.length) := (List.getElem?_eq_some_iff.1 hM).1
      obtain ⟨fn, tmps, assign, body, hy, hR⟩ := HY.out k M wr hM hj
      obtain ⟨x0, x1, x2, x3, x4, x5, x6, x7⟩ := hk.cells8
      clear hM hg hk hj
      gi_wp2
      refine hR.mono ?_
      rintro e W3 (⟨rfl, hJ3, hO3⟩ | ⟨rfl, hJx3⟩)
      · have HJ3 : Hid (J (k + 1) W3) := hJ3
        have HK3 : Hid (Blk W3 W.heap.size 81 (arr8 M)) := HKk.out.over hO3 (Nat.le_refl _)
        obtain ⟨M', hM'⟩ : ∃ M', M' = afterO M := ⟨_, rfl⟩
        obtain ⟨ok, hok⟩ : ∃ b, b = !(lastTo M 8 == 0) := ⟨_, rfl⟩
        have HAf : Hid (∀ W, Calls Tryd.prog 70 #[.agg #[.int .i64 (M 0), .int .i64 (M 1), .int .i64 (M 2), .int .i64 (M 3), .int .i64 (M 4), .int .i64 (M 5), .int .i64 (M 6), .int .i64 (M 7)]] W fun e w' => e = .returned (.tuple #[.agg #[.int .i64 (M' 0), .int .i64 (M' 1), .int .i64 (M' 2), .int .i64 (M' 3), .int .i64 (M' 4), .int .i64 (M' 5), .int .i64 (M' 6), .int .i64 (M' 7)], .bool ok]) ∧ Below W.heap.size W w') := fun W => by
          rw [hM', hok]; exact after_any M W (HBO.out k M HM.out)
        have HM' : Hid (M' = afterO M) := hM'
        have Hok : Hid (ok = !(lastTo M 8 == 0)) := hok
        clear hJ3 hO3 x0 x1 x2 x3 x4 x5 x6 x7 hy hR hM' hok
        obtain ⟨x0, x1, x2, x3, x4, x5, x6, x7⟩ := HK3.out.cells8
        gi_wp2_with fail
        refine ⟨trivial, ?_⟩
        gi_at_call 70
        refine (callsIn_wide.2 (HAf.out _)).mono ?_
        rintro e W4 ⟨rfl, hb4⟩
        have HK4 : Hid (Blk W4 W.heap.size 81 (arr8 M)) := HK3.out.below hb4
        have HJ4 : Hid (J (k + 1) W4) := HJ.out _ _ _ HJ3.out (hb4.mono (Nat.le_of_lt HK3.out.lt))
        clear hb4 x0 x1 x2 x3 x4 x5 x6 x7
        obtain ⟨x0, x1, x2, x3, x4, x5, x6, x7⟩ := HK4.out.cells8
        obtain ⟨f0, f1, f2, f3, f4, f5, f6, f7⟩ := HK4.out.frozen8
        gi_wp2
        have hJ5 : J (k + 1) (put8 W4 W.heap.size M') := HJ.out _ _ _ HJ4.out (put8_below (Below.refl _ _) (Nat.le_refl _) _)
        rcases HST.out k M HM.out with ⟨h0, M2, hM2, he⟩ | ⟨h0, he⟩
        · gi_roundg (A.length - (k + 1))
          case rel =>
            refine Or.inl ⟨k + 1, M2, ?_, hM2, rfl, hJ5, ?_⟩
            · rw [Hok.out]; simp [h0]
            · have hb := put8_blk HK4.out M'
              have e : arr8 M' = arr8 M2 := arr8_same fun f hf => by rw [HM'.out]; unfold afterO; rw [if_neg h0]; exact he f hf
              rw [e] at hb
              exact hb
          case measure => have := HL.out; rw [HG.out]; omega
        · gi_roundg 0
          case rel => exact Or.inr ⟨by rw [Hok.out, h0]; rfl, by rw [← he]; exact hJ5⟩
          case measure => have := HL.out; rw [HG.out]; omega
      · gi_wp2
        go_end0
        exact ⟨⟨_, rfl⟩, .inr ⟨k, HL.out, hJx3⟩⟩
    · have HJe : Hid (J A.length wr) := hj
      clear hj
      gi_wp2
      refine ⟨fun _ _ => trivial, ?_⟩
      gi_wp2
      go_end0
      exact ⟨⟨_, rfl⟩, .inl HJe.out⟩

theorem Blk.keep {B G : Nat} {W W' : World} {T : TypeId} {cs : Array Value} (h : Blk W G T cs) (hb : Below B W W') (hG : G < B) : Blk W' G T cs := by
  unfold Blk; rw [hb.block G hG]; exact h
theorem Blk.putO {G l : Nat} {W : World} {T : TypeId} {cs : Array Value} (h : Blk W G T cs) (o : Obj) (hl : G ≠ l) : Blk (W.putObj l o) G T cs := by
  unfold Blk; rw [World.putObj_heap_other hl]; exact h

theorem results_two {fn : Func} {p q : Tmp} {ty tz : TypeId} (h : fn.results = #[.cell p ty, .cell q tz]) (tmps : Array Value) (P : Program) (w : World) :
    (results fn tmps).run P w = ((asAddr (tmps.getD p undef)).run P w).andThen fun a w1 => ((loadVar ty a).run P w1).andThen fun v w2 => ((asAddr (tmps.getD q undef)).run P w2).andThen fun b w3 => ((loadVar tz b).run P w3).andThen fun u w4 => .ok (.tuple #[v, u]) w4 := by
  simp only [results, h]
  simp [Sem.run_bind, Result.andThen]
theorem loadI {W : World} {R : Nat} {v : Value} (h : Blk W R 3 #[v]) : (loadVar 3 ⟨R, 0, none⟩).run Tryd.prog W = .ok v W := by
  have hc : W.cell? ⟨R, 0, none⟩ = some v := h.cell 0
  simp [loadVar, Tryd.isAgg3, Result.andThen, hc]
theorem loadE {W : World} {R : Nat} {v : Value} (h : Blk W R 26 #[v]) : (loadVar 26 ⟨R, 0, none⟩).run Tryd.prog W = .ok v W := by
  have hc : W.cell? ⟨R, 0, none⟩ = some v := h.cell 0
  simp [loadVar, Tryd.isAgg26, Result.andThen, hc]
theorem five_new (w : World) (o0 o1 o2 o3 o4 : Obj) :
    (((((w.alloc o0).alloc o1).alloc o2).alloc o3).alloc o4).heap.size = w.heap.size + 5 ∧
    (((((w.alloc o0).alloc o1).alloc o2).alloc o3).alloc o4).heap[w.heap.size]? = some o0 ∧
    (((((w.alloc o0).alloc o1).alloc o2).alloc o3).alloc o4).heap[w.heap.size + 1]? = some o1 ∧
    (((((w.alloc o0).alloc o1).alloc o2).alloc o3).alloc o4).heap[w.heap.size + 1 + 1]? = some o2 ∧
    (((((w.alloc o0).alloc o1).alloc o2).alloc o3).alloc o4).heap[w.heap.size + 1 + 1 + 1]? = some o3 ∧
    (((((w.alloc o0).alloc o1).alloc o2).alloc o3).alloc o4).heap[w.heap.size + 1 + 1 + 1 + 1]? = some o4 ∧
    Below w.heap.size w (((((w.alloc o0).alloc o1).alloc o2).alloc o3).alloc o4) := by
  have s1 : (w.alloc o0).heap.size = w.heap.size + 1 := World.size_alloc _ _
  have s2 : ((w.alloc o0).alloc o1).heap.size = w.heap.size + 1 + 1 := by rw [World.size_alloc, s1]
  have s3 : (((w.alloc o0).alloc o1).alloc o2).heap.size = w.heap.size + 1 + 1 + 1 := by rw [World.size_alloc, s2]
  have s4 : ((((w.alloc o0).alloc o1).alloc o2).alloc o3).heap.size = w.heap.size + 1 + 1 + 1 + 1 := by rw [World.size_alloc, s3]
  refine ⟨by rw [World.size_alloc, s4], ?_, ?_, ?_, ?_, ?_, ?_⟩
  · rw [Below.heap_alloc _ _ _ (by omega), Below.heap_alloc _ _ _ (by omega), Below.heap_alloc _ _ _ (by omega), Below.heap_alloc _ _ _ (by omega)]; exact World.alloc_heap_new _ _
  · rw [Below.heap_alloc _ _ _ (by omega), Below.heap_alloc _ _ _ (by omega), Below.heap_alloc _ _ _ (by omega), ← s1]; exact World.alloc_heap_new _ _
  · rw [Below.heap_alloc _ _ _ (by omega), Below.heap_alloc _ _ _ (by omega), ← s2]; exact World.alloc_heap_new _ _
  · rw [Below.heap_alloc _ _ _ (by omega), ← s3]; exact World.alloc_heap_new _ _
  · rw [← s4]; exact World.alloc_heap_new _ _
  · exact (((((Below.refl _ w).alloc (Nat.le_refl _) _).alloc (by omega) _).alloc (by omega) _).alloc (by omega) _).alloc (by omega) _
end Go.Proofs.YtgkgbpbohgklhagDoor

namespace Go.Proofs.YtgkgbpbohgklhagDoor
open Go.ChangeShapes Go.WideShapes Go.ChangeAt Go.RowKit

/-- what is wrong with a term, or else with counts; how many things the term has. -/
def countFault (t : List Int) (N : Nat → Int) : Int := if faultN t = 0 then countsFault N else faultN t
def countN (t : List Int) (N : Nat → Int) : Int := if countFault t N = 0 then sumIn (liesB t) N 8 else 0

theorem mask_bit (L : Nat → Bool) {k : Nat} (hk : k < 8) : bits .and .i64 (maskTo L 8 / 2 ^ k) 1 = oneB (L k) := by
  obtain ⟨m0, m1⟩ := maskTo_le L 8
  have : maskTo L 8 < 256 := m1
  rw [bit_at _ k m0 this hk, has_mask L (Nat.le_refl _) hk]

set_option maxRecDepth 100000 in
set_option maxHeartbeats 4000000 in
theorem count_any (t : List Int) (v : Value) (N : Nat → Int) (w : World) (h : Reads w v t) :
    Calls Tryd.prog 43 #[v, .agg #[.int .i64 (N 0), .int .i64 (N 1), .int .i64 (N 2), .int .i64 (N 3), .int .i64 (N 4), .int .i64 (N 5), .int .i64 (N 6), .int .i64 (N 7)]] w fun e w' => e = .returned (.tuple #[.int .i64 (countN t N), errV (countFault t N)]) ∧ Below w.heap.size w w' := by
  obtain ⟨w1, hw1⟩ : ∃ w1, w1 = w.alloc (.cells #[.int .i64 (N 0), .int .i64 (N 1), .int .i64 (N 2), .int .i64 (N 3), .int .i64 (N 4), .int .i64 (N 5), .int .i64 (N 6), .int .i64 (N 7)] 81) := ⟨_, rfl⟩
  have HW : Hid (Below w.heap.size w w1) := by unfold Hid; rw [hw1]; exact below_alloc1 _ _
  have HK0 : Hid (Blk w1 w.heap.size 81 (arr8 N)) := by unfold Hid; rw [hw1]; exact Blk.new _ _ _
  have HMa : Hid (Calls Tryd.prog 71 #[v] w1 fun e w' => e = .returned (.tuple #[.int .i64 (maskN t), errV (faultN t)]) ∧ Below w1.heap.size w1 w') := mask_any t v w1 (h.below HW.out)
  have HCa : Hid (∀ W, Calls Tryd.prog 72 #[.agg #[.int .i64 (N 0), .int .i64 (N 1), .int .i64 (N 2), .int .i64 (N 3), .int .i64 (N 4), .int .i64 (N 5), .int .i64 (N 6), .int .i64 (N 7)]] W fun e w' => e = .returned (errV (countsFault N)) ∧ Below W.heap.size W w') := fun W => fcounts_any N W
  clear h
  by_cases hf : faultN t = 0
  · have e0 : countFault t N = countsFault N := by unfold countFault; rw [if_pos hf]
    have e1 : maskN t = maskTo (liesB t) 8 := by unfold maskN; rw [if_pos hf]
    have HM : Hid (Calls Tryd.prog 71 #[v] w1 fun e w' => e = .returned (.tuple #[.int .i64 (maskTo (liesB t) 8), .nilIface]) ∧ Below w1.heap.size w1 w') := by
      have := HMa.out
      rw [hf, e1] at this
      exact this
    clear HMa
    by_cases hc : countsFault N = 0
    · have e2 : countN t N = sumIn (liesB t) N 8 := by unfold countN; rw [e0, if_pos hc]
      have HC : Hid (∀ W, Calls Tryd.prog 72 #[.agg #[.int .i64 (N 0), .int .i64 (N 1), .int .i64 (N 2), .int .i64 (N 3), .int .i64 (N 4), .int .i64 (N 5), .int .i64 (N 6), .int .i64 (N 7)]] W fun e w' => e = .returned .nilIface ∧ Below W.heap.size W w') := fun W => by
        have := HCa.out W
        rw [hc] at this
        exact this
      have e3 : errV (countFault t N) = .nilIface := by rw [e0, hc]; rfl
      rw [e2, e3]
      have HN : Hid (∀ k, k < 8 → 0 ≤ N k ∧ N k ≤ 6) := (counts_zero.1 hc).1
      clear HCa e0 e1 e2 e3 hf hc
      obtain ⟨L, hL⟩ : ∃ L, L = liesB t := ⟨_, rfl⟩
      rw [← hL] at HM ⊢
      clear hL
      have HBt : Hid (∀ k, k < 8 → bits .and .i64 (maskTo L 8 / 2 ^ k) 1 = oneB (L k)) := fun k hk => mask_bit L hk
      have HML : Hid (0 ≤ maskTo L 8 ∧ maskTo L 8 < 256) := maskTo_le L 8
      obtain ⟨M, hM⟩ : ∃ M, M = maskTo L 8 := ⟨_, rfl⟩
      rw [← hM] at HM HBt HML
      clear hM
      obtain ⟨m0, m1⟩ := HML.out
      go_enter Tryd.func43, Tryd.ntmps43
      go_wp2_with fail
      rw [← hw1]
      clear hw1
      go_wp2_with fail
      go_at_call 71
      refine HM.out.mono ?_
      rintro e w2 ⟨rfl, hb⟩
      have HB2 : Hid (Below w.heap.size w w2) := HW.out.trans (hb.mono HW.out.size)
      have HK2 : Hid (Blk w2 w.heap.size 81 (arr8 N)) := HK0.out.below hb
      clear hb
      obtain ⟨x0, x1, x2, x3, x4, x5, x6, x7⟩ := HK2.out.cells8
      go_wp2_with fail
      go_at_call 72
      refine (HC.out _).mono ?_
      rintro e w3 ⟨rfl, hb⟩
      have HB3 : Hid (Below w.heap.size w w3) := HB2.out.trans (hb.mono HB2.out.size)
      have HK3 : Hid (Blk w3 w.heap.size 81 (arr8 N)) := HK2.out.below hb
      clear hb x0 x1 x2 x3 x4 x5 x6 x7
      go_wp2
      go_loop [9, 24] (fun s i => ∃ k : Nat, k ≤ 8 ∧ i = .int .i64 k ∧ s = .int .i64 (sumIn L N k)) (fun _ i => 8 - (intOf i).toNat)
      case atStart => exact ⟨0, Nat.zero_le _, rfl, rfl⟩
      case round =>
        obtain ⟨k, hk, rfl, rfl⟩ := hrel
        by_cases hlt : k < 8
        · have y : w3.cell? ⟨w.heap.size, k, none⟩ = some (.int .i64 (N k)) := by rw [HK3.out.cell, arr8_get _ hlt]
          have p1 := sumIn_le (L := L) (N := N) (k := k) fun f hf => HN.out f (by omega)
          have p2 := sumN_le (N := N) (k := k) fun f hf => HN.out f (by omega)
          have p3 := HN.out k hlt
          have hb := HBt.out k hlt
          rcases (Bool.eq_false_or_eq_true (L k)).symm with l | l
          · have HS : Hid (sumIn L N (k + 1) = sumIn L N k) := by unfold Hid; show sumIn L N k + _ = _; rw [l]; simp
            rw [l] at hb
            replace hb : bits .and .i64 (M / 2 ^ k) 1 = 0 := hb
            clear l
            go_wp2
            go_round
            case rel => exact ⟨k + 1, by omega, by go_num, by rw [HS.out]⟩
            case measure => simp [intOf]; omega
          · have HS : Hid (sumIn L N (k + 1) = sumIn L N k + N k) := by unfold Hid; show sumIn L N k + _ = _; rw [l]; simp
            rw [l] at hb
            replace hb : bits .and .i64 (M / 2 ^ k) 1 = 1 := hb
            clear l
            go_wp2
            go_round
            case rel => exact ⟨k + 1, by omega, by go_num, by rw [HS.out]⟩
            case measure => simp [intOf]; omega
        · obtain rfl : k = 8 := by omega
          go_wp2
          go_ret2
          exact ⟨rfl, HB3.out⟩
    · have e2 : countN t N = 0 := by unfold countN; rw [e0, if_neg hc]
      have e3 : errV (countFault t N) = .iface 64 (.int .i64 (countsFault N)) := by rw [e0]; unfold errV; rw [if_neg hc]
      have HC : Hid (∀ W, Calls Tryd.prog 72 #[.agg #[.int .i64 (N 0), .int .i64 (N 1), .int .i64 (N 2), .int .i64 (N 3), .int .i64 (N 4), .int .i64 (N 5), .int .i64 (N 6), .int .i64 (N 7)]] W fun e w' => e = .returned (.iface 64 (.int .i64 (countsFault N))) ∧ Below W.heap.size W w') := fun W => by
        have := HCa.out W
        unfold errV at this
        rw [if_neg hc] at this
        exact this
      rw [e2, e3]
      clear HCa e0 e1 e2 e3 hf hc
      obtain ⟨M, hM⟩ : ∃ M, M = maskTo (liesB t) 8 := ⟨_, rfl⟩
      rw [← hM] at HM
      clear hM
      obtain ⟨F, hF⟩ : ∃ F, F = countsFault N := ⟨_, rfl⟩
      rw [← hF] at HC ⊢
      clear hF
      go_enter Tryd.func43, Tryd.ntmps43
      go_wp2_with fail
      rw [← hw1]
      clear hw1
      go_wp2_with fail
      go_at_call 71
      refine HM.out.mono ?_
      rintro e w2 ⟨rfl, hb⟩
      have HB2 : Hid (Below w.heap.size w w2) := HW.out.trans (hb.mono HW.out.size)
      have HK2 : Hid (Blk w2 w.heap.size 81 (arr8 N)) := HK0.out.below hb
      clear hb
      obtain ⟨x0, x1, x2, x3, x4, x5, x6, x7⟩ := HK2.out.cells8
      go_wp2_with fail
      go_at_call 72
      refine (HC.out _).mono ?_
      rintro e w3 ⟨rfl, hb⟩
      have HB3 : Hid (Below w.heap.size w w3) := HB2.out.trans (hb.mono HB2.out.size)
      clear hb x0 x1 x2 x3 x4 x5 x6 x7
      go_wp2
      go_ret2
      exact ⟨rfl, HB3.out⟩
  · have e0 : countFault t N = faultN t := by unfold countFault; rw [if_neg hf]
    have e1 : maskN t = 0 := by unfold maskN; rw [if_neg hf]
    have e2 : countN t N = 0 := by unfold countN; rw [e0, if_neg hf]
    have e3 : errV (faultN t) = .iface 64 (.int .i64 (faultN t)) := by unfold errV; rw [if_neg hf]
    have HM : Hid (Calls Tryd.prog 71 #[v] w1 fun e w' => e = .returned (.tuple #[.int .i64 0, .iface 64 (.int .i64 (faultN t))]) ∧ Below w1.heap.size w1 w') := by
      have := HMa.out
      rw [e1, e3] at this
      exact this
    rw [e2, e0, e3]
    clear HMa HCa e0 e1 e2 e3 hf
    obtain ⟨F, hF⟩ : ∃ F, F = faultN t := ⟨_, rfl⟩
    rw [← hF] at HM ⊢
    clear hF
    go_enter Tryd.func43, Tryd.ntmps43
    go_wp2_with fail
    rw [← hw1]
    clear hw1
    go_wp2_with fail
    go_at_call 71
    refine HM.out.mono ?_
    rintro e w2 ⟨rfl, hb⟩
    have HB2 : Hid (Below w.heap.size w w2) := HW.out.trans (hb.mono HW.out.size)
    clear hb
    go_wp2
    go_ret2
    exact ⟨rfl, HB2.out⟩
end Go.Proofs.YtgkgbpbohgklhagDoor
