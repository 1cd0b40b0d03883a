/-
  Facts and contracts that the statement leans on.
-/
import Derived.Test.YtnoohlibgaeklaaGreatDoorLibQ17
import Derived.Stop.RegionWithIn
import Derived.Sort.CutIn
import Derived.Test.YtnoohlibgaeklaaGreatDoorLibQ9
import Derived.Test.YtnoohlibgaeklaaGreatDoorLibQ2
import Derived.Test.YtnoohlibgaeklaaGreatDoorLibQ1
import Derived.Test.YtnoohlibgaeklaaGreatDoorLibQ10
import Derived.Test.YtnoohlibgaeklaaGreatDoorLibQ22
import Derived.Maps.OwnIn
namespace Go.Proofs.YtnoohlibgaeklaaGreatDoor
open Go.ChangeShapes Go.WideShapes Go.ChangeAt Go.RowKit
set_option maxRecDepth 100000
set_option maxHeartbeats 16000000
set_option maxRecDepth 100000
theorem fitCheck_ok (n : Nat) (hn : n ≤ 6) (w : World) : Calls Tryz.prog 119 #[.int .i64 n] w (Sk w .nilIface) := by
 have h : okB (n : Int) 0 = true := ok_zero (by omega) (by omega)
 go_enter Tryz.func119, Tryz.ntmps119
 go_wp2_with fail
 go_at_call 32
 refine (check_ok _ _ h _).mono ?_
 rintro e w' ⟨rfl, rfl⟩
 go_wp2
 go_ret
 exact ⟨rfl, rfl⟩
theorem fitAll_any (u : Int) (w : World) : Calls Tryz.prog 80 #[.int .i64 u] w fun e w' => e = .returned (.func (.func 118) #[] #[.pointer (some ⟨w.heap.size, 0, none⟩)]) ∧ w' = w.alloc (.cells #[.int .i64 u] 3) := by
 go_enter Tryz.func80, Tryz.ntmps80
 go_wp2
 go_ret
 exact ⟨rfl, rfl⟩
end Go.Proofs.YtnoohlibgaeklaaGreatDoor
namespace Go.Proofs.YtnoohlibgaeklaaGreatDoor
open Go.ChangeShapes Go.WideShapes Go.ChangeAt Go.RowKit
set_option maxRecDepth 100000
theorem every_first (u : Nat) : ∃ M, (everyC u)[0]? = some M ∧ ∀ g, g < 8 → M g = if g = 7 then (u : Int) else 0 := by
 obtain ⟨M, h1, h2⟩ := allF_head 7 u fun _ => 0
 have hl : (allF 7 u fun _ => 0) = everyC u := rfl
 rw [hl] at h1
 refine ⟨M, h1, fun g hg => ?_⟩
 obtain ⟨h3, h4⟩ := everyC_sum (List.mem_of_getElem? h1)
 have e : sumN M 8 = M 0 + M 1 + M 2 + M 3 + M 4 + M 5 + M 6 + M 7 := by
  show (((((((((0 : Int) + M 0) + M 1) + M 2) + M 3) + M 4) + M 5) + M 6) + M 7) = _
  omega
 have a0 := h3 0 (by omega)
 have a1 := h3 1 (by omega)
 have a2 := h3 2 (by omega)
 have a3 := h3 3 (by omega)
 have a4 := h3 4 (by omega)
 have a5 := h3 5 (by omega)
 have a6 := h3 6 (by omega)
 rcases eight hg with rfl | rfl | rfl | rfl | rfl | rfl | rfl | rfl
 ·rw [if_neg (by omega)]; omega
 ·rw [if_neg (by omega)]; omega
 ·rw [if_neg (by omega)]; omega
 ·rw [if_neg (by omega)]; omega
 ·rw [if_neg (by omega)]; omega
 ·rw [if_neg (by omega)]; omega
 ·rw [if_neg (by omega)]; omega
 ·rw [if_pos rfl]; exact h2
def enc8 (M : Nat → Int) : Array Value := #[.agg #[.int .i64 (M 0), .int .i64 (M 1), .int .i64 (M 2), .int .i64 (M 3), .int .i64 (M 4), .int .i64 (M 5), .int .i64 (M 6), .int .i64 (M 7)]]
theorem iter_any (u : Nat) (hu : u ≤ 6) (n : Nat) (hn : 1 ≤ n) (Bu : Nat) (W : World) (hB : W.cell? ⟨Bu, 0, none⟩ = some (.int .i64 u)) :
    SeqR n Tryz.prog 118 #[.pointer (some ⟨Bu, 0, none⟩)] enc8 (everyC u) W := by
 intro l J Jx hJ hY h0
 obtain ⟨M0, hM0, hM0'⟩ := every_first u
 obtain ⟨A, hA⟩ := nm (everyC u)
 have HST : Hid (∀ (i : Nat) (M : Nat → Int), A[i]? = some M → (lastTo M 8 ≠ 0 ∧ ∃ M', A[i + 1]? = some M' ∧ ∀ f, f < 8 → afterN M f = M' f) ∨ (lastTo M 8 = 0 ∧ i + 1 = A.length)) := fun i M hi => by
  rw [hA] at hi ⊢; exact every_steps hu hi
 have HBO : Hid (∀ (i : Nat) (M : Nat → Int), A[i]? = some M → ∀ f, f < 8 → 0 ≤ M f ∧ M f ≤ 6) := fun i M hi f hf => by
  rw [hA] at hi
  have := (everyC_sum (List.mem_of_getElem? hi)).1 f hf
  omega
 have HCk : Hid (∀ W, Calls Tryz.prog 119 #[.int .i64 u] W (Sk W .nilIface)) := fun W => fitCheck_ok u hu W
 rw [← hA] at hM0 hY ⊢
 clear hA hu
 have HY : Hid (∀ (k : Nat) (x : Nat → Int) (R : Nat → Prop) (W1 : World), A[k]? = some x → J k R W1 → YieldAt Fence.wide (n - 1) Tryz.prog l #[.agg #[.int .i64 (x 0), .int .i64 (x 1), .int .i64 (x 2), .int .i64 (x 3), .int .i64 (x 4), .int .i64 (x 5), .int .i64 (x 6), .int .i64 (x 7)]] W1 fun e W' =>
     (e = .returned (.bool true) ∧ ∃ R', J (k + 1) R' W' ∧ OverR R W.heap.size W1 W' ∧ ∀ b, R' b → R b ∨ W1.heap.size ≤ b) ∨ (e = .returned (.bool false) ∧ Jx (k + 1) W')) := hY
 have HJ := hide hJ
 clear hY hJ
 have e8 : Hid (arr8 M0 = #[.int .i64 0, .int .i64 0, .int .i64 0, .int .i64 0, .int .i64 0, .int .i64 0, .int .i64 0, .int .i64 u]) := by
  unfold Hid arr8
  rw [hM0' 0 (by omega), hM0' 1 (by omega), hM0' 2 (by omega), hM0' 3 (by omega), hM0' 4 (by omega), hM0' 5 (by omega), hM0' 6 (by omega), hM0' 7 (by omega)]
  rfl
 have H0 := hide h0
 have HM0 := hide hM0
 clear hM0' h0 hM0
 refine callsIn_of_wp Tryz.func118 rfl trivial ?_ rfl
 simp only [Tryz.ntmps118, List.size_toArray, List.length_cons, List.length_nil, Nat.reduceAdd, Nat.reduceSub, Array.replicate_succ, Array.replicate_zero, List.push_toArray, List.append_toArray, List.nil_append, List.cons_append]
 have hBu : Bu < W.heap.size := World.block_lt_of_cell? _ _ hB
 have hBa : (W.drew.alloc (.cells #[.int .i64 0, .int .i64 0, .int .i64 0, .int .i64 0, .int .i64 0, .int .i64 0, .int .i64 0, .int .i64 0] 60)).cell? ⟨Bu, 0, none⟩ = some (.int .i64 u) := (World.cell?_alloc_lt _ _ _ hBu).trans hB
 gi_upto_region 0 with fail
 gi_cut [3, 4] from 5 (fun p ok wr => p = .pointer (some ⟨W.heap.size, 0, none⟩) ∧ ok = .bool true ∧ Bw W wr ∧ Blk wr W.heap.size 60 (arr8 M0))
 case first =>
  gi_region_with (refine ⟨trivial, ?_⟩; gi_at_call 119; refine (callsIn_wide.2 (HCk.out _)).mono ?_; rintro e w8 ⟨rfl, rfl⟩)
  all_goals (try gi_wp2)
  all_goals gi_meet
  all_goals exact ⟨rfl, rfl, (below_alloc1 W _).drew, by rw [e8.out]; exact (Blk.new W _ _).drew⟩
 case rest =>
 obtain ⟨rfl, rfl, hb1, hk1⟩ := hcut
 have HK1 : Hid (Blk wc W.heap.size 60 (arr8 M0)) := hk1
 have HJ1 : Hid (J 0 (fun _ => False) wc) := HJ.out _ _ _ _ H0.out ⟨hb1, fun _ h _ => h.elim⟩
 clear hb1 hk1
 gi_wp2
 gi_loopg [4] (A.length) (fun gk ok wr => (∃ (k : Nat) (M : Nat → Int) (R : Nat → Prop), ok = .bool true ∧ A[k]? = some M ∧ gk = A.length - k ∧ (J k R wr ∧ ¬ R W.heap.size) ∧ Blk wr W.heap.size 60 (arr8 M)) ∨ (ok = .bool false ∧ ∃ R, J A.length R wr))
 case atStart => exact Or.inl ⟨0, M0, _, rfl, HM0.out, rfl, ⟨HJ1.out, fun h => h⟩, HK1.out⟩
 case round =>
  rcases hrel with ⟨k, M, R, rfl, hM, hg, ⟨hj, hr⟩, hk⟩ | ⟨rfl, hj⟩
  ·have HM := hide hM
   have HG := hide hg
   have HKk : Hid (Blk wr W.heap.size 60 (arr8 M)) := hk
   have HL : Hid (k < A.length) := (List.getElem?_eq_some_iff.1 hM).1
   have HRn := hide hr
   obtain ⟨fn, tmps, assign, body, hy, hR⟩ := HY.out k M R wr hM hj
   obtain ⟨x0, x1, x2, x3, x4, x5, x6, x7⟩ := hk.cells8
   clear hM hg hk hj hr
   gi_wp2
   refine hR.mono ?_
   rintro e W3 (⟨rfl, R', hJ3, hO3, hR3⟩ | ⟨rfl, hJx3⟩)
   ·have HJ3 := hide hJ3
    have HK3 : Hid (Blk W3 W.heap.size 60 (arr8 M)) := by
     unfold Hid Blk; rw [hO3.same _ (Nat.le_refl _) HKk.out.lt HRn.out]; exact HKk.out
    have HR' : Hid (¬ R' W.heap.size) := fun h => by
     rcases hR3 _ h with h | h
     ·exact HRn.out h
     ·have := HKk.out.lt; omega
    obtain ⟨M', hM'⟩ := nm (afterO M)
    obtain ⟨ok, hok⟩ : ∃ b, b = !(lastTo M 8 == 0) := ⟨_, rfl⟩
    have HAf : Hid (∀ W, Calls Tryz.prog 120 #[.agg #[.int .i64 (M 0), .int .i64 (M 1), .int .i64 (M 2), .int .i64 (M 3), .int .i64 (M 4), .int .i64 (M 5), .int .i64 (M 6), .int .i64 (M 7)]] W (Bk W (.tuple #[.agg #[.int .i64 (M' 0), .int .i64 (M' 1), .int .i64 (M' 2), .int .i64 (M' 3), .int .i64 (M' 4), .int .i64 (M' 5), .int .i64 (M' 6), .int .i64 (M' 7)], .bool ok]))) := fun W => by
     rw [hM', hok]; exact after_any M W (HBO.out k M HM.out)
    have HM' := hide hM'
    have Hok := hide hok
    clear hJ3 hO3 hR3 x0 x1 x2 x3 x4 x5 x6 x7 hy hR hM' hok
    obtain ⟨x0, x1, x2, x3, x4, x5, x6, x7⟩ := HK3.out.cells8
    gi_wp2_with fail
    refine ⟨trivial, ?_⟩
    gi_at_call 120
    refine (callsIn_wide.2 (HAf.out _)).mono ?_
    rintro e W4 ⟨rfl, hb4⟩
    have HK4 := hide (HK3.out.below hb4)
    have HJ4 : Hid (J (k + 1) R' W4) := HJ.out _ _ _ _ HJ3.out (.of_below hb4 (Nat.le_of_lt HK3.out.lt))
    clear hb4 x0 x1 x2 x3 x4 x5 x6 x7
    obtain ⟨x0, x1, x2, x3, x4, x5, x6, x7⟩ := HK4.out.cells8
    obtain ⟨f0, f1, f2, f3, f4, f5, f6, f7⟩ := HK4.out.frozen8
    gi_wp2
    have hJ5 : J (k + 1) R' (put8 W4 W.heap.size M') := HJ.out _ _ _ _ HJ4.out ⟨put8_below (Below.refl _ _) (Nat.le_refl _) _, fun b hb _ => by
     have hne : b ≠ W.heap.size := fun e => HR'.out (e ▸ hb)
     unfold put8
     repeat rw [Below.heap_setCell _ _ _ _ (by exact hne)]⟩
    rcases HST.out k M HM.out with ⟨h0, M2, hM2, he⟩ | ⟨h0, he⟩
    ·gi_roundg (A.length - (k + 1))
     case rel =>
      refine Or.inl ⟨k + 1, M2, R', ?_, hM2, rfl, ⟨hJ5, HR'.out⟩, ?_⟩
      ·rw [Hok.out]; simp [h0]
      ·have hb := put8_blk HK4.out M'
       have e : arr8 M' = arr8 M2 := arr8_same fun f hf => by rw [HM'.out]; unfold afterO; rw [if_neg h0]; exact he f hf
       rw [e] at hb
       exact hb
     case measure => have := HL.out; rw [HG.out]; omega
    ·gi_roundg 0
     case rel => exact Or.inr ⟨by rw [Hok.out, h0]; rfl, R', by rw [← he]; exact hJ5⟩
     case measure => have := HL.out; rw [HG.out]; omega
   ·gi_wp2
    go_end0
    exact ⟨⟨_, rfl⟩, .inr ⟨k, HL.out, hJx3⟩⟩
  ·have HJe := hide hj
   clear hj
   gi_wp2
   refine ⟨fun _ _ => trivial, ?_⟩
   gi_wp2
   go_end0
   exact ⟨⟨_, rfl⟩, .inl HJe.out⟩
theorem Blk.keep {B G : Nat} {W W' : World} {T : TypeId} {cs : Array Value} (h : Blk W G T cs) (hb : Below B W W') (hG : G < B) : Blk W' G T cs := by
 unfold Blk; rw [hb.block G hG]; exact h
theorem Blk.putO {G l : Nat} {W : World} {T : TypeId} {cs : Array Value} (h : Blk W G T cs) (o : Obj) (hl : G ≠ l) : Blk (W.putObj l o) G T cs := by
 unfold Blk; rw [World.putObj_heap_other hl]; exact h
theorem results_two {fn : Func} {p q : Tmp} {ty tz : TypeId} (h : fn.results = #[.cell p ty, .cell q tz]) (tmps : Array Value) (P : Program) (w : World) :
    (results fn tmps).run P w = ((asAddr (tmps.getD p undef)).run P w).andThen fun a w1 => ((loadVar ty a).run P w1).andThen fun v w2 => ((asAddr (tmps.getD q undef)).run P w2).andThen fun b w3 => ((loadVar tz b).run P w3).andThen fun u w4 => .ok (.tuple #[v, u]) w4 := by
 simp only [results, h]
 simp [Sem.run_bind, Result.andThen]
theorem loadI {W : World} {R : Nat} {v : Value} (h : Blk W R 3 #[v]) : (loadVar 3 ⟨R, 0, none⟩).run Tryz.prog W = .ok v W := by
 have hc : W.cell? ⟨R, 0, none⟩ = some v := h.cell 0
 simp [loadVar, Tryz.isAgg3, Result.andThen, hc]
theorem loadE {W : World} {R : Nat} {v : Value} (h : Blk W R 34 #[v]) : (loadVar 34 ⟨R, 0, none⟩).run Tryz.prog W = .ok v W := by
 have hc : W.cell? ⟨R, 0, none⟩ = some v := h.cell 0
 simp [loadVar, Tryz.isAgg34, Result.andThen, hc]
theorem five_new (w : World) (o0 o1 o2 o3 o4 : Obj) :
    (((((w.alloc o0).alloc o1).alloc o2).alloc o3).alloc o4).heap.size = w.heap.size + 5 ∧
    (((((w.alloc o0).alloc o1).alloc o2).alloc o3).alloc o4).heap[w.heap.size]? = some o0 ∧
    (((((w.alloc o0).alloc o1).alloc o2).alloc o3).alloc o4).heap[w.heap.size + 1]? = some o1 ∧
    (((((w.alloc o0).alloc o1).alloc o2).alloc o3).alloc o4).heap[w.heap.size + 1 + 1]? = some o2 ∧
    (((((w.alloc o0).alloc o1).alloc o2).alloc o3).alloc o4).heap[w.heap.size + 1 + 1 + 1]? = some o3 ∧
    (((((w.alloc o0).alloc o1).alloc o2).alloc o3).alloc o4).heap[w.heap.size + 1 + 1 + 1 + 1]? = some o4 ∧
    Bw w (((((w.alloc o0).alloc o1).alloc o2).alloc o3).alloc o4) := by
 have s1 : (w.alloc o0).heap.size = w.heap.size + 1 := World.size_alloc _ _
 have s2 : ((w.alloc o0).alloc o1).heap.size = w.heap.size + 1 + 1 := by rw [World.size_alloc, s1]
 have s3 : (((w.alloc o0).alloc o1).alloc o2).heap.size = w.heap.size + 1 + 1 + 1 := by rw [World.size_alloc, s2]
 have s4 : ((((w.alloc o0).alloc o1).alloc o2).alloc o3).heap.size = w.heap.size + 1 + 1 + 1 + 1 := by rw [World.size_alloc, s3]
 refine ⟨by rw [World.size_alloc, s4], ?_, ?_, ?_, ?_, ?_, ?_⟩
 ·rw [Below.heap_alloc _ _ _ (by omega), Below.heap_alloc _ _ _ (by omega), Below.heap_alloc _ _ _ (by omega), Below.heap_alloc _ _ _ (by omega)]; exact World.alloc_heap_new _ _
 ·rw [Below.heap_alloc _ _ _ (by omega), Below.heap_alloc _ _ _ (by omega), Below.heap_alloc _ _ _ (by omega), ← s1]; exact World.alloc_heap_new _ _
 ·rw [Below.heap_alloc _ _ _ (by omega), Below.heap_alloc _ _ _ (by omega), ← s2]; exact World.alloc_heap_new _ _
 ·rw [Below.heap_alloc _ _ _ (by omega), ← s3]; exact World.alloc_heap_new _ _
 ·rw [← s4]; exact World.alloc_heap_new _ _
 ·exact (((((Below.refl _ w).alloc (Nat.le_refl _) _).alloc (by omega) _).alloc (by omega) _).alloc (by omega) _).alloc (by omega) _
end Go.Proofs.YtnoohlibgaeklaaGreatDoor
namespace Go.Proofs.YtnoohlibgaeklaaGreatDoor
open Go.ChangeShapes Go.WideShapes Go.ChangeAt Go.RowKit
set_option maxRecDepth 100000
set_option maxHeartbeats 16000000
theorem fcounts_any (N : Nat → Int) (w : World) :
    Calls Tryz.prog 148 #[.agg #[.int .i64 (N 0), .int .i64 (N 1), .int .i64 (N 2), .int .i64 (N 3), .int .i64 (N 4), .int .i64 (N 5), .int .i64 (N 6), .int .i64 (N 7)]] w (Bk w (errV (countsFault N))) := by
 obtain ⟨w1, hw1⟩ := nm (w.alloc (.cells #[.int .i64 (N 0), .int .i64 (N 1), .int .i64 (N 2), .int .i64 (N 3), .int .i64 (N 4), .int .i64 (N 5), .int .i64 (N 6), .int .i64 (N 7)] 60))
 have HW : Hid (Bw w w1) := by unfold Hid; rw [hw1]; exact below_alloc1 _ _
 have HX : Hid (∀ k, k < 8 → w1.cell? ⟨w.heap.size, k, none⟩ = some (.int .i64 (N k))) := fun k hk => by
  rw [hw1]
  rcases eight hk with rfl | rfl | rfl | rfl | rfl | rfl | rfl | rfl <;> simp
 obtain ⟨F, hF⟩ := nm (countsFault N)
 have HF1 : Hid (∀ k, k < 8 → ¬ (0 ≤ N k ∧ N k ≤ 6) → errV F = .iface 91 (.int .i64 1)) := fun k hk h => by
  rw [hF]; unfold countsFault; rw [if_neg (by rw [eachB_no hk h]; decide)]; rfl
 have HF2 : Hid ((∀ f, f < 8 → 0 ≤ N f ∧ N f ≤ 6) → (sumN N 8 ≤ 6 → errV F = .nilIface) ∧ (6 < sumN N 8 → errV F = .iface 91 (.int .i64 4))) := fun h => by
  rw [hF]; unfold countsFault; rw [if_pos (eachB_iff.2 h)]
  exact ⟨fun h' => by rw [if_pos h']; rfl, fun h' => by rw [if_neg (by omega)]; rfl⟩
 rw [← hF]
 clear hF
 go_enter Tryz.func148, Tryz.ntmps148
 go_wp2
 rw [← hw1]
 clear hw1
 go_loop [6] (fun i => ∃ k : Nat, k ≤ 8 ∧ i = .int .i64 k ∧ ∀ f, f < k → 0 ≤ N f ∧ N f ≤ 6) (fun i => 8 - (intOf i).toNat)
 case atStart => exact ⟨0, Nat.zero_le _, rfl, fun f hf => by omega⟩
 case round =>
  obtain ⟨k, hk, rfl, hall⟩ := hrel
  have HA := hide hall
  clear hall
  by_cases hlt : k < 8
  ·have hc := HX.out k hlt
   obtain ⟨x, hx⟩ := nm (N k)
   rw [← hx] at hc
   have HXk := hide hx
   clear hx
   by_cases h0 : x < 0
   ·have HE : Hid (errV F = .iface 91 (.int .i64 1)) := HF1.out k hlt (by rw [← HXk.out]; omega)
    go_wp2
    go_ret
    exact ⟨back_v HE.out.symm, HW.out⟩
   by_cases h6 : 6 < x
   ·have HE : Hid (errV F = .iface 91 (.int .i64 1)) := HF1.out k hlt (by rw [← HXk.out]; omega)
    go_wp2
    go_ret
    exact ⟨back_v HE.out.symm, HW.out⟩
   ·have HN : Hid (∀ f, f < k + 1 → 0 ≤ N f ∧ N f ≤ 6) := fun f hf => by
     rcases Nat.lt_or_ge f k with h' | h'
     ·exact HA.out f h'
     ·obtain rfl : f = k := by omega
      rw [← HXk.out]; omega
    go_wp2
    go_round
    case rel => exact ⟨k + 1, by omega, by go_num, HN.out⟩
    case measure => simp [intOf]; omega
  ·obtain rfl : k = 8 := by omega
   go_wp2
   go_loop [4, 21] (fun s i => ∃ k : Nat, k ≤ 8 ∧ i = .int .i64 k ∧ s = .int .i64 (sumN N k)) (fun _ i => 8 - (intOf i).toNat)
   case atStart => exact ⟨0, Nat.zero_le _, rfl, rfl⟩
   case round =>
    obtain ⟨k, hk, rfl, rfl⟩ := hrel
    by_cases hlt2 : k < 8
    ·have hc := HX.out k hlt2
     have p1 := sumN_le (N := N) (k := k) fun f hf => HA.out f (by omega)
     have p2 := HA.out k (by omega)
     have HS : Hid (sumN N (k + 1) = sumN N k + N k) := rfl
     go_wp2
     go_round
     case rel => exact ⟨k + 1, by omega, by go_num, by rw [HS.out]⟩
     case measure => simp [intOf]; omega
    ·obtain rfl : k = 8 := by omega
     by_cases h6 : sumN N 8 ≤ 6
     ·have HE : Hid (errV F = .nilIface) := (HF2.out HA.out).1 h6
      go_wp2
      go_ret
      exact ⟨back_v HE.out.symm, HW.out⟩
     ·have h6' : 6 < sumN N 8 := by omega
      have HE : Hid (errV F = .iface 91 (.int .i64 4)) := (HF2.out HA.out).2 h6'
      go_wp2
      go_ret
      exact ⟨back_v HE.out.symm, HW.out⟩
def madeW (N : Nat → Int) : Wd := if countsFault N = 0 then madeN N 8 else ⟨0, 0, 0, 0⟩
theorem with_more (D : Wd) (f : Nat) (hok : D.ok = true) (h5 : D.u ≤ 5) (hf : f < 8) (w : World) :
    Calls Tryz.prog 154 #[.agg #[.int .i64 D.u, .int .i64 D.a, .int .i64 D.b, .int .i64 D.c], .int .i64 f] w (Bk w (.agg #[.int .i64 (D.more f).u, .int .i64 (D.more f).a, .int .i64 (D.more f).b, .int .i64 (D.more f).c])) := by
 obtain ⟨u, a, b, c⟩ := D
 obtain ⟨n, rfl⟩ := Int.eq_ofNat_of_zero_le (show 0 ≤ u from (ok_u hok).1)
 exact with_field n a b c f hok (by simp only at h5; omega) hf w
theorem fworld_wrong (N : Nat → Int) (w : World) (hf : ¬ countsFault N = 0) :
    Calls Tryz.prog 121 #[.agg #[.int .i64 (N 0), .int .i64 (N 1), .int .i64 (N 2), .int .i64 (N 3), .int .i64 (N 4), .int .i64 (N 5), .int .i64 (N 6), .int .i64 (N 7)]] w (Bk w (.tuple #[.agg #[.int .i64 0, .int .i64 0, .int .i64 0, .int .i64 0], .iface 91 (.int .i64 (countsFault N))])) := by
 obtain ⟨w1, hw1⟩ := nm ((w.alloc (.cells #[.int .i64 (N 0), .int .i64 (N 1), .int .i64 (N 2), .int .i64 (N 3), .int .i64 (N 4), .int .i64 (N 5), .int .i64 (N 6), .int .i64 (N 7)] 60)).alloc (.cells #[.int .i64 0, .int .i64 0, .int .i64 0, .int .i64 0] 58))
 have HW : Hid (Bw w w1) := by unfold Hid; rw [hw1]; exact (below_alloc1 _ _).alloc (by simp) _
 have HK0 : Hid (Blk w1 w.heap.size 60 (arr8 N)) := by unfold Hid; rw [hw1]; exact (Blk.new _ _ _).old _
 have HK1 : Hid (Blk w1 (w.heap.size + 1) 58 (arrW ⟨0, 0, 0, 0⟩)) := by
  unfold Hid; rw [hw1]
  have := Blk.new (w.alloc (.cells (arr8 N) 60)) 58 (arrW ⟨0, 0, 0, 0⟩)
  simp only [World.size_alloc] at this
  exact this
 have HC : Hid (Calls Tryz.prog 148 #[.agg #[.int .i64 (N 0), .int .i64 (N 1), .int .i64 (N 2), .int .i64 (N 3), .int .i64 (N 4), .int .i64 (N 5), .int .i64 (N 6), .int .i64 (N 7)]] w1 (Bk w1 (.iface 91 (.int .i64 (countsFault N))))) := by
  have := fcounts_any N w1
  unfold errV at this
  rw [if_neg hf] at this
  exact this
 obtain ⟨F, hF⟩ := nm (countsFault N)
 rw [← hF] at HC ⊢
 clear hF hf
 obtain ⟨x0, x1, x2, x3, x4, x5, x6, x7⟩ := HK0.out.cells8
 go_enter Tryz.func121, Tryz.ntmps121
 go_wp2_with fail
 rw [← hw1]
 clear hw1
 go_wp2_with fail
 go_at_call 148
 refine HC.out.mono ?_
 rintro e w2 ⟨rfl, hb⟩
 have HB := bt HW hb
 have HR := hide (HK1.out.below hb)
 clear hb x0 x1 x2 x3 x4 x5 x6 x7
 have r0 : w2.cell? ⟨w.heap.size + 1, 0, none⟩ = some (.int .i64 0) := HR.out.cell 0
 have r1 : w2.cell? ⟨w.heap.size + 1, 1, none⟩ = some (.int .i64 0) := HR.out.cell 1
 have r2 : w2.cell? ⟨w.heap.size + 1, 2, none⟩ = some (.int .i64 0) := HR.out.cell 2
 have r3 : w2.cell? ⟨w.heap.size + 1, 3, none⟩ = some (.int .i64 0) := HR.out.cell 3
 obtain ⟨f0, f1, f2, f3⟩ := HR.out.frozen4
 go_wp2
 have hld := loadW (putW_blk HR.out ⟨0, 0, 0, 0⟩)
 refine bodyPost_ret (v := .tuple #[.agg #[.int .i64 0, .int .i64 0, .int .i64 0, .int .i64 0], .iface 91 (.int .i64 F)]) ?_ rfl ⟨rfl, ?_⟩
 ·rw [results_cell_tmp rfl]
  unfold putW arrW at hld
  simp only at hld
  simp [asAddr, Result.andThen, hld]
 ·exact putW_below HB.out (by omega) ⟨0, 0, 0, 0⟩
theorem fworld_right (N : Nat → Int) (w : World) (hf : countsFault N = 0) :
    Calls Tryz.prog 121 #[.agg #[.int .i64 (N 0), .int .i64 (N 1), .int .i64 (N 2), .int .i64 (N 3), .int .i64 (N 4), .int .i64 (N 5), .int .i64 (N 6), .int .i64 (N 7)]] w (Bk w (.tuple #[.agg (arrW (madeN N 8)), .nilIface])) := by
 obtain ⟨Z, hZ⟩ : ∃ Z : Wd, Z = ⟨0, 0, 0, 0⟩ := ⟨_, rfl⟩
 obtain ⟨w1, hw1⟩ := nm ((w.alloc (.cells #[.int .i64 (N 0), .int .i64 (N 1), .int .i64 (N 2), .int .i64 (N 3), .int .i64 (N 4), .int .i64 (N 5), .int .i64 (N 6), .int .i64 (N 7)] 60)).alloc (.cells #[.int .i64 0, .int .i64 0, .int .i64 0, .int .i64 0] 58))
 have HW : Hid (Bw w w1) := by unfold Hid; rw [hw1]; exact (below_alloc1 _ _).alloc (by simp) _
 have HK0 : Hid (Blk w1 w.heap.size 60 (arr8 N)) := by unfold Hid; rw [hw1]; exact (Blk.new _ _ _).old _
 have HK1 : Hid (Blk w1 (w.heap.size + 1) 58 (arrW Z)) := by
  unfold Hid; rw [hw1, hZ]
  have := Blk.new (w.alloc (.cells (arr8 N) 60)) 58 (arrW ⟨0, 0, 0, 0⟩)
  simp only [World.size_alloc] at this
  exact this
 have HC : Hid (Calls Tryz.prog 148 #[.agg #[.int .i64 (N 0), .int .i64 (N 1), .int .i64 (N 2), .int .i64 (N 3), .int .i64 (N 4), .int .i64 (N 5), .int .i64 (N 6), .int .i64 (N 7)]] w1 (Bk w1 .nilIface)) := by
  have := fcounts_any N w1
  rw [hf] at this
  exact this
 obtain ⟨hall, hsum⟩ := counts_zero.1 hf
 have HN := hide hall
 have HX : Hid (∀ W k, k < 8 → Blk W w.heap.size 60 (arr8 N) → W.cell? ⟨w.heap.size, k, none⟩ = some (.int .i64 (N k))) := fun W k hk h => by rw [h.cell, arr8_get _ hk]
 have HV : Hid (∀ (k j : Nat) W, k < 8 → (j : Int) < N k → Calls Tryz.prog 154 #[.agg #[.int .i64 ((madeN N k).mores k j).u, .int .i64 ((madeN N k).mores k j).a, .int .i64 ((madeN N k).mores k j).b, .int .i64 ((madeN N k).mores k j).c], .int .i64 k] W (Bk W (.agg #[.int .i64 ((madeN N k).mores k (j + 1)).u, .int .i64 ((madeN N k).mores k (j + 1)).a, .int .i64 ((madeN N k).mores k (j + 1)).b, .int .i64 ((madeN N k).mores k (j + 1)).c]))) := fun k j W hk hj => by
  obtain ⟨i1, i2, _⟩ := made_all hall hsum (k := k) (by omega)
  have hm := sumN_mono (N := N) (k := k + 1) (l := 8) (by omega) hall
  have es : sumN N (k + 1) = sumN N k + N k := rfl
  have e := mores_u (madeN N k) k j
  exact with_more _ k (mores_ok i1 k (by rw [i2]; omega)) (by rw [e, i2]; omega) hk W
 have HE : Hid (∀ k, k < 8 → (madeN N k).mores k (N k).toNat = madeN N (k + 1)) := fun k _ => rfl
 have HZ := hide hZ
 clear hf hall hsum
 obtain ⟨x0, x1, x2, x3, x4, x5, x6, x7⟩ := HK0.out.cells8
 go_enter Tryz.func121, Tryz.ntmps121
 go_wp2_with fail
 rw [← hw1]
 clear hw1
 go_wp2_with fail
 go_at_call 148
 refine HC.out.mono ?_
 rintro e w2 ⟨rfl, hb⟩
 have HB := bt HW hb
 have HP := hide (HK0.out.below hb)
 have HR := hide (HK1.out.below hb)
 clear hb x0 x1 x2 x3 x4 x5 x6 x7
 obtain ⟨G, hG⟩ := nm w2.heap.size
 have HG : Hid (w.heap.size + 1 < G) := by unfold Hid; rw [hG]; exact HR.out.lt
 obtain ⟨w3, hw3⟩ := nm (w2.alloc (.cells #[.int .i64 0, .int .i64 0, .int .i64 0, .int .i64 0] 58))
 have HB3 : Hid (Bw w w3) := by unfold Hid; rw [hw3]; exact HB.out.alloc HB.out.size _
 have HP3 : Hid (Blk w3 w.heap.size 60 (arr8 N)) := by unfold Hid; rw [hw3]; exact HP.out.old _
 have HR3 : Hid (Blk w3 (w.heap.size + 1) 58 (arrW Z)) := by unfold Hid; rw [hw3]; exact HR.out.old _
 have HM3 : Hid (Blk w3 G 58 (arrW (madeN N 0))) := by unfold Hid; rw [hw3, hG]; exact Blk.new _ _ _
 clear HB HP HR hZ
 go_wp2
 rw [← hw3, ← hG]
 clear hw3 hG
 go_loopw [13] (fun i wr => ∃ k : Nat, k ≤ 8 ∧ i = .int .i64 k ∧ Bw w wr ∧ Blk wr w.heap.size 60 (arr8 N) ∧ Blk wr (w.heap.size + 1) 58 (arrW Z) ∧ Blk wr G 58 (arrW (madeN N k))) (fun i _ => 8 - (intOf i).toNat)
 case atStart => exact ⟨0, Nat.zero_le _, rfl, HB3.out, HP3.out, HR3.out, HM3.out⟩
 case round =>
  obtain ⟨k, hk, rfl, hb, hp, hr, hm⟩ := hrel
  have HB4 := hide hb
  have HP4 : Hid (Blk wr w.heap.size 60 (arr8 N)) := hp
  have HR4 : Hid (Blk wr (w.heap.size + 1) 58 (arrW Z)) := hr
  have HM4 : Hid (Blk wr G 58 (arrW (madeN N k))) := hm
  clear hb hp hr hm
  by_cases hlt : k < 8
  ·have y := HX.out wr k hlt HP4.out
   have p := HN.out k hlt
   obtain ⟨x, hx⟩ : ∃ x : Nat, (x : Int) = N k := ⟨(N k).toNat, by omega⟩
   have HXk := hide hx
   have HEk : Hid ((madeN N k).mores k x = madeN N (k + 1)) := by
    have := HE.out k hlt
    rw [show (N k).toNat = x by omega] at this
    exact this
   rw [← hx] at y p
   clear hx
   go_wp2
   clear y
   rw [show decide ((k : Int) < 8) = true by simp; omega]
   go_loopw [19] (fun i wr => ∃ j : Nat, j ≤ x ∧ i = .int .i64 j ∧ Bw w wr ∧ Blk wr w.heap.size 60 (arr8 N) ∧ Blk wr (w.heap.size + 1) 58 (arrW Z) ∧ Blk wr G 58 (arrW ((madeN N k).mores k j))) (fun i _ => x - (intOf i).toNat)
   case atStart => exact ⟨0, Nat.zero_le _, rfl, HB4.out, HP4.out, HR4.out, HM4.out⟩
   case round =>
    obtain ⟨j, hj, rfl, hb, hp, hr, hm⟩ := hrel
    have HB5 := hide hb
    have HP5 : Hid (Blk wr w.heap.size 60 (arr8 N)) := hp
    have HR5 : Hid (Blk wr (w.heap.size + 1) 58 (arrW Z)) := hr
    have HM5 : Hid (Blk wr G 58 (arrW ((madeN N k).mores k j))) := hm
    clear hb hp hr hm
    by_cases hlj : j < x
    ·have HVk : Hid (Calls Tryz.prog 154 #[.agg #[.int .i64 ((madeN N k).mores k j).u, .int .i64 ((madeN N k).mores k j).a, .int .i64 ((madeN N k).mores k j).b, .int .i64 ((madeN N k).mores k j).c], .int .i64 k] wr (Bk wr (.agg #[.int .i64 ((madeN N k).mores k (j + 1)).u, .int .i64 ((madeN N k).mores k (j + 1)).a, .int .i64 ((madeN N k).mores k (j + 1)).b, .int .i64 ((madeN N k).mores k (j + 1)).c]))) := HV.out k j wr hlt (by rw [← HXk.out]; omega)
     obtain ⟨D, hD⟩ := nm ((madeN N k).mores k j)
     rw [← hD] at HVk HM5
     obtain ⟨E, hE⟩ := nm ((madeN N k).mores k (j + 1))
     rw [← hE] at HVk
     have HEj := hide hE
     clear hD hE
     obtain ⟨y0, y1, y2, y3⟩ := HM5.out.cells4
     go_wp2_with fail
     go_at_call 154
     refine HVk.out.mono ?_
     rintro e w6 ⟨rfl, hb⟩
     have HB6 := bt HB5 hb
     have HP6 := hide (HP5.out.below hb)
     have HR6 := hide (HR5.out.below hb)
     have HM6 := hide (HM5.out.below hb)
     clear hb y0 y1 y2 y3
     obtain ⟨y0, y1, y2, y3⟩ := HM6.out.cells4
     obtain ⟨f0, f1, f2, f3⟩ := HM6.out.frozen4
     go_wp2
     go_roundw
     case rel =>
      have hg := HG.out
      exact ⟨j + 1, by omega, by go_num, putW_below HB6.out (by omega) E, putW_far HP6.out (by omega) E, putW_far HR6.out (by omega) E, by rw [← HEj.out]; exact putW_blk HM6.out E⟩
     case measure => simp [intOf]; omega
    ·obtain rfl : j = x := by omega
     go_wp2
     go_roundw
     case rel => exact ⟨k + 1, by omega, by go_num, HB5.out, HP5.out, HR5.out, by rw [← HEk.out]; exact HM5.out⟩
     case measure => simp [intOf]; omega
  ·obtain rfl : k = 8 := by omega
   obtain ⟨D, hD⟩ := nm (madeN N 8)
   rw [← hD] at HM4
   have HD := hide hD
   clear hD
   obtain ⟨y0, y1, y2, y3⟩ := HM4.out.cells4
   obtain ⟨r0, r1, r2, r3⟩ := HR4.out.cells4
   obtain ⟨f0, f1, f2, f3⟩ := HR4.out.frozen4
   go_wp2
   have hld := loadW (putW_blk HR4.out D)
   refine bodyPost_ret (v := .tuple #[.agg (arrW D), .nilIface]) ?_ rfl ⟨by rw [HD.out], ?_⟩
   ·rw [results_cell_tmp rfl]
    unfold putW at hld
    simp [asAddr, Result.andThen, hld]
   ·exact putW_below HB4.out (by omega) D
theorem fworld_any (N : Nat → Int) (w : World) :
    Calls Tryz.prog 121 #[.agg #[.int .i64 (N 0), .int .i64 (N 1), .int .i64 (N 2), .int .i64 (N 3), .int .i64 (N 4), .int .i64 (N 5), .int .i64 (N 6), .int .i64 (N 7)]] w (Bk w (.tuple #[.agg (arrW (madeW N)), errV (countsFault N)])) := by
 by_cases hf : countsFault N = 0
 ·unfold madeW
  rw [if_pos hf, hf]
  exact fworld_right N w hf
 ·unfold madeW errV
  rw [if_neg hf, if_neg hf]
  exact fworld_wrong N w hf
end Go.Proofs.YtnoohlibgaeklaaGreatDoor
namespace Go.Proofs.YtnoohlibgaeklaaGreatDoor
open Go.ChangeShapes Go.WideShapes Go.ChangeAt Go.RowKit
set_option maxRecDepth 100000
set_option maxHeartbeats 16000000
attribute [local go_sem] Oper.semAt_some
theorem held_new (w : World) (o0 o1 o2 : Obj) :
    (((w.alloc o0).alloc o1).alloc o2).heap.size = w.heap.size + 3 ∧
    (((w.alloc o0).alloc o1).alloc o2).heap[w.heap.size]? = some o0 ∧
    (((w.alloc o0).alloc o1).alloc o2).heap[w.heap.size + 1]? = some o1 ∧
    (((w.alloc o0).alloc o1).alloc o2).heap[w.heap.size + 1 + 1]? = some o2 ∧
    Bw w (((w.alloc o0).alloc o1).alloc o2) := by
 have s1 : (w.alloc o0).heap.size = w.heap.size + 1 := World.size_alloc _ _
 have s2 : ((w.alloc o0).alloc o1).heap.size = w.heap.size + 1 + 1 := by rw [World.size_alloc, s1]
 refine ⟨by rw [World.size_alloc, s2], ?_, ?_, ?_, ?_⟩
 ·rw [Below.heap_alloc _ _ _ (by omega), Below.heap_alloc _ _ _ (by omega)]; exact World.alloc_heap_new _ _
 ·rw [Below.heap_alloc _ _ _ (by omega), ← s1]; exact World.alloc_heap_new _ _
 ·rw [← s2]; exact World.alloc_heap_new _ _
 ·exact (((Below.refl _ w).alloc (Nat.le_refl _) _).alloc (by omega) _).alloc (by omega) _
theorem held_slice {X : World} {K n size : Nat} {e : TypeId} {v : Value} {xs : List Value} (h : X.ownsRow K e size v n xs) : ∃ ao l cap, v = .slice ao l cap := by
 rcases h.2 with ⟨rfl, _⟩ | ⟨g, cap, cur, rfl, _⟩
 ·exact ⟨_, _, _, rfl⟩
 ·exact ⟨_, _, _, rfl⟩
theorem appendIn_long {F : Fence} {nF : Nat} {w : World} {ops : Array Oper} {rest : List Oper} {o : Oper} {a : Act} {Q : Exit → Act → World → Prop} (hgd : o.guard = none) (s x : Operand)
    (ho : o.op = .call { callee := .builtin .append, args := #[s, x], argTypes := #[62, 62] }) (K : Nat) (v : Value) (hs : a.eval s = v) (l : List Int) (r : Int) (B c : Nat) (hx : a.eval x = .slice (some ⟨B, 0, none⟩) 1 c)
    (hown : w.ownsRow K 3 1 v l.length (l.map (Value.int .i64))) (hB : w.heap[B]? = some (.cells #[.int .i64 r] 3 (0, 0))) (hK : K ≤ w.heap.size) (h12 : l.length ≤ 1000000)
    (h : ∀ v' w', w'.ownsRow K 3 1 v' (l.length + 1) ((l ++ [r]).map (Value.int .i64)) → w.grownBy w' v.ownBlock → (v'.ownBlock = v.ownBlock ∨ v'.ownBlock = some w.heap.size) → wpListIn F nF Tryz.prog ops Q rest (a.put o.dst v') w') :
    wpListIn F nF Tryz.prog ops Q (o :: rest) a w := by
 obtain ⟨i1, hi⟩ : ∃ i, Tryz.prog.info? 3 = some i := Option.isSome_iff_exists.1 infoH
 have hz0 : i1.zero = some (.int .i64 0) := by have := zeroH; rw [hi] at this; simpa using this
 have hz1 : i1.size = 1 := by have := sizeH; rw [hi] at this; simpa using this
 have hz2 : i1.bytes = 8 := by have := bytesH; rw [hi] at this; simpa using this
 refine wpListIn_append_own_at w hgd s x 62 ho K 3 i1 _ 1 8 Tryz.underlying62 hi hz0 hz1 hz2 rfl (by decide) v l.length (l.map (Value.int .i64)) hs hown ⟨B, 0, none⟩ 1 c [.int .i64 r] hx rfl (World.news_of_block hB) (by simp [Value.oneCell']) (by unfold maxLen; omega) (by omega) hK ?_
 intro v' w' h1 h2 _ h5
 refine h v' w' ?_ h2 h5
 rw [List.map_append]
 exact h1
theorem loadS {W : World} {R : Nat} {v : Value} (h : Blk W R 62 #[v]) : (loadVar 62 ⟨R, 0, none⟩).run Tryz.prog W = .ok v W := by
 have hc : W.cell? ⟨R, 0, none⟩ = some v := h.cell 0
 simp [loadVar, Tryz.isAgg62, Result.andThen, hc]
theorem held_right (lo : Option Addr) (ll lcap : Nat) (n : Nat) (hn : n ≤ 6) (p : (Nat → Int) → Int) (w : World)
    (hC : ∀ W, Bw w W → Calls Tryz.prog 141 #[.slice lo ll lcap, .int .i64 n] W (Bk W .nilIface))
    (hW : ∀ (M : Nat → Int) W, M ∈ everyC n → Calls Tryz.prog 121 #[.agg #[.int .i64 (M 0), .int .i64 (M 1), .int .i64 (M 2), .int .i64 (M 3), .int .i64 (M 4), .int .i64 (M 5), .int .i64 (M 6), .int .i64 (M 7)]] W (Bk W (.tuple #[.agg #[.int .i64 (madeN M 8).u, .int .i64 (madeN M 8).a, .int .i64 (madeN M 8).b, .int .i64 (madeN M 8).c], .nilIface])))
    (hH : ∀ (M : Nat → Int) W, M ∈ everyC n → Bw w W → Calls Tryz.prog 191 #[.slice lo ll lcap, .agg #[.int .i64 (madeN M 8).u, .int .i64 (madeN M 8).a, .int .i64 (madeN M 8).b, .int .i64 (madeN M 8).c]] W (Bk W (.tuple #[.int .i64 (p M), .nilIface]))) :
    Calls Tryz.prog 172 #[.slice lo ll lcap, .int .i64 n] w fun e w' => (∃ v, e = .returned (.tuple #[v, .nilIface]) ∧ Reads w' v ((everyC n).map p)) ∧ Bw w w' := by
 obtain ⟨A, hA⟩ := nm (everyC n)
 have HC := hide hC
 have HWo : Hid (∀ (k : Nat) (M : Nat → Int) W, A[k]? = some M → Calls Tryz.prog 121 #[.agg #[.int .i64 (M 0), .int .i64 (M 1), .int .i64 (M 2), .int .i64 (M 3), .int .i64 (M 4), .int .i64 (M 5), .int .i64 (M 6), .int .i64 (M 7)]] W (Bk W (.tuple #[.agg #[.int .i64 (madeN M 8).u, .int .i64 (madeN M 8).a, .int .i64 (madeN M 8).b, .int .i64 (madeN M 8).c], .nilIface]))) := fun k M W hM => hW M W (by rw [hA] at hM; exact List.mem_of_getElem? hM)
 have HH : Hid (∀ (k : Nat) (M : Nat → Int) W, A[k]? = some M → Bw w W → Calls Tryz.prog 191 #[.slice lo ll lcap, .agg #[.int .i64 (madeN M 8).u, .int .i64 (madeN M 8).a, .int .i64 (madeN M 8).b, .int .i64 (madeN M 8).c]] W (Bk W (.tuple #[.int .i64 (p M), .nilIface]))) := fun k M W hM hW' => hH M W (by rw [hA] at hM; exact List.mem_of_getElem? hM) hW'
 have HS : Hid (∀ Bu W, W.cell? ⟨Bu, 0, none⟩ = some (.int .i64 n) → SeqR 2 Tryz.prog 118 #[.pointer (some ⟨Bu, 0, none⟩)] enc8 A W) := fun Bu W hB => by rw [hA]; exact iter_any n hn 2 (by omega) Bu W hB
 have HLn : Hid (A.length ≤ 1716) := by unfold Hid; rw [hA]; exact length_everyC hn
 rw [← hA]
 clear hA hn hC hH hW
 obtain ⟨hs1, b0, b1, b2, hB1⟩ := held_new w (.cells #[.slice lo ll lcap] 25) (.cells #[.slice none 0 0] 62) (.cells #[.nilIface] 34)
 obtain ⟨w1, hw1⟩ := nm (((w.alloc (.cells #[.slice lo ll lcap] 25)).alloc (.cells #[.slice none 0 0] 62)).alloc (.cells #[.nilIface] 34))
 rw [← hw1] at hs1 b0 b1 b2 hB1
 have HB1 := hide hB1
 have Hs1 := hide hs1
 have I0 : Hid (Blk w1 w.heap.size 25 #[.slice lo ll lcap]) := b0
 have I1 : Hid (Blk w1 (w.heap.size + 1) 62 #[.slice none 0 0]) := b1
 have I2 : Hid (Blk w1 (w.heap.size + 1 + 1) 34 #[.nilIface]) := b2
 clear hs1 b0 b1 b2 hB1
 refine (callsIn_wide (n := 3)).1 ?_
 refine callsIn_of_wp_marks Tryz.func172 rfl trivial ?_ rfl
 simp only [Tryz.ntmps172, List.size_toArray, List.length_cons, List.length_nil, Nat.reduceAdd, Nat.reduceSub, Array.replicate_succ, Array.replicate_zero, List.push_toArray, List.append_toArray, List.nil_append, List.cons_append]
 gi_upto_region 1 with fail
 rw [← hw1]
 clear hw1
 have i0 : w1.cell? ⟨w.heap.size, 0, none⟩ = some (.slice lo ll lcap) := I0.out.cell 0
 gi_wp2_with fail
 refine ⟨trivial, ?_⟩
 gi_at_call 141
 refine (callsIn_wide.2 (HC.out _ HB1.out)).mono ?_
 rintro e w2 ⟨rfl, hb2⟩
 have HB2 := bt HB1 hb2
 have J0 := hide (I0.out.below hb2)
 have J1 := hide (I1.out.below hb2)
 have J2 := hide (I2.out.below hb2)
 obtain ⟨G, hG⟩ := nm w2.heap.size
 have HG : Hid (w.heap.size + 3 ≤ G) := by unfold Hid; rw [hG, ← Hs1.out]; exact hb2.size
 clear hb2 i0
 gi_wp2_with fail
 refine ⟨trivial, ?_⟩
 gi_at_call 80
 refine (callsIn_wide.2 (fitAll_any _ _)).mono ?_
 rintro e w4 ⟨rfl, rfl⟩
 gi_wp2_with fail
 obtain ⟨wl, hwl⟩ := nm ((w2.alloc (.cells #[.slice none 0 0] 62)).alloc (.cells #[.int .i64 n] 3))
 have HB0 : Hid (Bw w wl) := by unfold Hid; rw [hwl]; exact (HB2.out.alloc HB2.out.size _).alloc (by rw [World.size_alloc]; exact Nat.le_succ_of_le HB2.out.size) _
 have Hsz : Hid (wl.heap.size = G + 2) := by unfold Hid; rw [hwl, hG, World.size_alloc, World.size_alloc]
 have H0 : Hid (Blk wl w.heap.size 25 #[.slice lo ll lcap]) := by unfold Hid; rw [hwl]; exact (J0.out.old _).old _
 have H1 : Hid (Blk wl (w.heap.size + 1) 62 #[.slice none 0 0]) := by unfold Hid; rw [hwl]; exact (J1.out.old _).old _
 have H2 : Hid (Blk wl (w.heap.size + 1 + 1) 34 #[.nilIface]) := by unfold Hid; rw [hwl]; exact (J2.out.old _).old _
 have H3 : Hid (Blk wl G 62 #[.slice none 0 0]) := by unfold Hid; rw [hwl, hG]; exact (Blk.new _ _ _).old _
 have H4 : Hid (Blk wl (G + 1) 3 #[.int .i64 n]) := by
  unfold Hid; rw [hwl, hG]
  have := Blk.new (w2.alloc (.cells #[.slice none 0 0] 62)) 3 #[.int .i64 n]
  rw [World.size_alloc] at this
  exact this
 rw [← hwl, ← hG]
 clear hwl hG
 refine wpIn_range_ownR (by omega) (gf := 118) (lb := #[.pointer (some ⟨G + 1, 0, none⟩)]) rfl (enters_of Tryz.func118 (by kernel_rfl) rfl) (encs := enc8) (A := A)
  (fun W hW => HS.out _ W ((hW.cell (by rw [Hsz.out]; simp)).trans (H4.out.cell 0))) (fun _ => rfl)
  (fun k R W => Bw w W ∧ Blk W w.heap.size 25 #[.slice lo ll lcap] ∧ Blk W (w.heap.size + 1) 62 #[.slice none 0 0] ∧ Blk W (w.heap.size + 1 + 1) 34 #[.nilIface] ∧ ∃ v, Blk W G 62 #[v] ∧ W.ownsRow (G + 2) 3 1 v ((A.take k).map p).length (((A.take k).map p).map (Value.int .i64)) ∧ ∀ b, v.ownBlock = some b → R b)
  (fun _ _ => False)
  (fun k R X Y h hb => by
   obtain ⟨h1, h2, h3, h4, v, h5, h6, h7⟩ := h
   have hg := HG.out
   have hz := Hsz.out
   refine ⟨h1.trans (hb.below.mono (by omega)), h2.keep hb.below (by omega), h3.keep hb.below (by omega), h4.keep hb.below (by omega), v, h5.keep hb.below (by omega), own_keep h6 fun b e => hb.own b (h7 b e) (h6.lt b e).2, h7⟩)
  (fun _ _ _ h _ => h) ⟨HB0.out, H0.out, H1.out, H2.out, .slice none 0 0, H3.out, World.ownsRow_nil _ _ _ _, fun b e => by cases e⟩ ?round ?done ?stop
 case round =>
  intro ln k x R W hx hl1 hl2 hlR ⟨hB, c0, c1, c2, v, c3, c4, c5⟩
  have HX := hide hx
  have HkL : Hid (k < A.length) := (List.getElem?_eq_some_iff.1 hx).1
  have Hl1 : Hid (G + 2 ≤ ln) := by unfold Hid; rw [← Hsz.out]; exact hl1
  have Hl2 := hide hl2
  have HlR := hide hlR
  have HBk := hide hB
  have C0 : Hid (Blk W w.heap.size 25 #[.slice lo ll lcap]) := c0
  have C1 : Hid (Blk W (w.heap.size + 1) 62 #[.slice none 0 0]) := c1
  have C2 : Hid (Blk W (w.heap.size + 1 + 1) 34 #[.nilIface]) := c2
  have C3 : Hid (Blk W G 62 #[v]) := c3
  have C5 := hide c5
  obtain ⟨l, hl⟩ := nm ((A.take k).map p)
  have HLl : Hid (l.length = k) := by unfold Hid; rw [hl, List.length_map, List.length_take]; have := HkL.out; omega
  have HLs : Hid ((A.take (k + 1)).map p = l ++ [p x]) := by
   unfold Hid; rw [List.take_add_one, hx, List.map_append, ← hl]; rfl
  rw [← hl] at c4
  have C4 := hide c4
  clear hx hl1 hl2 hlR hB c0 c1 c2 c3 c4 c5 hl
  unfold enc8
  gi_wp2
  refine ⟨(Over.refl _ _).alloc _, fun o => ?_⟩
  obtain ⟨W2, hW2⟩ := nm ((W.alloc (.cells #[.int .i64 (x 0), .int .i64 (x 1), .int .i64 (x 2), .int .i64 (x 3), .int .i64 (x 4), .int .i64 (x 5), .int .i64 (x 6), .int .i64 (x 7)] 60)).putObj ln o)
  obtain ⟨Gx, hGx⟩ := nm W.heap.size
  have HB2 : Hid (Bw w W2) := by unfold Hid; rw [hW2]; exact (HBk.out.alloc HBk.out.size _).trans (below_putObj _ _ (by have := Hl1.out; have := HG.out; omega))
  have D0 : Hid (Blk W2 w.heap.size 25 #[.slice lo ll lcap]) := by unfold Hid; rw [hW2]; exact (C0.out.old _).putO _ (by have := Hl1.out; have := HG.out; omega)
  have D1 : Hid (Blk W2 (w.heap.size + 1) 62 #[.slice none 0 0]) := by unfold Hid; rw [hW2]; exact (C1.out.old _).putO _ (by have := Hl1.out; have := HG.out; omega)
  have D2 : Hid (Blk W2 (w.heap.size + 1 + 1) 34 #[.nilIface]) := by unfold Hid; rw [hW2]; exact (C2.out.old _).putO _ (by have := Hl1.out; have := HG.out; omega)
  have D3 : Hid (Blk W2 G 62 #[v]) := by unfold Hid; rw [hW2]; exact (C3.out.old _).putO _ (by have := Hl1.out; omega)
  have D4 : Hid (W2.ownsRow (G + 2) 3 1 v l.length (l.map (Value.int .i64))) := by
   unfold Hid; rw [hW2]
   refine own_keep (C4.out.alloc _) fun b e => World.putObj_heap_other fun e' => HlR.out (C5.out _ (e' ▸ e))
  have D8 : Hid (Blk W2 Gx 60 (arr8 x)) := by unfold Hid; rw [hW2, hGx]; exact (Blk.new _ _ _).putO _ (by have := Hl2.out; omega)
  have HS2 : Hid (G + 2 ≤ W2.heap.size) := by unfold Hid; rw [hW2]; have := Hl1.out; have := Hl2.out; simp; omega
  rw [← hW2, ← hGx]
  clear hW2 hGx
  have HWk := hide (HWo.out k x W2 HX.out)
  have HHk : Hid (∀ W, Bw w W → Calls Tryz.prog 191 #[.slice lo ll lcap, .agg #[.int .i64 (madeN x 8).u, .int .i64 (madeN x 8).a, .int .i64 (madeN x 8).b, .int .i64 (madeN x 8).c]] W (Bk W (.tuple #[.int .i64 (p x), .nilIface]))) := fun W hW => HH.out k x W HX.out hW
  obtain ⟨D, hD⟩ := nm (madeN x 8)
  obtain ⟨q, hq⟩ := nm (p x)
  rw [← hD] at HWk HHk
  rw [← hq] at HHk HLs
  clear hD hq
  obtain ⟨x0, x1, x2, x3, x4, x5, x6, x7⟩ := D8.out.cells8
  gi_wp2_with fail
  refine ⟨trivial, ?_⟩
  gi_at_call 121
  refine (CallsIn.inRound ln (callsIn_wide.2 HWk.out)).mono ?_
  rintro e W3 ⟨rfl, hb3⟩
  obtain ⟨W4, hW4⟩ := nm (W3.alloc (.cells #[.int .i64 D.u, .int .i64 D.a, .int .i64 D.b, .int .i64 D.c] 58))
  obtain ⟨Gw, hGw⟩ := nm W3.heap.size
  have hb4 : Bw W2 W4 := by rw [hW4]; exact hb3.alloc hb3.size _
  have HB4 := bt HB2 hb4
  have E0 := hide (D0.out.below hb4)
  have E1 := hide (D1.out.below hb4)
  have E2 := hide (D2.out.below hb4)
  have E3 := hide (D3.out.below hb4)
  have E4 : Hid (W4.ownsRow (G + 2) 3 1 v l.length (l.map (Value.int .i64))) := ownsRow_below D4.out hb4
  have E9 : Hid (Blk W4 Gw 58 #[.int .i64 D.u, .int .i64 D.a, .int .i64 D.b, .int .i64 D.c]) := by unfold Hid; rw [hW4, hGw]; exact Blk.new _ _ _
  have HO4 := hide hb4
  clear hb3 hb4 x0 x1 x2 x3 x4 x5 x6 x7
  gi_upto_region 10 with fail
  rw [← hW4, ← hGw]
  clear hW4 hGw
  have y0 : W4.cell? ⟨w.heap.size, 0, none⟩ = some (.slice lo ll lcap) := E0.out.cell 0
  have z0 : W4.cell? ⟨Gw, 0, none⟩ = some (.int .i64 D.u) := E9.out.cell 0
  have z1 : W4.cell? ⟨Gw, 1, none⟩ = some (.int .i64 D.a) := E9.out.cell 1
  have z2 : W4.cell? ⟨Gw, 2, none⟩ = some (.int .i64 D.b) := E9.out.cell 2
  have z3 : W4.cell? ⟨Gw, 3, none⟩ = some (.int .i64 D.c) := E9.out.cell 3
  gi_wp2_with fail
  refine ⟨trivial, ?_⟩
  gi_at_call 191
  refine (CallsIn.inRound ln (callsIn_wide.2 (HHk.out _ HB4.out))).mono ?_
  rintro e W5 ⟨rfl, hb5⟩
  have HB5 := bt HB4 hb5
  have F0 := hide (E0.out.below hb5)
  have F1 := hide (E1.out.below hb5)
  have F2 := hide (E2.out.below hb5)
  have F3 := hide (E3.out.below hb5)
  have F4 : Hid (W5.ownsRow (G + 2) 3 1 v l.length (l.map (Value.int .i64))) := ownsRow_below E4.out hb5
  have HO5 := bt HO4 hb5
  clear hb5 y0 z0 z1 z2 z3
  have y3 : W5.cell? ⟨G, 0, none⟩ = some v := F3.out.cell 0
  have hl12 : l.length ≤ 1000000 := by have := HLl.out; have := HkL.out; have := HLn.out; omega
  have HS5 : Hid (G + 2 ≤ W5.heap.size) := Nat.le_trans HS2.out HO5.out.size
  gi_wp2_with (gi_at_builtin; refine appendIn_long rfl _ _ rfl (G + 2) v rfl l q W5.heap.size 1 rfl (F4.out.alloc _) (heap_alloc_new W5 _) (by have := HS5.out; simp; omega) hl12 ?_)
  intro v9 W7 hown hgrow hat
  obtain ⟨vo, vn, vc, hv9⟩ := held_slice hown
  subst hv9
  obtain ⟨v9, hv9⟩ := nm (Value.slice vo vn vc)
  rw [← hv9] at hown hat
  obtain ⟨W6, hW6⟩ := nm (W5.alloc (.cells #[.int .i64 q] 3))
  rw [← hW6] at hgrow
  have hb6 : Bw W2 W6 := by rw [hW6]; exact HO5.out.alloc HO5.out.size _
  have hB6 : Bw w W6 := HB2.out.trans (hb6.mono HB2.out.size)
  have hge : ∀ b, v.ownBlock = some b → G + 2 ≤ b := fun b e => (F4.out.lt b e).1
  have hB7 : Bw w W7 := hB6.grown hgrow hB6.size fun b e => by have := hge b e; have := HG.out; omega
  have keep : ∀ g T cs, Blk W2 g T cs → g < G + 2 → Blk W7 g T cs := fun g T cs h hg => by
   have h6 := h.below hb6
   unfold Blk
   rw [hgrow.block g h6.lt fun e => by have := hge g e.symm; omega]
   exact h6
  have hO7 : OverR R wl.heap.size W2 W7 := ⟨Nat.le_trans hb6.size hgrow.size, fun b hb hl hr => by
   rw [hgrow.block b (Nat.lt_of_lt_of_le hl hb6.size) fun e => hr (C5.out b e.symm)]
   exact hb6.block b hl⟩
  have hat' : ∀ b, v9.ownBlock = some b → R b ∨ W2.heap.size ≤ b := fun b e => by
   rcases hat with h | h
   ·exact Or.inl (C5.out b (h ▸ e))
   ·rw [h] at e
    have := Option.some.inj e
    have := HO5.out.size
    right; omega
  have H7 : Hid (Bw w W7 ∧ Blk W7 w.heap.size 25 #[.slice lo ll lcap] ∧ Blk W7 (w.heap.size + 1) 62 #[.slice none 0 0] ∧ Blk W7 (w.heap.size + 1 + 1) 34 #[.nilIface] ∧ Blk W7 G 62 #[v] ∧ OverR R wl.heap.size W2 W7 ∧ ∀ b, v9.ownBlock = some b → R b ∨ W2.heap.size ≤ b) :=
   ⟨hB7, keep _ _ _ D0.out (by have := HG.out; omega), keep _ _ _ D1.out (by have := HG.out; omega), keep _ _ _ D2.out (by have := HG.out; omega), keep _ _ _ D3.out (by omega), hO7, hat'⟩
  have H9 : Hid (W7.ownsRow (G + 2) 3 1 v9 ((A.take (k + 1)).map p).length (((A.take (k + 1)).map p).map (Value.int .i64))) := by
   unfold Hid; rw [HLs.out, List.length_append, List.map_append]; exact hown
  clear hown hgrow hat hW6 hb6 hB6 hge hB7 keep hO7 hat' y3
  have y3 : W7.cell? ⟨G, 0, none⟩ = some v := H7.out.2.2.2.2.1.cell 0
  have z3 : W7.frozen? ⟨G, 0, none⟩ = false := H7.out.2.2.2.2.1.frozen 0
  have HV9 := hide hv9
  clear hv9
  gi_wp2
  rw [← HV9.out]
  obtain ⟨q0, q1, q2, q3, q4, q5, q6⟩ := H7.out
  have hg := HG.out
  have hz := Hsz.out
  refine ⟨q5.trans (OverR.of ((Over.refl _ _).setCell (by rw [hz]; simp) _)), fun b => v9.ownBlock = some b, ⟨q0.setCell (by simp; omega) _, q1.far (by omega) _ _, q2.far (by omega) _ _, q3.far (by omega) _ _, v9, ?_, ?_, fun b e => e⟩, q6⟩
  ·exact q4.set 0 v9
  ·refine own_keep H9.out fun b e => Below.heap_setCell _ _ _ _ ?_
   have := (H9.out.lt b e).1
   simp; omega
 case done =>
  intro D R W hD hDR ⟨hB, c0, c1, c2, v, c3, c4, c5⟩ hK
  obtain ⟨vo, vn, vc, rfl⟩ := held_slice c4
  have HD : Hid (G + 2 ≤ D) := by unfold Hid; rw [← Hsz.out]; exact hD
  have HK := hide hK
  have HBk := hide hB
  rw [List.take_length] at c4
  have C1 : Hid (Blk W (w.heap.size + 1) 62 #[.slice none 0 0]) := c1
  have C2 : Hid (Blk W (w.heap.size + 1 + 1) 34 #[.nilIface]) := c2
  have C3 : Hid (Blk W G 62 #[.slice vo vn vc]) := c3
  have C4 := hide c4
  have HDR : Hid ((Value.slice vo vn vc).ownBlock ≠ some D) := fun e => hDR (c5 D e)
  clear hD hB c0 c1 c2 c3 c4 c5 hK hDR
  have e1 : W.cell? ⟨w.heap.size + 1, 0, none⟩ = some (.slice none 0 0) := C1.out.cell 0
  have z1 : W.frozen? ⟨w.heap.size + 1, 0, none⟩ = false := C1.out.frozen 0
  have e2 : W.cell? ⟨w.heap.size + 1 + 1, 0, none⟩ = some .nilIface := C2.out.cell 0
  have z2 : W.frozen? ⟨w.heap.size + 1 + 1, 0, none⟩ = false := C2.out.frozen 0
  have e3 : W.cell? ⟨G, 0, none⟩ = some (.slice vo vn vc) := C3.out.cell 0
  gi_wp2
  have hd := HD.out
  have hg := HG.out
  have hK' : ((W.setCell ⟨w.heap.size + 1, 0, none⟩ (.slice vo vn vc)).setCell ⟨w.heap.size + 1 + 1, 0, none⟩ .nilIface).heap[D]? = some (.deferred (some [])) := by
   rw [Below.heap_setCell _ _ _ _ (by simp; omega), Below.heap_setCell _ _ _ _ (by simp; omega)]; exact HK.out
  have r1 : Blk ((W.setCell ⟨w.heap.size + 1, 0, none⟩ (.slice vo vn vc)).setCell ⟨w.heap.size + 1 + 1, 0, none⟩ .nilIface) (w.heap.size + 1) 62 #[.slice vo vn vc] := (C1.out.set 0 _).far (by omega) _ _
  have r2 : Blk ((W.setCell ⟨w.heap.size + 1, 0, none⟩ (.slice vo vn vc)).setCell ⟨w.heap.size + 1 + 1, 0, none⟩ .nilIface) (w.heap.size + 1 + 1) 34 #[.nilIface] := (C2.out.far (by omega) _ _).set 0 _
  refine ⟨by simp, .inl ⟨_, _, rfl, run_takeDeferred hK', ?_⟩⟩
  have l1 := loadS (r1.putO (.deferred none) (l := D) (by omega))
  have l2 := loadE (r2.putO (.deferred none) (l := D) (by omega))
  refine ⟨.tuple #[.slice vo vn vc, .nilIface], ?_, ⟨_, rfl, ?_⟩, ?_⟩
  ·rw [results_two rfl]
   simp [asAddr, Result.andThen, l1, l2]
  ·refine own_readsL (own_keep C4.out fun b e => ?_) (by rw [List.length_map]; have := HLn.out; omega)
   have hge := (C4.out.lt b e).1
   rw [World.putObj_heap_other (show b ≠ D from fun e' => HDR.out (e' ▸ e)), Below.heap_setCell _ _ _ _ (by simp; omega), Below.heap_setCell _ _ _ _ (by simp; omega)]
  ·exact ((HBk.out.setCell (by simp) _).setCell (by simp; omega) _).trans (below_putObj _ _ (by omega))
 case stop => exact fun _ _ _ _ _ h => h.elim
theorem held_wrong (lo : Option Addr) (ll lcap : Nat) (u F : Int) (w : World)
    (hC : ∀ W, Bw w W → Calls Tryz.prog 141 #[.slice lo ll lcap, .int .i64 u] W (Bk W (.iface 91 (.int .i64 F)))) :
    Calls Tryz.prog 172 #[.slice lo ll lcap, .int .i64 u] w (Bk w (.tuple #[.slice none 0 0, .iface 91 (.int .i64 F)])) := by
 have HC := hide hC
 clear hC
 obtain ⟨hs1, b0, b1, b2, hB1⟩ := held_new w (.cells #[.slice lo ll lcap] 25) (.cells #[.slice none 0 0] 62) (.cells #[.nilIface] 34)
 obtain ⟨w1, hw1⟩ := nm (((w.alloc (.cells #[.slice lo ll lcap] 25)).alloc (.cells #[.slice none 0 0] 62)).alloc (.cells #[.nilIface] 34))
 rw [← hw1] at hs1 b0 b1 b2 hB1
 have HB1 := hide hB1
 have I0 : Hid (Blk w1 w.heap.size 25 #[.slice lo ll lcap]) := b0
 have I1 : Hid (Blk w1 (w.heap.size + 1) 62 #[.slice none 0 0]) := b1
 have I2 : Hid (Blk w1 (w.heap.size + 1 + 1) 34 #[.nilIface]) := b2
 clear hs1 b0 b1 b2 hB1
 go_enter Tryz.func172, Tryz.ntmps172
 go_upto_region 1 with fail
 rw [← hw1]
 clear hw1
 have i0 : w1.cell? ⟨w.heap.size, 0, none⟩ = some (.slice lo ll lcap) := I0.out.cell 0
 go_wp2_with fail
 go_at_call 141
 refine (HC.out _ HB1.out).mono ?_
 rintro e w2 ⟨rfl, hb2⟩
 have HB2 := bt HB1 hb2
 have J1 := hide (I1.out.below hb2)
 have J2 := hide (I2.out.below hb2)
 clear hb2 i0
 have e1 : w2.cell? ⟨w.heap.size + 1, 0, none⟩ = some (.slice none 0 0) := J1.out.cell 0
 have z1 : w2.frozen? ⟨w.heap.size + 1, 0, none⟩ = false := J1.out.frozen 0
 have e2 : w2.cell? ⟨w.heap.size + 1 + 1, 0, none⟩ = some .nilIface := J2.out.cell 0
 have z2 : w2.frozen? ⟨w.heap.size + 1 + 1, 0, none⟩ = false := J2.out.frozen 0
 go_wp2
 have r1 : Blk ((w2.setCell ⟨w.heap.size + 1, 0, none⟩ (.slice none 0 0)).setCell ⟨w.heap.size + 1 + 1, 0, none⟩ (.iface 91 (.int .i64 F))) (w.heap.size + 1) 62 #[.slice none 0 0] := (J1.out.set 0 _).far (by omega) _ _
 have r2 : Blk ((w2.setCell ⟨w.heap.size + 1, 0, none⟩ (.slice none 0 0)).setCell ⟨w.heap.size + 1 + 1, 0, none⟩ (.iface 91 (.int .i64 F))) (w.heap.size + 1 + 1) 34 #[.iface 91 (.int .i64 F)] := (J2.out.far (by omega) _ _).set 0 _
 have l1 := loadS r1
 have l2 := loadE r2
 refine bodyPost_ret (v := .tuple #[.slice none 0 0, .iface 91 (.int .i64 F)]) ?_ rfl ⟨rfl, ?_⟩
 ·rw [results_two rfl]
  simp [asAddr, Result.andThen, l1, l2]
 ·exact (HB2.out.setCell (by simp) _).setCell (by simp; omega) _
theorem heldIn_any (v : Value) (fs : List Fm) (u : Int) (w : World) (hF : ReadsF w v fs) (hK : KindsLaid w) :
    Calls Tryz.prog 172 #[v, .int .i64 u] w fun e w' => (∃ x, e = .returned (.tuple #[x, errV (formsFault fs u)]) ∧ Reads w' x (if formsFault fs u = 0 then heldL fs u.toNat else [])) ∧ Bw w w' := by
 have hC := fun W hW => coreCheck_any v fs u W (hF.below hW) (hK.below hW)
 have hH := fun h1 h2 (D : Wd) h3 W hW => holding_any v fs h1 h2 D h3 W (hF.below hW) (hK.below hW)
 obtain ⟨lo, lcap, rfl, _⟩ := hF.slice
 by_cases hf : formsFault fs u = 0
 ·obtain ⟨⟨_, h6⟩, hg, hu⟩ := forms_zero.1 hf
  obtain ⟨n, rfl⟩ := Int.eq_ofNat_of_zero_le hu.1
  rw [hf] at hC ⊢
  rw [if_pos rfl, Int.toNat_natCast]
  refine held_right lo _ lcap n (by omega) (fun N => maskTo (holdsAt fs (madeN N 8)) fs.length) w hC (fun M W hM => ?_) fun M W hM hW => hH hg h6 (madeN M 8) (made_ok (everyC_right (by omega) hM)) W hW
  have h0 : countsFault M = 0 := everyC_right (by omega) hM
  have h := fworld_any M W
  have e : madeW M = madeN M 8 := by unfold madeW; rw [if_pos h0]
  rw [h0, e] at h
  exact h
 ·have e : errV (formsFault fs u) = .iface 91 (.int .i64 (formsFault fs u)) := by unfold errV; rw [if_neg hf]
  rw [e] at hC ⊢
  rw [if_neg hf]
  exact (held_wrong lo _ lcap u _ w hC).mono fun e w' ⟨h1, h2⟩ => ⟨⟨_, h1, Or.inl ⟨none, 0, rfl, rfl⟩⟩, h2⟩
end Go.Proofs.YtnoohlibgaeklaaGreatDoor
namespace Go.Proofs.YtnoohlibgaeklaaGreatDoor
open Go.ChangeShapes Go.WideShapes Go.ChangeAt Go.RowKit
set_option maxRecDepth 100000
set_option maxHeartbeats 16000000
theorem open_bits {fs : List Fm} (h6 : fs.length ≤ 6) (u : Nat) : ((heldL fs u).any fun h => decide (bits .and .i64 h (maskTo (fun _ => true) fs.length) = maskTo (fun _ => true) fs.length)) = openN fs u := by
 have h := held_open h6 u (fun _ => false)
 rw [left_all] at h
 exact h
theorem coreOpen_any (v : Value) (fs : List Fm) (u : Int) (w : World) (hF : ReadsF w v fs) (hK : KindsLaid w) :
    Calls Tryz.prog 140 #[v, .int .i64 u] w (Bk w (.tuple #[.bool (openB fs u), errV (formsFault fs u)])) := by
 have hH := heldIn_any v fs u w hF hK
 obtain ⟨lo, lcap, rfl, _⟩ := hF.slice
 by_cases hf : formsFault fs u = 0
 ·obtain ⟨⟨_, h6⟩, _, _⟩ := forms_zero.1 hf
  have e : openB fs u = openN fs u.toNat := by unfold openB; rw [if_pos hf]
  rw [hf, if_pos rfl] at hH
  rw [hf, e]
  have HH : Hid (Calls Tryz.prog 172 #[.slice lo fs.length lcap, .int .i64 u] w fun e w' => (∃ x, e = .returned (.tuple #[x, .nilIface]) ∧ Reads w' x (heldL fs u.toNat)) ∧ Bw w w') := hH
  have HAl : Hid (∀ W, Calls Tryz.prog 174 #[.slice lo fs.length lcap] W (Sk W (.int .i64 (maskTo (fun _ => true) fs.length)))) := fun W => coreAll_any lo _ lcap h6 W
  have HOp : Hid (∀ x W, Reads W x (heldL fs u.toNat) → Calls Tryz.prog 173 #[x, .int .i64 (maskTo (fun _ => true) fs.length)] W (Bk W (.bool (openN fs u.toNat)))) := fun x W hx => by
   have h := isOpen_any x _ (maskTo (fun _ => true) fs.length) W hx
   rw [open_bits h6] at h
   exact h
  obtain ⟨n, hn⟩ := nm fs.length
  obtain ⟨m, hm⟩ := nm (maskTo (fun _ => true) fs.length)
  obtain ⟨t, ht⟩ := nm (heldL fs u.toNat)
  obtain ⟨q, hq⟩ := nm (openN fs u.toNat)
  rw [← hm] at HAl HOp
  rw [← hn] at HH HAl ⊢
  rw [← ht] at HH HOp
  rw [← hq] at HOp ⊢
  clear hH hf h6 e hn hm ht hq hF hK
  go_enter Tryz.func140, Tryz.ntmps140
  go_wp2_with fail
  go_at_call 172
  refine HH.out.mono ?_
  rintro e w1 ⟨⟨x, rfl, hr⟩, hb⟩
  have HB1 := hide hb
  have HO1 := hide (HOp.out x w1 hr)
  obtain ⟨xo, xn, xc, rfl⟩ : ∃ xo xn xc, x = .slice xo xn xc := by
   rcases hr with ⟨ao, cap, rfl, _⟩ | ⟨b, off, cap, rfl, _⟩
   ·exact ⟨_, _, _, rfl⟩
   ·exact ⟨_, _, _, rfl⟩
  clear hb hr
  go_wp2_with fail
  go_at_call 174
  refine (HAl.out _).mono ?_
  rintro e w2 ⟨rfl, rfl⟩
  go_wp2_with fail
  go_at_call 173
  refine HO1.out.mono ?_
  rintro e w2 ⟨rfl, hb⟩
  have HB2 := bt HB1 hb
  clear hb
  go_wp2
  go_ret2
  exact ⟨rfl, HB2.out⟩
 ·have e : openB fs u = false := by unfold openB; rw [if_neg hf]
  have e2 : errV (formsFault fs u) = .iface 91 (.int .i64 (formsFault fs u)) := by unfold errV; rw [if_neg hf]
  rw [if_neg hf, e2] at hH
  rw [e, e2]
  obtain ⟨F, hFd⟩ := nm (formsFault fs u)
  obtain ⟨n, hn⟩ := nm fs.length
  rw [← hFd, ← hn] at hH
  rw [← hFd, ← hn]
  have HH : Hid (Calls Tryz.prog 172 #[.slice lo n lcap, .int .i64 u] w fun e w' => (∃ x, e = .returned (.tuple #[x, .iface 91 (.int .i64 F)]) ∧ Reads w' x []) ∧ Bw w w') := hH
  clear hH hf e e2 hFd hn hF hK
  go_enter Tryz.func140, Tryz.ntmps140
  go_wp2_with fail
  go_at_call 172
  refine HH.out.mono ?_
  rintro e w1 ⟨⟨x, rfl, hr⟩, hb⟩
  have HB1 := hide hb
  obtain ⟨xo, xn, xc, rfl⟩ : ∃ xo xn xc, x = .slice xo xn xc := by
   rcases hr with ⟨ao, cap, rfl, _⟩ | ⟨b, off, cap, rfl, _⟩
   ·exact ⟨_, _, _, rfl⟩
   ·exact ⟨_, _, _, rfl⟩
  clear hb hr
  go_wp2
  go_ret2
  exact ⟨rfl, HB1.out⟩
end Go.Proofs.YtnoohlibgaeklaaGreatDoor
