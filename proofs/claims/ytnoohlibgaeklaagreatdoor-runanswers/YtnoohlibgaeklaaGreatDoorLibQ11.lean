/-
  Facts and contracts that the statement leans on.
-/
import Derived.Test.YtnoohlibgaeklaaGreatDoorLibQ10
import Derived.Test.YtnoohlibgaeklaaGreatDoorLibQ9
import Derived.Deep.AppendLies
import Derived.Deep.RegionLaw
import Derived.Deep.Cut
import Derived.Deep.RegionWith
import Derived.Test.YtnoohlibgaeklaaGreatDoorLibQ4
namespace Go.Proofs.YtnoohlibgaeklaaGreatDoor
open Go.ChangeShapes Go.WideShapes Go.ChangeAt Go.RowKit
set_option maxRecDepth 100000
set_option maxHeartbeats 16000000
def RowF (X : World) (v : Value) (xs : List Value) (n : Nat) : Prop :=
 xs.length = n * 2 ∧ ((n = 0 ∧ v = .slice none 0 0) ∨ ∃ b c, v = .slice (some ⟨b, 0, none⟩) n c ∧ n ≤ c ∧ c ≤ maxLen ∧ b < X.heap.size ∧ ∀ j u, xs[j]? = some u → X.cell? ⟨b, j, none⟩ = some u)
theorem RowF.slice {X : World} {v : Value} {xs : List Value} {n : Nat} (h : RowF X v xs n) : ∃ o c, v = .slice o n c := by
 rcases h.2 with ⟨rfl, rfl⟩ | ⟨b, c, rfl, _⟩
 ·exact ⟨none, 0, rfl⟩
 ·exact ⟨_, c, rfl⟩
theorem RowF.reads {X : World} {v : Value} {xs : List Value} {fs : List Fm} (h : RowF X v xs fs.length) (hc : CellsF X xs fs) (h40 : fs.length ≤ 40) : ReadsF X v fs := by
 rcases h.2 with ⟨h0, rfl⟩ | ⟨b, c, rfl, hcp, hmx, hb, hcell⟩
 ·exact Or.inl ⟨none, 0, rfl, List.eq_nil_of_length_eq_zero h0⟩
 ·rcases Nat.eq_zero_or_pos fs.length with hz | hz
  ·rw [hz]; exact Or.inl ⟨_, _, rfl, List.eq_nil_of_length_eq_zero hz⟩
  ·refine Or.inr ⟨b, 0, c, rfl, hb, hz, ⟨by omega, hcp⟩, fun i f hf => ?_⟩
   obtain ⟨va, vc, ca, cc, hA, hC⟩ := hc.2.2 i f hf
   exact ⟨va, vc, by rw [show 0 + i * 2 = i * 2 by omega]; exact hcell _ _ ca, by rw [show 0 + i * 2 + 1 = i * 2 + 1 by omega]; exact hcell _ _ cc, hA, hC⟩
theorem RowF.take {X : World} {b n m c : Nat} {xs : List Value} (h : RowF X (.slice (some ⟨b, 0, none⟩) n c) xs n) (hm : m ≤ n) : RowF X (.slice (some ⟨b, 0, none⟩) m c) (xs.take (m * 2)) m := by
 obtain ⟨hl, h2⟩ := h
 refine ⟨by rw [List.length_take, hl]; omega, ?_⟩
 rcases h2 with ⟨_, h0⟩ | ⟨b', c', hv, h3, h4, h5, h6⟩
 ·cases h0
 ·cases hv
  refine Or.inr ⟨_, _, rfl, by omega, h4, h5, fun j u hj => ?_⟩
  have : j < m * 2 := by have := (List.getElem?_eq_some_iff.1 hj).1; rw [List.length_take] at this; omega
  rw [List.getElem?_take_of_lt this] at hj
  exact h6 j u hj
theorem own_rowF {S : Nat → Prop} {K : Nat} {W : World} {v : Value} {n : Nat} {xs : List Value} (h : W.ownsRow K 78 2 v n xs) (hS : ∀ b, S b → b < K) : Kp S W (fun X => RowF X v xs n) := fun X hX => by
 refine ⟨h.1, ?_⟩
 rcases h.2 with ⟨rfl, h0⟩ | ⟨g, cap, cur, rfl, hb, hg, h3, h4, h5, h6⟩
 ·exact Or.inl ⟨h0, rfl⟩
 ·have hlt : g < W.heap.size := (Array.getElem?_eq_some_iff.1 hg).1
  have hgX : X.heap[g]? = some (.cells cur 78 (0, 0)) := (hX.block g hlt fun hs => by have := hS g hs; omega).trans hg
  refine Or.inr ⟨g, cap, rfl, h3, h4, Nat.lt_of_lt_of_le hlt hX.size, fun j u hj => ?_⟩
  rw [cell_of_row X g _ cur _ (0, 0) hgX, ← Array.getElem?_toList]
  rw [← h6] at hj
  have : j < n * 2 := by have := (List.getElem?_eq_some_iff.1 hj).1; rw [List.length_take] at this; omega
  rw [List.getElem?_take_of_lt this] at hj
  exact hj
def SaidAt (W : World) (v : Value) (fs : List Fm) : Prop := ∃ xs, RowF W v xs fs.length ∧ CellsF W xs fs
theorem RowF.below {W W' : World} {v : Value} {xs : List Value} {n : Nat} (h : RowF W v xs n) (hb : Bw W W') : RowF W' v xs n := by
 refine ⟨h.1, ?_⟩
 rcases h.2 with h0 | ⟨b, c, h1, h2, h3, h4, h5⟩
 ·exact Or.inl h0
 ·exact Or.inr ⟨b, c, h1, h2, h3, Nat.lt_of_lt_of_le h4 hb.size, fun j u hj => (hb.cell h4).trans (h5 j u hj)⟩
theorem SaidAt.below {W W' : World} {v : Value} {fs : List Fm} (h : SaidAt W v fs) (hb : Bw W W') : SaidAt W' v fs := by
 obtain ⟨xs, h1, h2⟩ := h
 exact ⟨xs, h1.below hb, h2.below hb⟩
theorem SaidAt.reads {W : World} {v : Value} {fs : List Fm} (h : SaidAt W v fs) (h6 : fs.length ≤ 6) : ReadsF W v fs := by
 obtain ⟨xs, h1, h2⟩ := h
 exact h1.reads h2 (by omega)
theorem said_nil (W : World) : SaidAt W (.slice none 0 0) [] := ⟨[], ⟨rfl, Or.inl ⟨rfl, rfl⟩⟩, CellsF.nil W⟩
end Go.Proofs.YtnoohlibgaeklaaGreatDoor
namespace Go.Proofs.YtnoohlibgaeklaaGreatDoor
open Go.ChangeShapes Go.WideShapes Go.ChangeAt Go.RowKit
set_option maxRecDepth 100000
set_option maxHeartbeats 16000000
set_option maxRecDepth 100000
def cellsC (L : List (Nat → Int)) : List Value := L.flatMap fun N => (arr8 N).toList
theorem cellsC_append (L M : List (Nat → Int)) : cellsC (L ++ M) = cellsC L ++ cellsC M := by unfold cellsC; rw [List.flatMap_append]
theorem cellsC_one (N : Nat → Int) : cellsC [N] = (arr8 N).toList := by unfold cellsC; simp
structure PileC (w : World) (O K : Nat) (v : Value) (L : List (Nat → Int)) : Prop where
 box : Blk w O 53 #[v]
 own : w.ownsRow K 60 8 v L.length (cellsC L)
 lt : O < K
structure GrewC (O : Nat) (w w' : World) (v v' : Value) : Prop where
 os : w'.os = w.os
 tape : w'.tape = w.tape
 output : w'.output = w.output
 size : w.heap.size ≤ w'.heap.size
 rest : ∀ b, b < w.heap.size → b ≠ O → v.ownBlock ≠ some b → w'.heap[b]? = w.heap[b]?
 home : v'.ownBlock = v.ownBlock ∨ ∃ g, v'.ownBlock = some g ∧ w.heap.size ≤ g
theorem GrewC.refl (O : Nat) (w : World) (v : Value) : GrewC O w w v v := ⟨rfl, rfl, rfl, Nat.le_refl _, fun _ _ _ _ => rfl, Or.inl rfl⟩
theorem GrewC.trans {O : Nat} {a b c : World} {v v' v'' : Value} (h : GrewC O a b v v') (k : GrewC O b c v' v'') : GrewC O a c v v'' := by
 refine ⟨k.os.trans h.os, k.tape.trans h.tape, k.output.trans h.output, Nat.le_trans h.size k.size, fun i hi hO hv => ?_, ?_⟩
 ·have hv' : v'.ownBlock ≠ some i := by
   rcases h.home with e | ⟨g, e, hg⟩
   ·rw [e]; exact hv
   ·rw [e]; intro e'; have := Option.some.inj e'; omega
  rw [k.rest i (Nat.lt_of_lt_of_le hi h.size) hO hv', h.rest i hi hO hv]
 ·rcases k.home with e | ⟨g, e, hg⟩
  ·rw [e]; exact h.home
  ·exact Or.inr ⟨g, e, Nat.le_trans h.size hg⟩
theorem GrewC.alloc (O : Nat) (w : World) (o : Obj) (v : Value) : GrewC O w (w.alloc o) v v := ⟨rfl, rfl, rfl, by simp, fun i hi _ _ => heap_alloc_old w o hi, Or.inl rfl⟩
theorem GrewC.set {O : Nat} {w w' : World} {v v' : Value} (h : GrewC O w w' v v') {B : Nat} (hB : w.heap.size ≤ B) (j : Nat) (x : Value) : GrewC O w (w'.setCell ⟨B, j, none⟩ x) v v' := by
 refine ⟨h.os, h.tape, h.output, ?_, fun i hi hO hv => ?_, h.home⟩
 ·have := h.size; simpa using this
 ·rw [heap_setCell_other w' ⟨B, j, none⟩ i x (by show i ≠ B; omega)]; exact h.rest i hi hO hv
theorem GrewC.below {O : Nat} {w w' : World} {v v' : Value} (h : GrewC O w w' v v') {B : Nat} (hB : B ≤ w.heap.size) (hO : B ≤ O) (hv : ∀ g, v.ownBlock = some g → B ≤ g) : Below B w w' :=
 ⟨h.os, h.tape, h.output, h.size, fun i hi => h.rest i (by omega) (by omega) fun e => by have := hv i e; omega⟩
theorem PileC.far {w : World} {O K : Nat} {v : Value} {L : List (Nat → Int)} (h : PileC w O K v L) {B : Nat} (hB : B ≠ O) (hv : v.ownBlock ≠ some B) (j : Nat) (x : Value) : PileC (w.setCell ⟨B, j, none⟩ x) O K v L := by
 refine ⟨h.box.far (Ne.symm hB) j x, ⟨h.own.1, ?_⟩, h.lt⟩
 rcases h.own.2 with hn | ⟨g, cap, cur, rfl, hb, hg, rest⟩
 ·exact Or.inl hn
 ·refine Or.inr ⟨g, cap, cur, rfl, hb, ?_, rest⟩
  rw [heap_setCell_other w ⟨B, j, none⟩ g x (by intro e; apply hv; simp only at e; rw [← e]; rfl)]; exact hg
theorem PileC.alloc {w : World} {O K : Nat} {v : Value} {L : List (Nat → Int)} (h : PileC w O K v L) (o : Obj) : PileC (w.alloc o) O K v L := ⟨h.box.old o, h.own.alloc o, h.lt⟩
theorem infoI8 : (Tryz.prog.info? 60).isSome = true := by kernel_rfl
theorem zeroI8 : (Tryz.prog.info? 60).bind (·.zero) = some (.agg #[.int .i64 0, .int .i64 0, .int .i64 0, .int .i64 0, .int .i64 0, .int .i64 0, .int .i64 0, .int .i64 0]) := by kernel_rfl
theorem sizeI8 : (Tryz.prog.info? 60).map (·.size) = some 8 := by kernel_rfl
theorem bytesI8 : (Tryz.prog.info? 60).map (·.bytes) = some 64 := by kernel_rfl
theorem leaf_post {w w1 W0 w2 : World} {O K gg n cap1 : Nat} {v : Value} {L : List (Nat → Int)} {M : Nat → Int} (hg1 : GrewC O w w1 v v) (hb : Bw w1 W0) (hgrow : W0.grownBy w2 v.ownBlock) (bO : Blk w2 O 53 #[v])
    (hown1 : w2.ownsRow K 60 8 (.slice (some ⟨gg, 0, none⟩) (n + 1) cap1) (n + 1) (cellsC L ++ (arr8 M).toList)) (hat : v.ownBlock = some gg ∨ gg = w1.heap.size + 1) (hO : O < K) (hn : n = L.length) :
    PileC (w2.setCell ⟨O, 0, none⟩ (.slice (some ⟨gg, 0, none⟩) (n + 1) cap1)) O K (.slice (some ⟨gg, 0, none⟩) (n + 1) cap1) (L ++ [M]) ∧ GrewC O w (w2.setCell ⟨O, 0, none⟩ (.slice (some ⟨gg, 0, none⟩) (n + 1) cap1)) v (.slice (some ⟨gg, 0, none⟩) (n + 1) cap1) := by
 have hK : K ≤ gg := (hown1.lt gg rfl).1
 have e1 : (L ++ [M]).length = n + 1 := by simp [hn]
 have e2 : cellsC (L ++ [M]) = cellsC L ++ (arr8 M).toList := by rw [cellsC_append, cellsC_one]
 refine ⟨⟨?_, ?_, hO⟩, ?_⟩
 ·have := bO.set 0 (.slice (some ⟨gg, 0, none⟩) (n + 1) cap1)
  simpa using this
 ·rw [e1, e2]
  refine ⟨hown1.1, ?_⟩
  rcases hown1.2 with ⟨h, _⟩ | ⟨g, cap, cur, h, hb', hg, rest⟩
  ·cases h
  ·refine Or.inr ⟨g, cap, cur, h, hb', ?_, rest⟩
   rw [heap_setCell_other w2 ⟨O, 0, none⟩ g _ (by show g ≠ O; omega)]; exact hg
 ·refine ⟨(hgrow.os.trans hb.os).trans hg1.os, (hgrow.tape.trans hb.tape).trans hg1.tape, (hgrow.output.trans hb.output).trans hg1.output, ?_, fun i hi hiO hv => ?_, ?_⟩
  ·have := hg1.size
   have := hb.size
   have := hgrow.size
   simp
   omega
  ·have h1 := hg1.size
   have h2 := hb.size
   rw [heap_setCell_other w2 ⟨O, 0, none⟩ i _ (by show i ≠ O; exact hiO), hgrow.block i (by omega) (fun e => hv e.symm), hb.block i (by omega)]
   exact hg1.rest i hi hiO hv
  ·rcases hat with h | h
   ·exact Or.inl h.symm
   ·exact Or.inr ⟨gg, rfl, by have := hg1.size; omega⟩
theorem all_leaf (u : Nat) (N M : Nat → Int) (O K : Nat) (v : Value) (L : List (Nat → Int)) (w : World) (hM : M = putN N 7 u) (hp : PileC w O K v L) (hK : K ≤ w.heap.size) (hL : L.length + 1 ≤ 1716) :
    Calls Tryz.prog 46 #[.int .i64 u, .int .i64 7, .agg #[.int .i64 (N 0), .int .i64 (N 1), .int .i64 (N 2), .int .i64 (N 3), .int .i64 (N 4), .int .i64 (N 5), .int .i64 (N 6), .int .i64 (N 7)], .pointer (some ⟨O, 0, none⟩)] w fun e w' => e = .returned (.tuple #[]) ∧ ∃ v', PileC w' O K v' (L ++ [M]) ∧ GrewC O w w' v v' := by
 obtain ⟨w1, hw1⟩ := nm (w.alloc (.cells #[.int .i64 (N 0), .int .i64 (N 1), .int .i64 (N 2), .int .i64 (N 3), .int .i64 (N 4), .int .i64 (N 5), .int .i64 (N 6), .int .i64 u] 60))
 have HS1 : Hid (w1.heap.size = w.heap.size + 1) := by unfold Hid; rw [hw1]; simp
 have HN1 : Hid (Blk w1 w.heap.size 60 (arr8 M)) := by
  unfold Hid; rw [hw1, hM]
  have e : arr8 (putN N 7 u) = #[.int .i64 (N 0), .int .i64 (N 1), .int .i64 (N 2), .int .i64 (N 3), .int .i64 (N 4), .int .i64 (N 5), .int .i64 (N 6), .int .i64 u] := by simp [arr8, putN]
  rw [e]
  exact Blk.new _ _ _
 have hvB : v.ownBlock ≠ some w.heap.size := fun e => by have := (hp.own.lt _ e).2; omega
 have hOl := hp.box.lt
 have HP1 : Hid (PileC w1 O K v L) := by unfold Hid; rw [hw1]; exact hp.alloc _
 have HG1 : Hid (GrewC O w w1 v v) := by unfold Hid; rw [hw1]; exact GrewC.alloc O w _ v
 obtain ⟨i8, hi⟩ : ∃ i, Tryz.prog.info? 60 = some i := Option.isSome_iff_exists.1 infoI8
 have hz0 : i8.zero = some (.agg #[.int .i64 0, .int .i64 0, .int .i64 0, .int .i64 0, .int .i64 0, .int .i64 0, .int .i64 0, .int .i64 0]) := by have := zeroI8; rw [hi] at this; simpa using this
 have hz1 : i8.size = 8 := by have := sizeI8; rw [hi] at this; simpa using this
 have hz2 : i8.bytes = 64 := by have := bytesI8; rw [hi] at this; simpa using this
 obtain ⟨q0, q1, q2, q3, q4, q5, q6, q7⟩ := HN1.out.cells8
 have qO : w1.cell? ⟨O, 0, none⟩ = some v := HP1.out.box.cell 0
 obtain ⟨n, hn⟩ := nm L.length
 have HOW : Hid (w1.ownsRow K 60 8 v n (cellsC L)) := by unfold Hid; rw [hn]; exact HP1.out.own
 rw [← hn] at hL
 have HNL := hide hn
 clear hn hM
 have HKeep : Hid (∀ W0 W2, Bw w1 W0 → W0.grownBy W2 v.ownBlock → Blk W2 O 53 #[v] ∧ W2.cell? ⟨O, 0, none⟩ = some v ∧ W2.cell? ⟨w.heap.size, 0, none⟩ = some (.int .i64 (M 0)) ∧ W2.cell? ⟨w.heap.size, 1, none⟩ = some (.int .i64 (M 1)) ∧ W2.cell? ⟨w.heap.size, 2, none⟩ = some (.int .i64 (M 2)) ∧ W2.cell? ⟨w.heap.size, 3, none⟩ = some (.int .i64 (M 3)) ∧ W2.cell? ⟨w.heap.size, 4, none⟩ = some (.int .i64 (M 4)) ∧ W2.cell? ⟨w.heap.size, 5, none⟩ = some (.int .i64 (M 5)) ∧ W2.cell? ⟨w.heap.size, 6, none⟩ = some (.int .i64 (M 6)) ∧ W2.cell? ⟨w.heap.size, 7, none⟩ = some (.int .i64 (M 7)) ∧ W2.frozen? ⟨O, 0, none⟩ = false) := fun W0 W2 hb hg => by
  have hvO : some O ≠ v.ownBlock := fun e => by have := (hp.own.lt _ e.symm).1; have := hp.lt; omega
  have hvB' : some w.heap.size ≠ v.ownBlock := fun e => hvB e.symm
  have hB1 := HN1.out.lt
  have hO1 := HP1.out.box.lt
  have bO : Blk W2 O 53 #[v] := by
   unfold Blk
   rw [hg.block O (Nat.lt_of_lt_of_le hO1 hb.size) hvO, hb.block O hO1]; exact HP1.out.box
  have bN : Blk W2 w.heap.size 60 (arr8 M) := by
   unfold Blk
   rw [hg.block _ (Nat.lt_of_lt_of_le hB1 hb.size) hvB', hb.block _ hB1]; exact HN1.out
  exact ⟨bO, bO.cell 0, bN.cell 0, bN.cell 1, bN.cell 2, bN.cell 3, bN.cell 4, bN.cell 5, bN.cell 6, bN.cell 7, bO.frozen 0⟩
 go_enter Tryz.func46, Tryz.ntmps46
 go_upto_region 3 with fail
 rw [← hw1]
 clear hw1
 have HKs : Hid (K ≤ w1.heap.size) := by unfold Hid; rw [HS1.out]; omega
 have HA1 : Hid (Blk (w1.alloc (.cells #[.int .i64 (M 0), .int .i64 (M 1), .int .i64 (M 2), .int .i64 (M 3), .int .i64 (M 4), .int .i64 (M 5), .int .i64 (M 6), .int .i64 (M 7)] 60)) O 53 #[v]) := HP1.out.box.old _
 have HA2 : Hid (Blk (w1.alloc (.cells #[.int .i64 (M 0), .int .i64 (M 1), .int .i64 (M 2), .int .i64 (M 3), .int .i64 (M 4), .int .i64 (M 5), .int .i64 (M 6), .int .i64 (M 7)] 60)) w.heap.size 60 (arr8 M)) := HN1.out.old _
 have rO : (w1.alloc (.cells #[.int .i64 (M 0), .int .i64 (M 1), .int .i64 (M 2), .int .i64 (M 3), .int .i64 (M 4), .int .i64 (M 5), .int .i64 (M 6), .int .i64 (M 7)] 60)).cell? ⟨O, 0, none⟩ = some v := HA1.out.cell 0
 obtain ⟨r0, r1, r2, r3, r4, r5, r6, r7⟩ := HA2.out.cells8
 go_region_law (refine step_append_lies _ (by rfl) _ _ _ (by rfl) K 60 i8 (.agg #[.int .i64 0, .int .i64 0, .int .i64 0, .int .i64 0, .int .i64 0, .int .i64 0, .int .i64 0, .int .i64 0]) 8 64 Tryz.underlying53 hi hz0 hz1 hz2 rfl (by decide) v n (cellsC L) (by rfl) (HOW.out.alloc _) ⟨w1.heap.size, 0, none⟩ 1 1 (arr8 M).toList (by rfl) (by rfl) (World.news_of_block (cs := arr8 M) (t := 60) (fr := (0, 0)) (heap_alloc_new w1 _)) (by simp [arr8, Value.oneCell']) (by omega) (by unfold maxLen; omega) (by omega) (by have := HKs.out; simp; omega) (w1.heap.size + 1) (by simp) ?_; intro gg cap1 w2 hown1 hgrow hat hlt1; obtain ⟨bO, z8, z0, z1, z2, z3, z4, z5, z6, z7, fz⟩ := HKeep.out _ w2 ((below_alloc1 w1 _).drew) hgrow)
 all_goals
  have HPo : Hid (PileC (w2.setCell ⟨O, 0, none⟩ (.slice (some ⟨gg, 0, none⟩) (n + 1) cap1)) O K (.slice (some ⟨gg, 0, none⟩) (n + 1) cap1) (L ++ [M]) ∧ GrewC O w (w2.setCell ⟨O, 0, none⟩ (.slice (some ⟨gg, 0, none⟩) (n + 1) cap1)) v (.slice (some ⟨gg, 0, none⟩) (n + 1) cap1)) := leaf_post HG1.out ((below_alloc1 w1 _).drew) hgrow bO hown1 hat hp.lt HNL.out
  clear hgrow bO hown1 hat hlt1 z8 z0 z1 z2 z3 z4 z5 z6 z7 fz
  go_wp2
  (try simp only [Exit.inBlock, Exit.then])
  refine bodyPost_ret (results_none rfl _ _ _) rfl ?_
  exact ⟨rfl, _, HPo.out.1, HPo.out.2⟩
theorem refAll_step (r : Nat) (hr : r ≤ 7) : ∀ (u : Nat) (N : Nat → Int) (O K : Nat) (v : Value) (L : List (Nat → Int)) (w : World), u ≤ 6 → PileC w O K v L → K ≤ w.heap.size → L.length + (allF r u N).length ≤ 1716 →
    Calls Tryz.prog 46 #[.int .i64 u, .int .i64 ((7 - r : Nat) : Int), .agg #[.int .i64 (N 0), .int .i64 (N 1), .int .i64 (N 2), .int .i64 (N 3), .int .i64 (N 4), .int .i64 (N 5), .int .i64 (N 6), .int .i64 (N 7)], .pointer (some ⟨O, 0, none⟩)] w fun e w' => e = .returned (.tuple #[]) ∧ ∃ v', PileC w' O K v' (L ++ allF r u N) ∧ GrewC O w w' v v' := by
 induction r with
 | zero =>
  intro u N O K v L w _ hp hK hL
  exact all_leaf u N _ O K v L w rfl hp hK hL
 | succ r ih =>
  intro u N O K v L w hu hp hK hL
  obtain ⟨f, hf⟩ := nm (7 - (r + 1))
  have hf7 : f < 7 := by omega
  have HIH : Hid (∀ (k : Nat) (M : Nat → Int) (v' : Value) (L' : List (Nat → Int)) (W : World), k ≤ u → PileC W O K v' L' → K ≤ W.heap.size → L'.length + (allF r (u - k) M).length ≤ 1716 →
      Calls Tryz.prog 46 #[.int .i64 ((u : Int) - k), .int .i64 ((f : Int) + 1), .agg #[.int .i64 (M 0), .int .i64 (M 1), .int .i64 (M 2), .int .i64 (M 3), .int .i64 (M 4), .int .i64 (M 5), .int .i64 (M 6), .int .i64 (M 7)], .pointer (some ⟨O, 0, none⟩)] W fun e w' => e = .returned (.tuple #[]) ∧ ∃ v'', PileC w' O K v'' (L' ++ allF r (u - k) M) ∧ GrewC O W w' v' v'') := fun k M v' L' W hk h1 h2 h3 => by
   have h := ih (by omega) (u - k) M O K v' L' W (by omega) h1 h2 h3
   have e1 : ((u - k : Nat) : Int) = (u : Int) - k := by omega
   have e2 : ((7 - r : Nat) : Int) = (f : Int) + 1 := by omega
   rw [e1, e2] at h
   exact h
  have HLn : Hid (∀ k, k ≤ u + 1 → (L ++ allTo r u N k).length ≤ 1716) := fun k hk => by
   have := len_allTo_le r u N hk
   rw [List.length_append]; omega
  have HAS : Hid (∀ k, L ++ allTo r u N (k + 1) = (L ++ allTo r u N k) ++ allF r (u - k) (putN N f k)) := fun k => by
   rw [allTo_succ, List.append_assoc, show 6 - r = f by omega]
  have HAE : Hid (L ++ allTo r u N (u + 1) = L ++ allF (r + 1) u N) := by unfold Hid; rw [allTo_all]
  have HA0 : Hid (L ++ allTo r u N 0 = L) := by unfold Hid; rw [allTo_zero, List.append_nil]
  obtain ⟨w1, hw1⟩ := nm (w.alloc (.cells #[.int .i64 (N 0), .int .i64 (N 1), .int .i64 (N 2), .int .i64 (N 3), .int .i64 (N 4), .int .i64 (N 5), .int .i64 (N 6), .int .i64 (N 7)] 60))
  have HP1 : Hid (PileC w1 O K v L) := by unfold Hid; rw [hw1]; exact hp.alloc _
  have HG1 : Hid (GrewC O w w1 v v) := by unfold Hid; rw [hw1]; exact GrewC.alloc O w _ v
  have HN1 : Hid (Blk w1 w.heap.size 60 (arr8 N)) := by unfold Hid; rw [hw1]; exact Blk.new _ _ _
  have HOl := hide (hp.box.lt)
  have HKs := hide hK
  have HvB : Hid (∀ g, v.ownBlock = some g → g < w.heap.size) := fun g e => (hp.own.lt g e).2
  have hf' : ((7 - (r + 1) : Nat) : Int) = (f : Int) := by omega
  rw [hf']
  clear ih hf hf' hp hL hK hr
  have hne : ¬ ((f : Int) = 7) := by omega
  go_enter Tryz.func46, Tryz.ntmps46
  go_wp2
  rw [← hw1]
  clear hw1
  (first | rw [show ((f : Int) == 7) = false by simpa using hne] | rw [show decide ((f : Int) = 7) = false by simpa using hne])
  go_loopw [8] (fun i wr => ∃ (k : Nat) (v' : Value) (x : Int), k ≤ u + 1 ∧ i = .int .i64 k ∧ PileC wr O K v' (L ++ allTo r u N k) ∧ GrewC O w wr v v' ∧ (v'.ownBlock ≠ some w.heap.size) ∧ Blk wr w.heap.size 60 (arr8 (putN N f x))) (fun i _ => u + 1 - (intOf i).toNat)
  case atStart =>
   refine ⟨0, v, N f, by omega, rfl, ?_, HG1.out, fun e => by have := HvB.out _ e; omega, ?_⟩
   ·rw [HA0.out]; exact HP1.out
   ·have e : putN N f (N f) = N := by funext g; unfold putN; split <;> simp_all
    rw [e]; exact HN1.out
  case round =>
   obtain ⟨k, v', x, hk, rfl, hp1, hg1, hv1, hn1⟩ := hrel
   have HP2 := hide hp1
   have HG2 := hide hg1
   have HV2 := hide hv1
   have HN2 : Hid (Blk wr w.heap.size 60 (arr8 (putN N f x))) := hn1
   clear hp1 hg1 hv1 hn1
   by_cases hlt : k ≤ u
   ·have hltz : (k : Int) ≤ (u : Int) := by omega
    have c : wr.cell? ⟨w.heap.size, f, none⟩ = some (.int .i64 x) := by rw [HN2.out.cell, arr8_get _ (by omega), putN_same]
    have z := HN2.out.frozen f
    obtain ⟨M, hM⟩ := nm (putN N f k)
    obtain ⟨w2, hw2⟩ := nm (wr.setCell ⟨w.heap.size, f, none⟩ (.int .i64 k))
    have HN3 : Hid (Blk w2 w.heap.size 60 (arr8 M)) := by
     unfold Hid; rw [hw2, hM]
     have := HN2.out.set f (.int .i64 k)
     have e : (arr8 (putN N f x)).setIfInBounds f (.int .i64 k) = arr8 (putN N f k) := by
      rcases eight (show f < 8 by omega) with rfl | rfl | rfl | rfl | rfl | rfl | rfl | rfl <;> simp [arr8, putN]
     rw [e] at this
     exact this
    have HP3 : Hid (PileC w2 O K v' (L ++ allTo r u N k)) := by unfold Hid; rw [hw2]; exact HP2.out.far (by have := HOl.out; omega) HV2.out _ _
    have HG3 : Hid (GrewC O w w2 v v') := by unfold Hid; rw [hw2]; exact HG2.out.set (Nat.le_refl _) _ _
    have HC : Hid (Calls Tryz.prog 46 #[.int .i64 ((u : Int) - k), .int .i64 ((f : Int) + 1), .agg #[.int .i64 (M 0), .int .i64 (M 1), .int .i64 (M 2), .int .i64 (M 3), .int .i64 (M 4), .int .i64 (M 5), .int .i64 (M 6), .int .i64 (M 7)], .pointer (some ⟨O, 0, none⟩)] w2 fun e w' => e = .returned (.tuple #[]) ∧ ∃ v'', PileC w' O K v'' (L ++ allTo r u N (k + 1)) ∧ GrewC O w w' v v'' ∧ v''.ownBlock ≠ some w.heap.size ∧ Blk w' w.heap.size 60 (arr8 (putN N f k))) := by
     refine (HIH.out k M v' (L ++ allTo r u N k) w2 hlt HP3.out (Nat.le_trans HKs.out HG3.out.size) ?_).mono fun e w' h => ?_
     ·have h1 := HLn.out (k + 1) (by omega)
      rw [HAS.out k, List.length_append] at h1
      rw [hM]; exact h1
     ·obtain ⟨he, v'', h1, h2⟩ := h
      have hl := HN3.out.lt
      refine ⟨he, v'', ?_, HG3.out.trans h2, ?_, ?_⟩
      ·rw [HAS.out k, ← hM]; exact h1
      ·rcases h2.home with e | ⟨g, e, hg⟩
       ·rw [e]; exact HV2.out
       ·rw [e]; intro e'; have := Option.some.inj e'; omega
      ·unfold Blk
       rw [h2.rest _ hl (by have := HOl.out; omega) HV2.out, ← hM]; exact HN3.out
    clear hM
    obtain ⟨q0, q1, q2, q3, q4, q5, q6, q7⟩ := HN3.out.cells8
    go_upto_region 8 with fail
    rw [← hw2]
    clear hw2 c z
    go_wp2_with fail
    go_at_call 46
    refine HC.out.mono ?_
    rintro e w3 ⟨rfl, v3, h1, h2, h3, h4⟩
    have HR : Hid (PileC w3 O K v3 (L ++ allTo r u N (k + 1)) ∧ GrewC O w w3 v v3 ∧ v3.ownBlock ≠ some w.heap.size ∧ Blk w3 w.heap.size 60 (arr8 (putN N f k))) := ⟨h1, h2, h3, h4⟩
    clear h1 h2 h3 h4 q0 q1 q2 q3 q4 q5 q6 q7
    go_wp2
    go_roundw
    case rel => exact ⟨k + 1, v3, k, by omega, by go_num, HR.out.1, HR.out.2.1, HR.out.2.2.1, HR.out.2.2.2⟩
    case measure => simp [intOf]; omega
   ·obtain rfl : k = u + 1 := by omega
    have hltz : ¬ (((u + 1 : Nat) : Int) ≤ (u : Int)) := by omega
    have HR : Hid (PileC wr O K v' (L ++ allF (r + 1) u N)) := by
     unfold Hid; rw [← HAE.out]; exact HP2.out
    go_wp2
    (try simp only [Exit.inBlock, Exit.then])
    refine bodyPost_end (results_none rfl _ _ _) rfl ?_
    exact ⟨rfl, v', HR.out, HG2.out⟩
end Go.Proofs.YtnoohlibgaeklaaGreatDoor
namespace Go.Proofs.YtnoohlibgaeklaaGreatDoor
open Go.ChangeShapes Go.WideShapes Go.ChangeAt Go.RowKit
set_option maxRecDepth 100000
def CntAt (w : World) (b off : Nat) (N : Nat → Int) : Prop := ∀ f, f < 8 → w.cell? ⟨b, off + f, none⟩ = some (.int .i64 (N f))
def Reads8 (w : World) (v : Value) (L : List (Nat → Int)) : Prop :=
 (∃ ao cap, v = .slice ao 0 cap ∧ L = []) ∨ (∃ b off cap, v = .slice (some ⟨b, off, none⟩) L.length cap ∧ b < w.heap.size ∧ 0 < L.length ∧ (L.length ≤ 9223372036854775807 ∧ L.length ≤ cap) ∧ ∀ i N, L[i]? = some N → CntAt w b (off + i * 8) N)
theorem Reads8.below {w w' : World} {v : Value} {L : List (Nat → Int)} (h : Reads8 w v L) (hb : Bw w w') : Reads8 w' v L := by
 rcases h with h | ⟨b, off, cap, h1, h2, h3, h4, h5⟩
 ·exact Or.inl h
 ·exact Or.inr ⟨b, off, cap, h1, Nat.lt_of_lt_of_le h2 hb.size, h3, h4, fun i N hN f hf => by rw [hb.cell h2]; exact h5 i N hN f hf⟩
theorem Reads8.slice {w : World} {v : Value} {L : List (Nat → Int)} (h : Reads8 w v L) : ∃ ao cap, v = .slice ao L.length cap ∧ L.length ≤ 9223372036854775807 := by
 rcases h with ⟨ao, cap, rfl, rfl⟩ | ⟨b, off, cap, rfl, _, _, h, _⟩
 ·exact ⟨ao, cap, rfl, by decide⟩
 ·exact ⟨_, cap, rfl, h.1⟩
theorem cellsC_at (L : List (Nat → Int)) : ∀ (i : Nat) (N : Nat → Int), L[i]? = some N → ∀ f, f < 8 → (cellsC L)[i * 8 + f]? = some (.int .i64 (N f)) := by
 induction L with
 | nil => intro i N h; simp at h
 | cons M L ih =>
  intro i N h f hf
  have e : cellsC (M :: L) = (arr8 M).toList ++ cellsC L := by unfold cellsC; rw [List.flatMap_cons]
  have hl : (arr8 M).toList.length = 8 := rfl
  rw [e]
  cases i with
  | zero =>
   obtain rfl : M = N := by simpa using h
   rw [List.getElem?_append_left (by omega), show 0 * 8 + f = f by omega]
   have := arr8_get M hf
   rw [← Array.getElem?_toList] at this
   exact this
  | succ i =>
   rw [List.getElem?_append_right (by omega), hl, show (i + 1) * 8 + f - 8 = i * 8 + f by omega]
   exact ih i N (by simpa using h) f hf
theorem PileC.reads {w : World} {O K : Nat} {v : Value} {L : List (Nat → Int)} (h : PileC w O K v L) (hL : L.length ≤ 1716) : Reads8 w v L := by
 rcases h.own.2 with ⟨rfl, h0⟩ | ⟨g, cap, cur, rfl, hb, hg, hc, hm, hs, ht⟩
 ·exact Or.inl ⟨none, 0, rfl, List.eq_nil_of_length_eq_zero h0⟩
 ·rcases Nat.eq_zero_or_pos L.length with h0 | h0
  ·have e : L = [] := List.eq_nil_of_length_eq_zero h0
   subst e
   exact Or.inl ⟨_, _, rfl, rfl⟩
  ·refine Or.inr ⟨g, 0, cap, rfl, (Array.getElem?_eq_some_iff.1 hg).1, h0, ⟨by omega, hc⟩, fun i N hN f hf => ?_⟩
   have hi : i < L.length := (List.getElem?_eq_some_iff.1 hN).1
   rw [cell_of_row w g _ cur _ (0, 0) hg]
   have hx := cellsC_at L i N hN f hf
   rw [← ht, List.getElem?_take_of_lt (by omega)] at hx
   rw [show 0 + i * 8 + f = i * 8 + f by omega, ← Array.getElem?_toList]
   exact hx
theorem refAll_any (u : Nat) (hu : u ≤ 6) (w : World) :
    Calls Tryz.prog 17 #[.int .i64 u] w fun e w' => ∃ v, e = .returned v ∧ Reads8 w' v (everyC u) ∧ (∀ g, v.ownBlock = some g → w.heap.size ≤ g) ∧ Bw w w' := by
 obtain ⟨w1, hw1⟩ := nm ((w.alloc (.cells #[.slice none 0 0] 53)).alloc (.cells #[.int .i64 0, .int .i64 0, .int .i64 0, .int .i64 0, .int .i64 0, .int .i64 0, .int .i64 0, .int .i64 0] 60))
 have HB1 : Hid (Bw w w1) := by unfold Hid; rw [hw1]; exact (below_alloc1 _ _).alloc (by simp) _
 have HO1 : Hid (Blk w1 w.heap.size 53 #[.slice none 0 0]) := by unfold Hid; rw [hw1]; exact (Blk.new _ _ _).old _
 have HN1 : Hid (Blk w1 (w.heap.size + 1) 60 #[.int .i64 0, .int .i64 0, .int .i64 0, .int .i64 0, .int .i64 0, .int .i64 0, .int .i64 0, .int .i64 0]) := by
  unfold Hid; rw [hw1]
  have := Blk.new (w.alloc (.cells #[.slice none 0 0] 53)) 60 #[.int .i64 0, .int .i64 0, .int .i64 0, .int .i64 0, .int .i64 0, .int .i64 0, .int .i64 0, .int .i64 0]
  simp only [World.size_alloc] at this
  exact this
 have HS1 : Hid (w1.heap.size = w.heap.size + 2) := by unfold Hid; rw [hw1]; simp
 have HP : Hid (PileC w1 w.heap.size (w.heap.size + 1) (.slice none 0 0) []) := ⟨HO1.out, World.ownsRow_nil _ _ _ _, by omega⟩
 have HC : Hid (Calls Tryz.prog 46 #[.int .i64 u, .int .i64 0, .agg #[.int .i64 0, .int .i64 0, .int .i64 0, .int .i64 0, .int .i64 0, .int .i64 0, .int .i64 0, .int .i64 0], .pointer (some ⟨w.heap.size, 0, none⟩)] w1 fun e w' => e = .returned (.tuple #[]) ∧ ∃ v, w'.cell? ⟨w.heap.size, 0, none⟩ = some v ∧ Reads8 w' v (everyC u) ∧ (∀ g, v.ownBlock = some g → w.heap.size ≤ g) ∧ Bw w w') := by
  have hl := length_everyC hu
  refine Calls.mono (refAll_step 7 (by omega) u (fun _ => 0) w.heap.size (w.heap.size + 1) (.slice none 0 0) [] w1 hu HP.out (by rw [HS1.out]; omega) (by simpa [everyC] using hl)) fun e w' h => ?_
  obtain ⟨he, v, h1, h2⟩ := h
  rw [List.nil_append] at h1
  refine ⟨he, v, h1.box.cell 0, h1.reads hl, fun g e => by have := (h1.own.lt g e).1; omega, HB1.out.trans (h2.below HB1.out.size (Nat.le_refl _) fun g e => by cases e)⟩
 clear HP
 have q0 : w1.cell? ⟨w.heap.size + 1, 0, none⟩ = some (.int .i64 0) := HN1.out.cell 0
 have q1 : w1.cell? ⟨w.heap.size + 1, 1, none⟩ = some (.int .i64 0) := HN1.out.cell 1
 have q2 : w1.cell? ⟨w.heap.size + 1, 2, none⟩ = some (.int .i64 0) := HN1.out.cell 2
 have q3 : w1.cell? ⟨w.heap.size + 1, 3, none⟩ = some (.int .i64 0) := HN1.out.cell 3
 have q4 : w1.cell? ⟨w.heap.size + 1, 4, none⟩ = some (.int .i64 0) := HN1.out.cell 4
 have q5 : w1.cell? ⟨w.heap.size + 1, 5, none⟩ = some (.int .i64 0) := HN1.out.cell 5
 have q6 : w1.cell? ⟨w.heap.size + 1, 6, none⟩ = some (.int .i64 0) := HN1.out.cell 6
 have q7 : w1.cell? ⟨w.heap.size + 1, 7, none⟩ = some (.int .i64 0) := HN1.out.cell 7
 go_enter Tryz.func17, Tryz.ntmps17
 go_upto_region 3 with fail
 rw [← hw1]
 clear hw1
 go_wp2_with fail
 go_at_call 46
 refine HC.out.mono ?_
 rintro e w2 ⟨rfl, v, hc, hr, hg, hb⟩
 have HR : Hid (Reads8 w2 v (everyC u) ∧ (∀ g, v.ownBlock = some g → w.heap.size ≤ g) ∧ Bw w w2) := ⟨hr, hg, hb⟩
 clear hr hg hb q0 q1 q2 q3 q4 q5 q6 q7
 go_wp2
 go_ret
 exact ⟨_, rfl, HR.out.1, HR.out.2.1, HR.out.2.2⟩
end Go.Proofs.YtnoohlibgaeklaaGreatDoor
namespace Go.Proofs.YtnoohlibgaeklaaGreatDoor
open Go.ChangeShapes Go.WideShapes Go.ChangeAt Go.RowKit
set_option maxRecDepth 100000
set_option maxHeartbeats 16000000
theorem infoW : (Tryz.prog.info? 58).map (·.size) = some 4 := by kernel_rfl
theorem has_bit : ∀ f : Nat, f < 8 → hasB (f : Int) ((0 : Nat) : Int) = bitB f 0 ∧ hasB (f : Int) ((1 : Nat) : Int) = bitB f 1 ∧ hasB (f : Int) ((2 : Nat) : Int) = bitB f 2 := by decide +kernel
theorem arrW_set0 (u a b c x : Int) : (arrW ⟨u, a, b, c⟩).setIfInBounds 0 (.int .i64 x) = arrW ⟨x, a, b, c⟩ := by simp [arrW]
theorem arrW_set1 (u a b c x : Int) : (arrW ⟨u, a, b, c⟩).setIfInBounds 1 (.int .i64 x) = arrW ⟨u, x, b, c⟩ := by simp [arrW]
theorem arrW_set2 (u a b c x : Int) : (arrW ⟨u, a, b, c⟩).setIfInBounds 2 (.int .i64 x) = arrW ⟨u, a, x, c⟩ := by simp [arrW]
theorem arrW_set3 (u a b c x : Int) : (arrW ⟨u, a, b, c⟩).setIfInBounds 3 (.int .i64 x) = arrW ⟨u, a, b, x⟩ := by simp [arrW]
theorem refMade_right (N : Nat → Int) (w : World) (hf : countsFault N = 0) :
    Calls Tryz.prog 19 #[.agg #[.int .i64 (N 0), .int .i64 (N 1), .int .i64 (N 2), .int .i64 (N 3), .int .i64 (N 4), .int .i64 (N 5), .int .i64 (N 6), .int .i64 (N 7)]] w (Bk w (.agg (arrW (madeN N 8)))) := by
 obtain ⟨Z, hZ⟩ : ∃ Z : Wd, Z = ⟨0, 0, 0, 0⟩ := ⟨_, rfl⟩
 obtain ⟨w1, hw1⟩ := nm (((w.alloc (.cells #[.int .i64 (N 0), .int .i64 (N 1), .int .i64 (N 2), .int .i64 (N 3), .int .i64 (N 4), .int .i64 (N 5), .int .i64 (N 6), .int .i64 (N 7)] 60)).alloc (.cells #[.int .i64 0, .int .i64 0, .int .i64 0, .int .i64 0] 58)).alloc (.cells #[.int .i64 0, .int .i64 0, .int .i64 0, .int .i64 0] 58))
 have HW : Hid (Bw w w1) := by unfold Hid; rw [hw1]; exact ((below_alloc1 _ _).alloc (by simp) _).alloc (by simp; omega) _
 have HK0 : Hid (Blk w1 w.heap.size 60 (arr8 N)) := by unfold Hid; rw [hw1]; exact ((Blk.new _ _ _).old _).old _
 have HK1 : Hid (Blk w1 (w.heap.size + 1) 58 (arrW Z)) := by
  unfold Hid; rw [hw1, hZ]
  have := Blk.new (w.alloc (.cells (arr8 N) 60)) 58 (arrW ⟨0, 0, 0, 0⟩)
  simp only [World.size_alloc] at this
  exact this.old _
 have HK2 : Hid (Blk w1 (w.heap.size + 1 + 1) 58 (arrW (madeN N 0))) := by
  unfold Hid; rw [hw1]
  have := Blk.new ((w.alloc (.cells (arr8 N) 60)).alloc (.cells (arrW ⟨0, 0, 0, 0⟩) 58)) 58 (arrW ⟨0, 0, 0, 0⟩)
  simp only [World.size_alloc] at this
  exact this
 obtain ⟨hall, hsum⟩ := counts_zero.1 hf
 have HN := hide hall
 have HX : Hid (∀ W k, k < 8 → Blk W w.heap.size 60 (arr8 N) → W.cell? ⟨w.heap.size, k, none⟩ = some (.int .i64 (N k))) := fun W k hk h => by rw [h.cell, arr8_get _ hk]
 have HD : Hid (∀ (k j : Nat), k < 8 → (j : Int) < N k → ((madeN N k).mores k j).ok = true ∧ ((madeN N k).mores k j).u ≤ 5) := fun k j hk hj => by
  obtain ⟨i1, i2, _⟩ := made_all hall hsum (k := k) (by omega)
  have hm := sumN_mono (N := N) (k := k + 1) (l := 8) (by omega) hall
  have es : sumN N (k + 1) = sumN N k + N k := rfl
  have e := mores_u (madeN N k) k j
  exact ⟨mores_ok i1 k (by rw [i2]; omega), by rw [e, i2]; omega⟩
 have HE : Hid (∀ k, k < 8 → (madeN N k).mores k (N k).toNat = madeN N (k + 1)) := fun k _ => rfl
 have HHs : Hid (∀ (f : Nat) W, f < 8 → Calls Tryz.prog 48 #[.int .i64 f, .int .i64 0] W ((Sk W (.bool (bitB f 0)))) ∧ Calls Tryz.prog 48 #[.int .i64 f, .int .i64 1] W ((Sk W (.bool (bitB f 1)))) ∧ Calls Tryz.prog 48 #[.int .i64 f, .int .i64 2] W ((Sk W (.bool (bitB f 2))))) := fun f W hf8 => by
  obtain ⟨b0, b1, b2⟩ := has_bit f hf8
  rw [← b0, ← b1, ← b2]
  exact ⟨refHas_any f 0 (by omega) (by omega) (by omega) W, refHas_any f 1 (by omega) (by omega) (by omega) W, refHas_any f 2 (by omega) (by omega) (by omega) W⟩
 clear hf hall hsum hZ
 go_enter Tryz.func19, Tryz.ntmps19
 go_wp2
 rw [← hw1]
 clear hw1
 obtain ⟨G, hG⟩ := nm (w.heap.size + 1 + 1)
 rw [← hG] at HK2 ⊢
 have HG : Hid (w.heap.size + 1 < G) := by unfold Hid; omega
 clear hG
 go_loopw [4] (fun i wr => ∃ k : Nat, k ≤ 8 ∧ i = .int .i64 k ∧ Bw w wr ∧ Blk wr w.heap.size 60 (arr8 N) ∧ Blk wr (w.heap.size + 1) 58 (arrW Z) ∧ Blk wr G 58 (arrW (madeN N k))) (fun i _ => 8 - (intOf i).toNat)
 case atStart => exact ⟨0, Nat.zero_le _, rfl, HW.out, HK0.out, HK1.out, HK2.out⟩
 case round =>
  obtain ⟨k, hk, rfl, hb, hp, hr, hm⟩ := hrel
  have HB4 := hide hb
  have HP4 : Hid (Blk wr w.heap.size 60 (arr8 N)) := hp
  have HR4 : Hid (Blk wr (w.heap.size + 1) 58 (arrW Z)) := hr
  have HM4 : Hid (Blk wr G 58 (arrW (madeN N k))) := hm
  clear hb hp hr hm
  by_cases hlt : k < 8
  ·have p := HN.out k hlt
   obtain ⟨x, hx⟩ : ∃ x : Nat, (x : Int) = N k := ⟨(N k).toNat, by omega⟩
   have HXk := hide hx
   have HEk : Hid ((madeN N k).mores k x = madeN N (k + 1)) := by
    have := HE.out k hlt
    rw [show (N k).toNat = x by omega] at this
    exact this
   have hx6 : x ≤ 6 := by omega
   clear hx p
   have HCk : Hid (∀ W, Blk W w.heap.size 60 (arr8 N) → W.cell? ⟨w.heap.size, k, none⟩ = some (.int .i64 (x : Int))) := fun W h => by rw [HXk.out]; exact HX.out W k hlt h
   go_wp2
   rw [show decide ((k : Int) < 8) = true by simp; omega]
   go_loopw [5] (fun i wr => ∃ j : Nat, j ≤ x ∧ i = .int .i64 j ∧ Bw w wr ∧ Blk wr w.heap.size 60 (arr8 N) ∧ Blk wr (w.heap.size + 1) 58 (arrW Z) ∧ Blk wr G 58 (arrW ((madeN N k).mores k j))) (fun i _ => x - (intOf i).toNat)
   case atStart => exact ⟨0, Nat.zero_le _, rfl, HB4.out, HP4.out, HR4.out, HM4.out⟩
   case round =>
    obtain ⟨j, hj, rfl, hb, hp, hr, hm⟩ := hrel
    have HB5 := hide hb
    have HP5 : Hid (Blk wr w.heap.size 60 (arr8 N)) := hp
    have HR5 : Hid (Blk wr (w.heap.size + 1) 58 (arrW Z)) := hr
    have HM5 : Hid (Blk wr G 58 (arrW ((madeN N k).mores k j))) := hm
    clear hb hp hr hm
    have yk := HCk.out _ HP5.out
    by_cases hlj : j < x
    ·obtain ⟨dok, d5⟩ := HD.out k j hlt (by rw [← HXk.out]; omega)
     obtain ⟨D, hD⟩ := nm ((madeN N k).mores k j)
     rw [← hD] at dok d5 HM5
     have HEj : Hid (D.more k = (madeN N k).mores k (j + 1)) := by unfold Hid; rw [hD]; rfl
     clear hD
     obtain ⟨u, a, b, c⟩ := D
     obtain ⟨o1, o2, o3⟩ := Wd.ok_iff.1 dok
     obtain ⟨u0, _, a0, a6⟩ := okB_lt o1
     obtain ⟨_, _, b0, b6⟩ := okB_lt o2
     obtain ⟨_, _, c0, c6⟩ := okB_lt o3
     simp only at u0 a0 a6 b0 b6 c0 c6 d5
     obtain ⟨n, rfl⟩ := Int.eq_ofNat_of_zero_le u0
     have HPw : Hid (∀ W, Calls Tryz.prog 49 #[.int .i64 n] W ((Sk W (.int .i64 (pw n))))) := fun W => refPower_any n (by omega) W
     have q1 := pw_pos n
     have q2 := pw_le6 (k := n) (by omega)
     obtain ⟨P, hP⟩ := nm (pw n)
     rw [← hP] at HPw q1 q2
     have HMo : Hid ((Wd.mk n a b c).more k = Wd.mk (n + 1) (a + oneB (bitB k 0) * P) (b + oneB (bitB k 1) * P) (c + oneB (bitB k 2) * P)) := by unfold Hid; rw [hP]; rfl
     obtain ⟨x0, hx0⟩ := nm (bitB k 0)
     obtain ⟨x1, hx1⟩ := nm (bitB k 1)
     obtain ⟨x2, hx2⟩ := nm (bitB k 2)
     have HHk : Hid (∀ W, Calls Tryz.prog 48 #[.int .i64 k, .int .i64 0] W ((Sk W (.bool x0))) ∧ Calls Tryz.prog 48 #[.int .i64 k, .int .i64 1] W ((Sk W (.bool x1))) ∧ Calls Tryz.prog 48 #[.int .i64 k, .int .i64 2] W ((Sk W (.bool x2)))) := fun W => by
      rw [hx0, hx1, hx2]; exact HHs.out k W hlt
     rw [← hx0, ← hx1, ← hx2] at HMo
     clear hx0 hx1 hx2 hP dok o1 o2 o3
     have s0 := oneB_le x0
     have s1 := oneB_le x1
     have s2 := oneB_le x2
     go_wp2
     go_loopw [6] (fun i wr => Bw w wr ∧ Blk wr w.heap.size 60 (arr8 N) ∧ Blk wr (w.heap.size + 1) 58 (arrW Z) ∧ ((i = .int .i64 0 ∧ Blk wr G 58 (arrW ⟨n, a, b, c⟩)) ∨ (i = .int .i64 1 ∧ Blk wr G 58 (arrW ⟨n, a + oneB x0 * P, b, c⟩)) ∨ (i = .int .i64 2 ∧ Blk wr G 58 (arrW ⟨n, a + oneB x0 * P, b + oneB x1 * P, c⟩)) ∨ (i = .int .i64 3 ∧ Blk wr G 58 (arrW ⟨n, a + oneB x0 * P, b + oneB x1 * P, c + oneB x2 * P⟩)))) (fun i _ => 3 - (intOf i).toNat)
     case atStart => exact ⟨HB5.out, HP5.out, HR5.out, Or.inl ⟨rfl, HM5.out⟩⟩
     case round =>
      clear yk
      obtain ⟨hb, hp, hr, hm⟩ := hrel
      have HB7 := hide hb
      have HP7 : Hid (Blk wr w.heap.size 60 (arr8 N)) := hp
      have HR7 : Hid (Blk wr (w.heap.size + 1) 58 (arrW Z)) := hr
      clear hb hp hr
      rcases hm with ⟨rfl, hm⟩ | ⟨rfl, hm⟩ | ⟨rfl, hm⟩ | ⟨rfl, hm⟩
      ·have HM7 : Hid (Blk wr G 58 (arrW ⟨n, a, b, c⟩)) := hm
       clear hm
       obtain ⟨y0, y1, y2, y3⟩ := HM7.out.cells4
       simp only at y0 y1 y2 y3
       have z := HM7.out.frozen 1
       go_wp2_with fail
       go_at_call 48
       refine (HHk.out _).1.mono ?_
       rintro e w' ⟨rfl, rfl⟩
       rcases (Bool.eq_false_or_eq_true x0).symm with hx | hx
       ·have HQ : Hid (Blk wr G 58 (arrW ⟨n, a + oneB x0 * P, b, c⟩)) := by
         have e : a + oneB x0 * P = a := by rw [hx]; simp [oneB]
         unfold Hid; rw [e]; exact HM7.out
        rw [hx]
        clear hx
        go_wp2
        go_roundw
        case rel => exact ⟨HB7.out, HP7.out, HR7.out, Or.inr (Or.inl ⟨rfl, HQ.out⟩)⟩
        case measure => simp [intOf]
       ·have HQ : Hid (∀ W, Blk W G 58 (arrW ⟨n, a, b, c⟩) → Blk (W.setCell ⟨G, 1, none⟩ (.int .i64 (a + P))) G 58 (arrW ⟨n, a + oneB x0 * P, b, c⟩)) := fun W h => by
         have e : a + oneB x0 * P = a + P := by rw [hx]; simp [oneB]
         have := h.set 1 (.int .i64 (a + P))
         rw [arrW_set1] at this
         rw [e]; exact this
        rw [hx]
        clear hx
        go_wp2_with fail
        go_region_with (go_at_call 49; refine (HPw.out _).mono ?_; rintro e w' ⟨rfl, rfl⟩)
        all_goals
         go_wp2
         go_roundw
         case rel =>
          have hg := HG.out
          exact ⟨HB7.out.drew.setCell (by simp; omega) _, HP7.out.drew.far (by omega) _ _, HR7.out.drew.far (by omega) _ _, Or.inr (Or.inl ⟨rfl, HQ.out _ HM7.out.drew⟩)⟩
         case measure => simp [intOf]
      ·have HM7 : Hid (Blk wr G 58 (arrW ⟨n, a + oneB x0 * P, b, c⟩)) := hm
       clear hm
       obtain ⟨y0, y1, y2, y3⟩ := HM7.out.cells4
       simp only at y0 y1 y2 y3
       have z := HM7.out.frozen 2
       go_wp2_with fail
       go_at_call 48
       refine (HHk.out _).2.1.mono ?_
       rintro e w' ⟨rfl, rfl⟩
       rcases (Bool.eq_false_or_eq_true x1).symm with hx | hx
       ·have HQ : Hid (Blk wr G 58 (arrW ⟨n, a + oneB x0 * P, b + oneB x1 * P, c⟩)) := by
         have e : b + oneB x1 * P = b := by rw [hx]; simp [oneB]
         unfold Hid; rw [e]; exact HM7.out
        rw [hx]
        clear hx
        go_wp2
        go_roundw
        case rel => exact ⟨HB7.out, HP7.out, HR7.out, Or.inr (Or.inr (Or.inl ⟨rfl, HQ.out⟩))⟩
        case measure => simp [intOf]
       ·have HQ : Hid (∀ W, Blk W G 58 (arrW ⟨n, a + oneB x0 * P, b, c⟩) → Blk (W.setCell ⟨G, 2, none⟩ (.int .i64 (b + P))) G 58 (arrW ⟨n, a + oneB x0 * P, b + oneB x1 * P, c⟩)) := fun W h => by
         have e : b + oneB x1 * P = b + P := by rw [hx]; simp [oneB]
         have := h.set 2 (.int .i64 (b + P))
         rw [arrW_set2] at this
         rw [e]; exact this
        rw [hx]
        clear hx
        go_wp2_with fail
        go_region_with (go_at_call 49; refine (HPw.out _).mono ?_; rintro e w' ⟨rfl, rfl⟩)
        all_goals
         go_wp2
         go_roundw
         case rel =>
          have hg := HG.out
          exact ⟨HB7.out.drew.setCell (by simp; omega) _, HP7.out.drew.far (by omega) _ _, HR7.out.drew.far (by omega) _ _, Or.inr (Or.inr (Or.inl ⟨rfl, HQ.out _ HM7.out.drew⟩))⟩
         case measure => simp [intOf]
      ·have HM7 : Hid (Blk wr G 58 (arrW ⟨n, a + oneB x0 * P, b + oneB x1 * P, c⟩)) := hm
       clear hm
       obtain ⟨y0, y1, y2, y3⟩ := HM7.out.cells4
       simp only at y0 y1 y2 y3
       have z := HM7.out.frozen 3
       go_wp2_with fail
       go_at_call 48
       refine (HHk.out _).2.2.mono ?_
       rintro e w' ⟨rfl, rfl⟩
       rcases (Bool.eq_false_or_eq_true x2).symm with hx | hx
       ·have HQ : Hid (Blk wr G 58 (arrW ⟨n, a + oneB x0 * P, b + oneB x1 * P, c + oneB x2 * P⟩)) := by
         have e : c + oneB x2 * P = c := by rw [hx]; simp [oneB]
         unfold Hid; rw [e]; exact HM7.out
        rw [hx]
        clear hx
        go_wp2
        go_roundw
        case rel => exact ⟨HB7.out, HP7.out, HR7.out, Or.inr (Or.inr (Or.inr ⟨rfl, HQ.out⟩))⟩
        case measure => simp [intOf]
       ·have HQ : Hid (∀ W, Blk W G 58 (arrW ⟨n, a + oneB x0 * P, b + oneB x1 * P, c⟩) → Blk (W.setCell ⟨G, 3, none⟩ (.int .i64 (c + P))) G 58 (arrW ⟨n, a + oneB x0 * P, b + oneB x1 * P, c + oneB x2 * P⟩)) := fun W h => by
         have e : c + oneB x2 * P = c + P := by rw [hx]; simp [oneB]
         have := h.set 3 (.int .i64 (c + P))
         rw [arrW_set3] at this
         rw [e]; exact this
        rw [hx]
        clear hx
        go_wp2_with fail
        go_region_with (go_at_call 49; refine (HPw.out _).mono ?_; rintro e w' ⟨rfl, rfl⟩)
        all_goals
         go_wp2
         go_roundw
         case rel =>
          have hg := HG.out
          exact ⟨HB7.out.drew.setCell (by simp; omega) _, HP7.out.drew.far (by omega) _ _, HR7.out.drew.far (by omega) _ _, Or.inr (Or.inr (Or.inr ⟨rfl, HQ.out _ HM7.out.drew⟩))⟩
         case measure => simp [intOf]
      ·have HM7 : Hid (Blk wr G 58 (arrW ⟨n, a + oneB x0 * P, b + oneB x1 * P, c + oneB x2 * P⟩)) := hm
       clear hm
       obtain ⟨y0, y1, y2, y3⟩ := HM7.out.cells4
       simp only at y0 y1 y2 y3
       have z := HM7.out.frozen 0
       have HQ : Hid (Blk (wr.setCell ⟨G, 0, none⟩ (.int .i64 ((n : Int) + 1))) G 58 (arrW ((madeN N k).mores k (j + 1)))) := by
        have := HM7.out.set 0 (.int .i64 ((n : Int) + 1))
        rw [arrW_set0, ← HMo.out, HEj.out] at this
        exact this
       go_wp2
       go_roundw
       case rel =>
        have hg := HG.out
        exact ⟨j + 1, by omega, by go_num, HB7.out.setCell (by simp; omega) _, HP7.out.far (by omega) _ _, HR7.out.far (by omega) _ _, HQ.out⟩
       case measure => simp [intOf]; omega
    ·obtain rfl : j = x := by omega
     go_wp2
     go_roundw
     case rel => exact ⟨k + 1, by omega, by go_num, HB5.out, HP5.out, HR5.out, by rw [← HEk.out]; exact HM5.out⟩
     case measure => simp [intOf]; omega
  ·obtain rfl : k = 8 := by omega
   obtain ⟨D, hD⟩ := nm (madeN N 8)
   rw [← hD] at HM4
   have HDD := hide hD
   clear hD
   obtain ⟨y0, y1, y2, y3⟩ := HM4.out.cells4
   obtain ⟨r0, r1, r2, r3⟩ := HR4.out.cells4
   obtain ⟨f0, f1, f2, f3⟩ := HR4.out.frozen4
   go_wp2
   refine bodyPost_ret (v := .agg (arrW D)) ?_ rfl ⟨by rw [HDD.out], ?_⟩
   ·exact results_cell_row rfl _ _ (w.heap.size + 1) 58 (arrW D) (0, 0) _ rfl (putW_blk HR4.out D) Tryz.underlying58 rfl infoW
   ·exact putW_below HB4.out (by omega) D
theorem firstFault_drop (ats : List At) {k : Nat} {a : At} (ha : ats[k]? = some a) : firstFault (ats.drop k) = if a.fault = 0 then firstFault (ats.drop (k + 1)) else a.fault := by
 obtain ⟨hk, rfl⟩ := List.getElem?_eq_some_iff.1 ha
 rw [List.drop_eq_getElem_cons hk]; rfl
theorem fcheck_none (va vc : Value) (ats : List At) (c : List Int) (w : World) (hA : ReadsA w va ats) (hC : Reads w vc c) (h0 : ats.length = 0 ∨ c.length = 0) :
    Calls Tryz.prog 78 #[.agg #[va, vc]] w (Bk w (.iface 91 (.int .i64 5))) := by
 obtain ⟨ao, acap, rfl, hal⟩ := hA.slice
 obtain ⟨co, ccap, rfl, hcl⟩ := hC.slice
 clear hA hC
 obtain ⟨m, hm⟩ := nm ats.length
 obtain ⟨n, hn⟩ := nm c.length
 rw [← hm] at h0 hal ⊢
 rw [← hn] at h0 hcl ⊢
 clear hm hn
 rcases h0 with rfl | rfl
 ·go_enter Tryz.func78, Tryz.ntmps78
  go_wp2
  go_ret
  exact ⟨rfl, below_alloc1 _ _⟩
 ·by_cases h1 : m = 0
  ·subst h1
   go_enter Tryz.func78, Tryz.ntmps78
   go_wp2
   go_ret
   exact ⟨rfl, below_alloc1 _ _⟩
  ·have h1' : ¬ ((m : Int) = 0) := by omega
   go_enter Tryz.func78, Tryz.ntmps78
   go_wp2
   go_ret
   exact ⟨rfl, below_alloc1 _ _⟩
theorem fcheck_full (va vc : Value) (ats : List At) (c : List Int) (w : World) (hA : ReadsA w va ats) (hC : Reads w vc c) (h0 : ¬ (ats.length = 0 ∨ c.length = 0)) (h1 : 6 < ats.length ∨ 20 < c.length) :
    Calls Tryz.prog 78 #[.agg #[va, vc]] w (Bk w (.iface 91 (.int .i64 4))) := by
 obtain ⟨ao, acap, rfl, hal⟩ := hA.slice
 obtain ⟨co, ccap, rfl, hcl⟩ := hC.slice
 clear hA hC
 obtain ⟨m, hm⟩ := nm ats.length
 obtain ⟨n, hn⟩ := nm c.length
 rw [← hm] at h0 h1 hal ⊢
 rw [← hn] at h0 h1 hcl ⊢
 clear hm hn
 have hm' : ((m : Int) == 0) = false := by simp; omega
 have hn' : ((n : Int) == 0) = false := by simp; omega
 have HT : Hid (∀ W, Calls Tryz.prog 109 #[.int .i64 m, .int .i64 n] W (Sk W (.bool true))) := fun W => by
  have := tooMany_any m n W
  rw [show (decide (6 < (m : Int)) || decide (20 < (n : Int))) = true by simp; omega] at this
  exact this
 clear h0 h1
 go_enter Tryz.func78, Tryz.ntmps78
 go_wp2_with fail
 go_at_call 109
 refine (HT.out _).mono ?_
 rintro e w' ⟨rfl, rfl⟩
 go_wp2
 go_ret
 exact ⟨rfl, below_alloc1 _ _⟩
theorem fcheck_rest (ao co : Option Addr) (acap ccap : Nat) (ats : List At) (c : List Int) (w : World) (hA : ReadsA w (.slice ao ats.length acap) ats) (hC : Reads w (.slice co c.length ccap) c) (hK : KindsLaid w) (h0 : ¬ (ats.length = 0 ∨ c.length = 0)) (h1 : ¬ (6 < ats.length ∨ 20 < c.length)) :
    Calls Tryz.prog 78 #[.agg #[.slice ao ats.length acap, .slice co c.length ccap]] w (Bk w (errV (formFault ats c))) := by
 obtain ⟨w1, hw1⟩ := nm (w.alloc (.cells #[.slice ao ats.length acap, .slice co c.length ccap] 78))
 have HB1 : Hid (Bw w w1) := by unfold Hid; rw [hw1]; exact below_alloc1 w _
 have HS1 : Hid (w1.heap.size = w.heap.size + 1) := by unfold Hid; rw [hw1]; simp
 have HX : Hid (w1.cell? ⟨w.heap.size, 0, none⟩ = some (.slice ao ats.length acap) ∧ w1.cell? ⟨w.heap.size, 1, none⟩ = some (.slice co c.length ccap)) := by
  unfold Hid; rw [hw1]; simp
 have HA := hide (hA.below HB1.out)
 have HC := hide (hC.below HB1.out)
 have HK := hide (hK.below HB1.out)
 clear hA hC hK
 have HF : Hid (formFault ats c = if firstFault ats = 0 then (if c.all (signF ats.length) = true then (if cntF c 0 = some 1 then 0 else 3) else 1) else firstFault ats) := by
  unfold Hid formFault; rw [if_neg h0, if_neg h1]
 obtain ⟨m, hm⟩ := nm ats.length
 obtain ⟨n, hn⟩ := nm c.length
 rw [← hm] at h0 h1 hw1 HX HA HF ⊢
 rw [← hn] at h0 h1 hw1 HX HC ⊢
 have HM := hide hm
 have HN := hide hn
 clear hm hn
 have hm' : ((m : Int) == 0) = false := by simp; omega
 have hn' : ((n : Int) == 0) = false := by simp; omega
 have hm6 : m ≤ 6 := by omega
 have hn20 : n ≤ 20 := by omega
 have HT : Hid (∀ W, Calls Tryz.prog 109 #[.int .i64 m, .int .i64 n] W (Sk W (.bool false))) := fun W => by
  have := tooMany_any m n W
  rw [show (decide (6 < (m : Int)) || decide (20 < (n : Int))) = false by simp; omega] at this
  exact this
 clear h0 h1
 have x0 := HX.out.1
 have x1 := HX.out.2
 go_enter Tryz.func78, Tryz.ntmps78
 go_wp2_with fail
 rw [← hw1]
 clear hw1
 go_wp2_with fail
 go_at_call 109
 refine (HT.out _).mono ?_
 rintro e w' ⟨rfl, rfl⟩
 go_wp2
 go_loopw [29] (fun i wr => ∃ k : Nat, k ≤ m ∧ i = .int .i64 k ∧ Bw w1 wr ∧ firstFault (ats.drop k) = firstFault ats) (fun i _ => m - (intOf i).toNat)
 case atStart => exact ⟨0, Nat.zero_le _, rfl, Below.refl _ _, rfl⟩
 case round =>
  obtain ⟨k, hk, rfl, hbel, hff⟩ := hrel
  have HF0 := hide hff
  have HB := hide hbel
  clear hff hbel
  by_cases hlt : k < m
  ·obtain ⟨a, ha⟩ : ∃ a, ats[k]? = some a := ⟨_, List.getElem?_eq_getElem (by have := HM.out; omega)⟩
   have HFF : Hid (firstFault ats = if a.fault = 0 then firstFault (ats.drop (k + 1)) else a.fault) := by
    unfold Hid; rw [← HF0.out, firstFault_drop ats ha]
   rcases HA.out.below HB.out with ⟨_, _, hv, hn⟩ | ⟨b, off, cap, hv, hb, _, _, hall⟩
   ·have := HM.out; rw [hn] at this; simp at this; omega
   obtain rfl : ao = some ⟨b, off, none⟩ := by cases hv; rfl
   obtain ⟨vs, vt, c0, c1, c2, c3, r1, r2⟩ := hall k a ha
   obtain ⟨sao, scap, rfl, _⟩ := r1.slice
   obtain ⟨tao, tcap, rfl, _⟩ := r2.slice
   clear hv hall
   obtain ⟨w2, hw2⟩ := nm (wr.alloc (.cells #[.int .i64 a.k, .slice sao a.s.length scap, .slice tao a.t.length tcap, .int .i64 a.n] 71))
   have HB2 : Hid (Bw wr w2) := by unfold Hid; rw [hw2]; exact below_alloc1 wr _
   have HCk : Hid (Calls Tryz.prog 92 #[.agg #[.int .i64 a.k, .slice sao a.s.length scap, .slice tao a.t.length tcap, .int .i64 a.n]] w2 (Bk w2 (errV a.fault))) :=
    acheck_any a.k a.n _ _ a.s a.t w2 (r1.below HB2.out) (r2.below HB2.out) ((HK.out.below HB.out).below HB2.out)
   clear r1 r2
   go_wp2_with fail
   rw [← hw2]
   clear hw2
   go_at_call 92
   refine HCk.out.mono ?_
   rintro e w3 ⟨rfl, hb3⟩
   have HB3 : Hid (Bw w1 w3) := (HB.out.trans (HB2.out.mono HB.out.size)).trans (hb3.mono (Nat.le_trans HB.out.size HB2.out.size))
   clear hb3 HCk
   by_cases hf : a.fault = 0
   ·have HD : Hid (firstFault (ats.drop (k + 1)) = firstFault ats) := by
     have := HFF.out
     rw [if_pos hf] at this
     exact this.symm
    rw [hf, errV_0]
    go_wp2
    go_roundw
    case rel => exact ⟨k + 1, by omega, by go_num, HB3.out, HD.out⟩
    case measure => simp [intOf]; omega
   ·have HE : Hid (formFault ats c = a.fault) := by
     have := HFF.out
     rw [if_neg hf] at this
     unfold Hid; rw [HF.out, this, if_neg hf]
    rw [errV_no hf]
    go_wp2
    go_ret
    refine ⟨back_v ?_, HB1.out.trans (HB3.out.mono HB1.out.size)⟩
    rw [HE.out, errV_no hf]
    rfl
  ·have HE : Hid (firstFault ats = 0) := by
    have := HF0.out
    rw [List.drop_eq_nil_of_le (by have := HM.out; omega)] at this
    exact this.symm
   have hlt0 : w.heap.size < w1.heap.size := by have := HS1.out; omega
   have y0 : wr.cell? ⟨w.heap.size, 0, none⟩ = some (.slice ao m acap) := by rw [HB.out.cell hlt0]; exact HX.out.1
   have y1 : wr.cell? ⟨w.heap.size, 1, none⟩ = some (.slice co n ccap) := by rw [HB.out.cell hlt0]; exact HX.out.2
   rcases HC.out.below HB.out with ⟨_, _, hv, hcn⟩ | ⟨b, off, cap, hv, hb, _, ⟨hl63, _⟩, hc⟩
   ·have := HN.out; rw [hcn] at this; simp at this; subst this; simp at hn'
   obtain rfl : co = some ⟨b, off, none⟩ := by cases hv; rfl
   clear hv
   have cF := fcontainsFunc_any m acap w.heap.size ao b off ccap c wr hl63 y0 hc
   have cO := fisOne_any b off ccap c wr (by have := HN.out; omega) hc
   rw [← HN.out] at cF cO
   obtain ⟨x, hx⟩ := nm (c.all (signF m))
   obtain ⟨y, hy⟩ := nm (decide (cntF c 0 = some 1))
   rw [← hx] at cF
   rw [← hy] at cO
   have HF' : Hid (formFault ats c = if x = true then (if y = true then 0 else 3) else 1) := by
    unfold Hid; rw [HF.out, HE.out, hx, hy]; simp only [decide_eq_true_eq, if_true]
   clear hx hy hc hlt0 hl63 hb
   have HP := hide cF
   have HQ := hide cO
   clear cF cO
   have HEnd := hide (HB1.out.trans (HB.out.mono HB1.out.size))
   cases x
   ·go_wp2_with (go_at_call 116; refine HP.out.mono ?_; rintro e w' ⟨rfl, rfl⟩)
    go_ret
    exact ⟨back_v (by rw [HF'.out]; rfl), HEnd.out⟩
   ·cases y
    all_goals
     go_wp2_with (first | (go_at_call 116; refine HP.out.mono ?_; rintro e w' ⟨rfl, rfl⟩) | (go_at_call 117; refine HQ.out.mono ?_; rintro e w' ⟨rfl, rfl⟩))
     go_ret
     exact ⟨back_v (by rw [HF'.out]; rfl), HEnd.out⟩
theorem fcheck_any (va vc : Value) (ats : List At) (c : List Int) (w : World) (hA : ReadsA w va ats) (hC : Reads w vc c) (hK : KindsLaid w) :
    Calls Tryz.prog 78 #[.agg #[va, vc]] w (Bk w (errV (formFault ats c))) := by
 by_cases h0 : ats.length = 0 ∨ c.length = 0
 ·have e : formFault ats c = 5 := by unfold formFault; rw [if_pos h0]
  rw [e]
  exact fcheck_none va vc ats c w hA hC h0
 by_cases h1 : 6 < ats.length ∨ 20 < c.length
 ·have e : formFault ats c = 4 := by unfold formFault; rw [if_neg h0, if_pos h1]
  rw [e]
  exact fcheck_full va vc ats c w hA hC h0 h1
 obtain ⟨ao, acap, rfl, _⟩ := hA.slice
 obtain ⟨co, ccap, rfl, _⟩ := hC.slice
 exact fcheck_rest ao co acap ccap ats c w hA hC hK h0 h1
end Go.Proofs.YtnoohlibgaeklaaGreatDoor
