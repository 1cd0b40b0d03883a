/-
  Proved: what the reference's All returns: all counts of so many things, one behind the other; what was in memory is as it was (contracts that the statements lean on). Proved: what the reference's All returns, of up to six things: a slice that reads as all counts, one behind the other; what was in memory is as it was (a contract that the statements lean on).
  Proved: what term.work returns, of a right term and a right world: the set that the pile comes to; what was in memory is as it was (a contract that the statements lean on).
-/
import Derived.Test.YtjaedfjfcghgcaaDoorLibA3
import Derived.Test.YtjaedfjfcghgcaaDoorLibA6
import Derived.Deep.AppendLies
import Derived.Deep.RegionLaw
import Derived.Deep.Cut
import Derived.Test.YtjaedfjfcghgcaaDoorLibA5
import Derived.OwnWalk
import Derived.Deep.RegionWith
import Derived.Laws.OwnMore
namespace Go.Proofs.YtjaedfjfcghgcaaDoor
open Go.ChangeShapes Go.WideShapes Go.ChangeAt Go.RowKit
set_option maxRecDepth 100000

/-- the cells of a list of counts. -/
def cellsC (L : List (Nat → Int)) : List Value := L.flatMap fun N => (arr8 N).toList
theorem cellsC_append (L M : List (Nat → Int)) : cellsC (L ++ M) = cellsC L ++ cellsC M := by unfold cellsC; rw [List.flatMap_append]
theorem cellsC_one (N : Nat → Int) : cellsC [N] = (arr8 N).toList := by unfold cellsC; simp
/-- the slice that block O holds is a call's own, and reads as these counts. -/
structure PileC (w : World) (O K : Nat) (v : Value) (L : List (Nat → Int)) : Prop where
  box : Blk w O 86 #[v]
  own : w.ownsRow K 89 8 v L.length (cellsC L)
  lt : O < K
/-- all but block O and the slice's own row is as it was; the row is where it was, or new. -/
structure GrewC (O : Nat) (w w' : World) (v v' : Value) : Prop where
  os : w'.os = w.os
  tape : w'.tape = w.tape
  output : w'.output = w.output
  size : w.heap.size ≤ w'.heap.size
  rest : ∀ b, b < w.heap.size → b ≠ O → v.ownBlock ≠ some b → w'.heap[b]? = w.heap[b]?
  home : v'.ownBlock = v.ownBlock ∨ ∃ g, v'.ownBlock = some g ∧ w.heap.size ≤ g
theorem GrewC.refl (O : Nat) (w : World) (v : Value) : GrewC O w w v v := ⟨rfl, rfl, rfl, Nat.le_refl _, fun _ _ _ _ => rfl, Or.inl rfl⟩
theorem GrewC.trans {O : Nat} {a b c : World} {v v' v'' : Value} (h : GrewC O a b v v') (k : GrewC O b c v' v'') : GrewC O a c v v'' := by
  refine ⟨k.os.trans h.os, k.tape.trans h.tape, k.output.trans h.output, Nat.le_trans h.size k.size, fun i hi hO hv => ?_, ?_⟩
  · have hv' : v'.ownBlock ≠ some i := by
      rcases h.home with e | ⟨g, e, hg⟩
      · rw [e]; exact hv
      · rw [e]; intro e'; have := Option.some.inj e'; omega
    rw [k.rest i (Nat.lt_of_lt_of_le hi h.size) hO hv', h.rest i hi hO hv]
  · rcases k.home with e | ⟨g, e, hg⟩
    · rw [e]; exact h.home
    · exact Or.inr ⟨g, e, Nat.le_trans h.size hg⟩
theorem GrewC.alloc (O : Nat) (w : World) (o : Obj) (v : Value) : GrewC O w (w.alloc o) v v := ⟨rfl, rfl, rfl, by simp, fun i hi _ _ => heap_alloc_old w o hi, Or.inl rfl⟩
theorem GrewC.set {O : Nat} {w w' : World} {v v' : Value} (h : GrewC O w w' v v') {B : Nat} (hB : w.heap.size ≤ B) (j : Nat) (x : Value) : GrewC O w (w'.setCell ⟨B, j, none⟩ x) v v' := by
  refine ⟨h.os, h.tape, h.output, ?_, fun i hi hO hv => ?_, h.home⟩
  · have := h.size; simpa using this
  · rw [heap_setCell_other w' ⟨B, j, none⟩ i x (by show i ≠ B; omega)]; exact h.rest i hi hO hv
theorem GrewC.below {O : Nat} {w w' : World} {v v' : Value} (h : GrewC O w w' v v') {B : Nat} (hB : B ≤ w.heap.size) (hO : B ≤ O) (hv : ∀ g, v.ownBlock = some g → B ≤ g) : Below B w w' :=
  ⟨h.os, h.tape, h.output, h.size, fun i hi => h.rest i (by omega) (by omega) fun e => by have := hv i e; omega⟩
theorem PileC.far {w : World} {O K : Nat} {v : Value} {L : List (Nat → Int)} (h : PileC w O K v L) {B : Nat} (hB : B ≠ O) (hv : v.ownBlock ≠ some B) (j : Nat) (x : Value) : PileC (w.setCell ⟨B, j, none⟩ x) O K v L := by
  refine ⟨h.box.far (Ne.symm hB) j x, ⟨h.own.1, ?_⟩, h.lt⟩
  rcases h.own.2 with hn | ⟨g, cap, cur, rfl, hb, hg, rest⟩
  · exact Or.inl hn
  · refine Or.inr ⟨g, cap, cur, rfl, hb, ?_, rest⟩
    rw [heap_setCell_other w ⟨B, j, none⟩ g x (by intro e; apply hv; simp only at e; rw [← e]; rfl)]; exact hg
theorem PileC.alloc {w : World} {O K : Nat} {v : Value} {L : List (Nat → Int)} (h : PileC w O K v L) (o : Obj) : PileC (w.alloc o) O K v L := ⟨h.box.old o, h.own.alloc o, h.lt⟩
theorem infoI8 : (Tryd.prog.info? 89).isSome = true := by kernel_rfl
theorem zeroI8 : (Tryd.prog.info? 89).bind (·.zero) = some (.agg #[.int .i64 0, .int .i64 0, .int .i64 0, .int .i64 0, .int .i64 0, .int .i64 0, .int .i64 0, .int .i64 0]) := by kernel_rfl
theorem sizeI8 : (Tryd.prog.info? 89).map (·.size) = some 8 := by kernel_rfl
theorem bytesI8 : (Tryd.prog.info? 89).map (·.bytes) = some 64 := by kernel_rfl

theorem leaf_post {w w1 W0 w2 : World} {O K gg n cap1 : Nat} {v : Value} {L : List (Nat → Int)} {M : Nat → Int} (hg1 : GrewC O w w1 v v) (hb : Below w1.heap.size w1 W0) (hgrow : W0.grownBy w2 v.ownBlock) (bO : Blk w2 O 86 #[v])
    (hown1 : w2.ownsRow K 89 8 (.slice (some ⟨gg, 0, none⟩) (n + 1) cap1) (n + 1) (cellsC L ++ (arr8 M).toList)) (hat : v.ownBlock = some gg ∨ gg = w1.heap.size + 1) (hO : O < K) (hn : n = L.length) :
    PileC (w2.setCell ⟨O, 0, none⟩ (.slice (some ⟨gg, 0, none⟩) (n + 1) cap1)) O K (.slice (some ⟨gg, 0, none⟩) (n + 1) cap1) (L ++ [M]) ∧ GrewC O w (w2.setCell ⟨O, 0, none⟩ (.slice (some ⟨gg, 0, none⟩) (n + 1) cap1)) v (.slice (some ⟨gg, 0, none⟩) (n + 1) cap1) := by
  have hK : K ≤ gg := (hown1.lt gg rfl).1
  have e1 : (L ++ [M]).length = n + 1 := by simp [hn]
  have e2 : cellsC (L ++ [M]) = cellsC L ++ (arr8 M).toList := by rw [cellsC_append, cellsC_one]
  refine ⟨⟨?_, ?_, hO⟩, ?_⟩
  · have := bO.set 0 (.slice (some ⟨gg, 0, none⟩) (n + 1) cap1)
    simpa using this
  · rw [e1, e2]
    refine ⟨hown1.1, ?_⟩
    rcases hown1.2 with ⟨h, _⟩ | ⟨g, cap, cur, h, hb', hg, rest⟩
    · cases h
    · refine Or.inr ⟨g, cap, cur, h, hb', ?_, rest⟩
      rw [heap_setCell_other w2 ⟨O, 0, none⟩ g _ (by show g ≠ O; omega)]; exact hg
  · refine ⟨(hgrow.os.trans hb.os).trans hg1.os, (hgrow.tape.trans hb.tape).trans hg1.tape, (hgrow.output.trans hb.output).trans hg1.output, ?_, fun i hi hiO hv => ?_, ?_⟩
    · have := hg1.size
      have := hb.size
      have := hgrow.size
      simp
      omega
    · have h1 := hg1.size
      have h2 := hb.size
      rw [heap_setCell_other w2 ⟨O, 0, none⟩ i _ (by show i ≠ O; exact hiO), hgrow.block i (by omega) (fun e => hv e.symm), hb.block i (by omega)]
      exact hg1.rest i hi hiO hv
    · rcases hat with h | h
      · exact Or.inl h.symm
      · exact Or.inr ⟨gg, rfl, by have := hg1.size; omega⟩

set_option maxHeartbeats 4000000 in
theorem all_leaf (u : Nat) (N M : Nat → Int) (O K : Nat) (v : Value) (L : List (Nat → Int)) (w : World) (hM : M = putN N 7 u) (hp : PileC w O K v L) (hK : K ≤ w.heap.size) (hL : L.length + 1 ≤ 1716) :
    Calls Tryd.prog 69 #[.int .i64 u, .int .i64 7, .agg #[.int .i64 (N 0), .int .i64 (N 1), .int .i64 (N 2), .int .i64 (N 3), .int .i64 (N 4), .int .i64 (N 5), .int .i64 (N 6), .int .i64 (N 7)], .pointer (some ⟨O, 0, none⟩)] w fun e w' => e = .returned (.tuple #[]) ∧ ∃ v', PileC w' O K v' (L ++ [M]) ∧ GrewC O w w' v v' := by
  obtain ⟨w1, hw1⟩ : ∃ w1, w1 = w.alloc (.cells #[.int .i64 (N 0), .int .i64 (N 1), .int .i64 (N 2), .int .i64 (N 3), .int .i64 (N 4), .int .i64 (N 5), .int .i64 (N 6), .int .i64 u] 89) := ⟨_, rfl⟩
  have HS1 : Hid (w1.heap.size = w.heap.size + 1) := by unfold Hid; rw [hw1]; simp
  have HN1 : Hid (Blk w1 w.heap.size 89 (arr8 M)) := by
    unfold Hid; rw [hw1, hM]
    have e : arr8 (putN N 7 u) = #[.int .i64 (N 0), .int .i64 (N 1), .int .i64 (N 2), .int .i64 (N 3), .int .i64 (N 4), .int .i64 (N 5), .int .i64 (N 6), .int .i64 u] := by simp [arr8, putN]
    rw [e]
    exact Blk.new _ _ _
  have hvB : v.ownBlock ≠ some w.heap.size := fun e => by have := (hp.own.lt _ e).2; omega
  have hOl := hp.box.lt
  have HP1 : Hid (PileC w1 O K v L) := by unfold Hid; rw [hw1]; exact hp.alloc _
  have HG1 : Hid (GrewC O w w1 v v) := by unfold Hid; rw [hw1]; exact GrewC.alloc O w _ v
  obtain ⟨i8, hi⟩ : ∃ i, Tryd.prog.info? 89 = some i := Option.isSome_iff_exists.1 infoI8
  have hz0 : i8.zero = some (.agg #[.int .i64 0, .int .i64 0, .int .i64 0, .int .i64 0, .int .i64 0, .int .i64 0, .int .i64 0, .int .i64 0]) := by have := zeroI8; rw [hi] at this; simpa using this
  have hz1 : i8.size = 8 := by have := sizeI8; rw [hi] at this; simpa using this
  have hz2 : i8.bytes = 64 := by have := bytesI8; rw [hi] at this; simpa using this
  obtain ⟨q0, q1, q2, q3, q4, q5, q6, q7⟩ := HN1.out.cells8
  have qO : w1.cell? ⟨O, 0, none⟩ = some v := HP1.out.box.cell 0
  obtain ⟨n, hn⟩ : ∃ n, n = L.length := ⟨_, rfl⟩
  have HOW : Hid (w1.ownsRow K 89 8 v n (cellsC L)) := by unfold Hid; rw [hn]; exact HP1.out.own
  rw [← hn] at hL
  have HNL : Hid (n = L.length) := hn
  clear hn hM
  have HKeep : Hid (∀ W0 W2, Below w1.heap.size w1 W0 → W0.grownBy W2 v.ownBlock → Blk W2 O 86 #[v] ∧ W2.cell? ⟨O, 0, none⟩ = some v ∧ W2.cell? ⟨w.heap.size, 0, none⟩ = some (.int .i64 (M 0)) ∧ W2.cell? ⟨w.heap.size, 1, none⟩ = some (.int .i64 (M 1)) ∧ W2.cell? ⟨w.heap.size, 2, none⟩ = some (.int .i64 (M 2)) ∧ W2.cell? ⟨w.heap.size, 3, none⟩ = some (.int .i64 (M 3)) ∧ W2.cell? ⟨w.heap.size, 4, none⟩ = some (.int .i64 (M 4)) ∧ W2.cell? ⟨w.heap.size, 5, none⟩ = some (.int .i64 (M 5)) ∧ W2.cell? ⟨w.heap.size, 6, none⟩ = some (.int .i64 (M 6)) ∧ W2.cell? ⟨w.heap.size, 7, none⟩ = some (.int .i64 (M 7)) ∧ W2.frozen? ⟨O, 0, none⟩ = false) := fun W0 W2 hb hg => by
    have hvO : some O ≠ v.ownBlock := fun e => by have := (hp.own.lt _ e.symm).1; have := hp.lt; omega
    have hvB' : some w.heap.size ≠ v.ownBlock := fun e => hvB e.symm
    have hB1 := HN1.out.lt
    have hO1 := HP1.out.box.lt
    have bO : Blk W2 O 86 #[v] := by
      unfold Blk
      rw [hg.block O (Nat.lt_of_lt_of_le hO1 hb.size) hvO, hb.block O hO1]; exact HP1.out.box
    have bN : Blk W2 w.heap.size 89 (arr8 M) := by
      unfold Blk
      rw [hg.block _ (Nat.lt_of_lt_of_le hB1 hb.size) hvB', hb.block _ hB1]; exact HN1.out
    exact ⟨bO, bO.cell 0, bN.cell 0, bN.cell 1, bN.cell 2, bN.cell 3, bN.cell 4, bN.cell 5, bN.cell 6, bN.cell 7, bO.frozen 0⟩
  go_enter Tryd.func69, Tryd.ntmps69
  go_upto_region 3 with fail
  rw [← hw1]
  clear hw1
  have HKs : Hid (K ≤ w1.heap.size) := by unfold Hid; rw [HS1.out]; omega
  have HA1 : Hid (Blk (w1.alloc (.cells #[.int .i64 (M 0), .int .i64 (M 1), .int .i64 (M 2), .int .i64 (M 3), .int .i64 (M 4), .int .i64 (M 5), .int .i64 (M 6), .int .i64 (M 7)] 89)) O 86 #[v]) := HP1.out.box.old _
  have HA2 : Hid (Blk (w1.alloc (.cells #[.int .i64 (M 0), .int .i64 (M 1), .int .i64 (M 2), .int .i64 (M 3), .int .i64 (M 4), .int .i64 (M 5), .int .i64 (M 6), .int .i64 (M 7)] 89)) w.heap.size 89 (arr8 M)) := HN1.out.old _
  have rO : (w1.alloc (.cells #[.int .i64 (M 0), .int .i64 (M 1), .int .i64 (M 2), .int .i64 (M 3), .int .i64 (M 4), .int .i64 (M 5), .int .i64 (M 6), .int .i64 (M 7)] 89)).cell? ⟨O, 0, none⟩ = some v := HA1.out.cell 0
  obtain ⟨r0, r1, r2, r3, r4, r5, r6, r7⟩ := HA2.out.cells8
  go_region_law (refine step_append_lies _ (by rfl) _ _ _ (by rfl) K 89 i8 (.agg #[.int .i64 0, .int .i64 0, .int .i64 0, .int .i64 0, .int .i64 0, .int .i64 0, .int .i64 0, .int .i64 0]) 8 64 Tryd.underlying86 hi hz0 hz1 hz2 rfl (by decide) v n (cellsC L) (by rfl) (HOW.out.alloc _) ⟨w1.heap.size, 0, none⟩ 1 1 (arr8 M).toList (by rfl) (by rfl) (World.news_of_block (cs := arr8 M) (t := 89) (fr := (0, 0)) (heap_alloc_new w1 _)) (by simp [arr8, Value.oneCell']) (by omega) (by unfold maxLen; omega) (by omega) (by have := HKs.out; simp; omega) (w1.heap.size + 1) (by simp) ?_; intro gg cap1 w2 hown1 hgrow hat hlt1; obtain ⟨bO, z8, z0, z1, z2, z3, z4, z5, z6, z7, fz⟩ := HKeep.out _ w2 ((below_alloc1 w1 _).drew) hgrow)
  all_goals
    have HPo : Hid (PileC (w2.setCell ⟨O, 0, none⟩ (.slice (some ⟨gg, 0, none⟩) (n + 1) cap1)) O K (.slice (some ⟨gg, 0, none⟩) (n + 1) cap1) (L ++ [M]) ∧ GrewC O w (w2.setCell ⟨O, 0, none⟩ (.slice (some ⟨gg, 0, none⟩) (n + 1) cap1)) v (.slice (some ⟨gg, 0, none⟩) (n + 1) cap1)) := leaf_post HG1.out ((below_alloc1 w1 _).drew) hgrow bO hown1 hat hp.lt HNL.out
    clear hgrow bO hown1 hat hlt1 z8 z0 z1 z2 z3 z4 z5 z6 z7 fz
    go_wp2
    (try simp only [Exit.inBlock, Exit.then])
    refine bodyPost_ret (results_none rfl _ _ _) rfl ?_
    exact ⟨rfl, _, HPo.out.1, HPo.out.2⟩

set_option maxHeartbeats 8000000 in
theorem refAll_step (r : Nat) (hr : r ≤ 7) : ∀ (u : Nat) (N : Nat → Int) (O K : Nat) (v : Value) (L : List (Nat → Int)) (w : World), u ≤ 6 → PileC w O K v L → K ≤ w.heap.size → L.length + (allF r u N).length ≤ 1716 →
    Calls Tryd.prog 69 #[.int .i64 u, .int .i64 ((7 - r : Nat) : Int), .agg #[.int .i64 (N 0), .int .i64 (N 1), .int .i64 (N 2), .int .i64 (N 3), .int .i64 (N 4), .int .i64 (N 5), .int .i64 (N 6), .int .i64 (N 7)], .pointer (some ⟨O, 0, none⟩)] w fun e w' => e = .returned (.tuple #[]) ∧ ∃ v', PileC w' O K v' (L ++ allF r u N) ∧ GrewC O w w' v v' := by
  induction r with
  | zero =>
    intro u N O K v L w _ hp hK hL
    exact all_leaf u N _ O K v L w rfl hp hK hL
  | succ r ih =>
    intro u N O K v L w hu hp hK hL
    obtain ⟨f, hf⟩ : ∃ f, f = 7 - (r + 1) := ⟨_, rfl⟩
    have hf7 : f < 7 := by omega
    have HIH : Hid (∀ (k : Nat) (M : Nat → Int) (v' : Value) (L' : List (Nat → Int)) (W : World), k ≤ u → PileC W O K v' L' → K ≤ W.heap.size → L'.length + (allF r (u - k) M).length ≤ 1716 →
        Calls Tryd.prog 69 #[.int .i64 ((u : Int) - k), .int .i64 ((f : Int) + 1), .agg #[.int .i64 (M 0), .int .i64 (M 1), .int .i64 (M 2), .int .i64 (M 3), .int .i64 (M 4), .int .i64 (M 5), .int .i64 (M 6), .int .i64 (M 7)], .pointer (some ⟨O, 0, none⟩)] W fun e w' => e = .returned (.tuple #[]) ∧ ∃ v'', PileC w' O K v'' (L' ++ allF r (u - k) M) ∧ GrewC O W w' v' v'') := fun k M v' L' W hk h1 h2 h3 => by
      have h := ih (by omega) (u - k) M O K v' L' W (by omega) h1 h2 h3
      have e1 : ((u - k : Nat) : Int) = (u : Int) - k := by omega
      have e2 : ((7 - r : Nat) : Int) = (f : Int) + 1 := by omega
      rw [e1, e2] at h
      exact h
    have HLn : Hid (∀ k, k ≤ u + 1 → (L ++ allTo r u N k).length ≤ 1716) := fun k hk => by
      have := len_allTo_le r u N hk
      rw [List.length_append]; omega
    have HAS : Hid (∀ k, L ++ allTo r u N (k + 1) = (L ++ allTo r u N k) ++ allF r (u - k) (putN N f k)) := fun k => by
      rw [allTo_succ, List.append_assoc, show 6 - r = f by omega]
    have HAE : Hid (L ++ allTo r u N (u + 1) = L ++ allF (r + 1) u N) := by unfold Hid; rw [allTo_all]
    have HA0 : Hid (L ++ allTo r u N 0 = L) := by unfold Hid; rw [allTo_zero, List.append_nil]
    obtain ⟨w1, hw1⟩ : ∃ w1, w1 = w.alloc (.cells #[.int .i64 (N 0), .int .i64 (N 1), .int .i64 (N 2), .int .i64 (N 3), .int .i64 (N 4), .int .i64 (N 5), .int .i64 (N 6), .int .i64 (N 7)] 89) := ⟨_, rfl⟩
    have HP1 : Hid (PileC w1 O K v L) := by unfold Hid; rw [hw1]; exact hp.alloc _
    have HG1 : Hid (GrewC O w w1 v v) := by unfold Hid; rw [hw1]; exact GrewC.alloc O w _ v
    have HN1 : Hid (Blk w1 w.heap.size 89 (arr8 N)) := by unfold Hid; rw [hw1]; exact Blk.new _ _ _
    have HOl : Hid (O < w.heap.size) := hp.box.lt
    have HKs : Hid (K ≤ w.heap.size) := hK
    have HvB : Hid (∀ g, v.ownBlock = some g → g < w.heap.size) := fun g e => (hp.own.lt g e).2
    have hf' : ((7 - (r + 1) : Nat) : Int) = (f : Int) := by omega
    rw [hf']
    clear ih hf hf' hp hL hK hr
    have hne : ¬ ((f : Int) = 7) := by omega
    go_enter Tryd.func69, Tryd.ntmps69
    go_wp2
    rw [← hw1]
    clear hw1
    (first | rw [show ((f : Int) == 7) = false by simpa using hne] | rw [show decide ((f : Int) = 7) = false by simpa using hne])
    go_loopw [8] (fun i wr => ∃ (k : Nat) (v' : Value) (x : Int), k ≤ u + 1 ∧ i = .int .i64 k ∧ PileC wr O K v' (L ++ allTo r u N k) ∧ GrewC O w wr v v' ∧ (v'.ownBlock ≠ some w.heap.size) ∧ Blk wr w.heap.size 89 (arr8 (putN N f x))) (fun i _ => u + 1 - (intOf i).toNat)
    case atStart =>
      refine ⟨0, v, N f, by omega, rfl, ?_, HG1.out, fun e => by have := HvB.out _ e; omega, ?_⟩
      · rw [HA0.out]; exact HP1.out
      · have e : putN N f (N f) = N := by funext g; unfold putN; split <;> simp_all
        rw [e]; exact HN1.out
    case round =>
      obtain ⟨k, v', x, hk, rfl, hp1, hg1, hv1, hn1⟩ := hrel
      have HP2 : Hid (PileC wr O K v' (L ++ allTo r u N k)) := hp1
      have HG2 : Hid (GrewC O w wr v v') := hg1
      have HV2 : Hid (v'.ownBlock ≠ some w.heap.size) := hv1
      have HN2 : Hid (Blk wr w.heap.size 89 (arr8 (putN N f x))) := hn1
      clear hp1 hg1 hv1 hn1
      by_cases hlt : k ≤ u
      · have hltz : (k : Int) ≤ (u : Int) := by omega
        have c : wr.cell? ⟨w.heap.size, f, none⟩ = some (.int .i64 x) := by rw [HN2.out.cell, arr8_get _ (by omega), putN_same]
        have z := HN2.out.frozen f
        obtain ⟨M, hM⟩ : ∃ M, M = putN N f k := ⟨_, rfl⟩
        obtain ⟨w2, hw2⟩ : ∃ W, W = wr.setCell ⟨w.heap.size, f, none⟩ (.int .i64 k) := ⟨_, rfl⟩
        have HN3 : Hid (Blk w2 w.heap.size 89 (arr8 M)) := by
          unfold Hid; rw [hw2, hM]
          have := HN2.out.set f (.int .i64 k)
          have e : (arr8 (putN N f x)).setIfInBounds f (.int .i64 k) = arr8 (putN N f k) := by
            rcases eight (show f < 8 by omega) with rfl | rfl | rfl | rfl | rfl | rfl | rfl | rfl <;> simp [arr8, putN]
          rw [e] at this
          exact this
        have HP3 : Hid (PileC w2 O K v' (L ++ allTo r u N k)) := by unfold Hid; rw [hw2]; exact HP2.out.far (by have := HOl.out; omega) HV2.out _ _
        have HG3 : Hid (GrewC O w w2 v v') := by unfold Hid; rw [hw2]; exact HG2.out.set (Nat.le_refl _) _ _
        have HC : Hid (Calls Tryd.prog 69 #[.int .i64 ((u : Int) - k), .int .i64 ((f : Int) + 1), .agg #[.int .i64 (M 0), .int .i64 (M 1), .int .i64 (M 2), .int .i64 (M 3), .int .i64 (M 4), .int .i64 (M 5), .int .i64 (M 6), .int .i64 (M 7)], .pointer (some ⟨O, 0, none⟩)] w2 fun e w' => e = .returned (.tuple #[]) ∧ ∃ v'', PileC w' O K v'' (L ++ allTo r u N (k + 1)) ∧ GrewC O w w' v v'' ∧ v''.ownBlock ≠ some w.heap.size ∧ Blk w' w.heap.size 89 (arr8 (putN N f k))) := by
          refine (HIH.out k M v' (L ++ allTo r u N k) w2 hlt HP3.out (Nat.le_trans HKs.out HG3.out.size) ?_).mono fun e w' h => ?_
          · have h1 := HLn.out (k + 1) (by omega)
            rw [HAS.out k, List.length_append] at h1
            rw [hM]; exact h1
          · obtain ⟨he, v'', h1, h2⟩ := h
            have hl := HN3.out.lt
            refine ⟨he, v'', ?_, HG3.out.trans h2, ?_, ?_⟩
            · rw [HAS.out k, ← hM]; exact h1
            · rcases h2.home with e | ⟨g, e, hg⟩
              · rw [e]; exact HV2.out
              · rw [e]; intro e'; have := Option.some.inj e'; omega
            · unfold Blk
              rw [h2.rest _ hl (by have := HOl.out; omega) HV2.out, ← hM]; exact HN3.out
        clear hM
        obtain ⟨q0, q1, q2, q3, q4, q5, q6, q7⟩ := HN3.out.cells8
        go_upto_region 8 with fail
        rw [← hw2]
        clear hw2 c z
        go_wp2_with fail
        go_at_call 69
        refine HC.out.mono ?_
        rintro e w3 ⟨rfl, v3, h1, h2, h3, h4⟩
        have HR : Hid (PileC w3 O K v3 (L ++ allTo r u N (k + 1)) ∧ GrewC O w w3 v v3 ∧ v3.ownBlock ≠ some w.heap.size ∧ Blk w3 w.heap.size 89 (arr8 (putN N f k))) := ⟨h1, h2, h3, h4⟩
        clear h1 h2 h3 h4 q0 q1 q2 q3 q4 q5 q6 q7
        go_wp2
        go_roundw
        case rel => exact ⟨k + 1, v3, k, by omega, by go_num, HR.out.1, HR.out.2.1, HR.out.2.2.1, HR.out.2.2.2⟩
        case measure => simp [intOf]; omega
      · obtain rfl : k = u + 1 := by omega
        have hltz : ¬ (((u + 1 : Nat) : Int) ≤ (u : Int)) := by omega
        have HR : Hid (PileC wr O K v' (L ++ allF (r + 1) u N)) := by
          unfold Hid; rw [← HAE.out]; exact HP2.out
        go_wp2
        (try simp only [Exit.inBlock, Exit.then])
        refine bodyPost_end (results_none rfl _ _ _) rfl ?_
        exact ⟨rfl, v', HR.out, HG2.out⟩
end Go.Proofs.YtjaedfjfcghgcaaDoor
namespace Go.Proofs.YtjaedfjfcghgcaaDoor
open Go.ChangeShapes Go.WideShapes Go.ChangeAt Go.RowKit
set_option maxRecDepth 100000

/-- counts lie at a place. -/
def CntAt (w : World) (b off : Nat) (N : Nat → Int) : Prop := ∀ f, f < 8 → w.cell? ⟨b, off + f, none⟩ = some (.int .i64 (N f))
/-- the slice v reads, in the world w, as these counts. -/
def Reads8 (w : World) (v : Value) (L : List (Nat → Int)) : Prop :=
  (∃ ao cap, v = .slice ao 0 cap ∧ L = []) ∨ (∃ b off cap, v = .slice (some ⟨b, off, none⟩) L.length cap ∧ b < w.heap.size ∧ 0 < L.length ∧ (L.length ≤ 9223372036854775807 ∧ L.length ≤ cap) ∧ ∀ i N, L[i]? = some N → CntAt w b (off + i * 8) N)
theorem Reads8.below {w w' : World} {v : Value} {L : List (Nat → Int)} (h : Reads8 w v L) (hb : Below w.heap.size w w') : Reads8 w' v L := by
  rcases h with h | ⟨b, off, cap, h1, h2, h3, h4, h5⟩
  · exact Or.inl h
  · exact Or.inr ⟨b, off, cap, h1, Nat.lt_of_lt_of_le h2 hb.size, h3, h4, fun i N hN f hf => by rw [hb.cell h2]; exact h5 i N hN f hf⟩
theorem Reads8.slice {w : World} {v : Value} {L : List (Nat → Int)} (h : Reads8 w v L) : ∃ ao cap, v = .slice ao L.length cap ∧ L.length ≤ 9223372036854775807 := by
  rcases h with ⟨ao, cap, rfl, rfl⟩ | ⟨b, off, cap, rfl, _, _, h, _⟩
  · exact ⟨ao, cap, rfl, by decide⟩
  · exact ⟨_, cap, rfl, h.1⟩
theorem cellsC_at (L : List (Nat → Int)) : ∀ (i : Nat) (N : Nat → Int), L[i]? = some N → ∀ f, f < 8 → (cellsC L)[i * 8 + f]? = some (.int .i64 (N f)) := by
  induction L with
  | nil => intro i N h; simp at h
  | cons M L ih =>
    intro i N h f hf
    have e : cellsC (M :: L) = (arr8 M).toList ++ cellsC L := by unfold cellsC; rw [List.flatMap_cons]
    have hl : (arr8 M).toList.length = 8 := rfl
    rw [e]
    cases i with
    | zero =>
      obtain rfl : M = N := by simpa using h
      rw [List.getElem?_append_left (by omega), show 0 * 8 + f = f by omega]
      have := arr8_get M hf
      rw [← Array.getElem?_toList] at this
      exact this
    | succ i =>
      rw [List.getElem?_append_right (by omega), hl, show (i + 1) * 8 + f - 8 = i * 8 + f by omega]
      exact ih i N (by simpa using h) f hf
theorem PileC.reads {w : World} {O K : Nat} {v : Value} {L : List (Nat → Int)} (h : PileC w O K v L) (hL : L.length ≤ 1716) : Reads8 w v L := by
  rcases h.own.2 with ⟨rfl, h0⟩ | ⟨g, cap, cur, rfl, hb, hg, hc, hm, hs, ht⟩
  · exact Or.inl ⟨none, 0, rfl, List.eq_nil_of_length_eq_zero h0⟩
  · rcases Nat.eq_zero_or_pos L.length with h0 | h0
    · have e : L = [] := List.eq_nil_of_length_eq_zero h0
      subst e
      exact Or.inl ⟨_, _, rfl, rfl⟩
    · refine Or.inr ⟨g, 0, cap, rfl, (Array.getElem?_eq_some_iff.1 hg).1, h0, ⟨by omega, hc⟩, fun i N hN f hf => ?_⟩
      have hi : i < L.length := (List.getElem?_eq_some_iff.1 hN).1
      rw [cell_of_row w g _ cur _ (0, 0) hg]
      have hx := cellsC_at L i N hN f hf
      rw [← ht, List.getElem?_take_of_lt (by omega)] at hx
      rw [show 0 + i * 8 + f = i * 8 + f by omega, ← Array.getElem?_toList]
      exact hx

set_option maxHeartbeats 4000000 in
theorem refAll_any (u : Nat) (hu : u ≤ 6) (w : World) :
    Calls Tryd.prog 47 #[.int .i64 u] w fun e w' => ∃ v, e = .returned v ∧ Reads8 w' v (everyC u) ∧ (∀ g, v.ownBlock = some g → w.heap.size ≤ g) ∧ Below w.heap.size w w' := by
  obtain ⟨w1, hw1⟩ : ∃ w1, w1 = (w.alloc (.cells #[.slice none 0 0] 86)).alloc (.cells #[.int .i64 0, .int .i64 0, .int .i64 0, .int .i64 0, .int .i64 0, .int .i64 0, .int .i64 0, .int .i64 0] 89) := ⟨_, rfl⟩
  have HB1 : Hid (Below w.heap.size w w1) := by unfold Hid; rw [hw1]; exact (below_alloc1 _ _).alloc (by simp) _
  have HO1 : Hid (Blk w1 w.heap.size 86 #[.slice none 0 0]) := by unfold Hid; rw [hw1]; exact (Blk.new _ _ _).old _
  have HN1 : Hid (Blk w1 (w.heap.size + 1) 89 #[.int .i64 0, .int .i64 0, .int .i64 0, .int .i64 0, .int .i64 0, .int .i64 0, .int .i64 0, .int .i64 0]) := by
    unfold Hid; rw [hw1]
    have := Blk.new (w.alloc (.cells #[.slice none 0 0] 86)) 89 #[.int .i64 0, .int .i64 0, .int .i64 0, .int .i64 0, .int .i64 0, .int .i64 0, .int .i64 0, .int .i64 0]
    simp only [World.size_alloc] at this
    exact this
  have HS1 : Hid (w1.heap.size = w.heap.size + 2) := by unfold Hid; rw [hw1]; simp
  have HP : Hid (PileC w1 w.heap.size (w.heap.size + 1) (.slice none 0 0) []) := ⟨HO1.out, World.ownsRow_nil _ _ _ _, by omega⟩
  have HC : Hid (Calls Tryd.prog 69 #[.int .i64 u, .int .i64 0, .agg #[.int .i64 0, .int .i64 0, .int .i64 0, .int .i64 0, .int .i64 0, .int .i64 0, .int .i64 0, .int .i64 0], .pointer (some ⟨w.heap.size, 0, none⟩)] w1 fun e w' => e = .returned (.tuple #[]) ∧ ∃ v, w'.cell? ⟨w.heap.size, 0, none⟩ = some v ∧ Reads8 w' v (everyC u) ∧ (∀ g, v.ownBlock = some g → w.heap.size ≤ g) ∧ Below w.heap.size w w') := by
    have hl := length_everyC hu
    refine Calls.mono (refAll_step 7 (by omega) u (fun _ => 0) w.heap.size (w.heap.size + 1) (.slice none 0 0) [] w1 hu HP.out (by rw [HS1.out]; omega) (by simpa [everyC] using hl)) fun e w' h => ?_
    obtain ⟨he, v, h1, h2⟩ := h
    rw [List.nil_append] at h1
    refine ⟨he, v, h1.box.cell 0, h1.reads hl, fun g e => by have := (h1.own.lt g e).1; omega, HB1.out.trans (h2.below HB1.out.size (Nat.le_refl _) fun g e => by cases e)⟩
  clear HP
  have q0 : w1.cell? ⟨w.heap.size + 1, 0, none⟩ = some (.int .i64 0) := HN1.out.cell 0
  have q1 : w1.cell? ⟨w.heap.size + 1, 1, none⟩ = some (.int .i64 0) := HN1.out.cell 1
  have q2 : w1.cell? ⟨w.heap.size + 1, 2, none⟩ = some (.int .i64 0) := HN1.out.cell 2
  have q3 : w1.cell? ⟨w.heap.size + 1, 3, none⟩ = some (.int .i64 0) := HN1.out.cell 3
  have q4 : w1.cell? ⟨w.heap.size + 1, 4, none⟩ = some (.int .i64 0) := HN1.out.cell 4
  have q5 : w1.cell? ⟨w.heap.size + 1, 5, none⟩ = some (.int .i64 0) := HN1.out.cell 5
  have q6 : w1.cell? ⟨w.heap.size + 1, 6, none⟩ = some (.int .i64 0) := HN1.out.cell 6
  have q7 : w1.cell? ⟨w.heap.size + 1, 7, none⟩ = some (.int .i64 0) := HN1.out.cell 7
  go_enter Tryd.func47, Tryd.ntmps47
  go_upto_region 3 with fail
  rw [← hw1]
  clear hw1
  go_wp2_with fail
  go_at_call 69
  refine HC.out.mono ?_
  rintro e w2 ⟨rfl, v, hc, hr, hg, hb⟩
  have HR : Hid (Reads8 w2 v (everyC u) ∧ (∀ g, v.ownBlock = some g → w.heap.size ≤ g) ∧ Below w.heap.size w w2) := ⟨hr, hg, hb⟩
  clear hr hg hb q0 q1 q2 q3 q4 q5 q6 q7
  go_wp2
  go_ret
  exact ⟨_, rfl, HR.out.1, HR.out.2.1, HR.out.2.2⟩
end Go.Proofs.YtjaedfjfcghgcaaDoor

namespace Go.Proofs.YtjaedfjfcghgcaaDoor
open Go.ChangeShapes Go.WideShapes Go.ChangeAt Go.RowKit

theorem infoInt : (Tryd.prog.info? 3).map (fun i => (i.zero, i.size, i.bytes)) = some (some (.int .i64 0), 1, 8) := by kernel_rfl

theorem ownsRow_below {w w' : World} {base : Nat} {e : TypeId} {size : Nat} {v : Value} {n : Nat} {xs : List Value} (h : w.ownsRow base e size v n xs) (hb : Below w.heap.size w w') : w'.ownsRow base e size v n xs := by
  obtain ⟨h1, h2⟩ := h
  refine ⟨h1, ?_⟩
  rcases h2 with h2 | ⟨g, cap, cur, hv, hg, hh, r⟩
  · exact .inl h2
  · refine .inr ⟨g, cap, cur, hv, hg, ?_, r⟩
    rw [hb.block g (Array.getElem?_eq_some_iff.1 hh).1]; exact hh
theorem ownsRow_take {w : World} {base : Nat} {e : TypeId} {g cap n r : Nat} {xs : List Value} (h : w.ownsRow base e 1 (.slice (some ⟨g, 0, none⟩) n cap) n xs) (hr : r ≤ n) : w.ownsRow base e 1 (.slice (some ⟨g, 0, none⟩) r cap) r (xs.take r) := by
  obtain ⟨h1, h2⟩ := h
  rcases h2 with ⟨h0, _⟩ | ⟨g', cap', cur, hv, hg, hh, hn, hcap, hsz, htake⟩
  · cases h0
  · cases hv
    refine ⟨by rw [List.length_take]; omega, .inr ⟨g, cap, cur, rfl, hg, hh, by omega, hcap, hsz, ?_⟩⟩
    rw [← htake, List.take_take]
    congr 1
    omega
/-- an owned row of numbers: its cells. -/
theorem ownsRow_int {w : World} {base : Nat} {e : TypeId} {g cap : Nat} {p : List Int} (h : w.ownsRow base e 1 (.slice (some ⟨g, 0, none⟩) p.length cap) p.length (p.map (Value.int .i64))) {j : Nat} (hj : j < p.length) : w.cell? ⟨g, j, none⟩ = some (.int .i64 (p.getD j 0)) := by
  rw [h.cellAt j (by omega)]
  simp [List.getElem?_eq_getElem hj]
theorem ownsRow_block {w : World} {base : Nat} {e : TypeId} {size g n cap : Nat} {xs : List Value} (h : w.ownsRow base e size (.slice (some ⟨g, 0, none⟩) n cap) n xs) : base ≤ g ∧ g < w.heap.size ∧ n ≤ cap := by
  rcases h.2 with ⟨h0, _⟩ | ⟨g', cap', cur, hv, hg, hh, hn, _⟩
  · cases h0
  · cases hv
    exact ⟨hg, (Array.getElem?_eq_some_iff.1 hh).1, hn⟩

theorem step_leaf (w : Wd) (p : List Int) (s : Int) (h : s ≤ 4) : w.step p s = p.take p.length ++ [w.made s []] := by
  unfold Wd.step restN
  rw [takes5 s (by omega), made_leaf w s _ h]; rfl
theorem step_one (w : Wd) (p : List Int) (h : 1 ≤ p.length) : w.step p 8 = p.take (p.length - 1) ++ [doN 8 w.u (p.getD (p.length - 1) 0) (p.getD (p.length - 1) 0)] := by
  unfold Wd.step restN
  rw [takes1, made_do w 8 _ (by omega)]
  have e : (p.drop (p.length - 1)) = [p.getD (p.length - 1) 0] := by
    rw [List.drop_eq_getElem_cons (by omega), List.drop_eq_nil_of_le (by omega)]
    simp [List.getElem?_eq_getElem (show p.length - 1 < p.length by omega)]
  simp only [show (1 : Int).toNat = 1 from rfl, e]; rfl
theorem step_two (w : Wd) (p : List Int) (s : Int) (h5 : 5 ≤ s) (h7 : s ≤ 7) (h : 2 ≤ p.length) : w.step p s = p.take (p.length - 2) ++ [doN s w.u (p.getD (p.length - 2) 0) (p.getD (p.length - 2 + 1) 0)] := by
  unfold Wd.step restN
  rw [takes2 s h5 h7, made_do w s _ h5]
  have e : (p.drop (p.length - 2)) = [p.getD (p.length - 2) 0, p.getD (p.length - 2 + 1) 0] := by
    rw [List.drop_eq_getElem_cons (by omega), List.drop_eq_getElem_cons (by omega), List.drop_eq_nil_of_le (by omega)]
    simp [List.getElem?_eq_getElem (show p.length - 2 < p.length by omega), List.getElem?_eq_getElem (show p.length - 2 + 1 < p.length by omega)]
  simp only [show (2 : Int).toNat = 2 from rfl, e]; rfl

/-- what a round leaves. -/
theorem work_rel {w1 wr wm w2 : World} {K : Nat} {v v' : Value} {p q : List Int} {r : Nat} {X : Int} (hK : K ≤ wr.heap.size) (hb : Below K w1 wr) (hm : Below wr.heap.size wr wm)
    (hown : w2.ownsRow K 3 1 v' (r + 1) (((p.take r).map (Value.int .i64)) ++ [.int .i64 X])) (hv : ∀ k, v.ownBlock = some k → K ≤ k)
    (hg : (wm.alloc (.cells #[.int .i64 X] 3)).grownBy w2 v.ownBlock) (hr : r ≤ p.length) (hq : q = p.take r ++ [X]) :
    w2.ownsRow K 3 1 v' q.length (q.map (Value.int .i64)) ∧ Below K w1 w2 ∧ K ≤ w2.heap.size := by
  have hs : wr.heap.size ≤ wm.heap.size := hm.size
  have e1 : q.length = r + 1 := by rw [hq]; simp; omega
  have e2 : q.map (Value.int .i64) = ((p.take r).map (Value.int .i64)) ++ [.int .i64 X] := by rw [hq]; simp
  have b1 : Below K w1 (wm.alloc (.cells #[.int .i64 X] 3)) := (hb.trans (hm.mono hK)).alloc (by omega) _
  have b2 : Below K w1 w2 := b1.grown hg (by simp; omega) hv
  refine ⟨by rw [e1, e2]; exact hown, b2, ?_⟩
  have := hg.size
  simp at this
  omega
end Go.Proofs.YtjaedfjfcghgcaaDoor
