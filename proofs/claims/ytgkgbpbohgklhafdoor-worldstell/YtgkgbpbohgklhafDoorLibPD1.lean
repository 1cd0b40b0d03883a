/-
  Proved: what vennsame.Error returns of an error and its number (what the statements of chapter 9 lean on).
  Proved: what the reference's All returns: all counts of so many things, one behind the other; what was in memory is as it was (contracts that the statements lean on). Proved: what the reference's All returns, of up to six things: a slice that reads as all counts, one behind the other; what was in memory is as it was (a contract that the statements lean on).
  Proved: what the reference's functions Power, Has and Set return, and that they leave memory as it was.
  Proved: what the reference's Counts and Fields return; what was in memory is as it was (contracts that the statements lean on).
-/
import Derived.Test.YtgkgbpbohgklhafDoorLibPC5
import Derived.Test.YtgkgbpbohgklhafDoorLibPC15
import Derived.Test.YtgkgbpbohgklhafDoorLibPC3
import Derived.Test.YtgkgbpbohgklhafDoorLibPC7
import Derived.Deep.AppendLies
import Derived.Deep.RegionLaw
import Derived.Deep.Cut
import Derived.Test.YtgkgbpbohgklhafDoorRows
import Derived.Test.YtgkgbpbohgklhafDoorLibPC1
import Derived.WalkKit
import Derived.ProofKit
import Derived.OpenShut
import Derived.Test.YtgkgbpbohgklhafDoorLibPC6
namespace Go.Proofs.YtgkgbpbohgklhafDoor
open Go.ChangeShapes Go.WideShapes Go.ChangeAt Go.RowKit

theorem merr_any (n : Int) (w : World) (hg : Laid w) : Calls Tryd.prog 7 #[errV n, .int .i64 n] w fun e w' => e = .returned (.bool true) ∧ Below w.heap.size w w' := by
  by_cases h : n = 0
  · subst h
    exact (same_nil 0 w).mono fun _ _ h => ⟨h.1, by rw [← h.2]; exact Below.refl _ _⟩
  · rw [errV_no h]
    have := same_err n n w hg
    rw [beq_self_eq_true] at this; exact this
end Go.Proofs.YtgkgbpbohgklhafDoor

namespace Go.Proofs.YtgkgbpbohgklhafDoor
open Go.ChangeShapes Go.WideShapes Go.ChangeAt Go.RowKit
set_option maxRecDepth 100000

/-- the cells of a list of counts. -/
def cellsC (L : List (Nat → Int)) : List Value := L.flatMap fun N => (arr8 N).toList
theorem cellsC_append (L M : List (Nat → Int)) : cellsC (L ++ M) = cellsC L ++ cellsC M := by unfold cellsC; rw [List.flatMap_append]
theorem cellsC_one (N : Nat → Int) : cellsC [N] = (arr8 N).toList := by unfold cellsC; simp
/-- the slice that block O holds is a call's own, and reads as these counts. -/
structure PileC (w : World) (O K : Nat) (v : Value) (L : List (Nat → Int)) : Prop where
  box : Blk w O 40 #[v]
  own : w.ownsRow K 36 8 v L.length (cellsC L)
  lt : O < K
/-- all but block O and the slice's own row is as it was; the row is where it was, or new. -/
structure GrewC (O : Nat) (w w' : World) (v v' : Value) : Prop where
  os : w'.os = w.os
  tape : w'.tape = w.tape
  output : w'.output = w.output
  size : w.heap.size ≤ w'.heap.size
  rest : ∀ b, b < w.heap.size → b ≠ O → v.ownBlock ≠ some b → w'.heap[b]? = w.heap[b]?
  home : v'.ownBlock = v.ownBlock ∨ ∃ g, v'.ownBlock = some g ∧ w.heap.size ≤ g
theorem GrewC.refl (O : Nat) (w : World) (v : Value) : GrewC O w w v v := ⟨rfl, rfl, rfl, Nat.le_refl _, fun _ _ _ _ => rfl, Or.inl rfl⟩
theorem GrewC.trans {O : Nat} {a b c : World} {v v' v'' : Value} (h : GrewC O a b v v') (k : GrewC O b c v' v'') : GrewC O a c v v'' := by
  refine ⟨k.os.trans h.os, k.tape.trans h.tape, k.output.trans h.output, Nat.le_trans h.size k.size, fun i hi hO hv => ?_, ?_⟩
  · have hv' : v'.ownBlock ≠ some i := by
      rcases h.home with e | ⟨g, e, hg⟩
      · rw [e]; exact hv
      · rw [e]; intro e'; have := Option.some.inj e'; omega
    rw [k.rest i (Nat.lt_of_lt_of_le hi h.size) hO hv', h.rest i hi hO hv]
  · rcases k.home with e | ⟨g, e, hg⟩
    · rw [e]; exact h.home
    · exact Or.inr ⟨g, e, Nat.le_trans h.size hg⟩
theorem GrewC.alloc (O : Nat) (w : World) (o : Obj) (v : Value) : GrewC O w (w.alloc o) v v := ⟨rfl, rfl, rfl, by simp, fun i hi _ _ => heap_alloc_old w o hi, Or.inl rfl⟩
theorem GrewC.set {O : Nat} {w w' : World} {v v' : Value} (h : GrewC O w w' v v') {B : Nat} (hB : w.heap.size ≤ B) (j : Nat) (x : Value) : GrewC O w (w'.setCell ⟨B, j, none⟩ x) v v' := by
  refine ⟨h.os, h.tape, h.output, ?_, fun i hi hO hv => ?_, h.home⟩
  · have := h.size; simpa using this
  · rw [heap_setCell_other w' ⟨B, j, none⟩ i x (by show i ≠ B; omega)]; exact h.rest i hi hO hv
theorem GrewC.below {O : Nat} {w w' : World} {v v' : Value} (h : GrewC O w w' v v') {B : Nat} (hB : B ≤ w.heap.size) (hO : B ≤ O) (hv : ∀ g, v.ownBlock = some g → B ≤ g) : Below B w w' :=
  ⟨h.os, h.tape, h.output, h.size, fun i hi => h.rest i (by omega) (by omega) fun e => by have := hv i e; omega⟩
theorem PileC.far {w : World} {O K : Nat} {v : Value} {L : List (Nat → Int)} (h : PileC w O K v L) {B : Nat} (hB : B ≠ O) (hv : v.ownBlock ≠ some B) (j : Nat) (x : Value) : PileC (w.setCell ⟨B, j, none⟩ x) O K v L := by
  refine ⟨h.box.far (Ne.symm hB) j x, ⟨h.own.1, ?_⟩, h.lt⟩
  rcases h.own.2 with hn | ⟨g, cap, cur, rfl, hb, hg, rest⟩
  · exact Or.inl hn
  · refine Or.inr ⟨g, cap, cur, rfl, hb, ?_, rest⟩
    rw [heap_setCell_other w ⟨B, j, none⟩ g x (by intro e; apply hv; simp only at e; rw [← e]; rfl)]; exact hg
theorem PileC.alloc {w : World} {O K : Nat} {v : Value} {L : List (Nat → Int)} (h : PileC w O K v L) (o : Obj) : PileC (w.alloc o) O K v L := ⟨h.box.old o, h.own.alloc o, h.lt⟩
theorem infoI8 : (Tryd.prog.info? 36).isSome = true := by kernel_rfl
theorem zeroI8 : (Tryd.prog.info? 36).bind (·.zero) = some (.agg #[.int .i64 0, .int .i64 0, .int .i64 0, .int .i64 0, .int .i64 0, .int .i64 0, .int .i64 0, .int .i64 0]) := by kernel_rfl
theorem sizeI8 : (Tryd.prog.info? 36).map (·.size) = some 8 := by kernel_rfl
theorem bytesI8 : (Tryd.prog.info? 36).map (·.bytes) = some 64 := by kernel_rfl

theorem leaf_post {w w1 W0 w2 : World} {O K gg n cap1 : Nat} {v : Value} {L : List (Nat → Int)} {M : Nat → Int} (hg1 : GrewC O w w1 v v) (hb : Below w1.heap.size w1 W0) (hgrow : W0.grownBy w2 v.ownBlock) (bO : Blk w2 O 40 #[v])
    (hown1 : w2.ownsRow K 36 8 (.slice (some ⟨gg, 0, none⟩) (n + 1) cap1) (n + 1) (cellsC L ++ (arr8 M).toList)) (hat : v.ownBlock = some gg ∨ gg = w1.heap.size + 1) (hO : O < K) (hn : n = L.length) :
    PileC (w2.setCell ⟨O, 0, none⟩ (.slice (some ⟨gg, 0, none⟩) (n + 1) cap1)) O K (.slice (some ⟨gg, 0, none⟩) (n + 1) cap1) (L ++ [M]) ∧ GrewC O w (w2.setCell ⟨O, 0, none⟩ (.slice (some ⟨gg, 0, none⟩) (n + 1) cap1)) v (.slice (some ⟨gg, 0, none⟩) (n + 1) cap1) := by
  have hK : K ≤ gg := (hown1.lt gg rfl).1
  have e1 : (L ++ [M]).length = n + 1 := by simp [hn]
  have e2 : cellsC (L ++ [M]) = cellsC L ++ (arr8 M).toList := by rw [cellsC_append, cellsC_one]
  refine ⟨⟨?_, ?_, hO⟩, ?_⟩
  · have := bO.set 0 (.slice (some ⟨gg, 0, none⟩) (n + 1) cap1)
    simpa using this
  · rw [e1, e2]
    refine ⟨hown1.1, ?_⟩
    rcases hown1.2 with ⟨h, _⟩ | ⟨g, cap, cur, h, hb', hg, rest⟩
    · cases h
    · refine Or.inr ⟨g, cap, cur, h, hb', ?_, rest⟩
      rw [heap_setCell_other w2 ⟨O, 0, none⟩ g _ (by show g ≠ O; omega)]; exact hg
  · refine ⟨(hgrow.os.trans hb.os).trans hg1.os, (hgrow.tape.trans hb.tape).trans hg1.tape, (hgrow.output.trans hb.output).trans hg1.output, ?_, fun i hi hiO hv => ?_, ?_⟩
    · have := hg1.size
      have := hb.size
      have := hgrow.size
      simp
      omega
    · have h1 := hg1.size
      have h2 := hb.size
      rw [heap_setCell_other w2 ⟨O, 0, none⟩ i _ (by show i ≠ O; exact hiO), hgrow.block i (by omega) (fun e => hv e.symm), hb.block i (by omega)]
      exact hg1.rest i hi hiO hv
    · rcases hat with h | h
      · exact Or.inl h.symm
      · exact Or.inr ⟨gg, rfl, by have := hg1.size; omega⟩

set_option maxHeartbeats 4000000 in
theorem all_leaf (u : Nat) (N M : Nat → Int) (O K : Nat) (v : Value) (L : List (Nat → Int)) (w : World) (hM : M = putN N 7 u) (hp : PileC w O K v L) (hK : K ≤ w.heap.size) (hL : L.length + 1 ≤ 1716) :
    Calls Tryd.prog 33 #[.int .i64 u, .int .i64 7, .agg #[.int .i64 (N 0), .int .i64 (N 1), .int .i64 (N 2), .int .i64 (N 3), .int .i64 (N 4), .int .i64 (N 5), .int .i64 (N 6), .int .i64 (N 7)], .pointer (some ⟨O, 0, none⟩)] w fun e w' => e = .returned (.tuple #[]) ∧ ∃ v', PileC w' O K v' (L ++ [M]) ∧ GrewC O w w' v v' := by
  obtain ⟨w1, hw1⟩ : ∃ w1, w1 = w.alloc (.cells #[.int .i64 (N 0), .int .i64 (N 1), .int .i64 (N 2), .int .i64 (N 3), .int .i64 (N 4), .int .i64 (N 5), .int .i64 (N 6), .int .i64 u] 36) := ⟨_, rfl⟩
  have HS1 : Hid (w1.heap.size = w.heap.size + 1) := by unfold Hid; rw [hw1]; simp
  have HN1 : Hid (Blk w1 w.heap.size 36 (arr8 M)) := by
    unfold Hid; rw [hw1, hM]
    have e : arr8 (putN N 7 u) = #[.int .i64 (N 0), .int .i64 (N 1), .int .i64 (N 2), .int .i64 (N 3), .int .i64 (N 4), .int .i64 (N 5), .int .i64 (N 6), .int .i64 u] := by simp [arr8, putN]
    rw [e]
    exact Blk.new _ _ _
  have hvB : v.ownBlock ≠ some w.heap.size := fun e => by have := (hp.own.lt _ e).2; omega
  have hOl := hp.box.lt
  have HP1 : Hid (PileC w1 O K v L) := by unfold Hid; rw [hw1]; exact hp.alloc _
  have HG1 : Hid (GrewC O w w1 v v) := by unfold Hid; rw [hw1]; exact GrewC.alloc O w _ v
  obtain ⟨i8, hi⟩ : ∃ i, Tryd.prog.info? 36 = some i := Option.isSome_iff_exists.1 infoI8
  have hz0 : i8.zero = some (.agg #[.int .i64 0, .int .i64 0, .int .i64 0, .int .i64 0, .int .i64 0, .int .i64 0, .int .i64 0, .int .i64 0]) := by have := zeroI8; rw [hi] at this; simpa using this
  have hz1 : i8.size = 8 := by have := sizeI8; rw [hi] at this; simpa using this
  have hz2 : i8.bytes = 64 := by have := bytesI8; rw [hi] at this; simpa using this
  obtain ⟨q0, q1, q2, q3, q4, q5, q6, q7⟩ := HN1.out.cells8
  have qO : w1.cell? ⟨O, 0, none⟩ = some v := HP1.out.box.cell 0
  obtain ⟨n, hn⟩ : ∃ n, n = L.length := ⟨_, rfl⟩
  have HOW : Hid (w1.ownsRow K 36 8 v n (cellsC L)) := by unfold Hid; rw [hn]; exact HP1.out.own
  rw [← hn] at hL
  have HNL : Hid (n = L.length) := hn
  clear hn hM
  have HKeep : Hid (∀ W0 W2, Below w1.heap.size w1 W0 → W0.grownBy W2 v.ownBlock → Blk W2 O 40 #[v] ∧ W2.cell? ⟨O, 0, none⟩ = some v ∧ W2.cell? ⟨w.heap.size, 0, none⟩ = some (.int .i64 (M 0)) ∧ W2.cell? ⟨w.heap.size, 1, none⟩ = some (.int .i64 (M 1)) ∧ W2.cell? ⟨w.heap.size, 2, none⟩ = some (.int .i64 (M 2)) ∧ W2.cell? ⟨w.heap.size, 3, none⟩ = some (.int .i64 (M 3)) ∧ W2.cell? ⟨w.heap.size, 4, none⟩ = some (.int .i64 (M 4)) ∧ W2.cell? ⟨w.heap.size, 5, none⟩ = some (.int .i64 (M 5)) ∧ W2.cell? ⟨w.heap.size, 6, none⟩ = some (.int .i64 (M 6)) ∧ W2.cell? ⟨w.heap.size, 7, none⟩ = some (.int .i64 (M 7)) ∧ W2.frozen? ⟨O, 0, none⟩ = false) := fun W0 W2 hb hg => by
    have hvO : some O ≠ v.ownBlock := fun e => by have := (hp.own.lt _ e.symm).1; have := hp.lt; omega
    have hvB' : some w.heap.size ≠ v.ownBlock := fun e => hvB e.symm
    have hB1 := HN1.out.lt
    have hO1 := HP1.out.box.lt
    have bO : Blk W2 O 40 #[v] := by
      unfold Blk
      rw [hg.block O (Nat.lt_of_lt_of_le hO1 hb.size) hvO, hb.block O hO1]; exact HP1.out.box
    have bN : Blk W2 w.heap.size 36 (arr8 M) := by
      unfold Blk
      rw [hg.block _ (Nat.lt_of_lt_of_le hB1 hb.size) hvB', hb.block _ hB1]; exact HN1.out
    exact ⟨bO, bO.cell 0, bN.cell 0, bN.cell 1, bN.cell 2, bN.cell 3, bN.cell 4, bN.cell 5, bN.cell 6, bN.cell 7, bO.frozen 0⟩
  go_enter Tryd.func33, Tryd.ntmps33
  go_upto_region 3 with fail
  rw [← hw1]
  clear hw1
  have HKs : Hid (K ≤ w1.heap.size) := by unfold Hid; rw [HS1.out]; omega
  have HA1 : Hid (Blk (w1.alloc (.cells #[.int .i64 (M 0), .int .i64 (M 1), .int .i64 (M 2), .int .i64 (M 3), .int .i64 (M 4), .int .i64 (M 5), .int .i64 (M 6), .int .i64 (M 7)] 36)) O 40 #[v]) := HP1.out.box.old _
  have HA2 : Hid (Blk (w1.alloc (.cells #[.int .i64 (M 0), .int .i64 (M 1), .int .i64 (M 2), .int .i64 (M 3), .int .i64 (M 4), .int .i64 (M 5), .int .i64 (M 6), .int .i64 (M 7)] 36)) w.heap.size 36 (arr8 M)) := HN1.out.old _
  have rO : (w1.alloc (.cells #[.int .i64 (M 0), .int .i64 (M 1), .int .i64 (M 2), .int .i64 (M 3), .int .i64 (M 4), .int .i64 (M 5), .int .i64 (M 6), .int .i64 (M 7)] 36)).cell? ⟨O, 0, none⟩ = some v := HA1.out.cell 0
  obtain ⟨r0, r1, r2, r3, r4, r5, r6, r7⟩ := HA2.out.cells8
  go_region_law (refine step_append_lies _ (by rfl) _ _ _ (by rfl) K 36 i8 (.agg #[.int .i64 0, .int .i64 0, .int .i64 0, .int .i64 0, .int .i64 0, .int .i64 0, .int .i64 0, .int .i64 0]) 8 64 Tryd.underlying40 hi hz0 hz1 hz2 rfl (by decide) v n (cellsC L) (by rfl) (HOW.out.alloc _) ⟨w1.heap.size, 0, none⟩ 1 1 (arr8 M).toList (by rfl) (by rfl) (World.news_of_block (cs := arr8 M) (t := 36) (fr := (0, 0)) (heap_alloc_new w1 _)) (by simp [arr8, Value.oneCell']) (by omega) (by unfold maxLen; omega) (by omega) (by have := HKs.out; simp; omega) (w1.heap.size + 1) (by simp) ?_; intro gg cap1 w2 hown1 hgrow hat hlt1; obtain ⟨bO, z8, z0, z1, z2, z3, z4, z5, z6, z7, fz⟩ := HKeep.out _ w2 ((below_alloc1 w1 _).drew) hgrow)
  all_goals
    have HPo : Hid (PileC (w2.setCell ⟨O, 0, none⟩ (.slice (some ⟨gg, 0, none⟩) (n + 1) cap1)) O K (.slice (some ⟨gg, 0, none⟩) (n + 1) cap1) (L ++ [M]) ∧ GrewC O w (w2.setCell ⟨O, 0, none⟩ (.slice (some ⟨gg, 0, none⟩) (n + 1) cap1)) v (.slice (some ⟨gg, 0, none⟩) (n + 1) cap1)) := leaf_post HG1.out ((below_alloc1 w1 _).drew) hgrow bO hown1 hat hp.lt HNL.out
    clear hgrow bO hown1 hat hlt1 z8 z0 z1 z2 z3 z4 z5 z6 z7 fz
    go_wp2
    (try simp only [Exit.inBlock, Exit.then])
    refine bodyPost_ret (results_none rfl _ _ _) rfl ?_
    exact ⟨rfl, _, HPo.out.1, HPo.out.2⟩

set_option maxHeartbeats 8000000 in
theorem refAll_step (r : Nat) (hr : r ≤ 7) : ∀ (u : Nat) (N : Nat → Int) (O K : Nat) (v : Value) (L : List (Nat → Int)) (w : World), u ≤ 6 → PileC w O K v L → K ≤ w.heap.size → L.length + (allF r u N).length ≤ 1716 →
    Calls Tryd.prog 33 #[.int .i64 u, .int .i64 ((7 - r : Nat) : Int), .agg #[.int .i64 (N 0), .int .i64 (N 1), .int .i64 (N 2), .int .i64 (N 3), .int .i64 (N 4), .int .i64 (N 5), .int .i64 (N 6), .int .i64 (N 7)], .pointer (some ⟨O, 0, none⟩)] w fun e w' => e = .returned (.tuple #[]) ∧ ∃ v', PileC w' O K v' (L ++ allF r u N) ∧ GrewC O w w' v v' := by
  induction r with
  | zero =>
    intro u N O K v L w _ hp hK hL
    exact all_leaf u N _ O K v L w rfl hp hK hL
  | succ r ih =>
    intro u N O K v L w hu hp hK hL
    obtain ⟨f, hf⟩ : ∃ f, f = 7 - (r + 1) := ⟨_, rfl⟩
    have hf7 : f < 7 := by omega
    have HIH : Hid (∀ (k : Nat) (M : Nat → Int) (v' : Value) (L' : List (Nat → Int)) (W : World), k ≤ u → PileC W O K v' L' → K ≤ W.heap.size → L'.length + (allF r (u - k) M).length ≤ 1716 →
        Calls Tryd.prog 33 #[.int .i64 ((u : Int) - k), .int .i64 ((f : Int) + 1), .agg #[.int .i64 (M 0), .int .i64 (M 1), .int .i64 (M 2), .int .i64 (M 3), .int .i64 (M 4), .int .i64 (M 5), .int .i64 (M 6), .int .i64 (M 7)], .pointer (some ⟨O, 0, none⟩)] W fun e w' => e = .returned (.tuple #[]) ∧ ∃ v'', PileC w' O K v'' (L' ++ allF r (u - k) M) ∧ GrewC O W w' v' v'') := fun k M v' L' W hk h1 h2 h3 => by
      have h := ih (by omega) (u - k) M O K v' L' W (by omega) h1 h2 h3
      have e1 : ((u - k : Nat) : Int) = (u : Int) - k := by omega
      have e2 : ((7 - r : Nat) : Int) = (f : Int) + 1 := by omega
      rw [e1, e2] at h
      exact h
    have HLn : Hid (∀ k, k ≤ u + 1 → (L ++ allTo r u N k).length ≤ 1716) := fun k hk => by
      have := len_allTo_le r u N hk
      rw [List.length_append]; omega
    have HAS : Hid (∀ k, L ++ allTo r u N (k + 1) = (L ++ allTo r u N k) ++ allF r (u - k) (putN N f k)) := fun k => by
      rw [allTo_succ, List.append_assoc, show 6 - r = f by omega]
    have HAE : Hid (L ++ allTo r u N (u + 1) = L ++ allF (r + 1) u N) := by unfold Hid; rw [allTo_all]
    have HA0 : Hid (L ++ allTo r u N 0 = L) := by unfold Hid; rw [allTo_zero, List.append_nil]
    obtain ⟨w1, hw1⟩ : ∃ w1, w1 = w.alloc (.cells #[.int .i64 (N 0), .int .i64 (N 1), .int .i64 (N 2), .int .i64 (N 3), .int .i64 (N 4), .int .i64 (N 5), .int .i64 (N 6), .int .i64 (N 7)] 36) := ⟨_, rfl⟩
    have HP1 : Hid (PileC w1 O K v L) := by unfold Hid; rw [hw1]; exact hp.alloc _
    have HG1 : Hid (GrewC O w w1 v v) := by unfold Hid; rw [hw1]; exact GrewC.alloc O w _ v
    have HN1 : Hid (Blk w1 w.heap.size 36 (arr8 N)) := by unfold Hid; rw [hw1]; exact Blk.new _ _ _
    have HOl : Hid (O < w.heap.size) := hp.box.lt
    have HKs : Hid (K ≤ w.heap.size) := hK
    have HvB : Hid (∀ g, v.ownBlock = some g → g < w.heap.size) := fun g e => (hp.own.lt g e).2
    have hf' : ((7 - (r + 1) : Nat) : Int) = (f : Int) := by omega
    rw [hf']
    clear ih hf hf' hp hL hK hr
    have hne : ¬ ((f : Int) = 7) := by omega
    go_enter Tryd.func33, Tryd.ntmps33
    go_wp2
    rw [← hw1]
    clear hw1
    (first | rw [show ((f : Int) == 7) = false by simpa using hne] | rw [show decide ((f : Int) = 7) = false by simpa using hne])
    go_loopw [8] (fun i wr => ∃ (k : Nat) (v' : Value) (x : Int), k ≤ u + 1 ∧ i = .int .i64 k ∧ PileC wr O K v' (L ++ allTo r u N k) ∧ GrewC O w wr v v' ∧ (v'.ownBlock ≠ some w.heap.size) ∧ Blk wr w.heap.size 36 (arr8 (putN N f x))) (fun i _ => u + 1 - (intOf i).toNat)
    case atStart =>
      refine ⟨0, v, N f, by omega, rfl, ?_, HG1.out, fun e => by have := HvB.out _ e; omega, ?_⟩
      · rw [HA0.out]; exact HP1.out
      · have e : putN N f (N f) = N := by funext g; unfold putN; split <;> simp_all
        rw [e]; exact HN1.out
    case round =>
      obtain ⟨k, v', x, hk, rfl, hp1, hg1, hv1, hn1⟩ := hrel
      have HP2 : Hid (PileC wr O K v' (L ++ allTo r u N k)) := hp1
      have HG2 : Hid (GrewC O w wr v v') := hg1
      have HV2 : Hid (v'.ownBlock ≠ some w.heap.size) := hv1
      have HN2 : Hid (Blk wr w.heap.size 36 (arr8 (putN N f x))) := hn1
      clear hp1 hg1 hv1 hn1
      by_cases hlt : k ≤ u
      · have hltz : (k : Int) ≤ (u : Int) := by omega
        have c : wr.cell? ⟨w.heap.size, f, none⟩ = some (.int .i64 x) := by rw [HN2.out.cell, arr8_get _ (by omega), putN_same]
        have z := HN2.out.frozen f
        obtain ⟨M, hM⟩ : ∃ M, M = putN N f k := ⟨_, rfl⟩
        obtain ⟨w2, hw2⟩ : ∃ W, W = wr.setCell ⟨w.heap.size, f, none⟩ (.int .i64 k) := ⟨_, rfl⟩
        have HN3 : Hid (Blk w2 w.heap.size 36 (arr8 M)) := by
          unfold Hid; rw [hw2, hM]
          have := HN2.out.set f (.int .i64 k)
          have e : (arr8 (putN N f x)).setIfInBounds f (.int .i64 k) = arr8 (putN N f k) := by
            rcases eight (show f < 8 by omega) with rfl | rfl | rfl | rfl | rfl | rfl | rfl | rfl <;> simp [arr8, putN]
          rw [e] at this
          exact this
        have HP3 : Hid (PileC w2 O K v' (L ++ allTo r u N k)) := by unfold Hid; rw [hw2]; exact HP2.out.far (by have := HOl.out; omega) HV2.out _ _
        have HG3 : Hid (GrewC O w w2 v v') := by unfold Hid; rw [hw2]; exact HG2.out.set (Nat.le_refl _) _ _
        have HC : Hid (Calls Tryd.prog 33 #[.int .i64 ((u : Int) - k), .int .i64 ((f : Int) + 1), .agg #[.int .i64 (M 0), .int .i64 (M 1), .int .i64 (M 2), .int .i64 (M 3), .int .i64 (M 4), .int .i64 (M 5), .int .i64 (M 6), .int .i64 (M 7)], .pointer (some ⟨O, 0, none⟩)] w2 fun e w' => e = .returned (.tuple #[]) ∧ ∃ v'', PileC w' O K v'' (L ++ allTo r u N (k + 1)) ∧ GrewC O w w' v v'' ∧ v''.ownBlock ≠ some w.heap.size ∧ Blk w' w.heap.size 36 (arr8 (putN N f k))) := by
          refine (HIH.out k M v' (L ++ allTo r u N k) w2 hlt HP3.out (Nat.le_trans HKs.out HG3.out.size) ?_).mono fun e w' h => ?_
          · have h1 := HLn.out (k + 1) (by omega)
            rw [HAS.out k, List.length_append] at h1
            rw [hM]; exact h1
          · obtain ⟨he, v'', h1, h2⟩ := h
            have hl := HN3.out.lt
            refine ⟨he, v'', ?_, HG3.out.trans h2, ?_, ?_⟩
            · rw [HAS.out k, ← hM]; exact h1
            · rcases h2.home with e | ⟨g, e, hg⟩
              · rw [e]; exact HV2.out
              · rw [e]; intro e'; have := Option.some.inj e'; omega
            · unfold Blk
              rw [h2.rest _ hl (by have := HOl.out; omega) HV2.out, ← hM]; exact HN3.out
        clear hM
        obtain ⟨q0, q1, q2, q3, q4, q5, q6, q7⟩ := HN3.out.cells8
        go_upto_region 8 with fail
        rw [← hw2]
        clear hw2 c z
        go_wp2_with fail
        go_at_call 33
        refine HC.out.mono ?_
        rintro e w3 ⟨rfl, v3, h1, h2, h3, h4⟩
        have HR : Hid (PileC w3 O K v3 (L ++ allTo r u N (k + 1)) ∧ GrewC O w w3 v v3 ∧ v3.ownBlock ≠ some w.heap.size ∧ Blk w3 w.heap.size 36 (arr8 (putN N f k))) := ⟨h1, h2, h3, h4⟩
        clear h1 h2 h3 h4 q0 q1 q2 q3 q4 q5 q6 q7
        go_wp2
        go_roundw
        case rel => exact ⟨k + 1, v3, k, by omega, by go_num, HR.out.1, HR.out.2.1, HR.out.2.2.1, HR.out.2.2.2⟩
        case measure => simp [intOf]; omega
      · obtain rfl : k = u + 1 := by omega
        have hltz : ¬ (((u + 1 : Nat) : Int) ≤ (u : Int)) := by omega
        have HR : Hid (PileC wr O K v' (L ++ allF (r + 1) u N)) := by
          unfold Hid; rw [← HAE.out]; exact HP2.out
        go_wp2
        (try simp only [Exit.inBlock, Exit.then])
        refine bodyPost_end (results_none rfl _ _ _) rfl ?_
        exact ⟨rfl, v', HR.out, HG2.out⟩
end Go.Proofs.YtgkgbpbohgklhafDoor
namespace Go.Proofs.YtgkgbpbohgklhafDoor
open Go.ChangeShapes Go.WideShapes Go.ChangeAt Go.RowKit
set_option maxRecDepth 100000

/-- counts lie at a place. -/
def CntAt (w : World) (b off : Nat) (N : Nat → Int) : Prop := ∀ f, f < 8 → w.cell? ⟨b, off + f, none⟩ = some (.int .i64 (N f))
/-- the slice v reads, in the world w, as these counts. -/
def Reads8 (w : World) (v : Value) (L : List (Nat → Int)) : Prop :=
  (∃ ao cap, v = .slice ao 0 cap ∧ L = []) ∨ (∃ b off cap, v = .slice (some ⟨b, off, none⟩) L.length cap ∧ b < w.heap.size ∧ 0 < L.length ∧ (L.length ≤ 9223372036854775807 ∧ L.length ≤ cap) ∧ ∀ i N, L[i]? = some N → CntAt w b (off + i * 8) N)
theorem Reads8.below {w w' : World} {v : Value} {L : List (Nat → Int)} (h : Reads8 w v L) (hb : Below w.heap.size w w') : Reads8 w' v L := by
  rcases h with h | ⟨b, off, cap, h1, h2, h3, h4, h5⟩
  · exact Or.inl h
  · exact Or.inr ⟨b, off, cap, h1, Nat.lt_of_lt_of_le h2 hb.size, h3, h4, fun i N hN f hf => by rw [hb.cell h2]; exact h5 i N hN f hf⟩
theorem Reads8.slice {w : World} {v : Value} {L : List (Nat → Int)} (h : Reads8 w v L) : ∃ ao cap, v = .slice ao L.length cap ∧ L.length ≤ 9223372036854775807 := by
  rcases h with ⟨ao, cap, rfl, rfl⟩ | ⟨b, off, cap, rfl, _, _, h, _⟩
  · exact ⟨ao, cap, rfl, by decide⟩
  · exact ⟨_, cap, rfl, h.1⟩
theorem cellsC_at (L : List (Nat → Int)) : ∀ (i : Nat) (N : Nat → Int), L[i]? = some N → ∀ f, f < 8 → (cellsC L)[i * 8 + f]? = some (.int .i64 (N f)) := by
  induction L with
  | nil => intro i N h; simp at h
  | cons M L ih =>
    intro i N h f hf
    have e : cellsC (M :: L) = (arr8 M).toList ++ cellsC L := by unfold cellsC; rw [List.flatMap_cons]
    have hl : (arr8 M).toList.length = 8 := rfl
    rw [e]
    cases i with
    | zero =>
      obtain rfl : M = N := by simpa using h
      rw [List.getElem?_append_left (by omega), show 0 * 8 + f = f by omega]
      have := arr8_get M hf
      rw [← Array.getElem?_toList] at this
      exact this
    | succ i =>
      rw [List.getElem?_append_right (by omega), hl, show (i + 1) * 8 + f - 8 = i * 8 + f by omega]
      exact ih i N (by simpa using h) f hf
theorem PileC.reads {w : World} {O K : Nat} {v : Value} {L : List (Nat → Int)} (h : PileC w O K v L) (hL : L.length ≤ 1716) : Reads8 w v L := by
  rcases h.own.2 with ⟨rfl, h0⟩ | ⟨g, cap, cur, rfl, hb, hg, hc, hm, hs, ht⟩
  · exact Or.inl ⟨none, 0, rfl, List.eq_nil_of_length_eq_zero h0⟩
  · rcases Nat.eq_zero_or_pos L.length with h0 | h0
    · have e : L = [] := List.eq_nil_of_length_eq_zero h0
      subst e
      exact Or.inl ⟨_, _, rfl, rfl⟩
    · refine Or.inr ⟨g, 0, cap, rfl, (Array.getElem?_eq_some_iff.1 hg).1, h0, ⟨by omega, hc⟩, fun i N hN f hf => ?_⟩
      have hi : i < L.length := (List.getElem?_eq_some_iff.1 hN).1
      rw [cell_of_row w g _ cur _ (0, 0) hg]
      have hx := cellsC_at L i N hN f hf
      rw [← ht, List.getElem?_take_of_lt (by omega)] at hx
      rw [show 0 + i * 8 + f = i * 8 + f by omega, ← Array.getElem?_toList]
      exact hx

set_option maxHeartbeats 4000000 in
theorem refAll_any (u : Nat) (hu : u ≤ 6) (w : World) :
    Calls Tryd.prog 13 #[.int .i64 u] w fun e w' => ∃ v, e = .returned v ∧ Reads8 w' v (everyC u) ∧ (∀ g, v.ownBlock = some g → w.heap.size ≤ g) ∧ Below w.heap.size w w' := by
  obtain ⟨w1, hw1⟩ : ∃ w1, w1 = (w.alloc (.cells #[.slice none 0 0] 40)).alloc (.cells #[.int .i64 0, .int .i64 0, .int .i64 0, .int .i64 0, .int .i64 0, .int .i64 0, .int .i64 0, .int .i64 0] 36) := ⟨_, rfl⟩
  have HB1 : Hid (Below w.heap.size w w1) := by unfold Hid; rw [hw1]; exact (below_alloc1 _ _).alloc (by simp) _
  have HO1 : Hid (Blk w1 w.heap.size 40 #[.slice none 0 0]) := by unfold Hid; rw [hw1]; exact (Blk.new _ _ _).old _
  have HN1 : Hid (Blk w1 (w.heap.size + 1) 36 #[.int .i64 0, .int .i64 0, .int .i64 0, .int .i64 0, .int .i64 0, .int .i64 0, .int .i64 0, .int .i64 0]) := by
    unfold Hid; rw [hw1]
    have := Blk.new (w.alloc (.cells #[.slice none 0 0] 40)) 36 #[.int .i64 0, .int .i64 0, .int .i64 0, .int .i64 0, .int .i64 0, .int .i64 0, .int .i64 0, .int .i64 0]
    simp only [World.size_alloc] at this
    exact this
  have HS1 : Hid (w1.heap.size = w.heap.size + 2) := by unfold Hid; rw [hw1]; simp
  have HP : Hid (PileC w1 w.heap.size (w.heap.size + 1) (.slice none 0 0) []) := ⟨HO1.out, World.ownsRow_nil _ _ _ _, by omega⟩
  have HC : Hid (Calls Tryd.prog 33 #[.int .i64 u, .int .i64 0, .agg #[.int .i64 0, .int .i64 0, .int .i64 0, .int .i64 0, .int .i64 0, .int .i64 0, .int .i64 0, .int .i64 0], .pointer (some ⟨w.heap.size, 0, none⟩)] w1 fun e w' => e = .returned (.tuple #[]) ∧ ∃ v, w'.cell? ⟨w.heap.size, 0, none⟩ = some v ∧ Reads8 w' v (everyC u) ∧ (∀ g, v.ownBlock = some g → w.heap.size ≤ g) ∧ Below w.heap.size w w') := by
    have hl := length_everyC hu
    refine Calls.mono (refAll_step 7 (by omega) u (fun _ => 0) w.heap.size (w.heap.size + 1) (.slice none 0 0) [] w1 hu HP.out (by rw [HS1.out]; omega) (by simpa [everyC] using hl)) fun e w' h => ?_
    obtain ⟨he, v, h1, h2⟩ := h
    rw [List.nil_append] at h1
    refine ⟨he, v, h1.box.cell 0, h1.reads hl, fun g e => by have := (h1.own.lt g e).1; omega, HB1.out.trans (h2.below HB1.out.size (Nat.le_refl _) fun g e => by cases e)⟩
  clear HP
  have q0 : w1.cell? ⟨w.heap.size + 1, 0, none⟩ = some (.int .i64 0) := HN1.out.cell 0
  have q1 : w1.cell? ⟨w.heap.size + 1, 1, none⟩ = some (.int .i64 0) := HN1.out.cell 1
  have q2 : w1.cell? ⟨w.heap.size + 1, 2, none⟩ = some (.int .i64 0) := HN1.out.cell 2
  have q3 : w1.cell? ⟨w.heap.size + 1, 3, none⟩ = some (.int .i64 0) := HN1.out.cell 3
  have q4 : w1.cell? ⟨w.heap.size + 1, 4, none⟩ = some (.int .i64 0) := HN1.out.cell 4
  have q5 : w1.cell? ⟨w.heap.size + 1, 5, none⟩ = some (.int .i64 0) := HN1.out.cell 5
  have q6 : w1.cell? ⟨w.heap.size + 1, 6, none⟩ = some (.int .i64 0) := HN1.out.cell 6
  have q7 : w1.cell? ⟨w.heap.size + 1, 7, none⟩ = some (.int .i64 0) := HN1.out.cell 7
  go_enter Tryd.func13, Tryd.ntmps13
  go_upto_region 3 with fail
  rw [← hw1]
  clear hw1
  go_wp2_with fail
  go_at_call 33
  refine HC.out.mono ?_
  rintro e w2 ⟨rfl, v, hc, hr, hg, hb⟩
  have HR : Hid (Reads8 w2 v (everyC u) ∧ (∀ g, v.ownBlock = some g → w.heap.size ≤ g) ∧ Below w.heap.size w w2) := ⟨hr, hg, hb⟩
  clear hr hg hb q0 q1 q2 q3 q4 q5 q6 q7
  go_wp2
  go_ret
  exact ⟨_, rfl, HR.out.1, HR.out.2.1, HR.out.2.2⟩
end Go.Proofs.YtgkgbpbohgklhafDoor

namespace Go.Proofs.YtgkgbpbohgklhafDoor
open Go.ChangeShapes Go.WideShapes Go.ChangeAt Go.RowKit
set_option maxRecDepth 100000

theorem ret_i {k : IntKind} {a b : Int} (h : a = b) : Ending.returned (.int k a) = .returned (.int k b) := by rw [h]
theorem ret_b {a b : Bool} (h : a = b) : Ending.returned (.bool a) = .returned (.bool b) := by rw [h]

theorem refPower_any (n : Nat) (hn : n ≤ 62) (w : World) :
    Calls Tryd.prog 29 #[.int .i64 n] w fun e w' => e = .returned (.int .i64 (pw n)) ∧ w = w' := by
  go_enter Tryd.func29, Tryd.ntmps29
  go_wp2
  go_loop [3, 4] (fun p i => ∃ k : Nat, k ≤ n ∧ i = .int .i64 k ∧ p = .int .i64 (pw k)) (fun _ i => n - (intOf i).toNat)
  case atStart => exact ⟨0, Nat.zero_le _, rfl, rfl⟩
  case round =>
    obtain ⟨k, hk, rfl, rfl⟩ := hrel
    by_cases hlt : k < n
    · have p1 := pw_pos k
      have p2 := pw_le61 (k := k) (by omega)
      have HS : Hid (pw (k + 1) = 2 * pw k) := pw_succ k
      go_wp2
      go_round
      case rel => exact ⟨k + 1, by omega, by go_num, by rw [HS.out]⟩
      case measure => simp [intOf]; omega
    · obtain rfl : k = n := by omega
      go_wp2
      go_ret
      exact ⟨rfl, rfl⟩

theorem refHas_any (s : Int) (i : Nat) (hs : 0 ≤ s) (hm : s ≤ 9223372036854775807) (hi : i ≤ 62) (w : World) :
    Calls Tryd.prog 28 #[.int .i64 s, .int .i64 i] w fun e w' => e = .returned (.bool (hasB s i)) ∧ w = w' := by
  have p1 := pw_pos i
  go_enter Tryd.func28, Tryd.ntmps28
  go_wp2_with (go_at_call 29; refine (refPower_any _ hi _).mono ?_; rintro e w' ⟨rfl, rfl⟩)
  go_ret
  exact ⟨ret_b (has_spell2 s i hs), rfl⟩

theorem refSet_ok (u s : Int) (h : okB u s = true) (w : World) :
    Calls Tryd.prog 27 #[.int .i64 u, .int .i64 s] w fun e w' => e = .returned (.int .i64 0) ∧ w = w' := by
  obtain ⟨h0, h1, h2, h3⟩ := okB_iff.1 h
  rw [allN_pw] at h3
  clear h
  obtain ⟨n, rfl⟩ := Int.eq_ofNat_of_zero_le h0
  rw [Int.toNat_natCast] at h3
  go_enter Tryd.func27, Tryd.ntmps27
  go_wp2_with (go_at_call 29; refine (refPower_any _ ?_ _).mono ?_; omega; rintro e w' ⟨rfl, rfl⟩)
  go_ret
  exact ⟨rfl, rfl⟩

theorem refSet_no (u s : Int) (h : okB u s = false) (w : World) :
    Calls Tryd.prog 27 #[.int .i64 u, .int .i64 s] w fun e w' => e = .returned (.int .i64 1) ∧ w = w' := by
  have h' := okB_not.1 h
  clear h
  by_cases h0 : u < 0
  · clear h'
    go_enter Tryd.func27, Tryd.ntmps27
    go_wp2_with fail
    go_ret
    exact ⟨rfl, rfl⟩
  by_cases h1 : 6 < u
  · clear h'
    go_enter Tryd.func27, Tryd.ntmps27
    go_wp2_with fail
    go_ret
    exact ⟨rfl, rfl⟩
  by_cases h2 : s < 0
  · clear h'
    go_enter Tryd.func27, Tryd.ntmps27
    go_wp2_with fail
    go_ret
    exact ⟨rfl, rfl⟩
  have h3 : allN u < s := by omega
  rw [allN_pw] at h3
  clear h'
  obtain ⟨n, rfl⟩ := Int.eq_ofNat_of_zero_le (show 0 ≤ u by omega)
  rw [Int.toNat_natCast] at h3
  go_enter Tryd.func27, Tryd.ntmps27
  go_wp2_with (go_at_call 29; refine (refPower_any _ ?_ _).mono ?_; omega; rintro e w' ⟨rfl, rfl⟩)
  go_ret
  exact ⟨rfl, rfl⟩
end Go.Proofs.YtgkgbpbohgklhafDoor

namespace Go.Proofs.YtgkgbpbohgklhafDoor
open Go.ChangeShapes Go.WideShapes Go.ChangeAt Go.RowKit

theorem info8 : (Tryd.prog.info? 36).map (·.size) = some 8 := by kernel_rfl
theorem infoW : (Tryd.prog.info? 28).map (·.size) = some 4 := by kernel_rfl
theorem sum_three {x y z : Bool} : oneB x + 2 * oneB y + 4 * oneB z = oneB x + oneB y * 2 + oneB z * 4 := by omega

set_option maxRecDepth 100000 in
set_option maxHeartbeats 4000000 in
theorem refFields_right (n : Nat) (a b c : Int) (w : World) (ho : (Wd.mk n a b c).ok = true) :
    Calls Tryd.prog 10 #[.agg #[.int .i64 n, .int .i64 a, .int .i64 b, .int .i64 c]] w fun e w' => e = .returned (.agg (arr8 ((Wd.mk n a b c).fc n))) ∧ Below w.heap.size w w' := by
  obtain ⟨Z, hZ⟩ : ∃ Z : Nat → Int, Z = fun _ => 0 := ⟨_, rfl⟩
  obtain ⟨w1, hw1⟩ : ∃ w1, w1 = ((w.alloc (.cells #[.int .i64 n, .int .i64 a, .int .i64 b, .int .i64 c] 28)).alloc (.cells #[.int .i64 0, .int .i64 0, .int .i64 0, .int .i64 0, .int .i64 0, .int .i64 0, .int .i64 0, .int .i64 0] 36)).alloc (.cells #[.int .i64 0, .int .i64 0, .int .i64 0, .int .i64 0, .int .i64 0, .int .i64 0, .int .i64 0, .int .i64 0] 36) := ⟨_, rfl⟩
  have HW : Hid (Below w.heap.size w w1) := by unfold Hid; rw [hw1]; exact ((below_alloc1 _ _).alloc (by simp) _).alloc (by simp; omega) _
  have HK0 : Hid (Blk w1 w.heap.size 28 (arrW (Wd.mk n a b c))) := by unfold Hid; rw [hw1]; exact ((Blk.new _ _ _).old _).old _
  have HK1 : Hid (Blk w1 (w.heap.size + 1) 36 (arr8 Z)) := by
    unfold Hid; rw [hw1, hZ]
    have := Blk.new (w.alloc (.cells #[.int .i64 n, .int .i64 a, .int .i64 b, .int .i64 c] 28)) 36 (arr8 fun _ => 0)
    simp only [World.size_alloc] at this
    exact this.old _
  have HK2 : Hid (Blk w1 (w.heap.size + 1 + 1) 36 (arr8 Z)) := by
    unfold Hid; rw [hw1, hZ]
    have := Blk.new ((w.alloc (.cells #[.int .i64 n, .int .i64 a, .int .i64 b, .int .i64 c] 28)).alloc (.cells (arr8 fun _ => 0) 36)) 36 (arr8 fun _ => 0)
    simp only [World.size_alloc] at this
    exact this
  have hn6 : n ≤ 6 := by have := (ok_u ho).2; simp only at this; omega
  obtain ⟨o1, o2, o3⟩ := Wd.ok_iff.1 ho
  obtain ⟨_, _, a0, a6⟩ := okB_lt o1
  obtain ⟨_, _, b0, b6⟩ := okB_lt o2
  obtain ⟨_, _, c0, c6⟩ := okB_lt o3
  simp only at a0 a6 b0 b6 c0 c6
  have HH : Hid (∀ (k : Nat) W, k < n → Calls Tryd.prog 28 #[.int .i64 a, .int .i64 k] W (fun e w' => e = .returned (.bool (hasB a k)) ∧ W = w') ∧ Calls Tryd.prog 28 #[.int .i64 b, .int .i64 k] W (fun e w' => e = .returned (.bool (hasB b k)) ∧ W = w') ∧ Calls Tryd.prog 28 #[.int .i64 c, .int .i64 k] W (fun e w' => e = .returned (.bool (hasB c k)) ∧ W = w')) := fun k W hk =>
    ⟨refHas_any a k a0 (by omega) (by omega) W, refHas_any b k b0 (by omega) (by omega) W, refHas_any c k c0 (by omega) (by omega) W⟩
  have HPw : Hid (∀ W, Calls Tryd.prog 29 #[.int .i64 0] W (fun e w' => e = .returned (.int .i64 1) ∧ W = w') ∧ Calls Tryd.prog 29 #[.int .i64 1] W (fun e w' => e = .returned (.int .i64 2) ∧ W = w') ∧ Calls Tryd.prog 29 #[.int .i64 2] W (fun e w' => e = .returned (.int .i64 4) ∧ W = w')) := fun W =>
    ⟨refPower_any 0 (by omega) W, refPower_any 1 (by omega) W, refPower_any 2 (by omega) W⟩
  have HFi : Hid (∀ k : Nat, ((Wd.mk n a b c).field k : Int) = oneB (hasB a k) + 2 * oneB (hasB b k) + 4 * oneB (hasB c k)) := fun k => field_int _ k
  obtain ⟨D, hD⟩ : ∃ D, D = Wd.mk n a b c := ⟨_, rfl⟩
  rw [← hD] at HK0 HFi ⊢
  have hDu : D.u = n := by rw [hD]
  have hDa : D.a = a := by rw [hD]
  have hDb : D.b = b := by rw [hD]
  have hDc : D.c = c := by rw [hD]
  have HDD : Hid (D.u = n ∧ D.a = a ∧ D.b = b ∧ D.c = c) := ⟨hDu, hDa, hDb, hDc⟩
  have HZ : Hid (arr8 Z = arr8 (D.fc 0)) := by unfold Hid; rw [hZ]; rfl
  clear ho hD hDu hDa hDb hDc hZ o1 o2 o3
  have HX : Hid (∀ W, Blk W w.heap.size 28 (arrW D) → W.cell? ⟨w.heap.size, 0, none⟩ = some (.int .i64 n) ∧ W.cell? ⟨w.heap.size, 1, none⟩ = some (.int .i64 a) ∧ W.cell? ⟨w.heap.size, 2, none⟩ = some (.int .i64 b) ∧ W.cell? ⟨w.heap.size, 3, none⟩ = some (.int .i64 c)) := fun W h => by
    have := h.cells4
    rw [HDD.out.1, HDD.out.2.1, HDD.out.2.2.1, HDD.out.2.2.2] at this
    exact this
  go_enter Tryd.func10, Tryd.ntmps10
  go_wp2
  rw [← hw1]
  clear hw1
  go_loopw [4] (fun i wr => ∃ k : Nat, k ≤ n ∧ i = .int .i64 k ∧ Below w.heap.size w wr ∧ Blk wr w.heap.size 28 (arrW D) ∧ Blk wr (w.heap.size + 1) 36 (arr8 Z) ∧ Blk wr (w.heap.size + 1 + 1) 36 (arr8 (D.fc k))) (fun i _ => n - (intOf i).toNat)
  case atStart => exact ⟨0, Nat.zero_le _, rfl, HW.out, HK0.out, HK1.out, by rw [← HZ.out]; exact HK2.out⟩
  case round =>
    obtain ⟨k, hk, rfl, hb, hp, hr, hn⟩ := hrel
    have HB1 : Hid (Below w.heap.size w wr) := hb
    have HP1 : Hid (Blk wr w.heap.size 28 (arrW D)) := hp
    have HR1 : Hid (Blk wr (w.heap.size + 1) 36 (arr8 Z)) := hr
    have HN1 : Hid (Blk wr (w.heap.size + 1 + 1) 36 (arr8 (D.fc k))) := hn
    clear hb hp hr hn
    obtain ⟨x0, x1, x2, x3⟩ := HX.out _ HP1.out
    by_cases hlt : k < n
    · have hf8 := field_lt D k
      have HHk := HH.out k wr hlt
      have HFk : Hid ((D.field k : Int) = oneB (hasB a k) + 2 * oneB (hasB b k) + 4 * oneB (hasB c k)) := HFi.out k
      obtain ⟨f, hf⟩ : ∃ f, f = D.field k := ⟨_, rfl⟩
      rw [← hf] at hf8 HFk
      have HF : Hid (f = D.field k) := hf
      clear hf
      obtain ⟨xa, hxa⟩ : ∃ x, x = hasB a k := ⟨_, rfl⟩
      obtain ⟨xb, hxb⟩ : ∃ x, x = hasB b k := ⟨_, rfl⟩
      obtain ⟨xc, hxc⟩ : ∃ x, x = hasB c k := ⟨_, rfl⟩
      rw [← hxa, ← hxb, ← hxc] at HHk HFk
      have HHa : Hid (Calls Tryd.prog 28 #[.int .i64 a, .int .i64 k] wr (fun e w' => e = .returned (.bool xa) ∧ wr = w')) := HHk.1
      have HHb : Hid (Calls Tryd.prog 28 #[.int .i64 b, .int .i64 k] wr (fun e w' => e = .returned (.bool xb) ∧ wr = w')) := HHk.2.1
      have HHc : Hid (Calls Tryd.prog 28 #[.int .i64 c, .int .i64 k] wr (fun e w' => e = .returned (.bool xc) ∧ wr = w')) := HHk.2.2
      clear HHk hxa hxb hxc
      go_wp2
      go_loop [5, 6] (fun s j => (j = .int .i64 0 ∧ s = .int .i64 0) ∨ (j = .int .i64 1 ∧ s = .int .i64 (oneB xa)) ∨ (j = .int .i64 2 ∧ s = .int .i64 (oneB xa + 2 * oneB xb)) ∨ (j = .int .i64 3 ∧ s = .int .i64 f)) (fun _ i => 3 - (intOf i).toNat)
      case atStart => exact Or.inl ⟨rfl, rfl⟩
      case round =>
        rcases hrel with ⟨rfl, rfl⟩ | ⟨rfl, rfl⟩ | ⟨rfl, rfl⟩ | ⟨rfl, rfl⟩
        · go_wp2_with fail
          go_at_call 28
          refine HHa.out.mono ?_
          rintro e w' ⟨rfl, rfl⟩
          cases xa
          · go_wp2
            go_round
            case rel => exact Or.inr (Or.inl ⟨rfl, rfl⟩)
            case measure => simp [intOf]
          · go_wp2_with fail
            go_at_call 29
            refine (HPw.out _).1.mono ?_
            rintro e w' ⟨rfl, rfl⟩
            go_wp2
            go_round
            case rel => exact Or.inr (Or.inl ⟨rfl, rfl⟩)
            case measure => simp [intOf]
        · go_wp2_with fail
          go_at_call 28
          refine HHb.out.mono ?_
          rintro e w' ⟨rfl, rfl⟩
          have q := oneB_le xa
          cases xb
          · go_wp2
            go_round
            case rel => exact Or.inr (Or.inr (Or.inl ⟨rfl, by simp [oneB]⟩))
            case measure => simp [intOf]
          · go_wp2_with fail
            go_at_call 29
            refine (HPw.out _).2.1.mono ?_
            rintro e w' ⟨rfl, rfl⟩
            go_wp2
            go_round
            case rel => exact Or.inr (Or.inr (Or.inl ⟨rfl, by simp [oneB]⟩))
            case measure => simp [intOf]
        · go_wp2_with fail
          go_at_call 28
          refine HHc.out.mono ?_
          rintro e w' ⟨rfl, rfl⟩
          have q := oneB_le xa
          have q' := oneB_le xb
          cases xc
          · go_wp2
            go_round
            case rel => exact Or.inr (Or.inr (Or.inr ⟨rfl, by rw [HFk.out]; simp [oneB]⟩))
            case measure => simp [intOf]
          · go_wp2_with fail
            go_at_call 29
            refine (HPw.out _).2.2.mono ?_
            rintro e w' ⟨rfl, rfl⟩
            go_wp2
            go_round
            case rel => exact Or.inr (Or.inr (Or.inr ⟨rfl, by rw [HFk.out]; simp [oneB]⟩))
            case measure => simp [intOf]
        · have hn3 : Blk wr (w.heap.size + 1 + 1) 36 (arr8 (D.fc k)) := HN1.out
          have c3 : wr.cell? ⟨w.heap.size + 1 + 1, f, none⟩ = some (.int .i64 (D.fc k f)) := by rw [hn3.cell, arr8_get _ hf8]
          have z3 := hn3.frozen f
          have p3 := fc_le D k f
          have HE : Hid (Blk (wr.setCell ⟨w.heap.size + 1 + 1, f, none⟩ (.int .i64 (D.fc k f + 1))) (w.heap.size + 1 + 1) 36 (arr8 (D.fc (k + 1)))) := by
            have := hn3.set f (.int .i64 (D.fc k f + 1))
            rw [arr8_one _ hf8] at this
            have e : (fun g => D.fc k g + if f = g then 1 else 0) = D.fc (k + 1) := by
              funext g; show _ = D.fc k g + _; rw [HF.out]
            rw [e] at this
            exact this
          clear hn3
          go_wp2
          go_roundw
          case rel => exact ⟨k + 1, by omega, by go_num, HB1.out.setCell (by simp; omega) _, HP1.out.far (by omega) _ _, HR1.out.far (by omega) _ _, HE.out⟩
          case measure => simp [intOf]; omega
    · obtain rfl : k = n := by omega
      obtain ⟨n0, n1, n2, n3, n4, n5, n6, n7⟩ := HN1.out.cells8
      obtain ⟨r0, r1, r2, r3, r4, r5, r6, r7⟩ := HR1.out.cells8
      obtain ⟨f0, f1, f2, f3, f4, f5, f6, f7⟩ := HR1.out.frozen8
      go_wp2
      refine bodyPost_ret (v := .agg (arr8 (D.fc k))) ?_ rfl ⟨rfl, ?_⟩
      · exact results_cell_row rfl _ _ (w.heap.size + 1) 36 (arr8 (D.fc k)) (0, 0) _ rfl (put8_blk HR1.out (D.fc k)) Tryd.underlying36 rfl info8
      · exact put8_below HB1.out (by omega) _
end Go.Proofs.YtgkgbpbohgklhafDoor
