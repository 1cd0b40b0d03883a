/-
  A formula of an atom alone, and two formulas, as they are laid in memory (what the statements of chapters 14, 15 and 18 lean on).
  A formula in a slice of its own, and the cells of a slice of formulas (what the statement AskFollows leans on).
  Proved: what form.copied, slices.Grow (of nothing) and slices.Concat return, of rows of numbers; what was in memory is as it was (contracts that the statements lean on). Written by program.
  Proved: what form.copies returns, of right atoms: a new row that reads as they do; what was in memory is as it was (a contract that the statements lean on).
-/
import Derived.Test.YtjaedfjfcghgcaaDoorLibA6
import Derived.Test.YtjaedfjfcghgcaaDoorLibA22
import Derived.Test.YtjaedfjfcghgcaaDoorLibA9
import Derived.Deep.RegionWith
import Derived.Deep.CutRange
import Derived.Deep.CutBlock
import Derived.Test.YtjaedfjfcghgcaaDoorLibA16
import Derived.Lib.AppendZerosOnto
import Derived.Lib.Walk
import Derived.Lib.SliceRun
import Derived.Test.YtjaedfjfcghgcaaDoorLibA10
import Derived.Deep.Onto
namespace Go.Proofs.YtjaedfjfcghgcaaDoor
open Go.ChangeShapes Go.WideShapes Go.ChangeAt Go.RowKit
set_option maxRecDepth 100000

theorem three_at (w : World) (o0 o1 o2 : Obj) :
    (((w.alloc o0).alloc o1).alloc o2).heap[w.heap.size]? = some o0 ∧
    (((w.alloc o0).alloc o1).alloc o2).heap[w.heap.size + 1]? = some o1 ∧
    (((w.alloc o0).alloc o1).alloc o2).heap[w.heap.size + 1 + 1]? = some o2 ∧
    Below w.heap.size w (((w.alloc o0).alloc o1).alloc o2) := by
  have s1 : (w.alloc o0).heap.size = w.heap.size + 1 := World.size_alloc _ _
  have s2 : ((w.alloc o0).alloc o1).heap.size = w.heap.size + 1 + 1 := by rw [World.size_alloc, s1]
  refine ⟨?_, ?_, ?_, ?_⟩
  · rw [Below.heap_alloc _ _ _ (by omega), Below.heap_alloc _ _ _ (by omega)]; exact heap_alloc_new _ _
  · rw [Below.heap_alloc _ _ _ (by omega), ← s1]; exact heap_alloc_new _ _
  · rw [← s2]; exact heap_alloc_new _ _
  · exact (((Below.refl _ w).alloc (Nat.le_refl _) _).alloc (by omega) _).alloc (by omega) _
/-- an atom alone, laid in two blocks. -/
theorem alone_reads {W : World} {G C : Nat} {k n : Int} {vt : Value} {t : List Int} (hA : Blk W G 39 #[.int .i64 k, vt, .slice none 0 0, .int .i64 n]) (hT : Reads W vt t) (hC : Blk W C 3 #[.int .i64 0]) :
    ReadsA W (.slice (some ⟨G, 0, none⟩) 1 1) [⟨k, t, [], n⟩] ∧ Reads W (.slice (some ⟨C, 0, none⟩) 1 1) [0] := by
  refine ⟨Or.inr ⟨G, 0, 1, rfl, hA.lt, by simp, ⟨by simp, by simp⟩, fun i a ha => ?_⟩, Or.inr ⟨C, 0, 1, rfl, hC.lt, by simp, ⟨by simp, by simp⟩, fun j hj => ?_⟩⟩
  · cases i with
    | zero =>
      obtain rfl : (⟨k, t, [], n⟩ : At) = a := by simpa using ha
      exact ⟨_, _, hA.cell 0, hA.cell 1, hA.cell 2, hA.cell 3, hT, Or.inl ⟨none, 0, rfl, rfl⟩⟩
    | succ i => simp at ha
  · obtain rfl : j = 0 := by simp at hj; exact hj
    exact hC.cell 0
/-- two formulas, laid in a block. -/
theorem two_forms {W : World} {G : Nat} {va vc va' vc' : Value} {f g : Fm} (h : Blk W G 42 #[va, vc, va', vc']) (h1 : ReadsA W va f.ats) (h2 : Reads W vc f.c) (h3 : ReadsA W va' g.ats) (h4 : Reads W vc' g.c) : ReadsF W (.slice (some ⟨G, 0, none⟩) 2 2) [f, g] := by
  refine Or.inr ⟨G, 0, 2, rfl, h.lt, by simp, ⟨by simp, by simp⟩, fun i x hx => ?_⟩
  cases i with
  | zero =>
    obtain rfl : f = x := by simpa using hx
    exact ⟨va, vc, h.cell 0, h.cell 1, h1, h2⟩
  | succ i =>
    cases i with
    | zero =>
      obtain rfl : g = x := by simpa using hx
      exact ⟨va', vc', h.cell 2, h.cell 3, h3, h4⟩
    | succ i => simp at hx
theorem errV_is (n : Int) : errV n = .nilIface ∨ ∃ m, errV n = .iface 64 (.int .i64 m) := by
  by_cases h : n = 0
  · left; rw [h]; rfl
  · right; exact ⟨n, errV_no h⟩
theorem errV_nil {n : Int} (h : errV n = .nilIface) : n = 0 := by
  by_cases h0 : n = 0
  · exact h0
  · rw [errV_no h0] at h; cases h
end Go.Proofs.YtjaedfjfcghgcaaDoor

namespace Go.Proofs.YtjaedfjfcghgcaaDoor
open Go.ChangeShapes Go.WideShapes Go.ChangeAt Go.RowKit
set_option maxRecDepth 100000

theorem one_form {W : World} {G : Nat} {va vc : Value} {f : Fm} (h : Blk W G 42 #[va, vc]) (h1 : ReadsA W va f.ats) (h2 : Reads W vc f.c) : ReadsF W (.slice (some ⟨G, 0, none⟩) 1 1) [f] := by
  refine Or.inr ⟨G, 0, 1, rfl, h.lt, by simp, ⟨by simp, by simp⟩, fun i x hx => ?_⟩
  cases i with
  | zero =>
    obtain rfl : f = x := by simpa using hx
    exact ⟨va, vc, h.cell 0, h.cell 1, h1, h2⟩
  | succ i => simp at hx
/-- the cells of some formulas. -/
theorem forms_cells {w : World} {b off n cap : Nat} {fs : List Fm} (hn : n = fs.length) (h : ReadsF w (.slice (some ⟨b, off, none⟩) n cap) fs) : ∃ xs : List Value, CellsF w xs fs ∧ ∀ j u, xs[j]? = some u → w.cell? ⟨b, off + j, none⟩ = some u := by
  have hcell : ∀ i, i < n → ∃ va vc f, fs[i]? = some f ∧ w.cell? ⟨b, off + i * 2, none⟩ = some va ∧ w.cell? ⟨b, off + i * 2 + 1, none⟩ = some vc ∧ ReadsA w va f.ats ∧ Reads w vc f.c := fun i hi => by
    have hf : fs[i]? = some fs[i] := List.getElem?_eq_getElem (by omega)
    obtain ⟨_, va, vc, c0, c1, hA, hC⟩ := h.at hf
    exact ⟨va, vc, fs[i], hf, c0, c1, hA, hC⟩
  have hone : ∀ v : Value, (∃ ao len cap, v = .slice ao len cap) → v.oneCell' = true := by
    rintro v ⟨ao, len, cap, rfl⟩; rfl
  refine ⟨(List.range (n * 2)).map fun j => (w.cell? ⟨b, off + j, none⟩).getD (.int .i64 0), ⟨by simp [hn], fun u hu => ?_, fun i f hf => ?_⟩, fun j u hj => ?_⟩
  · obtain ⟨j, hj, rfl⟩ := List.mem_map.1 hu
    have hj := List.mem_range.1 hj
    obtain ⟨va, vc, f, _, c0, c1, hA, hC⟩ := hcell (j / 2) (by omega)
    rcases (by omega : j = j / 2 * 2 ∨ j = j / 2 * 2 + 1) with e | e
    · rw [e, c0]
      obtain ⟨ao, cap, rfl, _⟩ := hA.slice
      rfl
    · rw [e, ← Nat.add_assoc, c1]
      obtain ⟨ao, cap, rfl, _⟩ := hC.slice
      rfl
  · have hi := (List.getElem?_eq_some_iff.1 hf).1
    obtain ⟨va, vc, g, hg, c0, c1, hA, hC⟩ := hcell i (by omega)
    obtain rfl : g = f := Option.some.inj (hg.symm.trans hf)
    refine ⟨va, vc, ?_, ?_, hA, hC⟩
    · rw [List.getElem?_map, List.getElem?_range (by omega)]; simp [c0]
    · rw [List.getElem?_map, List.getElem?_range (by omega)]; simp [← Nat.add_assoc, c1]
  · obtain ⟨hj1, hj2⟩ := List.getElem?_eq_some_iff.1 hj
    simp only [List.length_map, List.length_range] at hj1
    simp only [List.getElem_map, List.getElem_range] at hj2
    obtain ⟨va, vc, f, _, c0, c1, hA, hC⟩ := hcell (j / 2) (by omega)
    rcases (by omega : j = j / 2 * 2 ∨ j = j / 2 * 2 + 1) with e | e
    · rw [← hj2]
      rw [e, c0]; rfl
    · rw [← hj2]
      rw [e, ← Nat.add_assoc, c1]; rfl
end Go.Proofs.YtjaedfjfcghgcaaDoor

namespace Go.Proofs.YtjaedfjfcghgcaaDoor
open Go.ChangeShapes Go.WideShapes Go.ChangeAt Go.RowKit
set_option maxRecDepth 100000

/-- the slice v is a new row of these numbers: it lies in K or behind. -/
def Fresh (K : Nat) (w : World) (v : Value) (t : List Int) : Prop := w.ownsRow K 3 1 v t.length (t.map (Value.int .i64))
theorem Fresh.reads {K : Nat} {w : World} {v : Value} {t : List Int} (h : Fresh K w v t) : Reads w v t := by
  rcases h.2 with ⟨rfl, h0⟩ | ⟨g, cap, cur, rfl, hg, hh, hn, hm, _, _⟩
  · exact Or.inl ⟨none, 0, rfl, List.eq_nil_of_length_eq_zero h0⟩
  · rcases Nat.eq_zero_or_pos t.length with h0 | h0
    · refine Or.inl ⟨some ⟨g, 0, none⟩, cap, by rw [h0], List.eq_nil_of_length_eq_zero h0⟩
    · refine Or.inr ⟨g, 0, cap, rfl, (Array.getElem?_eq_some_iff.1 hh).1, h0, ⟨by unfold maxLen at hm; omega, hn⟩, fun k hk => ?_⟩
      rw [Nat.zero_add]; exact ownsRow_int h hk
theorem Fresh.below {K : Nat} {w w' : World} {v : Value} {t : List Int} (h : Fresh K w v t) (hb : Below w.heap.size w w') : Fresh K w' v t := ownsRow_below h hb

set_option maxHeartbeats 2000000 in
theorem copied_any (t : List Int) (v : Value) (w : World) (h : Reads w v t) (hl : t.length ≤ 40) :
    Calls Tryd.prog 67 #[v] w fun e w' => ∃ v', e = .returned v' ∧ Fresh w.heap.size w' v' t ∧ Below w.heap.size w w' := by
  obtain ⟨i0, hi, hz0, hz1, hz2⟩ := info_parts infoInt
  rcases h with ⟨ao, cap, rfl, rfl⟩ | ⟨b, off, cap, rfl, hB, h0, ⟨_, hcap⟩, hc⟩
  · cases ao with
    | none =>
      have hrz : ∀ ty W, (Builtin.append_ #[30, 30] ty #[.slice none 0 0, .slice none 0 cap]).run Tryd.prog W = .ok (.slice none 0 0) W := fun ty W => by
        simp [Builtin.append_, Builtin.lenOf, Builtin.firstCells, run_underlying Tryd.underlying30]
      go_enter Tryd.func67, Tryd.ntmps67
      go_wp2_with (at_builtin; refine Lib.wpList_append_run _ rfl _ _ _ _ rfl _ _ rfl rfl _ _ (hrz _ _) ?_)
      go_ret
      exact ⟨_, rfl, World.ownsRow_nil _ _ _ _, Below.refl _ _⟩
    | some ad =>
      obtain ⟨K, hK⟩ : ∃ K, K = w.heap.size := ⟨_, rfl⟩
      have HK : Hid (K = w.heap.size) := hK
      rw [← hK]
      clear hK
      go_enter Tryd.func67, Tryd.ntmps67
      go_wp2_with (first | (at_builtin; refine wpList_append_own _ rfl _ (.tmp 3) 30 rfl K 3 i0 (.int .i64 0) 1 8 Tryd.underlying30 hi hz0 hz1 hz2 rfl (by decide) (.slice none 0 0) 0 [] rfl (World.ownsRow_nil _ _ _ _) ad 0 cap [] rfl rfl ?a1 ?a2 ?a3 ?a4 ?a5 ?_))
      case a1 => intro j u hu; simp at hu
      case a2 => intro u hu; cases hu
      case a3 => unfold maxLen; omega
      case a4 => omega
      case a5 => rw [HK.out]; exact Nat.le_refl _
      intro v' w2 hown' hgrow _
      have HO : Hid (Fresh K w2 v' [] ∧ Below K w w2) := ⟨hown', (Below.refl _ w).grown hgrow (by rw [HK.out]; exact Nat.le_refl _) (fun k hk => by cases hk)⟩
      clear hown' hgrow
      go_wp2
      go_ret
      exact ⟨_, rfl, HO.out.1, HO.out.2⟩
  · have HC : Hid (∀ k, k < t.length → w.cell? ⟨b, off + k, none⟩ = some (.int .i64 (t.getD k 0))) := hc
    clear hc hB
    obtain ⟨n, hn⟩ : ∃ n, n = t.length := ⟨_, rfl⟩
    have HN : Hid (n = t.length) := hn
    obtain ⟨K, hK⟩ : ∃ K, K = w.heap.size := ⟨_, rfl⟩
    have HK : Hid (K = w.heap.size) := hK
    rw [← hn] at hl h0 hcap ⊢
    rw [← hK]
    clear hn hK
    go_enter Tryd.func67, Tryd.ntmps67
    go_wp2_with (first | (at_builtin; refine wpList_append_own _ rfl _ (.tmp 3) 30 rfl K 3 i0 (.int .i64 0) 1 8 Tryd.underlying30 hi hz0 hz1 hz2 rfl (by decide) (.slice none 0 0) 0 [] rfl (World.ownsRow_nil _ _ _ _) ⟨b, off, none⟩ n cap (t.map (Value.int .i64)) rfl ?a0 ?a1 ?a2 ?a3 ?a4 ?a5 ?_))
    case a0 => rw [List.length_map, HN.out, Nat.mul_one]
    case a1 =>
      intro j u hu
      rw [Go.WideShapes.add_plain]
      have hj : j < t.length := by have := (List.getElem?_eq_some_iff.1 hu).1; simpa using this
      rw [HC.out j hj]
      rw [← hu]
      simp [List.getElem?_eq_getElem hj]
    case a2 => intro u hu; simp at hu; obtain ⟨_, _, rfl⟩ := hu; rfl
    case a3 => unfold maxLen; omega
    case a4 => omega
    case a5 => rw [HK.out]; exact Nat.le_refl _
    intro v' w2 hown' hgrow _
    have HO : Hid (Fresh K w2 v' t ∧ Below K w w2) := by
      refine ⟨?_, (Below.refl _ w).grown hgrow (by rw [HK.out]; exact Nat.le_refl _) (fun k hk => by cases hk)⟩
      have : w2.ownsRow K 3 1 v' n (t.map (Value.int .i64)) := by simpa using hown'
      rw [HN.out] at this
      exact this
    clear hown' hgrow
    go_wp2
    go_ret
    exact ⟨_, rfl, HO.out.1, HO.out.2⟩

theorem infoI : (Tryd.prog.info? 3).map (fun i => (i.zero, i.size, i.bytes)) = some (some (.int .i64 0), 1, 8) := by kernel_rfl

set_option maxHeartbeats 2000000 in
/-- slices.Grow of nothing: a new row with room. -/
theorem growI (n : Nat) (h0 : 0 < n) (h1 : n ≤ 40) (w : World) :
    Calls Tryd.prog 68 #[.slice none 0 0, .int .i64 n] w fun e w' => ∃ cap, e = .returned (.slice (some ⟨w.heap.size, 0, none⟩) 0 cap) ∧ w'.ownsRow w.heap.size 3 1 (.slice (some ⟨w.heap.size, 0, none⟩) 0 cap) 0 [] ∧ Below w.heap.size w w' ∧ w.heap.size < w'.heap.size := by
  obtain ⟨i0, hi, hz0, hz1, hz2⟩ := info_parts infoI
  have a1 : ¬ ((n : Int) < 0) := by omega
  have a4 : (n : Int) > 0 := by omega
  have hold : (Builtin.firstCells i0.size 0 (.slice none 0 0)).run Tryd.prog w.drew = .ok #[] w.drew := run_firstCells_none w.drew i0.size 0 0 0
  have hrz : ∀ ty, (Builtin.append_ #[30, 3] ty #[.slice none 0 0, .int .i64 n]).run Tryd.prog w =
      .ok (.slice (some ⟨w.heap.size, 0, none⟩) n (grownCap w n 0 3)) (w.drew.alloc (.cells (#[] ++ Builtin.zeroCells (Value.cells (.int .i64 0)) n ++ Builtin.zeroCells (Value.cells (.int .i64 0)) (grownCap w n 0 3 - n)) 3)) := fun ty => by
    have h := Lib.run_append_grow_zeros w 30 3 ty 3 i0 (.int .i64 0) .i64 .i64 Tryd.underlying30 Tryd.underlying3 hi hz0 none 0 0 [] hold n h0 (by omega) (by omega) (by omega) (by rw [hz2]; omega) (by rw [Nat.zero_add, hz2]; exact growslice_fits (by omega) (by omega))
    rw [Nat.zero_add] at h
    exact h
  have hGn : n ≤ grownCap w n 0 3 := grownCap_ge w _ _ _
  have hG63 : grownCap w n 0 3 ≤ maxLen := grownCap_le_maxLen w n 0 3 (by unfold maxLen; omega)
  obtain ⟨G, hG⟩ : ∃ G, G = grownCap w n 0 3 := ⟨_, rfl⟩
  rw [← hG] at hrz hGn hG63
  have HE : Hid (∃ w', w' = w.drew.alloc (.cells (#[] ++ Builtin.zeroCells (Value.cells (.int .i64 0)) n ++ Builtin.zeroCells (Value.cells (.int .i64 0)) (G - n)) 3) ∧ w'.ownsRow w.heap.size 3 1 (.slice (some ⟨w.heap.size, 0, none⟩) 0 G) 0 [] ∧ Below w.heap.size w w' ∧ w.heap.size < w'.heap.size) := by
    refine ⟨_, rfl, ?_, ?_, ?_⟩
    · refine ⟨by simp, .inr ⟨w.heap.size, G, _, rfl, Nat.le_refl _, heap_alloc_new w.drew _, Nat.zero_le _, hG63, ?_, by simp⟩⟩
      simp [Builtin.zeroCells, Value.cells]
      omega
    · exact ((Below.refl _ w).drew).trans (below_alloc1 w.drew _)
    · simp
  have hG63' : G ≤ 9223372036854775807 := by unfold maxLen at hG63; omega
  clear hold hG hG63
  obtain ⟨w', hw', HE⟩ := HE.out
  rw [← hw'] at hrz
  have HE' : Hid (w'.ownsRow w.heap.size 3 1 (.slice (some ⟨w.heap.size, 0, none⟩) 0 G) 0 [] ∧ Below w.heap.size w w' ∧ w.heap.size < w'.heap.size) := HE
  clear hw' HE
  go_enter Tryd.func68, Tryd.ntmps68
  go_wp2_with (at_builtin; refine Lib.wpList_append_run _ rfl _ _ _ _ rfl _ _ rfl rfl _ _ (hrz _) ?_)
  go_ret
  exact ⟨G, rfl, HE'.out⟩

/-- a row among those that are put together. -/
structure RowI where
  b : Nat
  off : Nat
  cap : Nat
  m : Nat
  vs : List Value
/-- a row lies there. -/
def RowI.Lies (w : World) (r : RowI) : Prop := r.b < w.heap.size ∧ 0 < r.m ∧ r.m ≤ r.cap ∧ r.vs.length = r.m * 1 ∧ (∀ u ∈ r.vs, u.oneCell' = true) ∧ ∀ j u, r.vs[j]? = some u → w.cell? ⟨r.b, r.off + j, none⟩ = some u
theorem RowI.Lies.below {w w' : World} {r : RowI} (h : r.Lies w) (hb : Below w.heap.size w w') : r.Lies w' :=
  ⟨Nat.lt_of_lt_of_le h.1 hb.size, h.2.1, h.2.2.1, h.2.2.2.1, h.2.2.2.2.1, fun j u hu => by rw [hb.cell h.1]; exact h.2.2.2.2.2 j u hu⟩
/-- how many, and what, they have together. -/
def manyI (l : List RowI) : Nat := (l.map (·.m)).sum
def allI (l : List RowI) : List Value := (l.map (·.vs)).flatten
theorem manyI_succ (l : List RowI) {k : Nat} {r : RowI} (h : l[k]? = some r) : manyI (l.take (k + 1)) = manyI (l.take k) + r.m := by
  unfold manyI
  rw [List.take_add_one, h]; simp
theorem allI_succ (l : List RowI) {k : Nat} {r : RowI} (h : l[k]? = some r) : allI (l.take (k + 1)) = allI (l.take k) ++ r.vs := by
  unfold allI
  rw [List.take_add_one, h]; simp
theorem manyI_take (l : List RowI) (k : Nat) : manyI (l.take k) ≤ manyI l := by
  have : manyI l = manyI (l.take k) + manyI (l.drop k) := by
    unfold manyI
    rw [← List.sum_append_nat, ← List.map_append, List.take_append_drop]
  omega

set_option maxHeartbeats 4000000 in
/-- slices.Concat: a new row of all. -/
theorem concatI (l : List RowI) (A lcap : Nat) (w : World) (hl : l.length ≤ 4) (hA : A < w.heap.size) (hc : ∀ k r, l[k]? = some r → w.cell? ⟨A, k, none⟩ = some (.slice (some ⟨r.b, r.off, none⟩) r.m r.cap)) (hr : ∀ r ∈ l, r.Lies w) (h0 : 0 < manyI l) (h1 : manyI l ≤ 40) :
    Calls Tryd.prog 46 #[.slice (some ⟨A, 0, none⟩) l.length lcap] w fun e w' => ∃ v, e = .returned v ∧ w'.ownsRow w.heap.size 3 1 v (manyI l) (allI l) ∧ Below w.heap.size w w' := by
  obtain ⟨i0, hi, hz0, hz1, hz2⟩ := info_parts infoI
  obtain ⟨N, hN⟩ : ∃ N, N = l.length := ⟨_, rfl⟩
  rw [← hN] at hl ⊢
  have HN : Hid (N = l.length) := hN
  clear hN
  have HC : Hid (∀ W, Below w.heap.size w W → ∀ k r, l[k]? = some r → W.cell? ⟨A, k, none⟩ = some (.slice (some ⟨r.b, r.off, none⟩) r.m r.cap)) := fun W hW k r h => by rw [hW.cell (show (⟨A, k, none⟩ : Addr).block < _ from hA)]; exact hc k r h
  have HR : Hid (∀ W, Below w.heap.size w W → ∀ (k : Nat) (r : RowI), l[k]? = some r → r.Lies W) := fun W hW k r h => (hr r (List.mem_of_getElem? h)).below hW
  have HS : Hid (∀ k, manyI (l.take k) ≤ 40) := fun k => Nat.le_trans (manyI_take l k) h1
  have HG : Hid (∀ W, Calls Tryd.prog 68 #[.slice none 0 0, .int .i64 (manyI l)] W fun e w' => ∃ cap, e = .returned (.slice (some ⟨W.heap.size, 0, none⟩) 0 cap) ∧ w'.ownsRow W.heap.size 3 1 (.slice (some ⟨W.heap.size, 0, none⟩) 0 cap) 0 [] ∧ Below W.heap.size W w' ∧ W.heap.size < w'.heap.size) := fun W => growI _ h0 h1 W
  obtain ⟨M, hM⟩ : ∃ M, M = manyI l := ⟨_, rfl⟩
  rw [← hM] at HG ⊢
  have HM : Hid (M = manyI l) := hM
  clear hM hc hr h0 h1 hA
  go_enter Tryd.func46, Tryd.ntmps46
  go_wp2_with fail
  go_loop [3, 11] (fun c i => ∃ k : Nat, k ≤ N ∧ i = .int .i64 k ∧ c = .int .i64 (manyI (l.take k))) (fun _ i => N - (intOf i).toNat)
  case atStart => exact ⟨0, Nat.zero_le _, rfl, rfl⟩
  case round =>
    obtain ⟨k, hk, rfl, rfl⟩ := hrel
    by_cases hlt : k < N
    · obtain ⟨r, hr⟩ : ∃ r, l[k]? = some r := ⟨_, List.getElem?_eq_getElem (by have := HN.out; omega)⟩
      have hcell := HC.out w (Below.refl _ _) k r hr
      have HE : Hid (manyI (l.take (k + 1)) = manyI (l.take k) + r.m) := manyI_succ l hr
      have hs1 := HS.out (k + 1)
      rw [HE.out] at hs1
      obtain ⟨S, hS⟩ : ∃ S, S = manyI (l.take k) := ⟨_, rfl⟩
      rw [← hS] at HE hs1 ⊢
      clear hS hr
      obtain ⟨rb, ro, rc, rm, rvs⟩ := r
      simp only at hcell HE hs1
      have q : ¬ ((S : Int) + (rm : Int) < 0) := by omega
      go_wp2
      go_round
      case rel => exact ⟨k + 1, by omega, by go_num, by rw [HE.out]; go_num⟩
      case measure => simp [intOf]; omega
    · have HE : Hid (manyI (l.take k) = M) := by unfold Hid; rw [List.take_of_length_le (by have := HN.out; omega), HM.out]
      rw [HE.out]
      go_wp2_with fail
      go_at_call 68
      refine (HG.out _).mono ?_
      rintro e w2 ⟨cap, rfl, hown, hb, hlt2⟩
      obtain ⟨K, hK⟩ : ∃ K, K = w.heap.size := ⟨_, rfl⟩
      rw [← hK] at hown hb hlt2 HC HR ⊢
      have HB2 : Hid (Below K w w2 ∧ K ≤ w2.heap.size) := ⟨hb, by omega⟩
      have HO2 : Hid (w2.ownsRow K 3 1 (.slice (some ⟨K, 0, none⟩) 0 cap) 0 []) := hown
      have HKe : Hid (w.heap.size = K) := hK.symm
      clear hb hown hK hlt2
      go_wp2_with fail
      go_loopw [6, 27] (fun v i wr => ∃ k : Nat, k ≤ N ∧ i = .int .i64 k ∧ wr.ownsRow K 3 1 v (manyI (l.take k)) (allI (l.take k)) ∧ Below K w wr ∧ K ≤ wr.heap.size) (fun _ i _ => N - (intOf i).toNat)
      case atStart => exact ⟨0, Nat.zero_le _, rfl, HO2.out, HB2.out.1, HB2.out.2⟩
      case round =>
        obtain ⟨j, hj, rfl, hown, hbel, hKw⟩ := hrel
        by_cases hjl : j < N
        · obtain ⟨r, hr⟩ : ∃ r, l[j]? = some r := ⟨_, List.getElem?_eq_getElem (by have := HN.out; omega)⟩
          have hcell := HC.out wr hbel j r hr
          have HL : Hid (r.Lies wr) := HR.out wr hbel j r hr
          have HE : Hid (manyI (l.take (j + 1)) = manyI (l.take j) + r.m) := manyI_succ l hr
          have HE2 : Hid (allI (l.take (j + 1)) = allI (l.take j) ++ r.vs) := allI_succ l hr
          have hs1 := HS.out (j + 1)
          rw [HE.out] at hs1
          obtain ⟨S, hS⟩ : ∃ S, S = manyI (l.take j) := ⟨_, rfl⟩
          obtain ⟨XS, hXS⟩ : ∃ XS, XS = allI (l.take j) := ⟨_, rfl⟩
          rw [← hS] at HE hs1 hown
          rw [← hXS] at HE2 hown
          clear hS hXS hr
          obtain ⟨rb, ro, rc, rm, rvs⟩ := r
          simp only at hcell HE HE2 hs1
          have HOW : Hid (wr.ownsRow K 3 1 u6 S XS) := hown
          have HBW : Hid (Below K w wr ∧ K ≤ wr.heap.size) := ⟨hbel, hKw⟩
          have hrm : 0 < rm := HL.out.2.1
          clear hown hbel hKw
          go_wp2_with (first | (at_builtin; refine wpList_append_own _ rfl (.tmp 31) (.tmp 32) 30 rfl K 3 i0 (.int .i64 0) 1 8 Tryd.underlying30 hi hz0 hz1 hz2 rfl (by decide) u6 S XS rfl HOW.out ⟨rb, ro, none⟩ rm rc rvs rfl HL.out.2.2.2.1 ?a1 HL.out.2.2.2.2.1 ?a3 ?a4 ?a5 ?_))
          case a1 =>
            intro i u hu
            rw [Go.WideShapes.add_plain]
            exact HL.out.2.2.2.2.2 i u hu
          case a3 => unfold maxLen; omega
          case a4 => omega
          case a5 => exact HBW.out.2
          intro v' w3 hown' hgrow _
          have HB3 : Hid (Below K w w3 ∧ K ≤ w3.heap.size) := by
            refine ⟨HBW.out.1.grown hgrow HBW.out.2 (fun k hk => (HOW.out.lt k hk).1), ?_⟩
            have := hgrow.size
            have := HBW.out.2
            omega
          have HO3 : Hid (w3.ownsRow K 3 1 v' (manyI (l.take (j + 1))) (allI (l.take (j + 1)))) := by
            unfold Hid; rw [HE.out, HE2.out]; exact hown'
          clear hown' hgrow
          go_wp2
          go_roundw
          case rel => exact ⟨j + 1, by omega, by go_num, HO3.out, HB3.out.1, HB3.out.2⟩
          case measure => simp [intOf]; omega
        · rw [List.take_of_length_le (by have := HN.out; omega)] at hown
          have HO3 : Hid (wr.ownsRow K 3 1 u6 M (allI l)) := by unfold Hid; rw [HM.out]; exact hown
          have HB3 : Hid (Below K w wr) := hbel
          clear hown hbel
          go_wp2
          go_ret
          refine ⟨_, rfl, ?_, ?_⟩
          · rw [HKe.out]; exact HO3.out
          · rw [HKe.out]; exact HB3.out

end Go.Proofs.YtjaedfjfcghgcaaDoor

namespace Go.Proofs.YtjaedfjfcghgcaaDoor
open Go.ChangeShapes Go.WideShapes Go.ChangeAt Go.RowKit
set_option maxRecDepth 100000

theorem infoA : (Tryd.prog.info? 39).map (fun i => (i.zero, i.size, i.bytes)) = some (some (.agg #[.int .i64 0, .slice none 0 0, .slice none 0 0, .int .i64 0]), 4, 64) := by kernel_rfl

/-- four cells that are an atom, whose rows lie in K or behind. -/
def AtomOf (K : Nat) (w : World) (xs : List Value) (i : Nat) (a : At) : Prop :=
  ∃ vs vt, xs[i * 4]? = some (.int .i64 a.k) ∧ xs[i * 4 + 1]? = some vs ∧ xs[i * 4 + 2]? = some vt ∧ xs[i * 4 + 3]? = some (.int .i64 a.n) ∧ Fresh K w vs a.s ∧ Fresh K w vt a.t
theorem AtomOf.below {K : Nat} {w w' : World} {xs : List Value} {i : Nat} {a : At} (h : AtomOf K w xs i a) (hb : Below w.heap.size w w') : AtomOf K w' xs i a := by
  obtain ⟨vs, vt, h1, h2, h3, h4, h5, h6⟩ := h
  exact ⟨vs, vt, h1, h2, h3, h4, h5.below hb, h6.below hb⟩
theorem AtomOf.mono {K K' : Nat} {w : World} {xs : List Value} {i : Nat} {a : At} (h : AtomOf K w xs i a) (hK : K' ≤ K) : AtomOf K' w xs i a := by
  obtain ⟨vs, vt, h1, h2, h3, h4, h5, h6⟩ := h
  exact ⟨vs, vt, h1, h2, h3, h4, World.ownsRow.mono h5 hK, World.ownsRow.mono h6 hK⟩
/-- what lies behind a place is as it was when that place is written. -/
theorem Fresh.set {K G j : Nat} {w : World} {v u : Value} {t : List Int} (h : Fresh K w v t) (hG : G < K) : Fresh K (w.setCell ⟨G, j, none⟩ u) v t := by
  obtain ⟨h1, h2⟩ := h
  refine ⟨h1, ?_⟩
  rcases h2 with h2 | ⟨g, cap, cur, hv, hg, hh, r⟩
  · exact .inl h2
  · refine .inr ⟨g, cap, cur, hv, hg, ?_, r⟩
    rw [RowKit.Below.heap_setCell _ _ _ _ (by simp; omega)]; exact hh
theorem AtomOf.set {K G j : Nat} {w : World} {xs : List Value} {i : Nat} {a : At} (h : AtomOf K w xs i a) (hG : G < K) (u : Value) : AtomOf K (w.setCell ⟨G, j, none⟩ u) xs i a := by
  obtain ⟨vs, vt, h1, h2, h3, h4, h5, h6⟩ := h
  exact ⟨vs, vt, h1, h2, h3, h4, h5.set hG, h6.set hG⟩
theorem fresh_slice {K : Nat} {w : World} {v : Value} {t : List Int} (h : Fresh K w v t) : ∃ o c, v = .slice o t.length c := by
  rcases h.2 with ⟨rfl, h0⟩ | ⟨g, cap, cur, rfl, _⟩
  · exact ⟨none, 0, by rw [h0]⟩
  · exact ⟨_, cap, rfl⟩
/-- the row of atoms, as far as it is filled. -/
def FillA (G : Nat) (w : World) (ats : List At) (m k : Nat) : Prop :=
  ∃ xs, w.ownsRow G 39 4 (.slice (some ⟨G, 0, none⟩) m m) m xs ∧ ∀ i a, i < k → ats[i]? = some a → AtomOf (G + 1) w xs i a
theorem FillA.below {G : Nat} {w w' : World} {ats : List At} {m k : Nat} (h : FillA G w ats m k) (hb : Below w.heap.size w w') : FillA G w' ats m k := by
  obtain ⟨xs, h1, h2⟩ := h
  exact ⟨xs, ownsRow_below h1 hb, fun i a hi ha => (h2 i a hi ha).below hb⟩
/-- one atom more. -/
theorem FillA.set {G : Nat} {w : World} {ats : List At} {m k : Nat} (h : FillA G w ats m k) {a : At} (ha : ats[k]? = some a) (hk : k < m) {vs vt : Value} (hs : Fresh (G + 1) w vs a.s) (ht : Fresh (G + 1) w vt a.t) :
    FillA G ((((w.setCell ⟨G, k * 4, none⟩ (.int .i64 a.k)).setCell ⟨G, k * 4 + 1, none⟩ vs).setCell ⟨G, k * 4 + 2, none⟩ vt).setCell ⟨G, k * 4 + 3, none⟩ (.int .i64 a.n)) ats m (k + 1) := by
  obtain ⟨xs, h1, h2⟩ := h
  have hl : xs.length = m * 4 := h1.1
  have g1 := (h1.stored (k * 4) (.int .i64 a.k)).1
  have g2 := (g1.stored (k * 4 + 1) vs).1
  have g3 := (g2.stored (k * 4 + 2) vt).1
  have g4 := (g3.stored (k * 4 + 3) (.int .i64 a.n)).1
  refine ⟨_, g4, fun i b hi hb => ?_⟩
  have hG : G < G + 1 := by omega
  by_cases hik : i = k
  · subst hik
    obtain rfl := Option.some.inj (ha.symm.trans hb)
    refine ⟨vs, vt, ?_, ?_, ?_, ?_, (((hs.set hG).set hG).set hG).set hG, (((ht.set hG).set hG).set hG).set hG⟩
    · rw [List.getElem?_set_ne (by omega), List.getElem?_set_ne (by omega), List.getElem?_set_ne (by omega), List.getElem?_set_self (by omega)]
    · rw [List.getElem?_set_ne (by omega), List.getElem?_set_ne (by omega), List.getElem?_set_self (by simp; omega)]
    · rw [List.getElem?_set_ne (by omega), List.getElem?_set_self (by simp; omega)]
    · rw [List.getElem?_set_self (by simp; omega)]
  · obtain ⟨us, ut, e1, e2, e3, e4, f1, f2⟩ := h2 i b (by omega) hb
    refine ⟨us, ut, ?_, ?_, ?_, ?_, (((f1.set hG).set hG).set hG).set hG, (((f2.set hG).set hG).set hG).set hG⟩
    · rw [List.getElem?_set_ne (by omega), List.getElem?_set_ne (by omega), List.getElem?_set_ne (by omega), List.getElem?_set_ne (by omega)]; exact e1
    · rw [List.getElem?_set_ne (by omega), List.getElem?_set_ne (by omega), List.getElem?_set_ne (by omega), List.getElem?_set_ne (by omega)]; exact e2
    · rw [List.getElem?_set_ne (by omega), List.getElem?_set_ne (by omega), List.getElem?_set_ne (by omega), List.getElem?_set_ne (by omega)]; exact e3
    · rw [List.getElem?_set_ne (by omega), List.getElem?_set_ne (by omega), List.getElem?_set_ne (by omega), List.getElem?_set_ne (by omega)]; exact e4
/-- its cells are there, and may be written. -/
theorem FillA.there {G : Nat} {w : World} {ats : List At} {m k : Nat} (h : FillA G w ats m k) (hk : k < m) :
    ∃ z0 z1 z2 z3, (w.cell? ⟨G, k * 4, none⟩ = some z0 ∧ w.cell? ⟨G, k * 4 + 1, none⟩ = some z1 ∧ w.cell? ⟨G, k * 4 + 2, none⟩ = some z2 ∧ w.cell? ⟨G, k * 4 + 3, none⟩ = some z3) ∧ (w.frozen? ⟨G, k * 4, none⟩ = false ∧ w.frozen? ⟨G, k * 4 + 1, none⟩ = false ∧ w.frozen? ⟨G, k * 4 + 2, none⟩ = false ∧ w.frozen? ⟨G, k * 4 + 3, none⟩ = false) := by
  obtain ⟨xs, h1, _⟩ := h
  have hl : xs.length = m * 4 := h1.1
  have e : ∀ j, j < m * 4 → ∃ z, w.cell? ⟨G, j, none⟩ = some z := fun j hj => ⟨xs[j]'(by omega), by rw [h1.cellAt j hj, List.getElem?_eq_getElem]⟩
  obtain ⟨z0, e0⟩ := e (k * 4) (by omega)
  obtain ⟨z1, e1⟩ := e (k * 4 + 1) (by omega)
  obtain ⟨z2, e2⟩ := e (k * 4 + 2) (by omega)
  obtain ⟨z3, e3⟩ := e (k * 4 + 3) (by omega)
  exact ⟨z0, z1, z2, z3, ⟨e0, e1, e2, e3⟩, h1.frozenAt _, h1.frozenAt _, h1.frozenAt _, h1.frozenAt _⟩

theorem set4_far {w : World} {G B o0 o1 o2 o3 j : Nat} {u0 u1 u2 u3 : Value} (h : G ≠ B) : ((((w.setCell ⟨G, o0, none⟩ u0).setCell ⟨G, o1, none⟩ u1).setCell ⟨G, o2, none⟩ u2).setCell ⟨G, o3, none⟩ u3).cell? ⟨B, j, none⟩ = w.cell? ⟨B, j, none⟩ := by
  have e : ∀ (W : World) (o : Nat) (u : Value), (W.setCell ⟨G, o, none⟩ u).cell? ⟨B, j, none⟩ = W.cell? ⟨B, j, none⟩ := fun W o u => by
    apply World.cell?_setCell_other
    intro e
    injection e with e1
    exact h e1
  rw [e, e, e, e]

set_option maxHeartbeats 4000000 in
theorem copies_any (ats : List At) (v : Value) (w : World) (hA : ReadsA w v ats) (h0 : 0 < ats.length) (h6 : ats.length ≤ 6) (hall : ∀ a ∈ ats, a.s.length ≤ 40 ∧ a.t.length ≤ 40) :
    Calls Tryd.prog 45 #[v] w fun e w' => ∃ G, w.heap.size ≤ G ∧ e = .returned (.slice (some ⟨G, 0, none⟩) ats.length ats.length) ∧ FillA G w' ats ats.length ats.length ∧ Below w.heap.size w w' := by
  obtain ⟨i0, hi, hz0, hz1, hz2⟩ := info_parts infoA
  rcases hA with ⟨_, _, _, rfl⟩ | ⟨B, off, cap, rfl, hB, _, ⟨_, hcap⟩, hatm⟩
  · simp at h0
  have HA : Hid (∀ W, Below w.heap.size w W → ∀ k a, ats[k]? = some a → AtomAt W B (off + k * 4) a) := fun W hW k a h => (hatm k a h).below hB hW
  have HAl : Hid (∀ a ∈ ats, a.s.length ≤ 40 ∧ a.t.length ≤ 40) := hall
  clear hall hatm hB
  obtain ⟨m, hm⟩ : ∃ m, m = ats.length := ⟨_, rfl⟩
  rw [← hm] at h0 h6 hcap ⊢
  have HM : Hid (m = ats.length) := hm
  clear hm
  obtain ⟨G, hG⟩ : ∃ G, G = w.heap.size := ⟨_, rfl⟩
  have HG : Hid (w.heap.size = G) := hG.symm
  go_enter Tryd.func45, Tryd.ntmps45
  go_wp2_with (first | (at_make; refine wpList_make_full _ rfl _ _ 40 rfl G 39 i0 (.agg #[.int .i64 0, .slice none 0 0, .slice none 0 0, .int .i64 0]) 4 Tryd.underlying40 hi hz0 hz1 .i64 .i64 _ _ m rfl rfl ?m0 ?m1 ?m2 ?m3 ?m4 ?_))
  case m0 => rfl
  case m1 => rfl
  case m2 => rw [hz2]; omega
  case m3 => unfold maxLen; omega
  case m4 => omega
  intro w3 hown1 hgrow1
  have HO : Hid (FillA G w3 ats m 0 ∧ Below G w w3) := by
    have h3 : ∃ xs, w3.ownsRow G 39 4 (.slice (some ⟨G, 0, none⟩) m m) m xs := by
      have h4 := hown1
      rw [hG]
      exact ⟨_, h4⟩
    obtain ⟨xs, h3⟩ := h3
    exact ⟨⟨xs, h3, fun i a h => by omega⟩, (Below.refl _ _).grown hgrow1 (by omega) (fun k hk => by cases hk)⟩
  rw [← hG]
  clear hown1 hgrow1 hG
  go_wp2
  go_loopw [11] (fun i wr => ∃ k : Nat, k ≤ m ∧ i = .int .i64 k ∧ FillA G wr ats m k ∧ Below G w wr) (fun i _ => m - (intOf i).toNat)
  case atStart => exact ⟨0, Nat.zero_le _, rfl, HO.out.1, HO.out.2⟩
  case round =>
    obtain ⟨k, hk, rfl, hfill, hbel⟩ := hrel
    have HF : Hid (FillA G wr ats m k) := hfill
    have HB : Hid (Below G w wr) := hbel
    clear hfill hbel
    by_cases hlt : k < m
    · obtain ⟨a, ha⟩ : ∃ a, ats[k]? = some a := ⟨_, List.getElem?_eq_getElem (by have := HM.out; omega)⟩
      have HGr : Hid (G < wr.heap.size) := by
        obtain ⟨xs, h1, _⟩ := HF.out
        exact (ownsRow_block h1).2.1
      obtain ⟨vs, vt, c0, c1, c2, c3, r1, r2⟩ := HA.out wr (by rw [HG.out]; exact HB.out) k a ha
      obtain ⟨sao, scap, rfl, _⟩ := r1.slice
      obtain ⟨tao, tcap, rfl, _⟩ := r2.slice
      have HAll := HAl.out a (List.mem_of_getElem? ha)
      obtain ⟨ak, as', at', an⟩ := a
      simp only at c0 c1 c2 c3 r1 r2 HAll ⊢
      have Ha : Hid (ats[k]? = some ⟨ak, as', at', an⟩) := ha
      clear ha
      obtain ⟨w5, hw5⟩ : ∃ w5, w5 = wr.alloc (.cells #[.int .i64 ak, .slice sao as'.length scap, .slice tao at'.length tcap, .int .i64 an] 39) := ⟨_, rfl⟩
      have HB5 : Hid (Below wr.heap.size wr w5) := by unfold Hid; rw [hw5]; exact below_alloc1 wr _
      have HS5 : Hid (w5.heap.size = wr.heap.size + 1) := by unfold Hid; rw [hw5]; simp
      have HX5 : Hid (w5.cell? ⟨wr.heap.size, 0, none⟩ = some (.int .i64 ak) ∧ w5.cell? ⟨wr.heap.size, 1, none⟩ = some (.slice sao as'.length scap) ∧ w5.cell? ⟨wr.heap.size, 2, none⟩ = some (.slice tao at'.length tcap) ∧ w5.cell? ⟨wr.heap.size, 3, none⟩ = some (.int .i64 an)) := by
        unfold Hid; rw [hw5]; simp
      have HF5 : Hid (FillA G w5 ats m k) := HF.out.below HB5.out
      have HX : Hid (∀ W, Below w5.heap.size w5 W → (W.cell? ⟨wr.heap.size, 0, none⟩ = some (.int .i64 ak) ∧ W.cell? ⟨wr.heap.size, 1, none⟩ = some (.slice sao as'.length scap) ∧ W.cell? ⟨wr.heap.size, 2, none⟩ = some (.slice tao at'.length tcap) ∧ W.cell? ⟨wr.heap.size, 3, none⟩ = some (.int .i64 an))) := fun W hW => by
        have e : ∀ j, W.cell? ⟨wr.heap.size, j, none⟩ = w5.cell? ⟨wr.heap.size, j, none⟩ := fun j => hW.cell (show (⟨wr.heap.size, j, none⟩ : Addr).block < _ by have := HS5.out; simp; omega)
        simp only [e]; exact HX5.out
      obtain ⟨z0, z1, z2, z3, ⟨t0, t1, t2, t3⟩, ⟨f0, f1, f2, f3⟩⟩ := HF5.out.there hlt
      have HT : Hid (∀ W, Below w5.heap.size w5 W → (W.cell? ⟨G, k * 4, none⟩ = some z0 ∧ W.cell? ⟨G, k * 4 + 1, none⟩ = some z1 ∧ W.cell? ⟨G, k * 4 + 2, none⟩ = some z2 ∧ W.cell? ⟨G, k * 4 + 3, none⟩ = some z3) ∧ (W.frozen? ⟨G, k * 4, none⟩ = false ∧ W.frozen? ⟨G, k * 4 + 1, none⟩ = false ∧ W.frozen? ⟨G, k * 4 + 2, none⟩ = false ∧ W.frozen? ⟨G, k * 4 + 3, none⟩ = false)) := fun W hW => by
        have hb : G < w5.heap.size := by have := HS5.out; have := HGr.out; omega
        refine ⟨⟨?_, ?_, ?_, ?_⟩, ?_, ?_, ?_, ?_⟩
        · rw [hW.cell hb]; exact t0
        · rw [hW.cell hb]; exact t1
        · rw [hW.cell hb]; exact t2
        · rw [hW.cell hb]; exact t3
        · rw [hW.frozen hb]; exact f0
        · rw [hW.frozen hb]; exact f1
        · rw [hW.frozen hb]; exact f2
        · rw [hW.frozen hb]; exact f3
      clear t0 t1 t2 t3 f0 f1 f2 f3
      have HCs : Hid (∀ (v : Value) (x : List Int), Reads w5 v x → x.length ≤ 40 → ∀ W, Below w5.heap.size w5 W → Calls Tryd.prog 67 #[v] W fun e w' => ∃ o c, e = .returned (.slice o x.length c) ∧ Fresh W.heap.size w' (.slice o x.length c) x ∧ Below W.heap.size W w' ∧ Below w5.heap.size w5 w' ∧ (w'.cell? ⟨wr.heap.size, 0, none⟩ = some (.int .i64 ak) ∧ w'.cell? ⟨wr.heap.size, 1, none⟩ = some (.slice sao as'.length scap) ∧ w'.cell? ⟨wr.heap.size, 2, none⟩ = some (.slice tao at'.length tcap) ∧ w'.cell? ⟨wr.heap.size, 3, none⟩ = some (.int .i64 an)) ∧ ((w'.cell? ⟨G, k * 4, none⟩ = some z0 ∧ w'.cell? ⟨G, k * 4 + 1, none⟩ = some z1 ∧ w'.cell? ⟨G, k * 4 + 2, none⟩ = some z2 ∧ w'.cell? ⟨G, k * 4 + 3, none⟩ = some z3) ∧ (w'.frozen? ⟨G, k * 4, none⟩ = false ∧ w'.frozen? ⟨G, k * 4 + 1, none⟩ = false ∧ w'.frozen? ⟨G, k * 4 + 2, none⟩ = false ∧ w'.frozen? ⟨G, k * 4 + 3, none⟩ = false))) := fun v x hR hx W hW => by
        refine (copied_any x v W (hR.below hW) hx).mono ?_
        rintro e w' ⟨v', rfl, hfr, hb⟩
        obtain ⟨o, c, rfl⟩ := fresh_slice hfr
        have hb5 : Below w5.heap.size w5 w' := hW.trans (hb.mono hW.size)
        exact ⟨o, c, rfl, hfr, hb, hb5, HX.out w' hb5, HT.out w' hb5⟩
      have HCS : Hid (∀ W, Below w5.heap.size w5 W → _) := HCs.out (.slice sao as'.length scap) as' (r1.below HB5.out) HAll.1
      have HCT : Hid (∀ W, Below w5.heap.size w5 W → _) := HCs.out (.slice tao at'.length tcap) at' (r2.below HB5.out) HAll.2
      clear HCs r1 r2 HAll
      have hk0 : (0 : Int) ≤ (k : Int) := by omega
      have hk1 : (k : Int) < (m : Int) := by omega
      have hGne : G ≠ wr.heap.size := by have := HGr.out; omega
      obtain ⟨lS, hlS⟩ : ∃ lS, lS = as'.length := ⟨_, rfl⟩
      obtain ⟨lT, hlT⟩ : ∃ lT, lT = at'.length := ⟨_, rfl⟩
      rw [← hlS] at c1 hw5 HX5 HX HCS HCT
      rw [← hlT] at c2 hw5 HX5 HX HCS HCT
      clear hlS hlT
      go_wp2_with fail
      rw [← hw5]
      clear hw5 c0 c1 c2 c3
      obtain ⟨y0, y1, y2, y3⟩ := HX5.out
      clear HX5
      go_region_held3 (fun w' => w'.cell? ⟨wr.heap.size, 0, none⟩ = some (.int .i64 ak) ∧ w'.cell? ⟨wr.heap.size, 1, none⟩ = some (.slice sao lS scap) ∧ w'.cell? ⟨wr.heap.size, 2, none⟩ = some (.slice tao lT tcap) ∧ w'.cell? ⟨wr.heap.size, 3, none⟩ = some (.int .i64 an)) (first | go_keep | (go_split_ands; refine ⟨?_, ?_, ?_, ?_⟩ <;> (rw [set4_far hGne]; assumption)))
        (first
          | (go_at_call_of 67 (Value.slice sao lS scap); refine (HCS.out _ ?_).mono ?_; (first | assumption | exact (Below.refl _ _).drew); rintro e w6 ⟨o1, q1, rfl, hfs, hbs, hb5s, _, ⟨⟨t0, t1, t2, t3⟩, ⟨f0, f1, f2, f3⟩⟩⟩)
          | (go_at_call_of 67 (Value.slice tao lT tcap); refine (HCT.out _ ?_).mono ?_; (first | assumption | exact (Below.refl _ _).drew); rintro e w' ⟨o2, q2, rfl, hft, hbt, hb5t, _, ⟨⟨t0, t1, t2, t3⟩, ⟨f0, f1, f2, f3⟩⟩⟩))
      have hGw : G + 1 ≤ w5.heap.size := by have := HS5.out; have := HGr.out; omega
      have hs6 : w5.heap.size ≤ w6.heap.size := hb5s.size
      have HR : Hid (FillA G ((((w'.setCell ⟨G, k * 4, none⟩ (.int .i64 ak)).setCell ⟨G, k * 4 + 1, none⟩ (.slice o1 lS q1)).setCell ⟨G, k * 4 + 2, none⟩ (.slice o2 lT q2)).setCell ⟨G, k * 4 + 3, none⟩ (.int .i64 an)) ats m (k + 1) ∧ Below G w ((((w'.setCell ⟨G, k * 4, none⟩ (.int .i64 ak)).setCell ⟨G, k * 4 + 1, none⟩ (.slice o1 lS q1)).setCell ⟨G, k * 4 + 2, none⟩ (.slice o2 lT q2)).setCell ⟨G, k * 4 + 3, none⟩ (.int .i64 an))) := by
        refine ⟨FillA.set (HF5.out.below hb5t) Ha.out hlt (World.ownsRow.mono (hfs.below hbt) hGw) (World.ownsRow.mono hft (by omega)), ?_⟩
        have hb : Below G w w' := HB.out.trans ((HB5.out.trans (hb5t.mono HB5.out.size)).mono (by have := HGr.out; omega))
        exact (((hb.setCell (Nat.le_refl _) _).setCell (Nat.le_refl _) _).setCell (Nat.le_refl _) _).setCell (Nat.le_refl _) _
      clear hfs hbs hb5s hft hbt hb5t hs6 hGw
      go_wp2
      go_roundw
      case rel => exact ⟨k + 1, by omega, by go_num, HR.out.1, HR.out.2⟩
      case measure => simp [intOf]; omega
    · obtain rfl : k = m := by omega
      go_wp2
      go_ret
      refine ⟨G, by rw [HG.out]; exact Nat.le_refl _, rfl, HF.out, ?_⟩
      rw [HG.out]; exact HB.out

/-- a full row of atoms reads as they do. -/
theorem FillA.reads {G : Nat} {w : World} {ats : List At} (h : FillA G w ats ats.length ats.length) (h0 : 0 < ats.length) (h6 : ats.length ≤ 40) : ReadsA w (.slice (some ⟨G, 0, none⟩) ats.length ats.length) ats := by
  obtain ⟨xs, h1, h2⟩ := h
  refine Or.inr ⟨G, 0, ats.length, rfl, (ownsRow_block h1).2.1, h0, ⟨by omega, Nat.le_refl _⟩, fun i a ha => ?_⟩
  have hi : i < ats.length := (List.getElem?_eq_some_iff.1 ha).1
  obtain ⟨vs, vt, e1, e2, e3, e4, f1, f2⟩ := h2 i a hi ha
  rw [Nat.zero_add]
  exact ⟨vs, vt, by rw [h1.cellAt _ (by omega)]; exact e1, by rw [h1.cellAt _ (by omega)]; exact e2, by rw [h1.cellAt _ (by omega)]; exact e3, by rw [h1.cellAt _ (by omega)]; exact e4, f1.reads, f2.reads⟩
end Go.Proofs.YtjaedfjfcghgcaaDoor
