/-
  Proved: what an argument of a statement is: a slice of numbers reads as a list, a world is four numbers, a string has a size; and that an argument reads behind a call that turns nothing that was there as it read before. (What the statements' frames lean on.)
  Proved: what an atom is, as an argument of a statement: two numbers, and two slices that read as lists. (What the statements' frames lean on.)
  Proved: what a formula is, as an argument of a statement: a slice of atoms, and a slice of numbers. (What the statements' frames lean on.)
  Proved: what vennlaw4.atomOf and vennlaw4.pow return; what was in memory is as it was (contracts that the statements lean on).
  A formula of an atom alone, and two formulas, as they are laid in memory (what the statements of chapters 14, 15 and 18 lean on).
  Plain facts on a formula of an atom alone, and on two formulas together (chapters 3, 4, 13). No program is read here.
  Plain facts on the core of some formulas: they are not open, and without any one of them they are (chapter 13). No program is read here.
-/
import Derived.Test.YtgkgbpbohgklhagDoorRows
import Derived.Test.YtgkgbpbohgklhagDoorLibS2
import Derived.ProofKit
import Derived.OpenShut
import Derived.Carry
import Derived.Lib.SmallJoins
import Derived.Test.YtgkgbpbohgklhagDoorLibS8
import Derived.Deep.Slices
import Derived.Test.YtgkgbpbohgklhagDoorLibS4
import Derived.Test.YtgkgbpbohgklhagDoorLibS1
import Derived.Test.YtgkgbpbohgklhagDoorLibS7
namespace Go.Proofs.YtgkgbpbohgklhagDoor
open Go.ChangeShapes Go.WideShapes Go.ChangeAt Go.RowKit Go.WideMaps Go.WideElems
open Go.ChangeMaps (open_string)

theorem laidOutA : laidOutB Tryd.prog = true := by kernel_rfl
theorem cellsInt : Tryd.prog.cellsOf 3 = 1 := by kernel_rfl
theorem cellsWorld : Tryd.prog.cellsOf 37 = 4 := by kernel_rfl
theorem cellsArr : Tryd.prog.cellsOf 35 = 3 := by kernel_rfl

set_option maxRecDepth 100000 in
theorem reads_arg {H : Type} {enc : TypeId × Value → H} {W : World} {v : Value} {d : DataW H} {p : List MemPlace} {r : Reach} {b0 : Nat} (hv : Value.okWide Tryd.prog W r b0 30 v) (h : DataW.Trod enc Tryd.prog W 0 (fun _ => true) true 30 v d p) :
    ∃ t, Reads W v t := by
  obtain ⟨a0, len, cap, rfl⟩ := okWide_slice Tryd.underlying30 hv
  obtain ⟨fuel, hf⟩ := h
  rcases open_ints Tryd.underlying30 Tryd.underlying3 cellsInt hf with ⟨hcs, hx⟩ | ⟨a, len', cap', zs, hcs, _, hl, hm, hz, hx, hcell, hwz⟩
  · simp [Value.cells] at hcs
    obtain ⟨rfl, rfl, rfl⟩ := hcs
    exact ⟨[], Or.inl ⟨none, 0, rfl, rfl⟩⟩
  · simp [Value.cells] at hcs
    obtain ⟨rfl, rfl, rfl⟩ := hcs
    rw [if_pos rfl] at hz
    rcases Nat.eq_zero_or_pos len with h0 | h0
    · subst h0; exact ⟨[], Or.inl ⟨_, _, rfl, rfl⟩⟩
    · obtain ⟨b, off, rfl, hc⟩ := ints_at hcell (by omega)
      have hlen : (zs.take len).length = len := by rw [List.length_take]; omega
      unfold maxLen at hm
      refine ⟨zs.take len, Or.inr ⟨b, off, cap, by rw [hlen], ?_, by omega, ⟨by omega, by omega⟩, fun k hk => ?_⟩⟩
      · exact World.block_lt_of_cell? W ⟨b, off, none⟩ (hc 0 (by omega))
      · rw [hc k (by omega)]
        rw [hlen] at hk
        simp [hk]
set_option maxRecDepth 100000 in
theorem world_arg {H : Type} {enc : TypeId × Value → H} {W : World} {v : Value} {d : DataW H} {p : List MemPlace} {r : Reach} {b0 : Nat} (hv : Value.okWide Tryd.prog W r b0 37 v) (h : DataW.Trod enc Tryd.prog W 0 (fun _ => true) true 37 v d p) :
    ∃ u a b c : Int, v = .agg #[.int .i64 u, .int .i64 a, .int .i64 b, .int .i64 c] := by
  obtain ⟨cs, rfl, hsz⟩ := okWide_struct Tryd.underlying37 hv
  obtain ⟨c0, c1, c2, c3, rfl⟩ := Go.Joins.array4 (hsz.trans cellsWorld)
  obtain ⟨fuel, hf⟩ := h
  obtain ⟨y0, y1, n, _, _, h0, h1⟩ := trod_struct2 Tryd.underlying37 hf
  simp only [Value.cells, cellsInt, cellsArr] at h0 h1
  obtain ⟨u, e0, _, _⟩ := DataW.trod_int Tryd.underlying3 h0
  obtain ⟨xs, m, _, _, _, hxl, hx⟩ := DataW.trod_array Tryd.underlying35 h1
  have g0 := hx 0 (by omega)
  have g1 := hx 1 (by omega)
  have g2 := hx 2 (by omega)
  simp only [cellsInt] at g0 g1 g2
  rw [List.getElem?_eq_getElem (show 0 < xs.length by omega)] at g0
  rw [List.getElem?_eq_getElem (show 1 < xs.length by omega)] at g1
  rw [List.getElem?_eq_getElem (show 2 < xs.length by omega)] at g2
  obtain ⟨a, ea, _, _⟩ := DataW.trod_int Tryd.underlying3 g0
  obtain ⟨b, eb, _, _⟩ := DataW.trod_int Tryd.underlying3 g1
  obtain ⟨c, ec, _, _⟩ := DataW.trod_int Tryd.underlying3 g2
  simp at e0 ea eb ec
  subst e0 ea eb ec
  exact ⟨u, a, b, c, rfl⟩

set_option maxRecDepth 100000 in
theorem string_arg {H : Type} {enc : TypeId × Value → H} {W : World} {v : Value} {d : DataW H} {p : List MemPlace} {r : Reach} {b0 : Nat} (hv : Value.okWide Tryd.prog W r b0 9 v) (h : DataW.Trod enc Tryd.prog W 0 (fun _ => true) true 9 v d p) :
    ∃ s : ByteArray, v = .string s ∧ s.size ≤ 9223372036854775807 := by
  obtain ⟨s, rfl, _, _, hs⟩ := open_string Tryd.underlying9 hv h
  exact ⟨s, rfl, hs⟩
set_option maxRecDepth 100000 in
theorem int_arg {H : Type} {enc : TypeId × Value → H} {W : World} {v : Value} {d : DataW H} {p : List MemPlace} {r : Reach} {b0 : Nat} (hv : Value.okWide Tryd.prog W r b0 3 v) (h : DataW.Trod enc Tryd.prog W 0 (fun _ => true) true 3 v d p) :
    ∃ n : Int, v = .int .i64 n := by
  obtain ⟨n, rfl, _⟩ := open_int Tryd.underlying3 hv h
  exact ⟨n, rfl⟩
set_option maxRecDepth 100000 in
/-- a slice of numbers is no longer than its capacity. -/
theorem cap_arg {H : Type} {enc : TypeId × Value → H} {W : World} {v : Value} {d : DataW H} {p : List MemPlace} {r : Reach} {b0 : Nat} (hv : Value.okWide Tryd.prog W r b0 30 v) (h : DataW.Trod enc Tryd.prog W 0 (fun _ => true) true 30 v d p) :
    ∃ ao len cap, v = .slice ao len cap ∧ len ≤ cap := by
  obtain ⟨a0, len, cap, rfl⟩ := okWide_slice Tryd.underlying30 hv
  obtain ⟨fuel, hf⟩ := h
  rcases open_ints Tryd.underlying30 Tryd.underlying3 cellsInt hf with ⟨hcs, hx⟩ | ⟨a, len', cap', zs, hcs, _, hl, _⟩
  · simp [Value.cells] at hcs
    obtain ⟨rfl, rfl, rfl⟩ := hcs
    exact ⟨_, _, _, rfl, Nat.le_refl _⟩
  · simp [Value.cells] at hcs
    obtain ⟨rfl, rfl, rfl⟩ := hcs
    exact ⟨_, _, _, rfl, hl⟩
end Go.Proofs.YtgkgbpbohgklhagDoor

namespace Go.Proofs.YtgkgbpbohgklhagDoor
open Go.ChangeShapes Go.WideShapes Go.ChangeAt Go.RowKit Go.WideMaps Go.WideElems
set_option maxRecDepth 100000

theorem cellsAtom : Tryd.prog.cellsOf 39 = 4 := by kernel_rfl
theorem cellsInts : Tryd.prog.cellsOf 30 = 1 := by kernel_rfl

theorem reads_trod {H : Type} {enc : TypeId × Value → H} {W : World} {fuel : Nat} {cs : List Value} {x : DataW H × List MemPlace} (h : DataW.trod enc Tryd.prog W 0 (fun _ => true) true fuel 30 cs = some x) :
    ∃ v t, cs = [v] ∧ Reads W v t := by
  rcases open_ints Tryd.underlying30 Tryd.underlying3 cellsInt h with ⟨hcs, hx⟩ | ⟨a, len, cap, zs, hcs, _, hl, hm, hz, hx, hcell, hwz⟩
  · exact ⟨_, [], hcs, Or.inl ⟨none, 0, rfl, rfl⟩⟩
  · refine ⟨_, zs.take len, hcs, ?_⟩
    rw [if_pos rfl] at hz
    rcases Nat.eq_zero_or_pos len with h0 | h0
    · subst h0; exact Or.inl ⟨_, _, rfl, rfl⟩
    · obtain ⟨b, off, rfl, hc⟩ := ints_at hcell (by omega)
      have hlen : (zs.take len).length = len := by rw [List.length_take]; omega
      unfold maxLen at hm
      refine Or.inr ⟨b, off, cap, by rw [hlen], ?_, by omega, ⟨by omega, by omega⟩, fun k hk => ?_⟩
      · exact World.block_lt_of_cell? W ⟨b, off, none⟩ (hc 0 (by omega))
      · rw [hc k (by omega)]
        rw [hlen] at hk
        simp [hk]
theorem atom_trod {H : Type} {enc : TypeId × Value → H} {W : World} {fuel : Nat} {cs : List Value} {x : DataW H × List MemPlace} (h : DataW.trod enc Tryd.prog W 0 (fun _ => true) true fuel 39 cs = some x) :
    ∃ k vs vt n s t, cs = [.int .i64 k, vs, vt, .int .i64 n] ∧ Reads W vs s ∧ Reads W vt t := by
  obtain ⟨y0, y1, y2, y3, n, _, hl, h0, h1, h2, h3⟩ := Go.Joins.trod_struct4 Tryd.underlying39 h
  rw [cellsAtom] at hl
  obtain ⟨c0, c1, c2, c3, rfl⟩ : ∃ c0 c1 c2 c3, cs = [c0, c1, c2, c3] := by
    match cs, hl with
    | [a, b, c, d], _ => exact ⟨a, b, c, d, rfl⟩
  simp only [cellsInt, cellsInts] at h0 h1 h2 h3
  obtain ⟨k, e0, _, _⟩ := DataW.trod_int Tryd.underlying3 h0
  obtain ⟨vs, s, e1, r1⟩ := reads_trod h1
  obtain ⟨vt, t, e2, r2⟩ := reads_trod h2
  obtain ⟨m, e3, _, _⟩ := DataW.trod_int Tryd.underlying3 h3
  simp at e0 e1 e2 e3
  subst e0 e1 e2 e3
  exact ⟨k, _, _, m, s, t, rfl, r1, r2⟩
theorem atom_arg {H : Type} {enc : TypeId × Value → H} {W : World} {v : Value} {d : DataW H} {p : List MemPlace} {r : Reach} {b0 : Nat} (hv : Value.okWide Tryd.prog W r b0 39 v) (h : DataW.Trod enc Tryd.prog W 0 (fun _ => true) true 39 v d p) :
    ∃ k n vs vt s t, v = .agg #[.int .i64 k, vs, vt, .int .i64 n] ∧ Reads W vs s ∧ Reads W vt t := by
  obtain ⟨cs, rfl, hsz⟩ := okWide_struct Tryd.underlying39 hv
  obtain ⟨c0, c1, c2, c3, rfl⟩ := Go.Joins.array4 (hsz.trans cellsAtom)
  obtain ⟨fuel, hf⟩ := h
  obtain ⟨k, vs, vt, n, s, t, e, r1, r2⟩ := atom_trod hf
  simp [Value.cells] at e
  obtain ⟨rfl, rfl, rfl, rfl⟩ := e
  exact ⟨k, n, _, _, s, t, rfl, r1, r2⟩
end Go.Proofs.YtgkgbpbohgklhagDoor

namespace Go.Proofs.YtgkgbpbohgklhagDoor
open Go.ChangeShapes Go.WideShapes Go.ChangeAt Go.RowKit Go.WideMaps Go.WideElems
set_option maxRecDepth 100000

theorem cellsForm : Tryd.prog.cellsOf 42 = 2 := by kernel_rfl
theorem cellsAtoms : Tryd.prog.cellsOf 40 = 1 := by kernel_rfl

theorem atoms_of {w : World} (b off : Nat) (n : Nat) (h : ∀ i, i < n → ∃ a : At, AtomAt w b (off + i * 4) a) : ∃ ats : List At, ats.length = n ∧ ∀ i a, ats[i]? = some a → AtomAt w b (off + i * 4) a := by
  induction n with
  | zero => exact ⟨[], rfl, fun i a h => by simp at h⟩
  | succ n ih =>
    obtain ⟨ats, hl, ha⟩ := ih (fun i hi => h i (by omega))
    obtain ⟨a, haa⟩ := h n (by omega)
    refine ⟨ats ++ [a], by simp [hl], fun i x hx => ?_⟩
    rcases Nat.lt_or_ge i n with hi | hi
    · rw [List.getElem?_append_left (by omega)] at hx; exact ha i x hx
    · rw [List.getElem?_append_right (by omega), hl] at hx
      obtain rfl : i = n := by
        have := (List.getElem?_eq_some_iff.1 hx).1
        simp at this; omega
      simp at hx
      subst hx
      exact haa
theorem atoms_trod {H : Type} {enc : TypeId × Value → H} {W : World} {fuel : Nat} {cs : List Value} {x : DataW H × List MemPlace} (h : DataW.trod enc Tryd.prog W 0 (fun _ => true) true fuel 40 cs = some x) :
    ∃ v ats, cs = [v] ∧ ReadsA W v ats := by
  rcases Go.Deep.open_slice Tryd.underlying40 h with ⟨hcs, _⟩ | ⟨a, len, cap, m, n, D, Pl, hcs, _, hl, hm, hmm, _, hx⟩
  · exact ⟨_, [], hcs, Or.inl ⟨none, 0, rfl, rfl⟩⟩
  · rw [if_pos rfl] at hmm
    rcases Nat.eq_zero_or_pos len with h0 | h0
    · subst h0; exact ⟨_, [], hcs, Or.inl ⟨_, _, rfl, rfl⟩⟩
    · obtain ⟨b, off, spot⟩ := a
      have cell : ∀ i, i < m → ∀ j, j < 4 → ∃ cs', DataW.trod enc Tryd.prog W 0 (fun _ => true) true n 39 cs' = some (D i, Pl i) ∧ ∀ j, j < 4 → W.cell? ((Addr.add ⟨b, off, spot⟩ (i * 4)).add j) = cs'[j]? := by
        intro i hi j hj
        obtain ⟨cs', h1, h2⟩ := hx i hi
        rw [cellsAtom] at h1
        exact ⟨cs', h2, (World.cells?_some h1).2.2⟩
      have hspot : spot = none := by
        obtain ⟨cs', h2, hc⟩ := cell 0 (by omega) 0 (by omega)
        obtain ⟨k, vs, vt, n', s, t, rfl, _, _⟩ := atom_trod h2
        have := hc 0 (by omega)
        simpa [Addr.add] using World.cell?_spot this
      subst hspot
      obtain ⟨ats, hlen, has⟩ := atoms_of (w := W) b off len (fun i hi => by
        obtain ⟨cs', h2, hc⟩ := cell i (by omega) 0 (by omega)
        obtain ⟨k, vs, vt, n', s, t, rfl, r1, r2⟩ := atom_trod h2
        refine ⟨⟨k, s, t, n'⟩, vs, vt, ?_, ?_, ?_, ?_, r1, r2⟩
        · have := hc 0 (by omega)
          rw [Go.WideShapes.add_plain, Go.WideShapes.add_plain] at this
          simpa using this
        · have := hc 1 (by omega)
          rw [Go.WideShapes.add_plain, Go.WideShapes.add_plain] at this
          simpa using this
        · have := hc 2 (by omega)
          rw [Go.WideShapes.add_plain, Go.WideShapes.add_plain] at this
          simpa using this
        · have := hc 3 (by omega)
          rw [Go.WideShapes.add_plain, Go.WideShapes.add_plain] at this
          simpa using this)
      unfold maxLen at hm
      refine ⟨_, ats, hcs, Or.inr ⟨b, off, cap, by rw [hlen], ?_, by omega, ⟨by omega, by omega⟩, has⟩⟩
      obtain ⟨vs, vt, h1, _⟩ := has 0 (ats[0]'(by omega)) (List.getElem?_eq_getElem _)
      exact World.block_lt_of_cell? W ⟨b, off + 0 * 4, none⟩ h1
theorem form_arg {H : Type} {enc : TypeId × Value → H} {W : World} {v : Value} {d : DataW H} {p : List MemPlace} {r : Reach} {b0 : Nat} (hv : Value.okWide Tryd.prog W r b0 42 v) (h : DataW.Trod enc Tryd.prog W 0 (fun _ => true) true 42 v d p) :
    ∃ va vc ats c, v = .agg #[va, vc] ∧ ReadsA W va ats ∧ Reads W vc c := by
  obtain ⟨cs, rfl, hsz⟩ := okWide_struct Tryd.underlying42 hv
  obtain ⟨c0, c1, rfl⟩ : ∃ c0 c1, cs = #[c0, c1] := by
    obtain ⟨l⟩ := cs
    match l, hsz.trans cellsForm with
    | [c0, c1], _ => exact ⟨c0, c1, rfl⟩
  obtain ⟨fuel, hf⟩ := h
  obtain ⟨y0, y1, n, _, _, h0, h1⟩ := trod_struct2 Tryd.underlying42 hf
  simp only [Value.cells, cellsAtoms, cellsInts] at h0 h1
  obtain ⟨va, ats, e0, r0⟩ := atoms_trod h0
  obtain ⟨vc, c, e1, r1⟩ := reads_trod h1
  simp at e0 e1
  subst e0 e1
  exact ⟨_, _, ats, c, rfl, r0, r1⟩
end Go.Proofs.YtgkgbpbohgklhagDoor

namespace Go.Proofs.YtgkgbpbohgklhagDoor
open Go.ChangeShapes Go.WideShapes Go.ChangeAt Go.RowKit
set_option maxRecDepth 100000

theorem four_at (w : World) (o0 o1 o2 o3 : Obj) :
    ((((w.alloc o0).alloc o1).alloc o2).alloc o3).heap[w.heap.size]? = some o0 ∧
    ((((w.alloc o0).alloc o1).alloc o2).alloc o3).heap[w.heap.size + 1]? = some o1 ∧
    ((((w.alloc o0).alloc o1).alloc o2).alloc o3).heap[w.heap.size + 1 + 1]? = some o2 ∧
    ((((w.alloc o0).alloc o1).alloc o2).alloc o3).heap[w.heap.size + 1 + 1 + 1]? = some o3 ∧
    Below w.heap.size w ((((w.alloc o0).alloc o1).alloc o2).alloc o3) := by
  have s1 : (w.alloc o0).heap.size = w.heap.size + 1 := World.size_alloc _ _
  have s2 : ((w.alloc o0).alloc o1).heap.size = w.heap.size + 1 + 1 := by rw [World.size_alloc, s1]
  have s3 : (((w.alloc o0).alloc o1).alloc o2).heap.size = w.heap.size + 1 + 1 + 1 := by rw [World.size_alloc, s2]
  refine ⟨?_, ?_, ?_, ?_, ?_⟩
  · rw [Below.heap_alloc _ _ _ (by omega), Below.heap_alloc _ _ _ (by omega), Below.heap_alloc _ _ _ (by omega)]; exact heap_alloc_new _ _
  · rw [Below.heap_alloc _ _ _ (by omega), Below.heap_alloc _ _ _ (by omega), ← s1]; exact heap_alloc_new _ _
  · rw [Below.heap_alloc _ _ _ (by omega), ← s2]; exact heap_alloc_new _ _
  · rw [← s3]; exact heap_alloc_new _ _
  · exact ((((Below.refl _ w).alloc (Nat.le_refl _) _).alloc (by omega) _).alloc (by omega) _).alloc (by omega) _
theorem six_few (w : World) (o0 o1 o2 o3 o4 o5 : Obj) :
    ((((((w.alloc o0).alloc o1).alloc o2).alloc o3).alloc o4).alloc o5).heap[w.heap.size]? = some o0 ∧
    ((((((w.alloc o0).alloc o1).alloc o2).alloc o3).alloc o4).alloc o5).heap[w.heap.size + 1]? = some o1 ∧
    ((((((w.alloc o0).alloc o1).alloc o2).alloc o3).alloc o4).alloc o5).heap[w.heap.size + 1 + 1]? = some o2 ∧
    ((((((w.alloc o0).alloc o1).alloc o2).alloc o3).alloc o4).alloc o5).heap[w.heap.size + 1 + 1 + 1]? = some o3 ∧
    ((((((w.alloc o0).alloc o1).alloc o2).alloc o3).alloc o4).alloc o5).heap[w.heap.size + 1 + 1 + 1 + 1]? = some o4 ∧
    ((((((w.alloc o0).alloc o1).alloc o2).alloc o3).alloc o4).alloc o5).heap[w.heap.size + 1 + 1 + 1 + 1 + 1]? = some o5 ∧
    Below w.heap.size w ((((((w.alloc o0).alloc o1).alloc o2).alloc o3).alloc o4).alloc o5) := by
  have s1 : (w.alloc o0).heap.size = w.heap.size + 1 := World.size_alloc _ _
  have s2 : ((w.alloc o0).alloc o1).heap.size = w.heap.size + 1 + 1 := by rw [World.size_alloc, s1]
  obtain ⟨h0, h1, h2, h3, hb⟩ := four_at ((w.alloc o0).alloc o1) o2 o3 o4 o5
  have hb2 : Below w.heap.size w ((w.alloc o0).alloc o1) := (below_alloc1 _ _).alloc (by omega) _
  rw [s2] at h0 h1 h2 h3
  refine ⟨?_, ?_, h0, h1, h2, h3, hb2.trans (hb.mono (by omega))⟩
  · rw [hb.block _ (by omega), Below.heap_alloc _ _ _ (by omega)]; exact heap_alloc_new _ _
  · rw [hb.block _ (by omega), ← s1]; exact heap_alloc_new _ _

theorem infoForm : (Tryd.prog.info? 42).map (·.size) = some 2 := by kernel_rfl


end Go.Proofs.YtgkgbpbohgklhagDoor

namespace Go.Proofs.YtgkgbpbohgklhagDoor
open Go.ChangeShapes Go.WideShapes Go.ChangeAt Go.RowKit
set_option maxRecDepth 100000

theorem three_at (w : World) (o0 o1 o2 : Obj) :
    (((w.alloc o0).alloc o1).alloc o2).heap[w.heap.size]? = some o0 ∧
    (((w.alloc o0).alloc o1).alloc o2).heap[w.heap.size + 1]? = some o1 ∧
    (((w.alloc o0).alloc o1).alloc o2).heap[w.heap.size + 1 + 1]? = some o2 ∧
    Below w.heap.size w (((w.alloc o0).alloc o1).alloc o2) := by
  have s1 : (w.alloc o0).heap.size = w.heap.size + 1 := World.size_alloc _ _
  have s2 : ((w.alloc o0).alloc o1).heap.size = w.heap.size + 1 + 1 := by rw [World.size_alloc, s1]
  refine ⟨?_, ?_, ?_, ?_⟩
  · rw [Below.heap_alloc _ _ _ (by omega), Below.heap_alloc _ _ _ (by omega)]; exact heap_alloc_new _ _
  · rw [Below.heap_alloc _ _ _ (by omega), ← s1]; exact heap_alloc_new _ _
  · rw [← s2]; exact heap_alloc_new _ _
  · exact (((Below.refl _ w).alloc (Nat.le_refl _) _).alloc (by omega) _).alloc (by omega) _
/-- an atom alone, laid in two blocks. -/
theorem alone_reads {W : World} {G C : Nat} {k n : Int} {vt : Value} {t : List Int} (hA : Blk W G 39 #[.int .i64 k, vt, .slice none 0 0, .int .i64 n]) (hT : Reads W vt t) (hC : Blk W C 3 #[.int .i64 0]) :
    ReadsA W (.slice (some ⟨G, 0, none⟩) 1 1) [⟨k, t, [], n⟩] ∧ Reads W (.slice (some ⟨C, 0, none⟩) 1 1) [0] := by
  refine ⟨Or.inr ⟨G, 0, 1, rfl, hA.lt, by simp, ⟨by simp, by simp⟩, fun i a ha => ?_⟩, Or.inr ⟨C, 0, 1, rfl, hC.lt, by simp, ⟨by simp, by simp⟩, fun j hj => ?_⟩⟩
  · cases i with
    | zero =>
      obtain rfl : (⟨k, t, [], n⟩ : At) = a := by simpa using ha
      exact ⟨_, _, hA.cell 0, hA.cell 1, hA.cell 2, hA.cell 3, hT, Or.inl ⟨none, 0, rfl, rfl⟩⟩
    | succ i => simp at ha
  · obtain rfl : j = 0 := by simp at hj; exact hj
    exact hC.cell 0
/-- two formulas, laid in a block. -/
theorem two_forms {W : World} {G : Nat} {va vc va' vc' : Value} {f g : Fm} (h : Blk W G 42 #[va, vc, va', vc']) (h1 : ReadsA W va f.ats) (h2 : Reads W vc f.c) (h3 : ReadsA W va' g.ats) (h4 : Reads W vc' g.c) : ReadsF W (.slice (some ⟨G, 0, none⟩) 2 2) [f, g] := by
  refine Or.inr ⟨G, 0, 2, rfl, h.lt, by simp, ⟨by simp, by simp⟩, fun i x hx => ?_⟩
  cases i with
  | zero =>
    obtain rfl : f = x := by simpa using hx
    exact ⟨va, vc, h.cell 0, h.cell 1, h1, h2⟩
  | succ i =>
    cases i with
    | zero =>
      obtain rfl : g = x := by simpa using hx
      exact ⟨va', vc', h.cell 2, h.cell 3, h3, h4⟩
    | succ i => simp at hx
theorem errV_is (n : Int) : errV n = .nilIface ∨ ∃ m, errV n = .iface 64 (.int .i64 m) := by
  by_cases h : n = 0
  · left; rw [h]; rfl
  · right; exact ⟨n, errV_no h⟩
theorem errV_nil {n : Int} (h : errV n = .nilIface) : n = 0 := by
  by_cases h0 : n = 0
  · exact h0
  · rw [errV_no h0] at h; cases h
end Go.Proofs.YtgkgbpbohgklhagDoor

namespace Go.Proofs.YtgkgbpbohgklhagDoor
open Go.RowKit

/-- an atom alone: what is wrong, and whether it holds. -/
theorem alone_fault {k n : Int} {t : List Int} (h : atomFault k t [] n = 0) : formFault [⟨k, t, [], n⟩] [0] = 0 := by
  refine formFault_zero.2 ⟨⟨by simp, by simp⟩, ⟨by simp, by simp⟩, fun a ha => ?_, by simp; decide, by decide⟩
  obtain rfl : a = ⟨k, t, [], n⟩ := by simpa using ha
  exact h
theorem alone_is {k n : Int} {t : List Int} (h : atomFault k t [] n = 0) {D : Wd} (hok : D.ok = true) : D.formIs [⟨k, t, [], n⟩] [0] = D.holds k t [] n := by
  have hb : ∀ b : Bool, valF [b] [0] = b := by intro b; cases b <;> rfl
  unfold Wd.formIs
  rw [if_pos (wdForm_zero.2 ⟨alone_fault h, hok⟩)]
  exact hb _
theorem many_fault {k n : Int} {t : List Int} (ht : faultN t = 0) (hk : k = 3 ∨ k = 4) (h0 : -20 ≤ n) (h1 : n ≤ 20) : atomFault k t [] n = 0 := by
  rcases hk with rfl | rfl
  · refine atomFault_zero.2 ⟨⟨by decide, by decide⟩, ht, by decide, ?_, ?_⟩
    · show -(20 : Int) ≤ n; omega
    · show n ≤ (20 : Int); omega
  · refine atomFault_zero.2 ⟨⟨by decide, by decide⟩, ht, by decide, ?_, ?_⟩
    · show -(20 : Int) ≤ n; omega
    · show n ≤ (20 : Int); omega
theorem least_is {n : Int} {t : List Int} (ht : faultN t = 0) (h0 : -20 ≤ n) (h1 : n ≤ 20) {D : Wd} (hok : D.ok = true) : D.formIs [⟨3, t, [], n⟩] [0] = decide (n ≤ pcN (D.val t)) := by
  rw [alone_is (many_fault ht (Or.inl rfl) h0 h1) hok]
  unfold Wd.holds saysB
  simp
theorem most_is {n : Int} {t : List Int} (ht : faultN t = 0) (h0 : -20 ≤ n) (h1 : n ≤ 20) {D : Wd} (hok : D.ok = true) : D.formIs [⟨4, t, [], n⟩] [0] = decide (pcN (D.val t) ≤ n) := by
  rw [alone_is (many_fault ht (Or.inr rfl) h0 h1) hok]
  unfold Wd.holds saysB
  simp
/-- two formulas are open just if there is a world in which both hold. -/
theorem open_two {f g : Fm} {u : Int} (hf : f.fault = 0) (hg : g.fault = 0) (hu : 0 ≤ u ∧ u ≤ 6) : formsFault [f, g] u = 0 ∧ (openB [f, g] u = true ↔ ∃ D : Wd, D.ok = true ∧ D.u = u ∧ D.formIs f.ats f.c = true ∧ D.formIs g.ats g.c = true) := by
  have hz : formsFault [f, g] u = 0 := by
    refine forms_zero.2 ⟨⟨by simp, by simp⟩, fun x hx => ?_, hu⟩
    rcases List.mem_cons.1 hx with rfl | hx
    · exact hf
    · obtain rfl : x = g := by simpa using hx
      exact hg
  refine ⟨hz, ?_⟩
  have eo : openB [f, g] u = openN [f, g] u.toNat := by unfold openB; rw [if_pos hz]
  rw [eo]
  constructor
  · intro h
    obtain ⟨D, h1, h2, h3⟩ := open_has (by omega) h
    unfold Wd.so at h3
    simp at h3
    exact ⟨D, h1, by omega, h3.1, h3.2⟩
  · rintro ⟨D, h1, h2, h3, h4⟩
    refine open_of h1 h2 ?_
    unfold Wd.so
    simp [h3, h4]
end Go.Proofs.YtgkgbpbohgklhagDoor

namespace Go.Proofs.YtgkgbpbohgklhagDoor
open Go.RowKit

theorem leftTo_mem {fs : List Fm} {g : Nat → Bool} {f : Fm} : ∀ k, k ≤ fs.length → (f ∈ leftTo fs g k ↔ ∃ j, j < k ∧ g j = false ∧ fs[j]? = some f) := by
  intro k
  induction k with
  | zero => intro _; exact ⟨fun h => by simp [leftTo] at h, fun ⟨j, h, _⟩ => by omega⟩
  | succ k ih =>
    intro hk
    unfold leftTo
    rw [List.mem_append, ih (by omega), List.getElem?_eq_getElem (show k < fs.length by omega)]
    constructor
    · rintro (⟨j, h1, h2, h3⟩ | h)
      · exact ⟨j, by omega, h2, h3⟩
      · cases hg : g k
        · rw [hg] at h
          simp at h
          exact ⟨k, by omega, hg, by rw [List.getElem?_eq_getElem (by omega), h]⟩
        · rw [hg] at h; simp at h
    · rintro ⟨j, h1, h2, h3⟩
      rcases Nat.lt_or_ge j k with h | h
      · exact Or.inl ⟨j, h, h2, h3⟩
      · obtain rfl : j = k := by omega
        right
        rw [h2]
        rw [List.getElem?_eq_getElem (by omega)] at h3
        simp at h3
        simp [h3]
theorem putG_same (g : Nat → Bool) (i : Nat) (b : Bool) : putG g i b i = b := by unfold putG; simp
theorem putG_other (g : Nat → Bool) {i k : Nat} (b : Bool) (h : k ≠ i) : putG g i b k = g k := by unfold putG; simp [h]
theorem goneTo_succ (fs : List Fm) (u i : Nat) : goneTo fs u (i + 1) = if openN (leftF fs (putG (goneTo fs u i) i true)) u = true then putG (goneTo fs u i) i false else putG (goneTo fs u i) i true := rfl
theorem coreTo_succ (fs : List Fm) (u i : Nat) : coreTo fs u (i + 1) = if openN (leftF fs (putG (goneTo fs u i) i true)) u = true then coreTo fs u i ++ [(i : Int)] else coreTo fs u i := rfl
theorem goneTo_far (fs : List Fm) (u : Nat) : ∀ i k, i ≤ k → goneTo fs u i k = false := by
  intro i
  induction i with
  | zero => intro k _; rfl
  | succ i ih =>
    intro k hk
    rw [goneTo_succ]
    split
    · rw [putG_other _ _ (by omega)]; exact ih k (by omega)
    · rw [putG_other _ _ (by omega)]; exact ih k (by omega)
theorem goneTo_keep (fs : List Fm) (u : Nat) : ∀ d i k, k < i → goneTo fs u (i + d) k = goneTo fs u i k := by
  intro d
  induction d with
  | zero => intro i k _; rfl
  | succ d ih =>
    intro i k hk
    rw [← ih i k hk, show i + (d + 1) = i + d + 1 by omega, goneTo_succ]
    split
    · rw [putG_other _ _ (by omega)]
    · rw [putG_other _ _ (by omega)]
/-- what is left is never open, if all together are not. -/
theorem left_closed {fs : List Fm} {u : Nat} (h : openN fs u = false) : ∀ i, i ≤ fs.length → openN (leftF fs (goneTo fs u i)) u = false := by
  intro i
  induction i with
  | zero =>
    intro _
    have hsub : ∀ f ∈ fs, f ∈ leftF fs (goneTo fs u 0) := fun f hf => by
      obtain ⟨j, hj⟩ := List.mem_iff_getElem?.1 hf
      exact (leftTo_mem fs.length (Nat.le_refl _)).2 ⟨j, (List.getElem?_eq_some_iff.1 hj).1, rfl, hj⟩
    cases e : openN (leftF fs (goneTo fs u 0)) u
    · rfl
    · rw [open_less hsub e] at h; exact absurd h (by decide)
  | succ i ih =>
    intro hi
    have ih := ih (by omega)
    rw [goneTo_succ]
    split
    · rename_i ho
      have hsame : putG (goneTo fs u i) i false = goneTo fs u i := by
        funext k
        by_cases hk : k = i
        · rw [hk, putG_same, goneTo_far fs u i i (Nat.le_refl _)]
        · rw [putG_other _ _ hk]
      rw [hsame]; exact ih
    · rename_i ho
      simpa using ho
/-- without any one that is kept the others are open. -/
theorem left_less {fs : List Fm} {u : Nat} {i : Nat} (hi : i < fs.length) (hk : goneTo fs u fs.length i = false) {gs : List Fm} (hgs : ∀ f ∈ gs, ∃ j, j < fs.length ∧ j ≠ i ∧ goneTo fs u fs.length j = false ∧ fs[j]? = some f) : openN gs u = true := by
  have e1 : goneTo fs u (i + 1) i = false := by
    have := goneTo_keep fs u (fs.length - (i + 1)) (i + 1) i (by omega)
    rw [show i + 1 + (fs.length - (i + 1)) = fs.length by omega] at this
    rw [← this]; exact hk
  have ho : openN (leftF fs (putG (goneTo fs u i) i true)) u = true := by
    cases ho : openN (leftF fs (putG (goneTo fs u i) i true)) u
    · have : goneTo fs u (i + 1) i = true := by
        rw [goneTo_succ, if_neg (by rw [ho]; decide), putG_same]
      rw [this] at e1; exact absurd e1 (by decide)
    · rfl
  refine open_less (fun f hf => ?_) ho
  obtain ⟨j, hj, hji, hjk, hfj⟩ := hgs f hf
  refine (leftTo_mem fs.length (Nat.le_refl _)).2 ⟨j, hj, ?_, hfj⟩
  rw [putG_other _ _ hji]
  rcases Nat.lt_or_ge j i with h | h
  · have := goneTo_keep fs u (fs.length - i) i j h
    rw [show i + (fs.length - i) = fs.length by omega] at this
    rw [← this]; exact hjk
  · exact goneTo_far fs u i j h
/-- the core are the places of those that are kept, rising. -/
theorem core_mem {fs : List Fm} {u : Nat} : ∀ i, i ≤ fs.length → (coreTo fs u i).Pairwise (· < ·) ∧ ∀ x : Int, x ∈ coreTo fs u i ↔ ∃ j : Nat, j < i ∧ x = j ∧ goneTo fs u i j = false := by
  intro i
  induction i with
  | zero => intro _; exact ⟨List.Pairwise.nil, fun x => ⟨fun h => (by cases h), fun ⟨j, h, _⟩ => by omega⟩⟩
  | succ i ih =>
    intro hi
    obtain ⟨h1, h2⟩ := ih (by omega)
    have hlow : ∀ j, j < i → goneTo fs u (i + 1) j = goneTo fs u i j := fun j hj => goneTo_keep fs u 1 i j hj
    cases ho : openN (leftF fs (putG (goneTo fs u i) i true)) u
    · have ec : coreTo fs u (i + 1) = coreTo fs u i := by rw [coreTo_succ, if_neg (by rw [ho]; decide)]
      have eg : goneTo fs u (i + 1) i = true := by
        rw [goneTo_succ, if_neg (by rw [ho]; decide), putG_same]
      rw [ec]
      refine ⟨h1, fun x => ?_⟩
      rw [h2 x]
      constructor
      · rintro ⟨j, a, b, c⟩; exact ⟨j, by omega, b, by rw [hlow j a]; exact c⟩
      · rintro ⟨j, a, b, c⟩
        rcases Nat.lt_or_ge j i with h | h
        · exact ⟨j, h, b, by rw [← hlow j h]; exact c⟩
        · obtain rfl : j = i := by omega
          rw [eg] at c; exact absurd c (by decide)
    · have ec : coreTo fs u (i + 1) = coreTo fs u i ++ [(i : Int)] := by rw [coreTo_succ, if_pos ho]
      have eg : goneTo fs u (i + 1) i = false := by
        rw [goneTo_succ, if_pos ho, putG_same]
      rw [ec]
      refine ⟨?_, fun x => ?_⟩
      · rw [List.pairwise_append]
        refine ⟨h1, by simp, fun a ha b hb => ?_⟩
        obtain ⟨j, hj, rfl, _⟩ := (h2 a).1 ha
        obtain rfl : b = (i : Int) := by simpa using hb
        omega
      · rw [List.mem_append, h2 x]
        constructor
        · rintro (⟨j, a, b, c⟩ | h)
          · exact ⟨j, by omega, b, by rw [hlow j a]; exact c⟩
          · exact ⟨i, by omega, by simpa using h, eg⟩
        · rintro ⟨j, a, b, c⟩
          rcases Nat.lt_or_ge j i with h | h
          · exact Or.inl ⟨j, h, b, by rw [← hlow j h]; exact c⟩
          · obtain rfl : j = i := by omega
            exact Or.inr (by simp [b])
/-- the formulas at the places of the core. -/
def coreF (fs : List Fm) (u : Nat) : List Fm := (coreTo fs u fs.length).map fun x => fs.getD x.toNat fmZ
theorem coreF_in {fs : List Fm} {u : Nat} {k : Nat} {x : Int} (hx : (coreTo fs u fs.length)[k]? = some x) : ∃ j : Nat, j < fs.length ∧ x = j ∧ goneTo fs u fs.length j = false ∧ fs[j]? = some (fs.getD x.toNat fmZ) := by
  obtain ⟨j, a, rfl, c⟩ := ((core_mem fs.length (Nat.le_refl _)).2 x).1 (List.mem_of_getElem? hx)
  refine ⟨j, a, rfl, c, ?_⟩
  rw [Int.toNat_natCast, List.getD_eq_getElem?_getD, List.getElem?_eq_getElem a]; rfl
/-- together they are not open. -/
theorem core_closed {fs : List Fm} {u : Nat} (h : openN fs u = false) : openN (coreF fs u) u = false := by
  have hl := left_closed h fs.length (Nat.le_refl _)
  cases e : openN (coreF fs u) u
  · rfl
  · have hsub : ∀ f ∈ leftF fs (goneTo fs u fs.length), f ∈ coreF fs u := fun f hf => by
      obtain ⟨j, h1, h2, h3⟩ := (leftTo_mem fs.length (Nat.le_refl _)).1 hf
      unfold coreF
      rw [List.mem_map]
      refine ⟨(j : Int), ((core_mem fs.length (Nat.le_refl _)).2 _).2 ⟨j, h1, rfl, h2⟩, ?_⟩
      rw [Int.toNat_natCast, List.getD_eq_getElem?_getD, h3]; rfl
    rw [open_less hsub e] at hl; exact absurd hl (by decide)
/-- without the k-th they are. -/
theorem core_without {fs : List Fm} {u : Nat} {k : Nat} (hk : k < (coreF fs u).length) : openN ((coreF fs u).take k ++ (coreF fs u).drop (k + 1)) u = true := by
  have hkc : k < (coreTo fs u fs.length).length := by unfold coreF at hk; simpa using hk
  obtain ⟨i, hi, hx, hg, _⟩ := coreF_in (List.getElem?_eq_getElem hkc)
  refine left_less hi hg fun f hf => ?_
  have hmem : ∃ m, m ≠ k ∧ (coreF fs u)[m]? = some f := by
    rcases List.mem_append.1 hf with h | h
    · obtain ⟨m, hm⟩ := List.mem_iff_getElem?.1 h
      have hmk : m < k := by have := (List.getElem?_eq_some_iff.1 hm).1; simp at this; omega
      exact ⟨m, by omega, by rw [List.getElem?_take_of_lt hmk] at hm; exact hm⟩
    · obtain ⟨m, hm⟩ := List.mem_iff_getElem?.1 h
      rw [List.getElem?_drop] at hm
      exact ⟨k + 1 + m, by omega, hm⟩
  obtain ⟨m, hmk, hm⟩ := hmem
  unfold coreF at hm
  rw [List.getElem?_map] at hm
  cases hy : (coreTo fs u fs.length)[m]? with
  | none => rw [hy] at hm; cases hm
  | some y =>
    rw [hy] at hm
    have hf' : fs.getD y.toNat fmZ = f := by simpa using hm
    obtain ⟨j, hj, hyj, hgj, hfj⟩ := coreF_in hy
    refine ⟨j, hj, ?_, hgj, by rw [← hf']; exact hfj⟩
    intro e
    have hp := (core_mem (fs := fs) (u := u) fs.length (Nat.le_refl _)).1
    have hml := (List.getElem?_eq_some_iff.1 hy).1
    have hyv : (coreTo fs u fs.length)[m] = y := (List.getElem?_eq_some_iff.1 hy).2
    rcases Nat.lt_or_gt_of_ne hmk with h | h
    · have := List.pairwise_iff_getElem.1 hp m k hml hkc h
      rw [hyv, hx, hyj, e] at this; omega
    · have := List.pairwise_iff_getElem.1 hp k m hkc hml h
      rw [hyv, hx, hyj, e] at this; omega
theorem core_some {fs : List Fm} {u : Nat} (h : openN fs u = false) : 0 < (coreF fs u).length := by
  rcases Nat.eq_zero_or_pos (coreF fs u).length with h0 | h0
  · have := core_closed h
    rw [List.eq_nil_of_length_eq_zero h0, open_nil] at this
    exact absurd this (by decide)
  · exact h0
end Go.Proofs.YtgkgbpbohgklhagDoor
