/-
  Proved: where the variable atom.kinds reads as the row lists it, its eighteen cells are those of the table of kinds. (What the tied statements' frames lean on.)
  Proved: the row's condition on atom.kinds gives the walk its table, and the heap that the program's own initialisers leave meets the condition. (What the tied statement's frame leans on.)
  Proved: what an argument of a statement is: a slice of numbers reads as a list, a world is four numbers, a string has a size; and that an argument reads behind a call that turns nothing that was there as it read before. (What the statements' frames lean on.)
  Proved: what an atom is, as an argument of a statement: two numbers, and two slices that read as lists. (What the statements' frames lean on.)
  Proved: what a formula is, as an argument of a statement: a slice of atoms, and a slice of numbers. (What the statements' frames lean on.)
-/
import Derived.Test.YtjaedfjfcghgcabDoorRows
import Derived.Test.YtjaedfjfcghgcabDoorLibS8
import Derived.ProofKit
import Derived.OpenShut
import Derived.LaidLaws
import Derived.Stop.LaidErr
import Derived.Deep.Strs
import Derived.LaidMore
import Derived.LaidHandle
import Derived.Stop.Joined
import Derived.Test.YtjaedfjfcghgcabDoorLibS6
import Derived.Carry
import Derived.Lib.SmallJoins
import Derived.Deep.Slices
namespace Go.Proofs.YtjaedfjfcghgcabDoor
open Go.ChangeShapes Go.WideShapes Go.ChangeAt Go.RowKit Go.Deep
set_option maxRecDepth 100000

theorem kdG : Tryd.prog.globalNamed "vennhouse/atom.kinds" = some 0 := by kernel_rfl
theorem kdT : (Tryd.prog.globals[0]?).map (·.type) = some 82 := by kernel_rfl
theorem kdC : Tryd.prog.cellsOf 81 = 3 := by kernel_rfl
theorem kdA : Tryd.prog.cellsOf 82 = 18 := by kernel_rfl
theorem kdS : Tryd.prog.cellsOf 9 = 1 := by kernel_rfl
theorem kdB : Tryd.prog.cellsOf 4 = 1 := by kernel_rfl

theorem kind_of_trod {w : World} {cs : List Value} {fuel : Nat} {text : List UInt8} {b1 b2 : Bool} {y : DataW Unit × List MemPlace} (hy : y.1 = .agg [.lit (.string text), .lit (.bool b1), .lit (.bool b2)])
    (h : DataW.trod (fun _ => ()) Tryd.prog w 0 (fun _ => true) false fuel 81 cs = some y) : cs = [.string ⟨text.toArray⟩, .bool b1, .bool b2] := by
  obtain ⟨y0, y1, y2, n, e, hl, t0, t1, t2⟩ := trod_struct3 Tryd.underlying81 h
  rw [kdC] at hl
  obtain ⟨c0, c1, c2, rfl⟩ : ∃ c0 c1 c2, cs = [c0, c1, c2] := by
    match cs, hl with
    | [a, b, c], _ => exact ⟨a, b, c, rfl⟩
  · simp only [kdS, kdB] at t0 t1 t2
    obtain ⟨s, e0, f0, _⟩ := DataW.trod_string Tryd.underlying9 t0
    obtain ⟨x1, e1, f1⟩ := DataW.trod_bool Tryd.underlying4 t1
    obtain ⟨x2, e2, f2⟩ := DataW.trod_bool Tryd.underlying4 t2
    simp at e0 e1 e2
    subst e0 e1 e2
    subst f0 f1 f2
    subst e
    simp at hy
    obtain ⟨rfl, rfl, rfl⟩ := hy
    rfl

theorem kinds_of_head {r : List (String × DataW Unit)} {W : World} (h : laidMet Tryd.prog (("vennhouse/atom.kinds", Rows.laid_vennhouse_atom_kinds) :: r) W) : KindsLaid W := by
  obtain ⟨ps, ⟨g0, t0, cs0, f0, p0, q0, hg0, ht0, hv0, hd0, _, e0⟩, _, hrows⟩ := h
  obtain rfl := Option.some.inj (kdG.symm.trans hg0)
  obtain rfl := Option.some.inj (kdT.symm.trans ht0)
  obtain ⟨xs, m, _, hx, hlen, hxl, hi⟩ := DataW.trod_array Tryd.underlying82 hd0
  simp only [kdC] at hi
  rw [kdA] at hlen
  have hx1 : Rows.laid_vennhouse_atom_kinds = .agg (xs.map (·.1)) := congrArg Prod.fst hx
  obtain ⟨a0, a1, a2, a3, a4, a5, rfl⟩ : ∃ a0 a1 a2 a3 a4 a5, xs = [a0, a1, a2, a3, a4, a5] := by
    match xs, hxl with
    | [a, b, c, d, e, f], _ => exact ⟨a, b, c, d, e, f, rfl⟩
  · unfold Rows.laid_vennhouse_atom_kinds at hx1
    simp only [List.map, DataW.agg.injEq, List.cons.injEq, and_true] at hx1
    obtain ⟨g0, g1, g2, g3, g4, g5⟩ := hx1
    have k0 := kind_of_trod g0.symm (hi 0 (by decide))
    have k1 := kind_of_trod g1.symm (hi 1 (by decide))
    have k2 := kind_of_trod g2.symm (hi 2 (by decide))
    have k3 := kind_of_trod g3.symm (hi 3 (by decide))
    have k4 := kind_of_trod g4.symm (hi 4 (by decide))
    have k5 := kind_of_trod g5.symm (hi 5 (by decide))
    have hl : cs0.toList = kindCells := by
      have e : cs0.toList = (cs0.toList.drop (0 * 3)).take 3 ++ ((cs0.toList.drop (1 * 3)).take 3 ++ ((cs0.toList.drop (2 * 3)).take 3 ++ ((cs0.toList.drop (3 * 3)).take 3 ++ ((cs0.toList.drop (4 * 3)).take 3 ++ ((cs0.toList.drop (5 * 3)).take 3))))) := by
        match cs0.toList, hlen with
        | [_, _, _, _, _, _, _, _, _, _, _, _, _, _, _, _, _, _], _ => rfl
      rw [e, k0, k1, k2, k3, k4, k5]
      rfl
    intro j hj
    have hc := World.var?_cell kdG hv0 j
    rw [hc]
    have : cs0[j]? = cs0.toList[j]? := by simp
    rw [this, hl]
    have hj' : j < kindCells.length := hj
    simp [List.getElem?_eq_getElem hj']
end Go.Proofs.YtjaedfjfcghgcabDoor

namespace Go.Proofs.YtjaedfjfcghgcabDoor
open Go.ChangeShapes Go.WideShapes Go.ChangeAt Go.RowKit
set_option maxRecDepth 100000

theorem ownN : ownKnob Tryd.prog.godebug = none := by kernel_rfl
def laidN : List (String × DataW Unit) := [("vennhouse/atom.kinds", Rows.laid_vennhouse_atom_kinds)]
theorem kinds_of_met {W : World} (h : laidMetH Tryd.prog laidN W) : KindsLaid W := by
  have h' : laidMet Tryd.prog laidN W := h
  exact kinds_of_head h'
theorem doorN_met (os : Os) (args : Array Value) : laidMetH Tryd.prog laidN ((World.doorLaid Tryd.prog 400 os).forCall (fun _ _ => 0) ⟨#[], args, []⟩).memory := by
  show laidMet Tryd.prog laidN _
  exact laidMet_of_run' 8 (by kernel_rfl) (by kernel_rfl)
end Go.Proofs.YtjaedfjfcghgcabDoor

namespace Go.Proofs.YtjaedfjfcghgcabDoor
open Go.ChangeShapes Go.WideShapes Go.ChangeAt Go.RowKit Go.WideMaps Go.WideElems
open Go.ChangeMaps (open_string)

theorem laidOutA : laidOutB Tryd.prog = true := by kernel_rfl
theorem cellsInt : Tryd.prog.cellsOf 3 = 1 := by kernel_rfl
theorem cellsWorld : Tryd.prog.cellsOf 28 = 4 := by kernel_rfl
theorem cellsArr : Tryd.prog.cellsOf 26 = 3 := by kernel_rfl

set_option maxRecDepth 100000 in
theorem reads_arg {H : Type} {enc : TypeId × Value → H} {W : World} {v : Value} {d : DataW H} {p : List MemPlace} {r : Reach} {b0 : Nat} (hv : Value.okWide Tryd.prog W r b0 23 v) (h : DataW.Trod enc Tryd.prog W 0 (fun _ => true) true 23 v d p) :
    ∃ t, Reads W v t := by
  obtain ⟨a0, len, cap, rfl⟩ := okWide_slice Tryd.underlying23 hv
  obtain ⟨fuel, hf⟩ := h
  rcases open_ints Tryd.underlying23 Tryd.underlying3 cellsInt hf with ⟨hcs, hx⟩ | ⟨a, len', cap', zs, hcs, _, hl, hm, hz, hx, hcell, hwz⟩
  · simp [Value.cells] at hcs
    obtain ⟨rfl, rfl, rfl⟩ := hcs
    exact ⟨[], Or.inl ⟨none, 0, rfl, rfl⟩⟩
  · simp [Value.cells] at hcs
    obtain ⟨rfl, rfl, rfl⟩ := hcs
    rw [if_pos rfl] at hz
    rcases Nat.eq_zero_or_pos len with h0 | h0
    · subst h0; exact ⟨[], Or.inl ⟨_, _, rfl, rfl⟩⟩
    · obtain ⟨b, off, rfl, hc⟩ := ints_at hcell (by omega)
      have hlen : (zs.take len).length = len := by rw [List.length_take]; omega
      unfold maxLen at hm
      refine ⟨zs.take len, Or.inr ⟨b, off, cap, by rw [hlen], ?_, by omega, ⟨by omega, by omega⟩, fun k hk => ?_⟩⟩
      · exact World.block_lt_of_cell? W ⟨b, off, none⟩ (hc 0 (by omega))
      · rw [hc k (by omega)]
        rw [hlen] at hk
        simp [hk]
set_option maxRecDepth 100000 in
theorem world_arg {H : Type} {enc : TypeId × Value → H} {W : World} {v : Value} {d : DataW H} {p : List MemPlace} {r : Reach} {b0 : Nat} (hv : Value.okWide Tryd.prog W r b0 28 v) (h : DataW.Trod enc Tryd.prog W 0 (fun _ => true) true 28 v d p) :
    ∃ u a b c : Int, v = .agg #[.int .i64 u, .int .i64 a, .int .i64 b, .int .i64 c] := by
  obtain ⟨cs, rfl, hsz⟩ := okWide_struct Tryd.underlying28 hv
  obtain ⟨c0, c1, c2, c3, rfl⟩ := Go.Joins.array4 (hsz.trans cellsWorld)
  obtain ⟨fuel, hf⟩ := h
  obtain ⟨y0, y1, n, _, _, h0, h1⟩ := trod_struct2 Tryd.underlying28 hf
  simp only [Value.cells, cellsInt, cellsArr] at h0 h1
  obtain ⟨u, e0, _, _⟩ := DataW.trod_int Tryd.underlying3 h0
  obtain ⟨xs, m, _, _, _, hxl, hx⟩ := DataW.trod_array Tryd.underlying26 h1
  have g0 := hx 0 (by omega)
  have g1 := hx 1 (by omega)
  have g2 := hx 2 (by omega)
  simp only [cellsInt] at g0 g1 g2
  rw [List.getElem?_eq_getElem (show 0 < xs.length by omega)] at g0
  rw [List.getElem?_eq_getElem (show 1 < xs.length by omega)] at g1
  rw [List.getElem?_eq_getElem (show 2 < xs.length by omega)] at g2
  obtain ⟨a, ea, _, _⟩ := DataW.trod_int Tryd.underlying3 g0
  obtain ⟨b, eb, _, _⟩ := DataW.trod_int Tryd.underlying3 g1
  obtain ⟨c, ec, _, _⟩ := DataW.trod_int Tryd.underlying3 g2
  simp at e0 ea eb ec
  subst e0 ea eb ec
  exact ⟨u, a, b, c, rfl⟩

set_option maxRecDepth 100000 in
theorem string_arg {H : Type} {enc : TypeId × Value → H} {W : World} {v : Value} {d : DataW H} {p : List MemPlace} {r : Reach} {b0 : Nat} (hv : Value.okWide Tryd.prog W r b0 9 v) (h : DataW.Trod enc Tryd.prog W 0 (fun _ => true) true 9 v d p) :
    ∃ s : ByteArray, v = .string s ∧ s.size ≤ 9223372036854775807 := by
  obtain ⟨s, rfl, _, _, hs⟩ := open_string Tryd.underlying9 hv h
  exact ⟨s, rfl, hs⟩
set_option maxRecDepth 100000 in
theorem int_arg {H : Type} {enc : TypeId × Value → H} {W : World} {v : Value} {d : DataW H} {p : List MemPlace} {r : Reach} {b0 : Nat} (hv : Value.okWide Tryd.prog W r b0 3 v) (h : DataW.Trod enc Tryd.prog W 0 (fun _ => true) true 3 v d p) :
    ∃ n : Int, v = .int .i64 n := by
  obtain ⟨n, rfl, _⟩ := open_int Tryd.underlying3 hv h
  exact ⟨n, rfl⟩
set_option maxRecDepth 100000 in
/-- a slice of numbers is no longer than its capacity. -/
theorem cap_arg {H : Type} {enc : TypeId × Value → H} {W : World} {v : Value} {d : DataW H} {p : List MemPlace} {r : Reach} {b0 : Nat} (hv : Value.okWide Tryd.prog W r b0 23 v) (h : DataW.Trod enc Tryd.prog W 0 (fun _ => true) true 23 v d p) :
    ∃ ao len cap, v = .slice ao len cap ∧ len ≤ cap := by
  obtain ⟨a0, len, cap, rfl⟩ := okWide_slice Tryd.underlying23 hv
  obtain ⟨fuel, hf⟩ := h
  rcases open_ints Tryd.underlying23 Tryd.underlying3 cellsInt hf with ⟨hcs, hx⟩ | ⟨a, len', cap', zs, hcs, _, hl, _⟩
  · simp [Value.cells] at hcs
    obtain ⟨rfl, rfl, rfl⟩ := hcs
    exact ⟨_, _, _, rfl, Nat.le_refl _⟩
  · simp [Value.cells] at hcs
    obtain ⟨rfl, rfl, rfl⟩ := hcs
    exact ⟨_, _, _, rfl, hl⟩
end Go.Proofs.YtjaedfjfcghgcabDoor

namespace Go.Proofs.YtjaedfjfcghgcabDoor
open Go.ChangeShapes Go.WideShapes Go.ChangeAt Go.RowKit Go.WideMaps Go.WideElems
set_option maxRecDepth 100000

theorem cellsAtom : Tryd.prog.cellsOf 45 = 4 := by kernel_rfl
theorem cellsInts : Tryd.prog.cellsOf 23 = 1 := by kernel_rfl

theorem reads_trod {H : Type} {enc : TypeId × Value → H} {W : World} {fuel : Nat} {cs : List Value} {x : DataW H × List MemPlace} (h : DataW.trod enc Tryd.prog W 0 (fun _ => true) true fuel 23 cs = some x) :
    ∃ v t, cs = [v] ∧ Reads W v t := by
  rcases open_ints Tryd.underlying23 Tryd.underlying3 cellsInt h with ⟨hcs, hx⟩ | ⟨a, len, cap, zs, hcs, _, hl, hm, hz, hx, hcell, hwz⟩
  · exact ⟨_, [], hcs, Or.inl ⟨none, 0, rfl, rfl⟩⟩
  · refine ⟨_, zs.take len, hcs, ?_⟩
    rw [if_pos rfl] at hz
    rcases Nat.eq_zero_or_pos len with h0 | h0
    · subst h0; exact Or.inl ⟨_, _, rfl, rfl⟩
    · obtain ⟨b, off, rfl, hc⟩ := ints_at hcell (by omega)
      have hlen : (zs.take len).length = len := by rw [List.length_take]; omega
      unfold maxLen at hm
      refine Or.inr ⟨b, off, cap, by rw [hlen], ?_, by omega, ⟨by omega, by omega⟩, fun k hk => ?_⟩
      · exact World.block_lt_of_cell? W ⟨b, off, none⟩ (hc 0 (by omega))
      · rw [hc k (by omega)]
        rw [hlen] at hk
        simp [hk]
theorem atom_trod {H : Type} {enc : TypeId × Value → H} {W : World} {fuel : Nat} {cs : List Value} {x : DataW H × List MemPlace} (h : DataW.trod enc Tryd.prog W 0 (fun _ => true) true fuel 45 cs = some x) :
    ∃ k vs vt n s t, cs = [.int .i64 k, vs, vt, .int .i64 n] ∧ Reads W vs s ∧ Reads W vt t := by
  obtain ⟨y0, y1, y2, y3, n, _, hl, h0, h1, h2, h3⟩ := Go.Joins.trod_struct4 Tryd.underlying45 h
  rw [cellsAtom] at hl
  obtain ⟨c0, c1, c2, c3, rfl⟩ : ∃ c0 c1 c2 c3, cs = [c0, c1, c2, c3] := by
    match cs, hl with
    | [a, b, c, d], _ => exact ⟨a, b, c, d, rfl⟩
  simp only [cellsInt, cellsInts] at h0 h1 h2 h3
  obtain ⟨k, e0, _, _⟩ := DataW.trod_int Tryd.underlying3 h0
  obtain ⟨vs, s, e1, r1⟩ := reads_trod h1
  obtain ⟨vt, t, e2, r2⟩ := reads_trod h2
  obtain ⟨m, e3, _, _⟩ := DataW.trod_int Tryd.underlying3 h3
  simp at e0 e1 e2 e3
  subst e0 e1 e2 e3
  exact ⟨k, _, _, m, s, t, rfl, r1, r2⟩
theorem atom_arg {H : Type} {enc : TypeId × Value → H} {W : World} {v : Value} {d : DataW H} {p : List MemPlace} {r : Reach} {b0 : Nat} (hv : Value.okWide Tryd.prog W r b0 45 v) (h : DataW.Trod enc Tryd.prog W 0 (fun _ => true) true 45 v d p) :
    ∃ k n vs vt s t, v = .agg #[.int .i64 k, vs, vt, .int .i64 n] ∧ Reads W vs s ∧ Reads W vt t := by
  obtain ⟨cs, rfl, hsz⟩ := okWide_struct Tryd.underlying45 hv
  obtain ⟨c0, c1, c2, c3, rfl⟩ := Go.Joins.array4 (hsz.trans cellsAtom)
  obtain ⟨fuel, hf⟩ := h
  obtain ⟨k, vs, vt, n, s, t, e, r1, r2⟩ := atom_trod hf
  simp [Value.cells] at e
  obtain ⟨rfl, rfl, rfl, rfl⟩ := e
  exact ⟨k, n, _, _, s, t, rfl, r1, r2⟩
end Go.Proofs.YtjaedfjfcghgcabDoor

namespace Go.Proofs.YtjaedfjfcghgcabDoor
open Go.ChangeShapes Go.WideShapes Go.ChangeAt Go.RowKit Go.WideMaps Go.WideElems
set_option maxRecDepth 100000

theorem cellsForm : Tryd.prog.cellsOf 25 = 2 := by kernel_rfl
theorem cellsAtoms : Tryd.prog.cellsOf 22 = 1 := by kernel_rfl

theorem atoms_of {w : World} (b off : Nat) (n : Nat) (h : ∀ i, i < n → ∃ a : At, AtomAt w b (off + i * 4) a) : ∃ ats : List At, ats.length = n ∧ ∀ i a, ats[i]? = some a → AtomAt w b (off + i * 4) a := by
  induction n with
  | zero => exact ⟨[], rfl, fun i a h => by simp at h⟩
  | succ n ih =>
    obtain ⟨ats, hl, ha⟩ := ih (fun i hi => h i (by omega))
    obtain ⟨a, haa⟩ := h n (by omega)
    refine ⟨ats ++ [a], by simp [hl], fun i x hx => ?_⟩
    rcases Nat.lt_or_ge i n with hi | hi
    · rw [List.getElem?_append_left (by omega)] at hx; exact ha i x hx
    · rw [List.getElem?_append_right (by omega), hl] at hx
      obtain rfl : i = n := by
        have := (List.getElem?_eq_some_iff.1 hx).1
        simp at this; omega
      simp at hx
      subst hx
      exact haa
theorem atoms_trod {H : Type} {enc : TypeId × Value → H} {W : World} {fuel : Nat} {cs : List Value} {x : DataW H × List MemPlace} (h : DataW.trod enc Tryd.prog W 0 (fun _ => true) true fuel 22 cs = some x) :
    ∃ v ats, cs = [v] ∧ ReadsA W v ats := by
  rcases Go.Deep.open_slice Tryd.underlying22 h with ⟨hcs, _⟩ | ⟨a, len, cap, m, n, D, Pl, hcs, _, hl, hm, hmm, _, hx⟩
  · exact ⟨_, [], hcs, Or.inl ⟨none, 0, rfl, rfl⟩⟩
  · rw [if_pos rfl] at hmm
    rcases Nat.eq_zero_or_pos len with h0 | h0
    · subst h0; exact ⟨_, [], hcs, Or.inl ⟨_, _, rfl, rfl⟩⟩
    · obtain ⟨b, off, spot⟩ := a
      have cell : ∀ i, i < m → ∀ j, j < 4 → ∃ cs', DataW.trod enc Tryd.prog W 0 (fun _ => true) true n 45 cs' = some (D i, Pl i) ∧ ∀ j, j < 4 → W.cell? ((Addr.add ⟨b, off, spot⟩ (i * 4)).add j) = cs'[j]? := by
        intro i hi j hj
        obtain ⟨cs', h1, h2⟩ := hx i hi
        rw [cellsAtom] at h1
        exact ⟨cs', h2, (World.cells?_some h1).2.2⟩
      have hspot : spot = none := by
        obtain ⟨cs', h2, hc⟩ := cell 0 (by omega) 0 (by omega)
        obtain ⟨k, vs, vt, n', s, t, rfl, _, _⟩ := atom_trod h2
        have := hc 0 (by omega)
        simpa [Addr.add] using World.cell?_spot this
      subst hspot
      obtain ⟨ats, hlen, has⟩ := atoms_of (w := W) b off len (fun i hi => by
        obtain ⟨cs', h2, hc⟩ := cell i (by omega) 0 (by omega)
        obtain ⟨k, vs, vt, n', s, t, rfl, r1, r2⟩ := atom_trod h2
        refine ⟨⟨k, s, t, n'⟩, vs, vt, ?_, ?_, ?_, ?_, r1, r2⟩
        · have := hc 0 (by omega)
          rw [Go.WideShapes.add_plain, Go.WideShapes.add_plain] at this
          simpa using this
        · have := hc 1 (by omega)
          rw [Go.WideShapes.add_plain, Go.WideShapes.add_plain] at this
          simpa using this
        · have := hc 2 (by omega)
          rw [Go.WideShapes.add_plain, Go.WideShapes.add_plain] at this
          simpa using this
        · have := hc 3 (by omega)
          rw [Go.WideShapes.add_plain, Go.WideShapes.add_plain] at this
          simpa using this)
      unfold maxLen at hm
      refine ⟨_, ats, hcs, Or.inr ⟨b, off, cap, by rw [hlen], ?_, by omega, ⟨by omega, by omega⟩, has⟩⟩
      obtain ⟨vs, vt, h1, _⟩ := has 0 (ats[0]'(by omega)) (List.getElem?_eq_getElem _)
      exact World.block_lt_of_cell? W ⟨b, off + 0 * 4, none⟩ h1
theorem form_arg {H : Type} {enc : TypeId × Value → H} {W : World} {v : Value} {d : DataW H} {p : List MemPlace} {r : Reach} {b0 : Nat} (hv : Value.okWide Tryd.prog W r b0 25 v) (h : DataW.Trod enc Tryd.prog W 0 (fun _ => true) true 25 v d p) :
    ∃ va vc ats c, v = .agg #[va, vc] ∧ ReadsA W va ats ∧ Reads W vc c := by
  obtain ⟨cs, rfl, hsz⟩ := okWide_struct Tryd.underlying25 hv
  obtain ⟨c0, c1, rfl⟩ : ∃ c0 c1, cs = #[c0, c1] := by
    obtain ⟨l⟩ := cs
    match l, hsz.trans cellsForm with
    | [c0, c1], _ => exact ⟨c0, c1, rfl⟩
  obtain ⟨fuel, hf⟩ := h
  obtain ⟨y0, y1, n, _, _, h0, h1⟩ := trod_struct2 Tryd.underlying25 hf
  simp only [Value.cells, cellsAtoms, cellsInts] at h0 h1
  obtain ⟨va, ats, e0, r0⟩ := atoms_trod h0
  obtain ⟨vc, c, e1, r1⟩ := reads_trod h1
  simp at e0 e1
  subst e0 e1
  exact ⟨_, _, ats, c, rfl, r0, r1⟩
end Go.Proofs.YtjaedfjfcghgcabDoor
