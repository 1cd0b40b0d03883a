/-
  Proved: where the variable rows.kinds reads as the row lists it, its cells are those of the table of times; the rows' conditions on the listed variables give the walks what they ask, and the heap that the program's own initialisers leave meets them. (What the tied statements' frames lean on.)
-/
import Derived.Test.YtenmheenieifpadDoorAtomLaid
import Derived.Test.YtenmheenieifpadDoorRowsOf
import Derived.Test.YtenmheenieifpadDoorHandle
import Derived.LaidMore
import Derived.LaidHandle
import Derived.Stop.Joined
namespace Go.Proofs.YtenmheenieifpadDoor
open Go.ChangeShapes Go.WideShapes Go.ChangeAt Go.RowKit Go.Deep
set_option maxRecDepth 100000

theorem ownR : ownKnob Tryd.prog.godebug = none := by kernel_rfl
theorem tmG : Tryd.prog.globalNamed "vennhouse/rows.kinds" = some 0 := by kernel_rfl
theorem tmT : (Tryd.prog.globals[0]?).map (·.type) = some 64 := by kernel_rfl
theorem tmC1 : Tryd.prog.cellsOf 3 = 1 := by kernel_rfl
theorem tmC2 : Tryd.prog.cellsOf 62 = 2 := by kernel_rfl
theorem tmC4 : Tryd.prog.cellsOf 63 = 4 := by kernel_rfl
theorem tmA : Tryd.prog.cellsOf 64 = 24 := by kernel_rfl

theorem pair_of_trod {w : World} {cs : List Value} {fuel : Nat} {a b : Int} {y : DataW Unit × List MemPlace} (hy : y.1 = .agg [.lit (.int .i64 a), .lit (.int .i64 b)])
    (h : DataW.trod (fun _ => ()) Tryd.prog w 0 (fun _ => true) false fuel 62 cs = some y) : cs = [.int .i64 a, .int .i64 b] := by
  obtain ⟨xs, m, _, hx, hlen, hxl, hi⟩ := DataW.trod_array Tryd.underlying62 h
  rw [tmC2] at hlen
  simp only [tmC1] at hi
  have hx1 : y.1 = .agg (xs.map (·.1)) := congrArg Prod.fst hx
  obtain ⟨a0, a1, rfl⟩ : ∃ a0 a1, xs = [a0, a1] := by
    match xs, hxl with
    | [a, b], _ => exact ⟨a, b, rfl⟩
  obtain ⟨c0, c1, rfl⟩ : ∃ c0 c1, cs = [c0, c1] := by
    match cs, hlen with
    | [a, b], _ => exact ⟨a, b, rfl⟩
  obtain ⟨n0, e0, f0, _⟩ := DataW.trod_int Tryd.underlying3 (hi 0 (by decide))
  obtain ⟨n1, e1, f1, _⟩ := DataW.trod_int Tryd.underlying3 (hi 1 (by decide))
  simp at e0 e1
  subst e0 e1 f0 f1
  rw [hx1] at hy
  simp at hy
  obtain ⟨rfl, rfl⟩ := hy
  rfl
theorem quad_of_trod {w : World} {cs : List Value} {fuel : Nat} {a b c d : Int} {y : DataW Unit × List MemPlace} (hy : y.1 = .agg [.agg [.lit (.int .i64 a), .lit (.int .i64 b)], .agg [.lit (.int .i64 c), .lit (.int .i64 d)]])
    (h : DataW.trod (fun _ => ()) Tryd.prog w 0 (fun _ => true) false fuel 63 cs = some y) : cs = [.int .i64 a, .int .i64 b, .int .i64 c, .int .i64 d] := by
  obtain ⟨xs, m, _, hx, hlen, hxl, hi⟩ := DataW.trod_array Tryd.underlying63 h
  rw [tmC4] at hlen
  simp only [tmC2] at hi
  have hx1 : y.1 = .agg (xs.map (·.1)) := congrArg Prod.fst hx
  obtain ⟨a0, a1, rfl⟩ : ∃ a0 a1, xs = [a0, a1] := by
    match xs, hxl with
    | [a, b], _ => exact ⟨a, b, rfl⟩
  rw [hx1] at hy
  simp only [List.map, DataW.agg.injEq, List.cons.injEq, and_true] at hy
  have k0 := pair_of_trod hy.1 (hi 0 (by decide))
  have k1 := pair_of_trod hy.2 (hi 1 (by decide))
  have e : cs = (cs.drop (0 * 2)).take 2 ++ (cs.drop (1 * 2)).take 2 := by
    match cs, hlen with
    | [_, _, _, _], _ => rfl
  rw [e, k0, k1]
  rfl
theorem times_of_head {r : List (String × DataW Unit)} {W : World} (h : laidMet Tryd.prog (("vennhouse/rows.kinds", Rows.laid_vennhouse_rows_kinds) :: r) W) : TimesLaid W := by
  obtain ⟨ps, ⟨g0, t0, cs0, f0, p0, q0, hg0, ht0, hv0, hd0, _, e0⟩, _, hrows⟩ := h
  obtain rfl := Option.some.inj (tmG.symm.trans hg0)
  obtain rfl := Option.some.inj (tmT.symm.trans ht0)
  obtain ⟨xs, m, _, hx, hlen, hxl, hi⟩ := DataW.trod_array Tryd.underlying64 hd0
  simp only [tmC4] at hi
  rw [tmA] at hlen
  have hx1 : Rows.laid_vennhouse_rows_kinds = .agg (xs.map (·.1)) := congrArg Prod.fst hx
  obtain ⟨a0, a1, a2, a3, a4, a5, rfl⟩ : ∃ a0 a1 a2 a3 a4 a5, xs = [a0, a1, a2, a3, a4, a5] := by
    match xs, hxl with
    | [a, b, c, d, e, f], _ => exact ⟨a, b, c, d, e, f, rfl⟩
  unfold Rows.laid_vennhouse_rows_kinds at hx1
  simp only [List.map, DataW.agg.injEq, List.cons.injEq, and_true] at hx1
  obtain ⟨g0, g1, g2, g3, g4, g5⟩ := hx1
  have k0 := quad_of_trod g0.symm (hi 0 (by decide))
  have k1 := quad_of_trod g1.symm (hi 1 (by decide))
  have k2 := quad_of_trod g2.symm (hi 2 (by decide))
  have k3 := quad_of_trod g3.symm (hi 3 (by decide))
  have k4 := quad_of_trod g4.symm (hi 4 (by decide))
  have k5 := quad_of_trod g5.symm (hi 5 (by decide))
  have hl : cs0.toList = timeCells.map (fun n => Value.int .i64 n) := by
    have e : cs0.toList = (cs0.toList.drop (0 * 4)).take 4 ++ ((cs0.toList.drop (1 * 4)).take 4 ++ ((cs0.toList.drop (2 * 4)).take 4 ++ ((cs0.toList.drop (3 * 4)).take 4 ++ ((cs0.toList.drop (4 * 4)).take 4 ++ ((cs0.toList.drop (5 * 4)).take 4))))) := by
      match cs0.toList, hlen with
      | [_, _, _, _, _, _, _, _, _, _, _, _, _, _, _, _, _, _, _, _, _, _, _, _], _ => rfl
    rw [e, k0, k1, k2, k3, k4, k5]
    rfl
  intro j hj
  have hc := World.var?_cell tmG hv0 j
  rw [hc]
  have : cs0[j]? = cs0.toList[j]? := by simp
  rw [this, hl]
  have hj' : j < timeCells.length := hj
  simp [List.getElem?_eq_getElem hj']

/-- of two tables. -/
def laidR : List (String × DataW Unit) := [("vennhouse/atom.kinds", Rows.laid_vennhouse_atom_kinds), ("vennhouse/rows.kinds", Rows.laid_vennhouse_rows_kinds)]
theorem rows_of_met {W : World} (h : laidMetH Tryd.prog laidR W) : KindsLaid W ∧ TimesLaid W := by
  have h' : laidMet Tryd.prog laidR W := h
  exact ⟨kinds_of_head h', times_of_head h'.tail⟩
theorem doorR_met (os : Os) (args : Array Value) : laidMetH Tryd.prog laidR ((World.doorLaid Tryd.prog 400 os).forCall (fun _ _ => 0) ⟨#[], args, []⟩).memory := by
  show laidMet Tryd.prog laidR _
  exact laidMet_of_run' 8 (by kernel_rfl) (by kernel_rfl)
/-- of the error's handle and two tables. -/
def laidQ : List (String × DataW Unit) := [("errors.errorType", Rows.laid_errors_errorType), ("vennhouse/atom.kinds", Rows.laid_vennhouse_atom_kinds), ("vennhouse/rows.kinds", Rows.laid_vennhouse_rows_kinds)]
theorem tellR_of_met {W : World} (h : laidMetH Tryd.prog laidQ W) : Laid W ∧ KindsLaid W ∧ TimesLaid W := by
  have h' : laidMet Tryd.prog laidR W ∧ handlesMet Tryd.prog laidE W := h
  have h1 : laidMetH Tryd.prog laidE W := (show laidMet Tryd.prog [] W ∧ handlesMet Tryd.prog laidE W from ⟨laidMet_nil _ _, h'.2⟩)
  have h2 : laidMetH Tryd.prog laidR W := (show laidMet Tryd.prog laidR W from h'.1)
  exact ⟨laid_of_met h1, rows_of_met h2⟩
theorem doorQ_met (os : Os) (args : Array Value) : laidMetH Tryd.prog laidQ ((World.doorLaid Tryd.prog 400 os).forCall (fun _ _ => 0) ⟨#[], args, []⟩).memory :=
  laidMetH_of_parts3 (fuel := 8) (laidMet_of_run' 8 (by kernel_rfl) (by kernel_rfl)) (by kernel_rfl) (by kernel_rfl)
end Go.Proofs.YtenmheenieifpadDoor
