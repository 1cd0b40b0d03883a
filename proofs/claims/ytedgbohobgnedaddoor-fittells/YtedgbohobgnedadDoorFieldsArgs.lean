/-
  Proved: what an argument of eight numbers is. (What the statements' frames lean on.)
-/
import Derived.Test.YtedgbohobgnedadDoorArgs
namespace Go.Proofs.YtedgbohobgnedadDoor
open Go.ChangeShapes Go.WideShapes Go.ChangeAt Go.RowKit Go.WideMaps Go.WideElems

theorem cells8 : Tryd.prog.cellsOf 26 = 8 := by kernel_rfl
set_option maxRecDepth 100000 in
theorem eight_arg {H : Type} {enc : TypeId × Value → H} {W : World} {v : Value} {d : DataW H} {p : List MemPlace} {r : Reach} {b0 : Nat} (hv : Value.okWide Tryd.prog W r b0 26 v) (h : DataW.Trod enc Tryd.prog W 0 (fun _ => true) true 26 v d p) :
    ∃ N : Nat → Int, v = .agg #[.int .i64 (N 0), .int .i64 (N 1), .int .i64 (N 2), .int .i64 (N 3), .int .i64 (N 4), .int .i64 (N 5), .int .i64 (N 6), .int .i64 (N 7)] := by
  simp only [Value.okWide, Tryd.underlying26] at hv
  obtain ⟨cs, rfl, hsz, _⟩ := hv
  rw [cells8] at hsz
  obtain ⟨fuel, hf⟩ := h
  obtain ⟨xs, m, _, _, _, hxl, hx⟩ := DataW.trod_array Tryd.underlying26 hf
  have g : ∀ j, j < 8 → ∃ n : Int, cs[j]? = some (.int .i64 n) := fun j hj => by
    have gj := hx j hj
    simp only [cellsInt] at gj
    rw [List.getElem?_eq_getElem (show j < xs.length by omega)] at gj
    obtain ⟨n, e, _, _⟩ := DataW.trod_int Tryd.underlying3 gj
    refine ⟨n, ?_⟩
    have hj' : j < cs.size := by omega
    simp [Value.cells] at e
    rw [Array.getElem?_eq_getElem hj']
    have := congrArg List.head? e
    simp [List.head?_take, List.head?_drop, hj'] at this
    simpa using this
  refine ⟨fun j => match cs[j]? with | some (.int _ n) => n | _ => 0, ?_⟩
  congr 1
  apply Array.ext_getElem?
  intro j
  rcases Nat.lt_or_ge j 8 with hj | hj
  · obtain ⟨n, hn⟩ := g j hj
    have hj8 : j = 0 ∨ j = 1 ∨ j = 2 ∨ j = 3 ∨ j = 4 ∨ j = 5 ∨ j = 6 ∨ j = 7 := by omega
    rcases hj8 with rfl | rfl | rfl | rfl | rfl | rfl | rfl | rfl <;> (rw [hn]; simp [hn])
  · rw [Array.getElem?_eq_none (by omega), Array.getElem?_eq_none (by simpa using hj)]
end Go.Proofs.YtedgbohobgnedadDoor
