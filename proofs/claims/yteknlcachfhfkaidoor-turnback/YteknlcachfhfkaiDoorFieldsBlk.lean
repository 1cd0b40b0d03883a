/-
  Plain facts on a block of memory, whole: what lies in it, behind a call, behind a store; eight numbers and a world as blocks. (What the contracts of package fields lean on.)
-/
import Derived.Test.YteknlcachfhfkaiDoorFieldsMath
import Derived.Test.YteknlcachfhfkaiDoorTermCheck
import Derived.Handy
namespace Go.Proofs.YteknlcachfhfkaiDoor
open Go.ChangeShapes Go.WideShapes Go.ChangeAt Go.RowKit

/-- block G holds the cells cs, and all of them may be written. -/
def Blk (w : World) (G : Nat) (T : TypeId) (cs : Array Value) : Prop := w.heap[G]? = some (.cells cs T (0, 0))
theorem Blk.lt {w : World} {G : Nat} {T : TypeId} {cs : Array Value} (h : Blk w G T cs) : G < w.heap.size := (Array.getElem?_eq_some_iff.1 h).1
theorem Blk.below {w w' : World} {G : Nat} {T : TypeId} {cs : Array Value} (h : Blk w G T cs) (hb : Below w.heap.size w w') : Blk w' G T cs := by
  unfold Blk; rw [hb.block G h.lt]; exact h
theorem Blk.cell {w : World} {G : Nat} {T : TypeId} {cs : Array Value} (h : Blk w G T cs) (j : Nat) : w.cell? ⟨G, j, none⟩ = cs[j]? := cell_of_row w G j cs T (0, 0) h
theorem Blk.frozen {w : World} {G : Nat} {T : TypeId} {cs : Array Value} (h : Blk w G T cs) (j : Nat) : w.frozen? ⟨G, j, none⟩ = false := frozen_of_row w G j cs T h
theorem Blk.set {w : World} {G : Nat} {T : TypeId} {cs : Array Value} (h : Blk w G T cs) (j : Nat) (u : Value) : Blk (w.setCell ⟨G, j, none⟩ u) G T (cs.setIfInBounds j u) := heap_setCell_same w G j cs T u h
theorem Blk.far {w : World} {G : Nat} {T : TypeId} {cs : Array Value} (h : Blk w G T cs) {R : Nat} (hR : G ≠ R) (j : Nat) (u : Value) : Blk (w.setCell ⟨R, j, none⟩ u) G T cs := by
  unfold Blk; rw [heap_setCell_other w ⟨R, j, none⟩ G u hR]; exact h
theorem Blk.drew {w : World} {G : Nat} {T : TypeId} {cs : Array Value} (h : Blk w G T cs) : Blk w.drew G T cs := h
theorem Blk.new (w : World) (T : TypeId) (cs : Array Value) : Blk (w.alloc (.cells cs T)) w.heap.size T cs := heap_alloc_new w _
theorem Blk.old {w : World} {G : Nat} {T : TypeId} {cs : Array Value} (h : Blk w G T cs) (o : Obj) : Blk (w.alloc o) G T cs := by
  unfold Blk; rw [heap_alloc_old w o h.lt]; exact h

/-- eight numbers. -/
def arr8 (N : Nat → Int) : Array Value := #[.int .i64 (N 0), .int .i64 (N 1), .int .i64 (N 2), .int .i64 (N 3), .int .i64 (N 4), .int .i64 (N 5), .int .i64 (N 6), .int .i64 (N 7)]
theorem arr8_get (N : Nat → Int) {f : Nat} (hf : f < 8) : (arr8 N)[f]? = some (.int .i64 (N f)) := by
  rcases eight hf with rfl | rfl | rfl | rfl | rfl | rfl | rfl | rfl <;> rfl
theorem arr8_one (N : Nat → Int) {f : Nat} (hf : f < 8) : (arr8 N).setIfInBounds f (.int .i64 (N f + 1)) = arr8 (fun g => N g + if f = g then 1 else 0) := by
  rcases eight hf with rfl | rfl | rfl | rfl | rfl | rfl | rfl | rfl <;> simp [arr8]
theorem arr8_same {N M : Nat → Int} (h : ∀ f, f < 8 → N f = M f) : arr8 N = arr8 M := by
  unfold arr8
  rw [h 0 (by omega), h 1 (by omega), h 2 (by omega), h 3 (by omega), h 4 (by omega), h 5 (by omega), h 6 (by omega), h 7 (by omega)]
theorem arr8_all (N M : Nat → Int) : ((((((((arr8 N).setIfInBounds 0 (.int .i64 (M 0))).setIfInBounds 1 (.int .i64 (M 1))).setIfInBounds 2 (.int .i64 (M 2))).setIfInBounds 3 (.int .i64 (M 3))).setIfInBounds 4 (.int .i64 (M 4))).setIfInBounds 5 (.int .i64 (M 5))).setIfInBounds 6 (.int .i64 (M 6))).setIfInBounds 7 (.int .i64 (M 7)) = arr8 M := by
  simp [arr8]
/-- a world's four numbers. -/
def arrW (w : Wd) : Array Value := #[.int .i64 w.u, .int .i64 w.a, .int .i64 w.b, .int .i64 w.c]

theorem load8 {W : World} {R : Nat} {N : Nat → Int} (h : Blk W R 35 (arr8 N)) : (loadVar 35 ⟨R, 0, none⟩).run Tryd.prog W = .ok (.agg (arr8 N)) W := by
  have hl := run_loadCells_list (P := Tryd.prog) W ⟨R, 0, none⟩ (arr8 N).toList (fun j v hj => by
    have := h.cell j
    rw [← Array.getElem?_toList] at this
    rw [hj] at this
    have ha : (⟨R, 0, none⟩ : Addr).add j = ⟨R, j, none⟩ := by unfold Addr.add; split <;> simp_all
    rw [ha]; exact this)
  simp [loadVar, Tryd.isAgg35, Tryd.sizeOf35, Result.andThen, arr8] at hl ⊢
  simp [hl]
theorem Blk.cells8 {w : World} {G : Nat} {T : TypeId} {N : Nat → Int} (h : Blk w G T (arr8 N)) : w.cell? ⟨G, 0, none⟩ = some (.int .i64 (N 0)) ∧ w.cell? ⟨G, 1, none⟩ = some (.int .i64 (N 1)) ∧ w.cell? ⟨G, 2, none⟩ = some (.int .i64 (N 2)) ∧ w.cell? ⟨G, 3, none⟩ = some (.int .i64 (N 3)) ∧ w.cell? ⟨G, 4, none⟩ = some (.int .i64 (N 4)) ∧ w.cell? ⟨G, 5, none⟩ = some (.int .i64 (N 5)) ∧ w.cell? ⟨G, 6, none⟩ = some (.int .i64 (N 6)) ∧ w.cell? ⟨G, 7, none⟩ = some (.int .i64 (N 7)) :=
  ⟨h.cell 0, h.cell 1, h.cell 2, h.cell 3, h.cell 4, h.cell 5, h.cell 6, h.cell 7⟩
theorem Blk.frozen8 {w : World} {G : Nat} {T : TypeId} {cs : Array Value} (h : Blk w G T cs) : w.frozen? ⟨G, 0, none⟩ = false ∧ w.frozen? ⟨G, 1, none⟩ = false ∧ w.frozen? ⟨G, 2, none⟩ = false ∧ w.frozen? ⟨G, 3, none⟩ = false ∧ w.frozen? ⟨G, 4, none⟩ = false ∧ w.frozen? ⟨G, 5, none⟩ = false ∧ w.frozen? ⟨G, 6, none⟩ = false ∧ w.frozen? ⟨G, 7, none⟩ = false :=
  ⟨h.frozen 0, h.frozen 1, h.frozen 2, h.frozen 3, h.frozen 4, h.frozen 5, h.frozen 6, h.frozen 7⟩
theorem Blk.cells4 {w : World} {G : Nat} {T : TypeId} {W : Wd} (h : Blk w G T (arrW W)) : w.cell? ⟨G, 0, none⟩ = some (.int .i64 W.u) ∧ w.cell? ⟨G, 1, none⟩ = some (.int .i64 W.a) ∧ w.cell? ⟨G, 2, none⟩ = some (.int .i64 W.b) ∧ w.cell? ⟨G, 3, none⟩ = some (.int .i64 W.c) :=
  ⟨h.cell 0, h.cell 1, h.cell 2, h.cell 3⟩
theorem Blk.frozen4 {w : World} {G : Nat} {T : TypeId} {cs : Array Value} (h : Blk w G T cs) : w.frozen? ⟨G, 0, none⟩ = false ∧ w.frozen? ⟨G, 1, none⟩ = false ∧ w.frozen? ⟨G, 2, none⟩ = false ∧ w.frozen? ⟨G, 3, none⟩ = false :=
  ⟨h.frozen 0, h.frozen 1, h.frozen 2, h.frozen 3⟩
/-- eight numbers, and a world, written into a block. -/
def put8 (w : World) (R : Nat) (M : Nat → Int) : World := (((((((w.setCell ⟨R, 0, none⟩ (.int .i64 (M 0))).setCell ⟨R, 1, none⟩ (.int .i64 (M 1))).setCell ⟨R, 2, none⟩ (.int .i64 (M 2))).setCell ⟨R, 3, none⟩ (.int .i64 (M 3))).setCell ⟨R, 4, none⟩ (.int .i64 (M 4))).setCell ⟨R, 5, none⟩ (.int .i64 (M 5))).setCell ⟨R, 6, none⟩ (.int .i64 (M 6))).setCell ⟨R, 7, none⟩ (.int .i64 (M 7))
def putW (w : World) (R : Nat) (M : Wd) : World := (((w.setCell ⟨R, 0, none⟩ (.int .i64 M.u)).setCell ⟨R, 1, none⟩ (.int .i64 M.a)).setCell ⟨R, 2, none⟩ (.int .i64 M.b)).setCell ⟨R, 3, none⟩ (.int .i64 M.c)
theorem put8_blk {w : World} {R : Nat} {T : TypeId} {N : Nat → Int} (h : Blk w R T (arr8 N)) (M : Nat → Int) : Blk (put8 w R M) R T (arr8 M) := by
  have := (((((((h.set 0 (.int .i64 (M 0))).set 1 (.int .i64 (M 1))).set 2 (.int .i64 (M 2))).set 3 (.int .i64 (M 3))).set 4 (.int .i64 (M 4))).set 5 (.int .i64 (M 5))).set 6 (.int .i64 (M 6))).set 7 (.int .i64 (M 7))
  rw [arr8_all] at this
  exact this
theorem put8_far {w : World} {R : Nat} {G : Nat} {T : TypeId} {cs : Array Value} (h : Blk w G T cs) (hR : G ≠ R) (M : Nat → Int) : Blk (put8 w R M) G T cs :=
  (((((((h.far hR 0 _).far hR 1 _).far hR 2 _).far hR 3 _).far hR 4 _).far hR 5 _).far hR 6 _).far hR 7 _
theorem put8_below {B : Nat} {w w' : World} {R : Nat} (h : Below B w w') (hR : B ≤ R) (M : Nat → Int) : Below B w (put8 w' R M) :=
  (((((((h.setCell hR _).setCell hR _).setCell hR _).setCell hR _).setCell hR _).setCell hR _).setCell hR _).setCell hR _
theorem putW_blk {w : World} {R : Nat} {T : TypeId} {N : Wd} (h : Blk w R T (arrW N)) (M : Wd) : Blk (putW w R M) R T (arrW M) := by
  have := (((h.set 0 (.int .i64 M.u)).set 1 (.int .i64 M.a)).set 2 (.int .i64 M.b)).set 3 (.int .i64 M.c)
  have e : ((((arrW N).setIfInBounds 0 (.int .i64 M.u)).setIfInBounds 1 (.int .i64 M.a)).setIfInBounds 2 (.int .i64 M.b)).setIfInBounds 3 (.int .i64 M.c) = arrW M := by simp [arrW]
  rw [e] at this
  exact this
theorem putW_far {w : World} {R : Nat} {G : Nat} {T : TypeId} {cs : Array Value} (h : Blk w G T cs) (hR : G ≠ R) (M : Wd) : Blk (putW w R M) G T cs :=
  (((h.far hR 0 _).far hR 1 _).far hR 2 _).far hR 3 _
theorem putW_below {B : Nat} {w w' : World} {R : Nat} (h : Below B w w') (hR : B ≤ R) (M : Wd) : Below B w (putW w' R M) :=
  (((h.setCell hR _).setCell hR _).setCell hR _).setCell hR _
end Go.Proofs.YteknlcachfhfkaiDoor
