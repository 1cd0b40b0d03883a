/-
  Plain facts on a block of memory, whole: what lies in it, behind a call, behind a store; eight numbers and a world as blocks. (What the contracts of package fields lean on.)
  Plain facts on a row in memory: its nine cells, a store to one, all of them written, loaded. (What the contracts of package rows lean on.)
  Proved: what turned, wrong, sum and mask of package rows return; what was in memory is as it was (contracts that the statements lean on). Written by program.
-/
import Derived.Test.YtgkgbpbohgklhafGreatDoorLibPB12
import Derived.Test.YtgkgbpbohgklhafGreatDoorLibPB11
import Derived.Test.YtgkgbpbohgklhafGreatDoorLibPB1
import Derived.Handy
import Derived.Test.YtgkgbpbohgklhafGreatDoorLibPB8
namespace Go.Proofs.YtgkgbpbohgklhafGreatDoor
open Go.ChangeShapes Go.WideShapes Go.ChangeAt Go.RowKit

/-- block G holds the cells cs, and all of them may be written. -/
def Blk (w : World) (G : Nat) (T : TypeId) (cs : Array Value) : Prop := w.heap[G]? = some (.cells cs T (0, 0))
theorem Blk.lt {w : World} {G : Nat} {T : TypeId} {cs : Array Value} (h : Blk w G T cs) : G < w.heap.size := (Array.getElem?_eq_some_iff.1 h).1
theorem Blk.below {w w' : World} {G : Nat} {T : TypeId} {cs : Array Value} (h : Blk w G T cs) (hb : Below w.heap.size w w') : Blk w' G T cs := by
  unfold Blk; rw [hb.block G h.lt]; exact h
theorem Blk.cell {w : World} {G : Nat} {T : TypeId} {cs : Array Value} (h : Blk w G T cs) (j : Nat) : w.cell? ⟨G, j, none⟩ = cs[j]? := cell_of_row w G j cs T (0, 0) h
theorem Blk.frozen {w : World} {G : Nat} {T : TypeId} {cs : Array Value} (h : Blk w G T cs) (j : Nat) : w.frozen? ⟨G, j, none⟩ = false := frozen_of_row w G j cs T h
theorem Blk.set {w : World} {G : Nat} {T : TypeId} {cs : Array Value} (h : Blk w G T cs) (j : Nat) (u : Value) : Blk (w.setCell ⟨G, j, none⟩ u) G T (cs.setIfInBounds j u) := heap_setCell_same w G j cs T u h
theorem Blk.far {w : World} {G : Nat} {T : TypeId} {cs : Array Value} (h : Blk w G T cs) {R : Nat} (hR : G ≠ R) (j : Nat) (u : Value) : Blk (w.setCell ⟨R, j, none⟩ u) G T cs := by
  unfold Blk; rw [heap_setCell_other w ⟨R, j, none⟩ G u hR]; exact h
theorem Blk.drew {w : World} {G : Nat} {T : TypeId} {cs : Array Value} (h : Blk w G T cs) : Blk w.drew G T cs := h
theorem Blk.new (w : World) (T : TypeId) (cs : Array Value) : Blk (w.alloc (.cells cs T)) w.heap.size T cs := heap_alloc_new w _
theorem Blk.old {w : World} {G : Nat} {T : TypeId} {cs : Array Value} (h : Blk w G T cs) (o : Obj) : Blk (w.alloc o) G T cs := by
  unfold Blk; rw [heap_alloc_old w o h.lt]; exact h

/-- eight numbers. -/
def arr8 (N : Nat → Int) : Array Value := #[.int .i64 (N 0), .int .i64 (N 1), .int .i64 (N 2), .int .i64 (N 3), .int .i64 (N 4), .int .i64 (N 5), .int .i64 (N 6), .int .i64 (N 7)]
theorem arr8_get (N : Nat → Int) {f : Nat} (hf : f < 8) : (arr8 N)[f]? = some (.int .i64 (N f)) := by
  rcases eight hf with rfl | rfl | rfl | rfl | rfl | rfl | rfl | rfl <;> rfl
theorem arr8_one (N : Nat → Int) {f : Nat} (hf : f < 8) : (arr8 N).setIfInBounds f (.int .i64 (N f + 1)) = arr8 (fun g => N g + if f = g then 1 else 0) := by
  rcases eight hf with rfl | rfl | rfl | rfl | rfl | rfl | rfl | rfl <;> simp [arr8]
theorem arr8_same {N M : Nat → Int} (h : ∀ f, f < 8 → N f = M f) : arr8 N = arr8 M := by
  unfold arr8
  rw [h 0 (by omega), h 1 (by omega), h 2 (by omega), h 3 (by omega), h 4 (by omega), h 5 (by omega), h 6 (by omega), h 7 (by omega)]
theorem arr8_all (N M : Nat → Int) : ((((((((arr8 N).setIfInBounds 0 (.int .i64 (M 0))).setIfInBounds 1 (.int .i64 (M 1))).setIfInBounds 2 (.int .i64 (M 2))).setIfInBounds 3 (.int .i64 (M 3))).setIfInBounds 4 (.int .i64 (M 4))).setIfInBounds 5 (.int .i64 (M 5))).setIfInBounds 6 (.int .i64 (M 6))).setIfInBounds 7 (.int .i64 (M 7)) = arr8 M := by
  simp [arr8]
/-- a world's four numbers. -/
def arrW (w : Wd) : Array Value := #[.int .i64 w.u, .int .i64 w.a, .int .i64 w.b, .int .i64 w.c]

theorem load8 {W : World} {R : Nat} {N : Nat → Int} (h : Blk W R 64 (arr8 N)) : (loadVar 64 ⟨R, 0, none⟩).run Tryz.prog W = .ok (.agg (arr8 N)) W := by
  have hl := run_loadCells_list (P := Tryz.prog) W ⟨R, 0, none⟩ (arr8 N).toList (fun j v hj => by
    have := h.cell j
    rw [← Array.getElem?_toList] at this
    rw [hj] at this
    have ha : (⟨R, 0, none⟩ : Addr).add j = ⟨R, j, none⟩ := by unfold Addr.add; split <;> simp_all
    rw [ha]; exact this)
  simp [loadVar, Tryz.isAgg64, Tryz.sizeOf64, Result.andThen, arr8] at hl ⊢
  simp [hl]
theorem Blk.cells8 {w : World} {G : Nat} {T : TypeId} {N : Nat → Int} (h : Blk w G T (arr8 N)) : w.cell? ⟨G, 0, none⟩ = some (.int .i64 (N 0)) ∧ w.cell? ⟨G, 1, none⟩ = some (.int .i64 (N 1)) ∧ w.cell? ⟨G, 2, none⟩ = some (.int .i64 (N 2)) ∧ w.cell? ⟨G, 3, none⟩ = some (.int .i64 (N 3)) ∧ w.cell? ⟨G, 4, none⟩ = some (.int .i64 (N 4)) ∧ w.cell? ⟨G, 5, none⟩ = some (.int .i64 (N 5)) ∧ w.cell? ⟨G, 6, none⟩ = some (.int .i64 (N 6)) ∧ w.cell? ⟨G, 7, none⟩ = some (.int .i64 (N 7)) :=
  ⟨h.cell 0, h.cell 1, h.cell 2, h.cell 3, h.cell 4, h.cell 5, h.cell 6, h.cell 7⟩
theorem Blk.frozen8 {w : World} {G : Nat} {T : TypeId} {cs : Array Value} (h : Blk w G T cs) : w.frozen? ⟨G, 0, none⟩ = false ∧ w.frozen? ⟨G, 1, none⟩ = false ∧ w.frozen? ⟨G, 2, none⟩ = false ∧ w.frozen? ⟨G, 3, none⟩ = false ∧ w.frozen? ⟨G, 4, none⟩ = false ∧ w.frozen? ⟨G, 5, none⟩ = false ∧ w.frozen? ⟨G, 6, none⟩ = false ∧ w.frozen? ⟨G, 7, none⟩ = false :=
  ⟨h.frozen 0, h.frozen 1, h.frozen 2, h.frozen 3, h.frozen 4, h.frozen 5, h.frozen 6, h.frozen 7⟩
theorem Blk.cells4 {w : World} {G : Nat} {T : TypeId} {W : Wd} (h : Blk w G T (arrW W)) : w.cell? ⟨G, 0, none⟩ = some (.int .i64 W.u) ∧ w.cell? ⟨G, 1, none⟩ = some (.int .i64 W.a) ∧ w.cell? ⟨G, 2, none⟩ = some (.int .i64 W.b) ∧ w.cell? ⟨G, 3, none⟩ = some (.int .i64 W.c) :=
  ⟨h.cell 0, h.cell 1, h.cell 2, h.cell 3⟩
theorem Blk.frozen4 {w : World} {G : Nat} {T : TypeId} {cs : Array Value} (h : Blk w G T cs) : w.frozen? ⟨G, 0, none⟩ = false ∧ w.frozen? ⟨G, 1, none⟩ = false ∧ w.frozen? ⟨G, 2, none⟩ = false ∧ w.frozen? ⟨G, 3, none⟩ = false :=
  ⟨h.frozen 0, h.frozen 1, h.frozen 2, h.frozen 3⟩
/-- eight numbers, and a world, written into a block. -/
def put8 (w : World) (R : Nat) (M : Nat → Int) : World := (((((((w.setCell ⟨R, 0, none⟩ (.int .i64 (M 0))).setCell ⟨R, 1, none⟩ (.int .i64 (M 1))).setCell ⟨R, 2, none⟩ (.int .i64 (M 2))).setCell ⟨R, 3, none⟩ (.int .i64 (M 3))).setCell ⟨R, 4, none⟩ (.int .i64 (M 4))).setCell ⟨R, 5, none⟩ (.int .i64 (M 5))).setCell ⟨R, 6, none⟩ (.int .i64 (M 6))).setCell ⟨R, 7, none⟩ (.int .i64 (M 7))
def putW (w : World) (R : Nat) (M : Wd) : World := (((w.setCell ⟨R, 0, none⟩ (.int .i64 M.u)).setCell ⟨R, 1, none⟩ (.int .i64 M.a)).setCell ⟨R, 2, none⟩ (.int .i64 M.b)).setCell ⟨R, 3, none⟩ (.int .i64 M.c)
theorem put8_blk {w : World} {R : Nat} {T : TypeId} {N : Nat → Int} (h : Blk w R T (arr8 N)) (M : Nat → Int) : Blk (put8 w R M) R T (arr8 M) := by
  have := (((((((h.set 0 (.int .i64 (M 0))).set 1 (.int .i64 (M 1))).set 2 (.int .i64 (M 2))).set 3 (.int .i64 (M 3))).set 4 (.int .i64 (M 4))).set 5 (.int .i64 (M 5))).set 6 (.int .i64 (M 6))).set 7 (.int .i64 (M 7))
  rw [arr8_all] at this
  exact this
theorem put8_far {w : World} {R : Nat} {G : Nat} {T : TypeId} {cs : Array Value} (h : Blk w G T cs) (hR : G ≠ R) (M : Nat → Int) : Blk (put8 w R M) G T cs :=
  (((((((h.far hR 0 _).far hR 1 _).far hR 2 _).far hR 3 _).far hR 4 _).far hR 5 _).far hR 6 _).far hR 7 _
theorem put8_below {B : Nat} {w w' : World} {R : Nat} (h : Below B w w') (hR : B ≤ R) (M : Nat → Int) : Below B w (put8 w' R M) :=
  (((((((h.setCell hR _).setCell hR _).setCell hR _).setCell hR _).setCell hR _).setCell hR _).setCell hR _).setCell hR _
theorem putW_blk {w : World} {R : Nat} {T : TypeId} {N : Wd} (h : Blk w R T (arrW N)) (M : Wd) : Blk (putW w R M) R T (arrW M) := by
  have := (((h.set 0 (.int .i64 M.u)).set 1 (.int .i64 M.a)).set 2 (.int .i64 M.b)).set 3 (.int .i64 M.c)
  have e : ((((arrW N).setIfInBounds 0 (.int .i64 M.u)).setIfInBounds 1 (.int .i64 M.a)).setIfInBounds 2 (.int .i64 M.b)).setIfInBounds 3 (.int .i64 M.c) = arrW M := by simp [arrW]
  rw [e] at this
  exact this
theorem putW_far {w : World} {R : Nat} {G : Nat} {T : TypeId} {cs : Array Value} (h : Blk w G T cs) (hR : G ≠ R) (M : Wd) : Blk (putW w R M) G T cs :=
  (((h.far hR 0 _).far hR 1 _).far hR 2 _).far hR 3 _
theorem putW_below {B : Nat} {w w' : World} {R : Nat} (h : Below B w w') (hR : B ≤ R) (M : Wd) : Below B w (putW w' R M) :=
  (((h.setCell hR _).setCell hR _).setCell hR _).setCell hR _
theorem loadW {W : World} {R : Nat} {M : Wd} (h : Blk W R 37 (arrW M)) : (loadVar 37 ⟨R, 0, none⟩).run Tryz.prog W = .ok (.agg (arrW M)) W := by
  have hl := run_loadCells_list (P := Tryz.prog) W ⟨R, 0, none⟩ (arrW M).toList (fun j v hj => by
    have := h.cell j
    rw [← Array.getElem?_toList] at this
    rw [hj] at this
    have ha : (⟨R, 0, none⟩ : Addr).add j = ⟨R, j, none⟩ := by unfold Addr.add; split <;> simp_all
    rw [ha]; exact this)
  simp [loadVar, Tryz.isAgg37, Tryz.sizeOf37, Result.andThen, arrW] at hl ⊢
  simp [hl]
end Go.Proofs.YtgkgbpbohgklhafGreatDoor

namespace Go.Proofs.YtgkgbpbohgklhafGreatDoor
open Go.ChangeShapes Go.WideShapes Go.ChangeAt Go.RowKit

/-- the nine numbers of a row. -/
def arrR (T : Nat → Int) (m : Int) : Array Value := #[.int .i64 (T 0), .int .i64 (T 1), .int .i64 (T 2), .int .i64 (T 3), .int .i64 (T 4), .int .i64 (T 5), .int .i64 (T 6), .int .i64 (T 7), .int .i64 m]
theorem arrR_get (T : Nat → Int) (m : Int) {f : Nat} (hf : f < 8) : (arrR T m)[f]? = some (.int .i64 (T f)) := by
  rcases eight hf with rfl | rfl | rfl | rfl | rfl | rfl | rfl | rfl <;> rfl
theorem arrR_set (T : Nat → Int) (m x : Int) {f : Nat} (hf : f < 8) : (arrR T m).setIfInBounds f (.int .i64 x) = arrR (fun g => if g = f then x else T g) m := by
  rcases eight hf with rfl | rfl | rfl | rfl | rfl | rfl | rfl | rfl <;> simp [arrR]
theorem arrR_most (T : Nat → Int) (m x : Int) : (arrR T m).setIfInBounds 8 (.int .i64 x) = arrR T x := by simp [arrR]
theorem arrR_same {N M : Nat → Int} (h : ∀ f, f < 8 → N f = M f) (m : Int) : arrR N m = arrR M m := by
  unfold arrR
  rw [h 0 (by omega), h 1 (by omega), h 2 (by omega), h 3 (by omega), h 4 (by omega), h 5 (by omega), h 6 (by omega), h 7 (by omega)]
theorem arrR_all (N M : Nat → Int) (n m : Int) : (((((((((arrR N n).setIfInBounds 0 (.int .i64 (M 0))).setIfInBounds 1 (.int .i64 (M 1))).setIfInBounds 2 (.int .i64 (M 2))).setIfInBounds 3 (.int .i64 (M 3))).setIfInBounds 4 (.int .i64 (M 4))).setIfInBounds 5 (.int .i64 (M 5))).setIfInBounds 6 (.int .i64 (M 6))).setIfInBounds 7 (.int .i64 (M 7))).setIfInBounds 8 (.int .i64 m) = arrR M m := by
  simp [arrR]
theorem Blk.cells9 {w : World} {G : Nat} {T : TypeId} {N : Nat → Int} {m : Int} (h : Blk w G T (arrR N m)) : w.cell? ⟨G, 0, none⟩ = some (.int .i64 (N 0)) ∧ w.cell? ⟨G, 1, none⟩ = some (.int .i64 (N 1)) ∧ w.cell? ⟨G, 2, none⟩ = some (.int .i64 (N 2)) ∧ w.cell? ⟨G, 3, none⟩ = some (.int .i64 (N 3)) ∧ w.cell? ⟨G, 4, none⟩ = some (.int .i64 (N 4)) ∧ w.cell? ⟨G, 5, none⟩ = some (.int .i64 (N 5)) ∧ w.cell? ⟨G, 6, none⟩ = some (.int .i64 (N 6)) ∧ w.cell? ⟨G, 7, none⟩ = some (.int .i64 (N 7)) ∧ w.cell? ⟨G, 8, none⟩ = some (.int .i64 m) :=
  ⟨h.cell 0, h.cell 1, h.cell 2, h.cell 3, h.cell 4, h.cell 5, h.cell 6, h.cell 7, h.cell 8⟩
theorem Blk.frozen9 {w : World} {G : Nat} {T : TypeId} {cs : Array Value} (h : Blk w G T cs) : w.frozen? ⟨G, 0, none⟩ = false ∧ w.frozen? ⟨G, 1, none⟩ = false ∧ w.frozen? ⟨G, 2, none⟩ = false ∧ w.frozen? ⟨G, 3, none⟩ = false ∧ w.frozen? ⟨G, 4, none⟩ = false ∧ w.frozen? ⟨G, 5, none⟩ = false ∧ w.frozen? ⟨G, 6, none⟩ = false ∧ w.frozen? ⟨G, 7, none⟩ = false ∧ w.frozen? ⟨G, 8, none⟩ = false :=
  ⟨h.frozen 0, h.frozen 1, h.frozen 2, h.frozen 3, h.frozen 4, h.frozen 5, h.frozen 6, h.frozen 7, h.frozen 8⟩
/-- a row, written into a block. -/
def putR (w : World) (R : Nat) (M : Nat → Int) (m : Int) : World := ((((((((w.setCell ⟨R, 0, none⟩ (.int .i64 (M 0))).setCell ⟨R, 1, none⟩ (.int .i64 (M 1))).setCell ⟨R, 2, none⟩ (.int .i64 (M 2))).setCell ⟨R, 3, none⟩ (.int .i64 (M 3))).setCell ⟨R, 4, none⟩ (.int .i64 (M 4))).setCell ⟨R, 5, none⟩ (.int .i64 (M 5))).setCell ⟨R, 6, none⟩ (.int .i64 (M 6))).setCell ⟨R, 7, none⟩ (.int .i64 (M 7))).setCell ⟨R, 8, none⟩ (.int .i64 m)
theorem putR_blk {w : World} {R : Nat} {T : TypeId} {N : Nat → Int} {n : Int} (h : Blk w R T (arrR N n)) (M : Nat → Int) (m : Int) : Blk (putR w R M m) R T (arrR M m) := by
  have := ((((((((h.set 0 (.int .i64 (M 0))).set 1 (.int .i64 (M 1))).set 2 (.int .i64 (M 2))).set 3 (.int .i64 (M 3))).set 4 (.int .i64 (M 4))).set 5 (.int .i64 (M 5))).set 6 (.int .i64 (M 6))).set 7 (.int .i64 (M 7))).set 8 (.int .i64 m)
  rw [arrR_all] at this
  exact this
theorem putR_far {w : World} {R : Nat} {G : Nat} {T : TypeId} {cs : Array Value} (h : Blk w G T cs) (hR : G ≠ R) (M : Nat → Int) (m : Int) : Blk (putR w R M m) G T cs :=
  ((((((((h.far hR 0 _).far hR 1 _).far hR 2 _).far hR 3 _).far hR 4 _).far hR 5 _).far hR 6 _).far hR 7 _).far hR 8 _
theorem putR_below {B : Nat} {w w' : World} {R : Nat} (h : Below B w w') (hR : B ≤ R) (M : Nat → Int) (m : Int) : Below B w (putR w' R M m) :=
  ((((((((h.setCell hR _).setCell hR _).setCell hR _).setCell hR _).setCell hR _).setCell hR _).setCell hR _).setCell hR _).setCell hR _
theorem loadR {W : World} {R : Nat} {N : Nat → Int} {m : Int} (h : Blk W R 137 (arrR N m)) : (loadVar 137 ⟨R, 0, none⟩).run Tryz.prog W = .ok (.agg (arrR N m)) W := by
  have hl := run_loadCells_list (P := Tryz.prog) W ⟨R, 0, none⟩ (arrR N m).toList (fun j v hj => by
    have := h.cell j
    rw [← Array.getElem?_toList] at this
    rw [hj] at this
    have ha : (⟨R, 0, none⟩ : Addr).add j = ⟨R, j, none⟩ := by unfold Addr.add; split <;> simp_all
    rw [ha]; exact this)
  simp [loadVar, Tryz.isAgg137, Tryz.sizeOf137, Result.andThen, arrR] at hl ⊢
  simp [hl]
theorem infoR : (Tryz.prog.info? 137).map (·.size) = some 9 := by kernel_rfl
end Go.Proofs.YtgkgbpbohgklhafGreatDoor

namespace Go.Proofs.YtgkgbpbohgklhafGreatDoor
open Go.ChangeShapes Go.WideShapes Go.ChangeAt Go.RowKit

set_option maxRecDepth 100000 in
set_option maxHeartbeats 4000000 in
theorem rturned_any (T M : Nat → Int) (m p : Int) (hT : ∀ f, f < 8 → -2 ≤ T f ∧ T f ≤ 2) (hm : -100 ≤ m ∧ m ≤ 100) (hM : ∀ f, f < 8 → M f = - T f) (hp : p = -(m + 1)) (w : World) :
    Calls Tryz.prog 99 #[.agg #[.int .i64 (T 0), .int .i64 (T 1), .int .i64 (T 2), .int .i64 (T 3), .int .i64 (T 4), .int .i64 (T 5), .int .i64 (T 6), .int .i64 (T 7), .int .i64 m]] w fun e w' => e = .returned (.agg #[.int .i64 (M 0), .int .i64 (M 1), .int .i64 (M 2), .int .i64 (M 3), .int .i64 (M 4), .int .i64 (M 5), .int .i64 (M 6), .int .i64 (M 7), .int .i64 p]) ∧ Below w.heap.size w w' := by
  obtain ⟨Z, hZ⟩ : ∃ Z : Nat → Int, Z = fun _ => 0 := ⟨_, rfl⟩
  obtain ⟨w1, hw1⟩ : ∃ w1, w1 = (w.alloc (.cells #[.int .i64 (T 0), .int .i64 (T 1), .int .i64 (T 2), .int .i64 (T 3), .int .i64 (T 4), .int .i64 (T 5), .int .i64 (T 6), .int .i64 (T 7), .int .i64 m] 137)).alloc (.cells #[.int .i64 0, .int .i64 0, .int .i64 0, .int .i64 0, .int .i64 0, .int .i64 0, .int .i64 0, .int .i64 0, .int .i64 0] 137) := ⟨_, rfl⟩
  have HW : Hid (Below w.heap.size w w1) := by unfold Hid; rw [hw1]; exact (below_alloc1 _ _).alloc (by simp) _
  have HK0 : Hid (Blk w1 w.heap.size 137 (arrR T m)) := by unfold Hid; rw [hw1]; exact (Blk.new _ _ _).old _
  have HK1 : Hid (Blk w1 (w.heap.size + 1) 137 (arrR Z 0)) := by
    unfold Hid; rw [hw1, hZ]
    have := Blk.new (w.alloc (.cells #[.int .i64 (T 0), .int .i64 (T 1), .int .i64 (T 2), .int .i64 (T 3), .int .i64 (T 4), .int .i64 (T 5), .int .i64 (T 6), .int .i64 (T 7), .int .i64 m] 137)) 137 (arrR (fun _ => 0) 0)
    simp only [World.size_alloc] at this
    exact this
  have HT : Hid (∀ f, f < 8 → -2 ≤ T f ∧ T f ≤ 2) := hT
  have HM : Hid (∀ f, f < 8 → M f = - T f) := hM
  have HP : Hid (p = -(m + 1)) := hp
  clear hZ hT hM hp
  obtain ⟨m0, m1⟩ := hm
  go_enter Tryz.func99, Tryz.ntmps99
  go_wp2
  rw [← hw1]
  clear hw1
  go_loopw [4] (fun i wr => ∃ k : Nat, k ≤ 8 ∧ i = .int .i64 k ∧ Below w.heap.size w wr ∧ Blk wr w.heap.size 137 (arrR (fun f => if f < k then M f else T f) m) ∧ Blk wr (w.heap.size + 1) 137 (arrR Z 0)) (fun i _ => 8 - (intOf i).toNat)
  case atStart => exact ⟨0, Nat.zero_le _, rfl, HW.out, HK0.out, HK1.out⟩
  case round =>
    obtain ⟨k, hk, rfl, hb, h0, h1⟩ := hrel
    have HB1 : Hid (Below w.heap.size w wr) := hb
    have HR1 : Hid (Blk wr w.heap.size 137 (arrR (fun f => if f < k then M f else T f) m)) := h0
    have HZ1 : Hid (Blk wr (w.heap.size + 1) 137 (arrR Z 0)) := h1
    clear hb h0 h1
    by_cases hlt : k < 8
    · obtain ⟨x, hx⟩ : ∃ x, x = T k := ⟨_, rfl⟩
      have c : wr.cell? ⟨w.heap.size, k, none⟩ = some (.int .i64 x) := by rw [HR1.out.cell, arrR_get _ _ hlt, hx]; simp
      have z := HR1.out.frozen k
      have hxl := HT.out k hlt
      rw [← hx] at hxl
      obtain ⟨x0, x1⟩ := hxl
      have HE : Hid (Blk (wr.setCell ⟨w.heap.size, k, none⟩ (.int .i64 (-x))) w.heap.size 137 (arrR (fun f => if f < k + 1 then M f else T f) m)) := by
        have := HR1.out.set k (.int .i64 (-x))
        rw [arrR_set _ _ _ hlt] at this
        unfold Hid
        rw [arrR_same (M := fun g => if g = k then -x else if g < k then M g else T g)]
        · exact this
        · intro f hf
          by_cases e : f = k
          · subst e; rw [if_pos (by omega), if_pos rfl, HM.out f hf, hx]
          · simp only [if_neg e]
            by_cases e' : f < k
            · rw [if_pos (by omega), if_pos e']
            · rw [if_neg (by omega), if_neg e']
      clear hx
      go_wp2
      go_roundw
      case rel => exact ⟨k + 1, by omega, by go_num, HB1.out.setCell (by simp) _, HE.out, HZ1.out.far (by omega) _ _⟩
      case measure => simp [intOf]; omega
    · obtain rfl : k = 8 := by omega
      have HR2 : Hid (Blk wr w.heap.size 137 (arrR M m)) := by
        have := HR1.out
        unfold Hid
        rw [arrR_same (M := fun f => if f < 8 then M f else T f)]
        · exact this
        · intro f hf; rw [if_pos hf]
      clear HR1
      obtain ⟨n0, n1, n2, n3, n4, n5, n6, n7, n8⟩ := HR2.out.cells9
      have nz := HR2.out.frozen 8
      obtain ⟨r0, r1, r2, r3, r4, r5, r6, r7, r8⟩ := HZ1.out.cells9
      obtain ⟨f0, f1, f2, f3, f4, f5, f6, f7, f8⟩ := HZ1.out.frozen9
      go_wp2
      refine bodyPost_ret (v := .agg (arrR M (-(m + 1)))) ?_ rfl ⟨by rw [HP.out]; rfl, ?_⟩
      · exact results_cell_row rfl _ _ (w.heap.size + 1) 137 (arrR M (-(m + 1))) (0, 0) _ rfl (putR_blk (HZ1.out.far (by omega) 8 (.int .i64 (-(m + 1)))) M (-(m + 1))) Tryz.underlying137 rfl infoR
      · exact putR_below (HB1.out.setCell (Nat.le_refl _) _) (by omega) _ _
theorem ix8 (T : Nat → Int) {k : Nat} (hk : k < 8) (W : World) : (Instr.index 64 (.agg #[.int .i64 (T 0), .int .i64 (T 1), .int .i64 (T 2), .int .i64 (T 3), .int .i64 (T 4), .int .i64 (T 5), .int .i64 (T 6), .int .i64 (T 7)]) (.int .i64 k)).run Tryz.prog W = .ok (.int .i64 (T k)) W := by
  rcases eight hk with rfl | rfl | rfl | rfl | rfl | rfl | rfl | rfl <;> kernel_rfl

set_option maxRecDepth 100000 in
set_option maxHeartbeats 4000000 in
theorem wrong_any (T : Nat → Int) (m : Int) (w : World) :
    Calls Tryz.prog 101 #[.agg #[.int .i64 (T 0), .int .i64 (T 1), .int .i64 (T 2), .int .i64 (T 3), .int .i64 (T 4), .int .i64 (T 5), .int .i64 (T 6), .int .i64 (T 7), .int .i64 m]] w fun e w' => e = .returned (.bool (Rw.mk T m).wrong) ∧ Below w.heap.size w w' := by
  obtain ⟨w1, hw1⟩ : ∃ w1, w1 = w.alloc (.cells #[.int .i64 (T 0), .int .i64 (T 1), .int .i64 (T 2), .int .i64 (T 3), .int .i64 (T 4), .int .i64 (T 5), .int .i64 (T 6), .int .i64 (T 7), .int .i64 m] 137) := ⟨_, rfl⟩
  have HW : Hid (Below w.heap.size w w1) := by unfold Hid; rw [hw1]; exact below_alloc1 _ _
  have HK0 : Hid (Blk w1 w.heap.size 137 (arrR T m)) := by unfold Hid; rw [hw1]; exact Blk.new _ _ _
  obtain ⟨R, hR⟩ : ∃ R, R = (Rw.mk T m).wrong := ⟨_, rfl⟩
  have HR1 : Hid (∀ f, f < 8 → ¬ (-2 ≤ T f ∧ T f ≤ 2) → R = true) := fun f hf h => by rw [hR]; exact wrong_time hf h
  have HR2 : Hid (¬ (-100 ≤ m ∧ m ≤ 100) → R = true) := fun h => by rw [hR]; exact wrong_most h
  have HR3 : Hid ((∀ f, f < 8 → -2 ≤ T f ∧ T f ≤ 2) → (-100 ≤ m ∧ m ≤ 100) → R = false) := fun h h' => by rw [hR]; exact right_iff.2 ⟨h, h'⟩
  rw [← hR]
  clear hR
  obtain ⟨n0, n1, n2, n3, n4, n5, n6, n7, n8⟩ := HK0.out.cells9
  go_enter Tryz.func101, Tryz.ntmps101
  go_wp2_with fail
  rw [← hw1]
  clear hw1
  go_wp2_with fail
  go_loop [4, 7] (fun _ i => ∃ k : Nat, k ≤ 8 ∧ i = .int .i64 k ∧ ∀ f, f < k → -2 ≤ T f ∧ T f ≤ 2) (fun _ i => 8 - (intOf i).toNat)
  case atStart => exact ⟨0, Nat.zero_le _, rfl, fun f hf => by omega⟩
  case round =>
    obtain ⟨k, hk, rfl, hall⟩ := hrel
    have HA : Hid (∀ f, f < k → -2 ≤ T f ∧ T f ≤ 2) := hall
    clear hall
    by_cases hlt : k < 8
    · have hi := ix8 T hlt
      have HT1 : Hid (¬ (-2 ≤ T k ∧ T k ≤ 2) → R = true) := HR1.out k hlt
      have HN : Hid ((-2 ≤ T k ∧ T k ≤ 2) → ∀ f, f < k + 1 → -2 ≤ T f ∧ T f ≤ 2) := fun h f hf => by
        rcases Nat.lt_or_ge f k with h' | h'
        · exact HA.out f h'
        · obtain rfl : f = k := by omega
          exact h
      obtain ⟨x, hx⟩ : ∃ x, x = T k := ⟨_, rfl⟩
      rw [← hx] at hi HT1 HN
      clear hx
      by_cases h0 : x < -2
      · have HE : Hid (R = true) := HT1.out (by omega)
        go_wp2
        go_ret
        exact ⟨back_b HE.out.symm, HW.out⟩
      by_cases h2 : 2 < x
      · have HE : Hid (R = true) := HT1.out (by omega)
        go_wp2
        go_ret
        exact ⟨back_b HE.out.symm, HW.out⟩
      · have HE : Hid (∀ f, f < k + 1 → -2 ≤ T f ∧ T f ≤ 2) := HN.out (by omega)
        go_wp2
        go_round
        case rel => exact ⟨k + 1, by omega, by go_num, HE.out⟩
        case measure => simp [intOf]; omega
    · obtain rfl : k = 8 := by omega
      by_cases h0 : m < -100
      · have HE : Hid (R = true) := HR2.out (by omega)
        go_wp2
        go_ret
        exact ⟨back_b HE.out.symm, HW.out⟩
      by_cases h2 : 100 < m
      · have HE : Hid (R = true) := HR2.out (by omega)
        go_wp2
        go_ret
        exact ⟨back_b HE.out.symm, HW.out⟩
      · have HE : Hid (R = false) := HR3.out HA.out (by omega)
        go_wp2
        go_ret
        exact ⟨back_b HE.out.symm, HW.out⟩

set_option maxRecDepth 100000 in
set_option maxHeartbeats 4000000 in
theorem sum_any (T N : Nat → Int) (hT : ∀ f, f < 8 → -2 ≤ T f ∧ T f ≤ 2) (hN : ∀ f, f < 8 → 0 ≤ N f ∧ N f ≤ 6) (w : World) :
    Calls Tryz.prog 103 #[.agg #[.int .i64 (T 0), .int .i64 (T 1), .int .i64 (T 2), .int .i64 (T 3), .int .i64 (T 4), .int .i64 (T 5), .int .i64 (T 6), .int .i64 (T 7)], .agg #[.int .i64 (N 0), .int .i64 (N 1), .int .i64 (N 2), .int .i64 (N 3), .int .i64 (N 4), .int .i64 (N 5), .int .i64 (N 6), .int .i64 (N 7)]] w fun e w' => e = .returned (.int .i64 (sumT T N 8)) ∧ Below w.heap.size w w' := by
  obtain ⟨w1, hw1⟩ : ∃ w1, w1 = (w.alloc (.cells #[.int .i64 (T 0), .int .i64 (T 1), .int .i64 (T 2), .int .i64 (T 3), .int .i64 (T 4), .int .i64 (T 5), .int .i64 (T 6), .int .i64 (T 7)] 64)).alloc (.cells #[.int .i64 (N 0), .int .i64 (N 1), .int .i64 (N 2), .int .i64 (N 3), .int .i64 (N 4), .int .i64 (N 5), .int .i64 (N 6), .int .i64 (N 7)] 64) := ⟨_, rfl⟩
  have HW : Hid (Below w.heap.size w w1) := by unfold Hid; rw [hw1]; exact (below_alloc1 _ _).alloc (by simp) _
  have HK0 : Hid (Blk w1 w.heap.size 64 (arr8 T)) := by unfold Hid; rw [hw1]; exact (Blk.new _ _ _).old _
  have HK1 : Hid (Blk w1 (w.heap.size + 1) 64 (arr8 N)) := by
    unfold Hid; rw [hw1]
    have := Blk.new (w.alloc (.cells #[.int .i64 (T 0), .int .i64 (T 1), .int .i64 (T 2), .int .i64 (T 3), .int .i64 (T 4), .int .i64 (T 5), .int .i64 (T 6), .int .i64 (T 7)] 64)) 64 (arr8 N)
    simp only [World.size_alloc] at this
    exact this
  have HT : Hid (∀ f, f < 8 → -2 ≤ T f ∧ T f ≤ 2) := hT
  have HN : Hid (∀ f, f < 8 → 0 ≤ N f ∧ N f ≤ 6) := hN
  clear hT hN
  go_enter Tryz.func103, Tryz.ntmps103
  go_wp2
  rw [← hw1]
  clear hw1
  go_loopw [5, 7] (fun s i wr => ∃ k : Nat, k ≤ 8 ∧ i = .int .i64 k ∧ s = .int .i64 (sumT T N k) ∧ Below w1.heap.size w1 wr) (fun _ i _ => 8 - (intOf i).toNat)
  case atStart => exact ⟨0, Nat.zero_le _, rfl, rfl, Below.refl _ _⟩
  case round =>
    obtain ⟨k, hk, rfl, rfl, hb⟩ := hrel
    have HB1 : Hid (Below w1.heap.size w1 wr) := hb
    clear hb
    by_cases hlt : k < 8
    · have y : wr.cell? ⟨w.heap.size, k, none⟩ = some (.int .i64 (T k)) := by rw [(HK0.out.below HB1.out).cell, arr8_get _ hlt]
      have y' : wr.cell? ⟨w.heap.size + 1, k, none⟩ = some (.int .i64 (N k)) := by rw [(HK1.out.below HB1.out).cell, arr8_get _ hlt]
      have p1 := sumT_le (T := T) (N := N) (k := k) (fun f hf => HT.out f (by omega)) fun f hf => HN.out f (by omega)
      have p2 := mul_le (HT.out k hlt) (HN.out k hlt)
      have HS : Hid (sumT T N (k + 1) = sumT T N k + T k * N k) := rfl
      go_wp2
      go_region
      go_wp2
      go_roundw
      case rel => exact ⟨k + 1, by omega, by go_num, by rw [HS.out], HB1.out.drew⟩
      case measure => simp [intOf]; omega
    · obtain rfl : k = 8 := by omega
      go_wp2
      go_ret
      exact ⟨rfl, HW.out.trans (HB1.out.mono HW.out.size)⟩

/-- of no signs no field; else as Mask. -/
theorem rmask_right (t : List Int) (v : Value) (w : World) (h : Reads w v t) (hf : t = [] ∨ faultN t = 0) :
    Calls Tryz.prog 98 #[v] w fun e w' => e = .returned (.tuple #[.int .i64 (maskTo (liesB t) 8), .nilIface]) ∧ Below w.heap.size w w' := by
  by_cases h0 : t = []
  · subst h0
    obtain ⟨ao, cap, rfl, _⟩ := h.slice
    have e : maskTo (liesB []) 8 = 0 := by
      have : liesB [] = fun _ => false := by funext f; exact lies_none f
      rw [this]; decide
    rw [e]
    clear e h hf
    go_enter Tryz.func98, Tryz.ntmps98
    go_wp2
    go_ret2
    exact ⟨rfl, Below.refl _ _⟩
  · have hf' : faultN t = 0 := by rcases hf with h' | h'; exact absurd h' h0; exact h'
    have c := mask_any t v w h
    have e1 : maskN t = maskTo (liesB t) 8 := by unfold maskN; rw [if_pos hf']
    rw [e1, hf'] at c
    obtain ⟨ao, cap, rfl, hl⟩ := h.slice
    obtain ⟨M, hM⟩ : ∃ M, M = maskTo (liesB t) 8 := ⟨_, rfl⟩
    rw [← hM] at c ⊢
    have h1 : ¬ ((t.length : Int) = 0) := by
      have : t.length ≠ 0 := fun h' => h0 (List.length_eq_zero_iff.1 h')
      omega
    obtain ⟨n, hn⟩ : ∃ n, n = t.length := ⟨_, rfl⟩
    rw [← hn] at c hl h1 ⊢
    have C : Hid (Calls Tryz.prog 70 #[.slice ao n cap] w fun e w' => e = .returned (.tuple #[.int .i64 M, .nilIface]) ∧ Below w.heap.size w w') := c
    clear c hM hn h hf hf' e1 h0
    go_enter Tryz.func98, Tryz.ntmps98
    go_wp2_with fail
    go_at_call 70
    refine C.out.mono ?_
    rintro e w2 ⟨rfl, hb⟩
    have HB : Hid (Below w.heap.size w w2) := hb
    clear hb
    go_wp2
    go_ret2
    exact ⟨rfl, HB.out⟩
end Go.Proofs.YtgkgbpbohgklhafGreatDoor
