/-
  Plain facts on a row in memory: its nine cells, a store to one, all of them written, loaded. (What the contracts of package rows lean on.)
-/
import Derived.Test.YtedgbohobgnedaeDoorRowsMath
import Derived.Test.YtedgbohobgnedaeDoorFieldsBlk
namespace Go.Proofs.YtedgbohobgnedaeDoor
open Go.ChangeShapes Go.WideShapes Go.ChangeAt Go.RowKit

/-- the nine numbers of a row. -/
def arrR (T : Nat → Int) (m : Int) : Array Value := #[.int .i64 (T 0), .int .i64 (T 1), .int .i64 (T 2), .int .i64 (T 3), .int .i64 (T 4), .int .i64 (T 5), .int .i64 (T 6), .int .i64 (T 7), .int .i64 m]
theorem arrR_get (T : Nat → Int) (m : Int) {f : Nat} (hf : f < 8) : (arrR T m)[f]? = some (.int .i64 (T f)) := by
  rcases eight hf with rfl | rfl | rfl | rfl | rfl | rfl | rfl | rfl <;> rfl
theorem arrR_set (T : Nat → Int) (m x : Int) {f : Nat} (hf : f < 8) : (arrR T m).setIfInBounds f (.int .i64 x) = arrR (fun g => if g = f then x else T g) m := by
  rcases eight hf with rfl | rfl | rfl | rfl | rfl | rfl | rfl | rfl <;> simp [arrR]
theorem arrR_most (T : Nat → Int) (m x : Int) : (arrR T m).setIfInBounds 8 (.int .i64 x) = arrR T x := by simp [arrR]
theorem arrR_same {N M : Nat → Int} (h : ∀ f, f < 8 → N f = M f) (m : Int) : arrR N m = arrR M m := by
  unfold arrR
  rw [h 0 (by omega), h 1 (by omega), h 2 (by omega), h 3 (by omega), h 4 (by omega), h 5 (by omega), h 6 (by omega), h 7 (by omega)]
theorem arrR_all (N M : Nat → Int) (n m : Int) : (((((((((arrR N n).setIfInBounds 0 (.int .i64 (M 0))).setIfInBounds 1 (.int .i64 (M 1))).setIfInBounds 2 (.int .i64 (M 2))).setIfInBounds 3 (.int .i64 (M 3))).setIfInBounds 4 (.int .i64 (M 4))).setIfInBounds 5 (.int .i64 (M 5))).setIfInBounds 6 (.int .i64 (M 6))).setIfInBounds 7 (.int .i64 (M 7))).setIfInBounds 8 (.int .i64 m) = arrR M m := by
  simp [arrR]
theorem Blk.cells9 {w : World} {G : Nat} {T : TypeId} {N : Nat → Int} {m : Int} (h : Blk w G T (arrR N m)) : w.cell? ⟨G, 0, none⟩ = some (.int .i64 (N 0)) ∧ w.cell? ⟨G, 1, none⟩ = some (.int .i64 (N 1)) ∧ w.cell? ⟨G, 2, none⟩ = some (.int .i64 (N 2)) ∧ w.cell? ⟨G, 3, none⟩ = some (.int .i64 (N 3)) ∧ w.cell? ⟨G, 4, none⟩ = some (.int .i64 (N 4)) ∧ w.cell? ⟨G, 5, none⟩ = some (.int .i64 (N 5)) ∧ w.cell? ⟨G, 6, none⟩ = some (.int .i64 (N 6)) ∧ w.cell? ⟨G, 7, none⟩ = some (.int .i64 (N 7)) ∧ w.cell? ⟨G, 8, none⟩ = some (.int .i64 m) :=
  ⟨h.cell 0, h.cell 1, h.cell 2, h.cell 3, h.cell 4, h.cell 5, h.cell 6, h.cell 7, h.cell 8⟩
theorem Blk.frozen9 {w : World} {G : Nat} {T : TypeId} {cs : Array Value} (h : Blk w G T cs) : w.frozen? ⟨G, 0, none⟩ = false ∧ w.frozen? ⟨G, 1, none⟩ = false ∧ w.frozen? ⟨G, 2, none⟩ = false ∧ w.frozen? ⟨G, 3, none⟩ = false ∧ w.frozen? ⟨G, 4, none⟩ = false ∧ w.frozen? ⟨G, 5, none⟩ = false ∧ w.frozen? ⟨G, 6, none⟩ = false ∧ w.frozen? ⟨G, 7, none⟩ = false ∧ w.frozen? ⟨G, 8, none⟩ = false :=
  ⟨h.frozen 0, h.frozen 1, h.frozen 2, h.frozen 3, h.frozen 4, h.frozen 5, h.frozen 6, h.frozen 7, h.frozen 8⟩
/-- a row, written into a block. -/
def putR (w : World) (R : Nat) (M : Nat → Int) (m : Int) : World := ((((((((w.setCell ⟨R, 0, none⟩ (.int .i64 (M 0))).setCell ⟨R, 1, none⟩ (.int .i64 (M 1))).setCell ⟨R, 2, none⟩ (.int .i64 (M 2))).setCell ⟨R, 3, none⟩ (.int .i64 (M 3))).setCell ⟨R, 4, none⟩ (.int .i64 (M 4))).setCell ⟨R, 5, none⟩ (.int .i64 (M 5))).setCell ⟨R, 6, none⟩ (.int .i64 (M 6))).setCell ⟨R, 7, none⟩ (.int .i64 (M 7))).setCell ⟨R, 8, none⟩ (.int .i64 m)
theorem putR_blk {w : World} {R : Nat} {T : TypeId} {N : Nat → Int} {n : Int} (h : Blk w R T (arrR N n)) (M : Nat → Int) (m : Int) : Blk (putR w R M m) R T (arrR M m) := by
  have := ((((((((h.set 0 (.int .i64 (M 0))).set 1 (.int .i64 (M 1))).set 2 (.int .i64 (M 2))).set 3 (.int .i64 (M 3))).set 4 (.int .i64 (M 4))).set 5 (.int .i64 (M 5))).set 6 (.int .i64 (M 6))).set 7 (.int .i64 (M 7))).set 8 (.int .i64 m)
  rw [arrR_all] at this
  exact this
theorem putR_far {w : World} {R : Nat} {G : Nat} {T : TypeId} {cs : Array Value} (h : Blk w G T cs) (hR : G ≠ R) (M : Nat → Int) (m : Int) : Blk (putR w R M m) G T cs :=
  ((((((((h.far hR 0 _).far hR 1 _).far hR 2 _).far hR 3 _).far hR 4 _).far hR 5 _).far hR 6 _).far hR 7 _).far hR 8 _
theorem putR_below {B : Nat} {w w' : World} {R : Nat} (h : Below B w w') (hR : B ≤ R) (M : Nat → Int) (m : Int) : Below B w (putR w' R M m) :=
  ((((((((h.setCell hR _).setCell hR _).setCell hR _).setCell hR _).setCell hR _).setCell hR _).setCell hR _).setCell hR _).setCell hR _
theorem loadR {W : World} {R : Nat} {N : Nat → Int} {m : Int} (h : Blk W R 50 (arrR N m)) : (loadVar 50 ⟨R, 0, none⟩).run Tryd.prog W = .ok (.agg (arrR N m)) W := by
  have hl := run_loadCells_list (P := Tryd.prog) W ⟨R, 0, none⟩ (arrR N m).toList (fun j v hj => by
    have := h.cell j
    rw [← Array.getElem?_toList] at this
    rw [hj] at this
    have ha : (⟨R, 0, none⟩ : Addr).add j = ⟨R, j, none⟩ := by unfold Addr.add; split <;> simp_all
    rw [ha]; exact this)
  simp [loadVar, Tryd.isAgg50, Tryd.sizeOf50, Result.andThen, arrR] at hl ⊢
  simp [hl]
theorem infoR : (Tryd.prog.info? 50).map (·.size) = some 9 := by kernel_rfl
end Go.Proofs.YtedgbohobgnedaeDoor
