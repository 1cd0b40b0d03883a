/-
  Plain facts on a block of memory, whole: what lies in it, behind a call, behind a store; eight numbers and a world as blocks. (What the contracts of package fields lean on.)
  Proved: venntop.one returns true, where ask.Of answers as chapter 18 says; what was in memory is as it was (a contract that the statements of the whole lean on).
  Plain facts on whether there is a set for a name with which a formula holds in a world (chapter 15). No program is read here.
  Plain facts on worlds that are alike: if there is a set for the last name with which a formula holds in one of them there is one in the other (chapters 6 and 15). No program is read here.
  Plain facts on how many worlds there are, how many are alike, and in how many a formula holds (chapter 11). No program is read here.
-/
import Derived.Test.YtjaedfjfcghgcabDoorLibS2
import Derived.Test.YtjaedfjfcghgcabDoorLibS6
import Derived.Handy
import Derived.Test.YtjaedfjfcghgcabDoorLibS5
import Derived.Deep.CutRange
import Derived.Deep.CutBlock
import Derived.Test.YtjaedfjfcghgcabDoorLibS1
namespace Go.Proofs.YtjaedfjfcghgcabDoor
open Go.ChangeShapes Go.WideShapes Go.ChangeAt Go.RowKit

/-- block G holds the cells cs, and all of them may be written. -/
def Blk (w : World) (G : Nat) (T : TypeId) (cs : Array Value) : Prop := w.heap[G]? = some (.cells cs T (0, 0))
theorem Blk.lt {w : World} {G : Nat} {T : TypeId} {cs : Array Value} (h : Blk w G T cs) : G < w.heap.size := (Array.getElem?_eq_some_iff.1 h).1
theorem Blk.below {w w' : World} {G : Nat} {T : TypeId} {cs : Array Value} (h : Blk w G T cs) (hb : Below w.heap.size w w') : Blk w' G T cs := by
  unfold Blk; rw [hb.block G h.lt]; exact h
theorem Blk.cell {w : World} {G : Nat} {T : TypeId} {cs : Array Value} (h : Blk w G T cs) (j : Nat) : w.cell? ⟨G, j, none⟩ = cs[j]? := cell_of_row w G j cs T (0, 0) h
theorem Blk.frozen {w : World} {G : Nat} {T : TypeId} {cs : Array Value} (h : Blk w G T cs) (j : Nat) : w.frozen? ⟨G, j, none⟩ = false := frozen_of_row w G j cs T h
theorem Blk.set {w : World} {G : Nat} {T : TypeId} {cs : Array Value} (h : Blk w G T cs) (j : Nat) (u : Value) : Blk (w.setCell ⟨G, j, none⟩ u) G T (cs.setIfInBounds j u) := heap_setCell_same w G j cs T u h
theorem Blk.far {w : World} {G : Nat} {T : TypeId} {cs : Array Value} (h : Blk w G T cs) {R : Nat} (hR : G ≠ R) (j : Nat) (u : Value) : Blk (w.setCell ⟨R, j, none⟩ u) G T cs := by
  unfold Blk; rw [heap_setCell_other w ⟨R, j, none⟩ G u hR]; exact h
theorem Blk.drew {w : World} {G : Nat} {T : TypeId} {cs : Array Value} (h : Blk w G T cs) : Blk w.drew G T cs := h
theorem Blk.new (w : World) (T : TypeId) (cs : Array Value) : Blk (w.alloc (.cells cs T)) w.heap.size T cs := heap_alloc_new w _
theorem Blk.old {w : World} {G : Nat} {T : TypeId} {cs : Array Value} (h : Blk w G T cs) (o : Obj) : Blk (w.alloc o) G T cs := by
  unfold Blk; rw [heap_alloc_old w o h.lt]; exact h

/-- eight numbers. -/
def arr8 (N : Nat → Int) : Array Value := #[.int .i64 (N 0), .int .i64 (N 1), .int .i64 (N 2), .int .i64 (N 3), .int .i64 (N 4), .int .i64 (N 5), .int .i64 (N 6), .int .i64 (N 7)]
theorem arr8_get (N : Nat → Int) {f : Nat} (hf : f < 8) : (arr8 N)[f]? = some (.int .i64 (N f)) := by
  rcases eight hf with rfl | rfl | rfl | rfl | rfl | rfl | rfl | rfl <;> rfl
theorem arr8_one (N : Nat → Int) {f : Nat} (hf : f < 8) : (arr8 N).setIfInBounds f (.int .i64 (N f + 1)) = arr8 (fun g => N g + if f = g then 1 else 0) := by
  rcases eight hf with rfl | rfl | rfl | rfl | rfl | rfl | rfl | rfl <;> simp [arr8]
theorem arr8_same {N M : Nat → Int} (h : ∀ f, f < 8 → N f = M f) : arr8 N = arr8 M := by
  unfold arr8
  rw [h 0 (by omega), h 1 (by omega), h 2 (by omega), h 3 (by omega), h 4 (by omega), h 5 (by omega), h 6 (by omega), h 7 (by omega)]
theorem arr8_all (N M : Nat → Int) : ((((((((arr8 N).setIfInBounds 0 (.int .i64 (M 0))).setIfInBounds 1 (.int .i64 (M 1))).setIfInBounds 2 (.int .i64 (M 2))).setIfInBounds 3 (.int .i64 (M 3))).setIfInBounds 4 (.int .i64 (M 4))).setIfInBounds 5 (.int .i64 (M 5))).setIfInBounds 6 (.int .i64 (M 6))).setIfInBounds 7 (.int .i64 (M 7)) = arr8 M := by
  simp [arr8]
/-- a world's four numbers. -/
def arrW (w : Wd) : Array Value := #[.int .i64 w.u, .int .i64 w.a, .int .i64 w.b, .int .i64 w.c]

theorem load8 {W : World} {R : Nat} {N : Nat → Int} (h : Blk W R 30 (arr8 N)) : (loadVar 30 ⟨R, 0, none⟩).run Tryd.prog W = .ok (.agg (arr8 N)) W := by
  have hl := run_loadCells_list (P := Tryd.prog) W ⟨R, 0, none⟩ (arr8 N).toList (fun j v hj => by
    have := h.cell j
    rw [← Array.getElem?_toList] at this
    rw [hj] at this
    have ha : (⟨R, 0, none⟩ : Addr).add j = ⟨R, j, none⟩ := by unfold Addr.add; split <;> simp_all
    rw [ha]; exact this)
  simp [loadVar, Tryd.isAgg30, Tryd.sizeOf30, Result.andThen, arr8] at hl ⊢
  simp [hl]
theorem Blk.cells8 {w : World} {G : Nat} {T : TypeId} {N : Nat → Int} (h : Blk w G T (arr8 N)) : w.cell? ⟨G, 0, none⟩ = some (.int .i64 (N 0)) ∧ w.cell? ⟨G, 1, none⟩ = some (.int .i64 (N 1)) ∧ w.cell? ⟨G, 2, none⟩ = some (.int .i64 (N 2)) ∧ w.cell? ⟨G, 3, none⟩ = some (.int .i64 (N 3)) ∧ w.cell? ⟨G, 4, none⟩ = some (.int .i64 (N 4)) ∧ w.cell? ⟨G, 5, none⟩ = some (.int .i64 (N 5)) ∧ w.cell? ⟨G, 6, none⟩ = some (.int .i64 (N 6)) ∧ w.cell? ⟨G, 7, none⟩ = some (.int .i64 (N 7)) :=
  ⟨h.cell 0, h.cell 1, h.cell 2, h.cell 3, h.cell 4, h.cell 5, h.cell 6, h.cell 7⟩
theorem Blk.frozen8 {w : World} {G : Nat} {T : TypeId} {cs : Array Value} (h : Blk w G T cs) : w.frozen? ⟨G, 0, none⟩ = false ∧ w.frozen? ⟨G, 1, none⟩ = false ∧ w.frozen? ⟨G, 2, none⟩ = false ∧ w.frozen? ⟨G, 3, none⟩ = false ∧ w.frozen? ⟨G, 4, none⟩ = false ∧ w.frozen? ⟨G, 5, none⟩ = false ∧ w.frozen? ⟨G, 6, none⟩ = false ∧ w.frozen? ⟨G, 7, none⟩ = false :=
  ⟨h.frozen 0, h.frozen 1, h.frozen 2, h.frozen 3, h.frozen 4, h.frozen 5, h.frozen 6, h.frozen 7⟩
theorem Blk.cells4 {w : World} {G : Nat} {T : TypeId} {W : Wd} (h : Blk w G T (arrW W)) : w.cell? ⟨G, 0, none⟩ = some (.int .i64 W.u) ∧ w.cell? ⟨G, 1, none⟩ = some (.int .i64 W.a) ∧ w.cell? ⟨G, 2, none⟩ = some (.int .i64 W.b) ∧ w.cell? ⟨G, 3, none⟩ = some (.int .i64 W.c) :=
  ⟨h.cell 0, h.cell 1, h.cell 2, h.cell 3⟩
theorem Blk.frozen4 {w : World} {G : Nat} {T : TypeId} {cs : Array Value} (h : Blk w G T cs) : w.frozen? ⟨G, 0, none⟩ = false ∧ w.frozen? ⟨G, 1, none⟩ = false ∧ w.frozen? ⟨G, 2, none⟩ = false ∧ w.frozen? ⟨G, 3, none⟩ = false :=
  ⟨h.frozen 0, h.frozen 1, h.frozen 2, h.frozen 3⟩
/-- eight numbers, and a world, written into a block. -/
def put8 (w : World) (R : Nat) (M : Nat → Int) : World := (((((((w.setCell ⟨R, 0, none⟩ (.int .i64 (M 0))).setCell ⟨R, 1, none⟩ (.int .i64 (M 1))).setCell ⟨R, 2, none⟩ (.int .i64 (M 2))).setCell ⟨R, 3, none⟩ (.int .i64 (M 3))).setCell ⟨R, 4, none⟩ (.int .i64 (M 4))).setCell ⟨R, 5, none⟩ (.int .i64 (M 5))).setCell ⟨R, 6, none⟩ (.int .i64 (M 6))).setCell ⟨R, 7, none⟩ (.int .i64 (M 7))
def putW (w : World) (R : Nat) (M : Wd) : World := (((w.setCell ⟨R, 0, none⟩ (.int .i64 M.u)).setCell ⟨R, 1, none⟩ (.int .i64 M.a)).setCell ⟨R, 2, none⟩ (.int .i64 M.b)).setCell ⟨R, 3, none⟩ (.int .i64 M.c)
theorem put8_blk {w : World} {R : Nat} {T : TypeId} {N : Nat → Int} (h : Blk w R T (arr8 N)) (M : Nat → Int) : Blk (put8 w R M) R T (arr8 M) := by
  have := (((((((h.set 0 (.int .i64 (M 0))).set 1 (.int .i64 (M 1))).set 2 (.int .i64 (M 2))).set 3 (.int .i64 (M 3))).set 4 (.int .i64 (M 4))).set 5 (.int .i64 (M 5))).set 6 (.int .i64 (M 6))).set 7 (.int .i64 (M 7))
  rw [arr8_all] at this
  exact this
theorem put8_far {w : World} {R : Nat} {G : Nat} {T : TypeId} {cs : Array Value} (h : Blk w G T cs) (hR : G ≠ R) (M : Nat → Int) : Blk (put8 w R M) G T cs :=
  (((((((h.far hR 0 _).far hR 1 _).far hR 2 _).far hR 3 _).far hR 4 _).far hR 5 _).far hR 6 _).far hR 7 _
theorem put8_below {B : Nat} {w w' : World} {R : Nat} (h : Below B w w') (hR : B ≤ R) (M : Nat → Int) : Below B w (put8 w' R M) :=
  (((((((h.setCell hR _).setCell hR _).setCell hR _).setCell hR _).setCell hR _).setCell hR _).setCell hR _).setCell hR _
theorem putW_blk {w : World} {R : Nat} {T : TypeId} {N : Wd} (h : Blk w R T (arrW N)) (M : Wd) : Blk (putW w R M) R T (arrW M) := by
  have := (((h.set 0 (.int .i64 M.u)).set 1 (.int .i64 M.a)).set 2 (.int .i64 M.b)).set 3 (.int .i64 M.c)
  have e : ((((arrW N).setIfInBounds 0 (.int .i64 M.u)).setIfInBounds 1 (.int .i64 M.a)).setIfInBounds 2 (.int .i64 M.b)).setIfInBounds 3 (.int .i64 M.c) = arrW M := by simp [arrW]
  rw [e] at this
  exact this
theorem putW_far {w : World} {R : Nat} {G : Nat} {T : TypeId} {cs : Array Value} (h : Blk w G T cs) (hR : G ≠ R) (M : Wd) : Blk (putW w R M) G T cs :=
  (((h.far hR 0 _).far hR 1 _).far hR 2 _).far hR 3 _
theorem putW_below {B : Nat} {w w' : World} {R : Nat} (h : Below B w w') (hR : B ≤ R) (M : Wd) : Below B w (putW w' R M) :=
  (((h.setCell hR _).setCell hR _).setCell hR _).setCell hR _
theorem loadW {W : World} {R : Nat} {M : Wd} (h : Blk W R 28 (arrW M)) : (loadVar 28 ⟨R, 0, none⟩).run Tryd.prog W = .ok (.agg (arrW M)) W := by
  have hl := run_loadCells_list (P := Tryd.prog) W ⟨R, 0, none⟩ (arrW M).toList (fun j v hj => by
    have := h.cell j
    rw [← Array.getElem?_toList] at this
    rw [hj] at this
    have ha : (⟨R, 0, none⟩ : Addr).add j = ⟨R, j, none⟩ := by unfold Addr.add; split <;> simp_all
    rw [ha]; exact this)
  simp [loadVar, Tryd.isAgg28, Tryd.sizeOf28, Result.andThen, arrW] at hl ⊢
  simp [hl]
end Go.Proofs.YtjaedfjfcghgcabDoor

namespace Go.Proofs.YtjaedfjfcghgcabDoor
open Go.ChangeShapes Go.WideShapes Go.ChangeAt Go.RowKit
set_option maxRecDepth 100000

/-- a formula of an atom alone, as it is laid in four blocks. -/
theorem alone_four (w : World) (k n s : Int) : ∃ W, W = (((w.alloc (.cells #[.int .i64 s] 3)).alloc (.cells #[.int .i64 k, .slice (some ⟨w.heap.size, 0, none⟩) 1 1, .slice none 0 0, .int .i64 n] 45)).alloc (.cells #[.int .i64 0] 3)).alloc (.cells #[.slice (some ⟨w.heap.size + 1, 0, none⟩) 1 1, .slice (some ⟨w.heap.size + 1 + 1, 0, none⟩) 1 1] 25) ∧
    Blk W (w.heap.size + 1 + 1 + 1) 25 #[.slice (some ⟨w.heap.size + 1, 0, none⟩) 1 1, .slice (some ⟨w.heap.size + 1 + 1, 0, none⟩) 1 1] ∧ ReadsA W (.slice (some ⟨w.heap.size + 1, 0, none⟩) 1 1) [⟨k, [s], [], n⟩] ∧ Reads W (.slice (some ⟨w.heap.size + 1 + 1, 0, none⟩) 1 1) [0] ∧ Below w.heap.size w W := by
  obtain ⟨w1, h1⟩ : ∃ x, x = w.alloc (.cells #[.int .i64 s] 3) := ⟨_, rfl⟩
  obtain ⟨w2, h2⟩ : ∃ x, x = w1.alloc (.cells #[.int .i64 k, .slice (some ⟨w.heap.size, 0, none⟩) 1 1, .slice none 0 0, .int .i64 n] 45) := ⟨_, rfl⟩
  obtain ⟨w3, h3⟩ : ∃ x, x = w2.alloc (.cells #[.int .i64 0] 3) := ⟨_, rfl⟩
  obtain ⟨w4, h4⟩ : ∃ x, x = w3.alloc (.cells #[.slice (some ⟨w.heap.size + 1, 0, none⟩) 1 1, .slice (some ⟨w.heap.size + 1 + 1, 0, none⟩) 1 1] 25) := ⟨_, rfl⟩
  have s1 : w1.heap.size = w.heap.size + 1 := by rw [h1]; exact World.size_alloc _ _
  have s2 : w2.heap.size = w.heap.size + 1 + 1 := by rw [h2, World.size_alloc, s1]
  have s3 : w3.heap.size = w.heap.size + 1 + 1 + 1 := by rw [h3, World.size_alloc, s2]
  have k1 : Blk w1 w.heap.size 3 #[.int .i64 s] := by rw [h1]; exact Blk.new _ _ _
  have k2 : Blk w2 (w.heap.size + 1) 45 #[.int .i64 k, .slice (some ⟨w.heap.size, 0, none⟩) 1 1, .slice none 0 0, .int .i64 n] := by rw [h2, ← s1]; exact Blk.new _ _ _
  have k3 : Blk w3 (w.heap.size + 1 + 1) 3 #[.int .i64 0] := by rw [h3, ← s2]; exact Blk.new _ _ _
  have k4 : Blk w4 (w.heap.size + 1 + 1 + 1) 25 #[.slice (some ⟨w.heap.size + 1, 0, none⟩) 1 1, .slice (some ⟨w.heap.size + 1 + 1, 0, none⟩) 1 1] := by rw [h4, ← s3]; exact Blk.new _ _ _
  have b1 : Below w.heap.size w w1 := by rw [h1]; exact below_alloc1 _ _
  have b2 : Below w1.heap.size w1 w2 := by rw [h2]; exact below_alloc1 _ _
  have b3 : Below w2.heap.size w2 w3 := by rw [h3]; exact below_alloc1 _ _
  have b4 : Below w3.heap.size w3 w4 := by rw [h4]; exact below_alloc1 _ _
  have q1 : Blk w4 w.heap.size 3 #[.int .i64 s] := ((k1.below b2).below b3).below b4
  have q2 : Blk w4 (w.heap.size + 1) 45 #[.int .i64 k, .slice (some ⟨w.heap.size, 0, none⟩) 1 1, .slice none 0 0, .int .i64 n] := (k2.below b3).below b4
  have q3 : Blk w4 (w.heap.size + 1 + 1) 3 #[.int .i64 0] := k3.below b4
  have rone : ∀ (G : Nat) (x : Int), Blk w4 G 3 #[.int .i64 x] → Reads w4 (.slice (some ⟨G, 0, none⟩) 1 1) [x] := fun G x h => by
    refine Or.inr ⟨G, 0, 1, rfl, h.lt, by simp, ⟨by simp, by simp⟩, fun j hj => ?_⟩
    obtain rfl : j = 0 := by simp at hj; exact hj
    exact h.cell 0
  refine ⟨w4, by rw [h4, h3, h2, h1], k4, Or.inr ⟨w.heap.size + 1, 0, 1, rfl, q2.lt, by simp, ⟨by simp, by simp⟩, fun i a ha => ?_⟩, rone _ 0 q3, ?_⟩
  · cases i with
    | zero =>
      obtain rfl : (⟨k, [s], [], n⟩ : At) = a := by simpa using ha
      exact ⟨_, _, q2.cell 0, q2.cell 1, q2.cell 2, q2.cell 3, rone _ s q1, Or.inl ⟨none, 0, rfl, rfl⟩⟩
    | succ i => simp at ha
  · have c2 : Below w.heap.size w w2 := b1.trans (b2.mono b1.size)
    have c3 : Below w.heap.size w w3 := c2.trans (b3.mono c2.size)
    exact c3.trans (b4.mono c3.size)

set_option maxHeartbeats 8000000 in
theorem topOne_any (w : World)
    (cOf : ∀ (v va vc : Value) (fs : List Fm) (ats : List At) (c : List Int) (u : Int) (W : World), Below w.heap.size w W → ReadsF W v fs → ReadsA W va ats → Reads W vc c → Calls Tryd.prog 11 #[v, .agg #[va, vc], .int .i64 u] W fun e w' => e = .returned (.tuple #[.int .i64 (askN fs ats c u), errV (askFault fs ats c u)]) ∧ Below W.heap.size W w') :
    Calls Tryd.prog 4 #[] w fun e w' => e = .returned (.bool true) ∧ Below w.heap.size w w' := by
  have HOf : Hid (∀ W v va vc, Below w.heap.size w W → ReadsF W v [⟨[⟨3, [0], [], 2⟩], [0]⟩] → ReadsA W va [⟨3, [0], [], 1⟩] → Reads W vc [0] → Calls Tryd.prog 11 #[v, .agg #[va, vc], .int .i64 2] W fun e w' => e = .returned (.tuple #[.int .i64 1, .nilIface]) ∧ Below W.heap.size W w') := fun W v va vc hW h1 h2 h3 => by
    obtain ⟨e1, e2⟩ := many_answer (k := 0) (by omega) (n := 2) (m := 1) (u := 2) (by omega) (by omega) (by omega)
    have h := cOf v va vc _ _ _ 2 W hW h1 h2 h3
    have f1 : askFault [⟨[⟨3, [0], [], 2⟩], [0]⟩] [⟨3, [0], [], 1⟩] [0] 2 = 0 := e1
    have f2 : askN [⟨[⟨3, [0], [], 2⟩], [0]⟩] [⟨3, [0], [], 1⟩] [0] 2 = 1 := e2
    rw [f1, f2] at h
    exact h
  clear cOf
  obtain ⟨w1, hw1, k1, a1, c1, b1⟩ := alone_four w 3 2 0
  obtain ⟨G1, hG1⟩ : ∃ G, G = w.heap.size + 1 + 1 + 1 := ⟨_, rfl⟩
  obtain ⟨P1, hP1⟩ : ∃ G, G = w.heap.size + 1 := ⟨_, rfl⟩
  obtain ⟨Q1, hQ1⟩ : ∃ G, G = w.heap.size + 1 + 1 := ⟨_, rfl⟩
  rw [← hG1] at k1
  rw [← hQ1] at k1 c1 hw1
  rw [← hP1] at k1 a1 hw1
  obtain ⟨w2, hw2, k2, a2, c2, b2⟩ := alone_four w1 3 1 0
  obtain ⟨G2, hG2⟩ : ∃ G, G = w1.heap.size + 1 + 1 + 1 := ⟨_, rfl⟩
  obtain ⟨P2, hP2⟩ : ∃ G, G = w1.heap.size + 1 := ⟨_, rfl⟩
  obtain ⟨Q2, hQ2⟩ : ∃ G, G = w1.heap.size + 1 + 1 := ⟨_, rfl⟩
  rw [← hG2] at k2
  rw [← hQ2] at k2 c2 hw2
  rw [← hP2] at k2 a2 hw2
  have HB1 : Hid (Below w.heap.size w w1) := b1
  have HB2 : Hid (Below w.heap.size w w2) := b1.trans (b2.mono b1.size)
  have HK1 : Hid (Blk w2 G1 25 #[.slice (some ⟨P1, 0, none⟩) 1 1, .slice (some ⟨Q1, 0, none⟩) 1 1]) := k1.below b2
  have HA1 : Hid (ReadsA w2 (.slice (some ⟨P1, 0, none⟩) 1 1) [⟨3, [0], [], 2⟩] ∧ Reads w2 (.slice (some ⟨Q1, 0, none⟩) 1 1) [0]) := ⟨a1.below b2, c1.below b2⟩
  have HK2 : Hid (Blk w2 G2 25 #[.slice (some ⟨P2, 0, none⟩) 1 1, .slice (some ⟨Q2, 0, none⟩) 1 1]) := k2
  have HA2 : Hid (ReadsA w2 (.slice (some ⟨P2, 0, none⟩) 1 1) [⟨3, [0], [], 1⟩] ∧ Reads w2 (.slice (some ⟨Q2, 0, none⟩) 1 1) [0]) := ⟨a2, c2⟩
  clear b1 b2 k1 k2 a1 a2 c1 c2
  go_enter Tryd.func4, Tryd.ntmps4
  go_upto_region 2 with fail
  rw [← hG1, ← hQ1, ← hP1, ← hw1]
  clear hP1 hQ1 hG1 hw1
  go_upto_region 3 with fail
  rw [← hG2, ← hQ2, ← hP2, ← hw2]
  clear hP2 hQ2 hG2 hw2
  obtain ⟨w3, hw3⟩ : ∃ x, x = w2.alloc (.cells #[.slice (some ⟨P1, 0, none⟩) 1 1, .slice (some ⟨Q1, 0, none⟩) 1 1] 25) := ⟨_, rfl⟩
  obtain ⟨G3, hG3⟩ : ∃ G, G = w2.heap.size := ⟨_, rfl⟩
  have b3 : Below w2.heap.size w2 w3 := by rw [hw3]; exact below_alloc1 _ _
  have HB3 : Hid (Below w.heap.size w w3) := HB2.out.trans (b3.mono HB2.out.size)
  have HR3 : Hid (ReadsF w3 (.slice (some ⟨G3, 0, none⟩) 1 1) [⟨[⟨3, [0], [], 2⟩], [0]⟩]) := by
    have k3 : Blk w3 G3 25 #[.slice (some ⟨P1, 0, none⟩) 1 1, .slice (some ⟨Q1, 0, none⟩) 1 1] := by rw [hw3, hG3]; exact Blk.new _ _ _
    refine Or.inr ⟨G3, 0, 1, rfl, k3.lt, by simp, ⟨by simp, by simp⟩, fun i x hx => ?_⟩
    cases i with
    | zero =>
      obtain rfl : (⟨[⟨3, [0], [], 2⟩], [0]⟩ : Fm) = x := by simpa using hx
      exact ⟨_, _, k3.cell 0, k3.cell 1, HA1.out.1.below b3, HA1.out.2.below b3⟩
    | succ i => simp at hx
  have HA3 : Hid (ReadsA w3 (.slice (some ⟨P2, 0, none⟩) 1 1) [⟨3, [0], [], 1⟩] ∧ Reads w3 (.slice (some ⟨Q2, 0, none⟩) 1 1) [0]) := ⟨HA2.out.1.below b3, HA2.out.2.below b3⟩
  have x0 : w2.cell? ⟨G1, 0, none⟩ = some (.slice (some ⟨P1, 0, none⟩) 1 1) := HK1.out.cell 0
  have x1 : w2.cell? ⟨G1, 1, none⟩ = some (.slice (some ⟨Q1, 0, none⟩) 1 1) := HK1.out.cell 1
  have y0 : (w2.alloc (.cells #[.slice (some ⟨P1, 0, none⟩) 1 1, .slice (some ⟨Q1, 0, none⟩) 1 1] 25)).cell? ⟨G2, 0, none⟩ = some (.slice (some ⟨P2, 0, none⟩) 1 1) := by rw [← hw3]; exact (HK2.out.below b3).cell 0
  have y1 : (w2.alloc (.cells #[.slice (some ⟨P1, 0, none⟩) 1 1, .slice (some ⟨Q1, 0, none⟩) 1 1] 25)).cell? ⟨G2, 1, none⟩ = some (.slice (some ⟨Q2, 0, none⟩) 1 1) := by rw [← hw3]; exact (HK2.out.below b3).cell 1
  clear b3
  go_wp2_with fail
  rw [← hw3, ← hG3]
  clear hw3 hG3 x0 x1 y0 y1
  go_at_call 11
  refine (HOf.out _ _ _ _ HB3.out HR3.out HA3.out.1 HA3.out.2).mono ?_
  rintro e w4 ⟨rfl, hb⟩
  have HB4 : Hid (Below w.heap.size w w4) := HB3.out.trans (hb.mono HB3.out.size)
  clear hb
  go_wp2
  go_ret
  exact ⟨rfl, HB4.out⟩
end Go.Proofs.YtjaedfjfcghgcabDoor

namespace Go.Proofs.YtjaedfjfcghgcabDoor
open Go.RowKit

/-- the world with another set for a name. -/
def Wd.put (w : Wd) (k : Nat) (s : Int) : Wd := if k = 0 then ⟨w.u, s, w.b, w.c⟩ else if k = 1 then ⟨w.u, w.a, s, w.c⟩ else ⟨w.u, w.a, w.b, s⟩
/-- the least of the last d numbers below N that is so, or one less than 0. -/
def lowD (p : Nat → Bool) (N : Nat) : Nat → Int
  | 0 => -1
  | d + 1 => if p (N - (d + 1)) = true then ((N - (d + 1) : Nat) : Int) else lowD p N d
def allD (p : Nat → Bool) (N : Nat) : Nat → Bool
  | 0 => true
  | d + 1 => p (N - (d + 1)) && allD p N d
/-- how many sets there are. -/
def setsN (u : Int) : Nat := 2 ^ u.toNat
/-- does it hold with this set? -/
def withB (ats : List At) (c : List Int) (k : Nat) (w : Wd) (s : Nat) : Bool := (w.put k (s : Int)).formIs ats c
def someFault (ats : List At) (c : List Int) (name : Int) (w : Wd) : Int := if formFault ats c = 0 then (if 0 ≤ name ∧ name ≤ 2 then (if w.ok = true then 0 else 1) else 1) else formFault ats c
def someLow (ats : List At) (c : List Int) (name : Int) (w : Wd) : Int := if someFault ats c name w = 0 then lowD (withB ats c name.toNat w) (setsN w.u) (setsN w.u) else -1
def someB (ats : List At) (c : List Int) (name : Int) (w : Wd) : Bool := decide (0 ≤ someLow ats c name w)
def eachW (ats : List At) (c : List Int) (name : Int) (w : Wd) : Bool := if someFault ats c name w = 0 then allD (withB ats c name.toNat w) (setsN w.u) (setsN w.u) else false
def lowFault (ats : List At) (c : List Int) (name : Int) (w : Wd) : Int := if someFault ats c name w = 0 then (if someLow ats c name w < 0 then 5 else 0) else someFault ats c name w
def firstS (ats : List At) (c : List Int) (name : Int) (w : Wd) : Int := if someLow ats c name w < 0 then 0 else someLow ats c name w

theorem lowD_spec (p : Nat → Bool) (N : Nat) : ∀ d, d ≤ N → (lowD p N d = -1 ∧ ∀ s, N - d ≤ s → s < N → p s = false) ∨ (∃ k : Nat, lowD p N d = k ∧ N - d ≤ k ∧ k < N ∧ p k = true ∧ ∀ j, N - d ≤ j → j < k → p j = false) := by
  intro d
  induction d with
  | zero => intro _; exact Or.inl ⟨rfl, fun s h1 h2 => by omega⟩
  | succ d ih =>
    intro hd
    unfold lowD
    rcases Bool.eq_false_or_eq_true (p (N - (d + 1))) with h | h
    · right
      exact ⟨N - (d + 1), by rw [if_pos h], Nat.le_refl _, by omega, h, fun j h1 h2 => by omega⟩
    · rw [if_neg (by rw [h]; decide)]
      rcases ih (by omega) with ⟨e, g⟩ | ⟨k, e, g1, g2, g3, g4⟩
      · left
        refine ⟨e, fun s h1 h2 => ?_⟩
        rcases Nat.lt_or_ge s (N - d) with h3 | h3
        · obtain rfl : s = N - (d + 1) := by omega
          exact h
        · exact g s h3 h2
      · right
        refine ⟨k, e, by omega, g2, g3, fun j h1 h2 => ?_⟩
        rcases Nat.lt_or_ge j (N - d) with h3 | h3
        · obtain rfl : j = N - (d + 1) := by omega
          exact h
        · exact g4 j h3 h2
theorem allD_spec (p : Nat → Bool) (N : Nat) : ∀ d, d ≤ N → (allD p N d = true ↔ ∀ s, N - d ≤ s → s < N → p s = true) := by
  intro d
  induction d with
  | zero => intro _; exact ⟨fun _ s h1 h2 => by omega, fun _ => rfl⟩
  | succ d ih =>
    intro hd
    unfold allD
    rw [Bool.and_eq_true, ih (by omega)]
    constructor
    · rintro ⟨h1, h2⟩ s h3 h4
      rcases Nat.lt_or_ge s (N - d) with h5 | h5
      · obtain rfl : s = N - (d + 1) := by omega
        exact h1
      · exact h2 s h5 h4
    · intro h
      exact ⟨h _ (Nat.le_refl _) (by omega), fun s h1 h2 => h s (by omega) h2⟩
/-- none is so, or this one is, and none ahead of it. -/
theorem low_spec (p : Nat → Bool) (N : Nat) : (lowD p N N = -1 ∧ ∀ s, s < N → p s = false) ∨ (∃ k : Nat, lowD p N N = k ∧ k < N ∧ p k = true ∧ ∀ j, j < k → p j = false) := by
  rcases lowD_spec p N N (Nat.le_refl _) with ⟨h1, h2⟩ | ⟨k, h1, _, h2, h3, h4⟩
  · exact Or.inl ⟨h1, fun s hs => h2 s (by omega) hs⟩
  · exact Or.inr ⟨k, h1, h2, h3, fun j hj => h4 j (by omega) hj⟩
theorem all_spec (p : Nat → Bool) (N : Nat) : allD p N N = true ↔ ∀ s, s < N → p s = true := by
  rw [allD_spec p N N (Nat.le_refl _)]
  exact ⟨fun h s hs => h s (by omega) hs, fun h s _ hs => h s hs⟩
theorem some_zero {ats : List At} {c : List Int} {name : Int} {w : Wd} : someFault ats c name w = 0 ↔ formFault ats c = 0 ∧ (0 ≤ name ∧ name ≤ 2) ∧ w.ok = true := by
  unfold someFault
  by_cases h1 : formFault ats c = 0
  · rw [if_pos h1]
    by_cases h2 : 0 ≤ name ∧ name ≤ 2
    · rw [if_pos h2]
      by_cases h3 : w.ok = true
      · rw [if_pos h3]; exact ⟨fun _ => ⟨h1, h2, h3⟩, fun _ => rfl⟩
      · rw [if_neg h3]; exact ⟨fun h => absurd h (by decide), fun h => absurd h.2.2 h3⟩
    · rw [if_neg h2]; exact ⟨fun h => absurd h (by decide), fun h => absurd h.2.1 h2⟩
  · rw [if_neg h1]; exact ⟨fun h => absurd h h1, fun h => absurd h.1 h1⟩
theorem sets_pw (u : Int) : (setsN u : Int) = pw u.toNat := by unfold setsN pw; simp
theorem sets_le {u : Int} (h : u ≤ 6) : setsN u ≤ 64 := by
  unfold setsN
  have : u.toNat ≤ 6 := by omega
  calc 2 ^ u.toNat ≤ 2 ^ 6 := Nat.pow_le_pow_right (by decide) this
    _ = 64 := by decide
theorem sets_pos (u : Int) : 1 ≤ setsN u := Nat.one_le_two_pow
/-- each set below the number of sets is one, and the world with it is right. -/
theorem wput_ok {w : Wd} (h : w.ok = true) (k : Nat) {s : Int} (hs : okB w.u s = true) : (w.put k s).ok = true := by
  obtain ⟨ha, hb, hc⟩ := Wd.ok_iff.1 h
  unfold Wd.put
  split
  · exact Wd.ok_iff.2 ⟨hs, hb, hc⟩
  · split
    · exact Wd.ok_iff.2 ⟨ha, hs, hc⟩
    · exact Wd.ok_iff.2 ⟨ha, hb, hs⟩
theorem put_u (w : Wd) (k : Nat) (s : Int) : (w.put k s).u = w.u := by unfold Wd.put; split <;> (try split) <;> rfl
theorem set_ok {u : Int} (h0 : 0 ≤ u) (h6 : u ≤ 6) {s : Nat} : okB u (s : Int) = true ↔ s < setsN u := by
  rw [okB_iff]
  unfold allN setsN
  have e : (2 : Int) ^ u.toNat = ((2 ^ u.toNat : Nat) : Int) := by simp
  rw [e]
  omega
theorem put_put (w : Wd) (k : Nat) (s r : Int) : (w.put k s).put k r = w.put k r := by
  unfold Wd.put
  split
  · rfl
  · split <;> rfl
end Go.Proofs.YtjaedfjfcghgcabDoor

namespace Go.Proofs.YtjaedfjfcghgcabDoor
open Go.RowKit

/-- the field of the first two names that a thing lies in. -/
def Wd.ab (w : Wd) (i : Nat) : Nat := (hasB w.a i).toNat + 2 * (hasB w.b i).toNat
/-- how many of the first things lie in it, and how many of these are chosen. -/
def Wd.abN (w : Wd) (g : Nat) : Nat → Int
  | 0 => 0
  | i + 1 => w.abN g i + if w.ab i = g then 1 else 0
def Wd.inN (w : Wd) (L : Nat → Bool) (g : Nat) : Nat → Int
  | 0 => 0
  | i + 1 => w.inN L g i + if w.ab i = g ∧ L i = true then 1 else 0
theorem ab_lt (w : Wd) (i : Nat) : w.ab i < 4 := by
  unfold Wd.ab
  cases hasB w.a i <;> cases hasB w.b i <;> decide
theorem inN_le (w : Wd) (L : Nat → Bool) (g : Nat) : ∀ k, 0 ≤ w.inN L g k ∧ w.inN L g k ≤ w.abN g k := by
  intro k
  induction k with
  | zero => exact ⟨Int.le_refl _, Int.le_refl _⟩
  | succ k ih =>
    unfold Wd.inN Wd.abN
    by_cases h : w.ab k = g
    · by_cases hl : L k = true
      · rw [if_pos ⟨h, hl⟩, if_pos h]; omega
      · rw [if_neg (fun e => hl e.2), if_pos h]; omega
    · rw [if_neg (fun e => h e.1), if_neg h]; omega
theorem inN_congr (w : Wd) {L M : Nat → Bool} (g : Nat) : ∀ k, (∀ i, i < k → L i = M i) → w.inN L g k = w.inN M g k := by
  intro k
  induction k with
  | zero => intro _; rfl
  | succ k ih =>
    intro h
    unfold Wd.inN
    rw [ih fun i hi => h i (by omega), h k (by omega)]
/-- with a set for the last name so many lie in each field. -/
theorem put_fc (w : Wd) (s : Int) {g : Nat} (hg : g < 4) : ∀ k, (w.put 2 s).fc k (g + 4) = w.inN (fun i => hasB s i) g k ∧ (w.put 2 s).fc k g = w.abN g k - w.inN (fun i => hasB s i) g k := by
  intro k
  induction k with
  | zero => exact ⟨rfl, rfl⟩
  | succ k ih =>
    have hab := ab_lt w k
    have hf : (w.put 2 s).field k = w.ab k + 4 * (hasB s k).toNat := rfl
    unfold Wd.fc Wd.inN Wd.abN
    rw [ih.1, ih.2, hf]
    cases hs : hasB s k
    · have e1 : ¬ (w.ab k + 4 * false.toNat = g + 4) := by show ¬ (w.ab k + 4 * 0 = g + 4); omega
      by_cases h : w.ab k = g
      · have e2 : w.ab k + 4 * false.toNat = g := by show w.ab k + 4 * 0 = g; omega
        rw [if_neg e1, if_pos e2, if_neg (fun e => Bool.noConfusion e.2), if_pos h]
        exact ⟨by omega, by omega⟩
      · have e2 : ¬ (w.ab k + 4 * false.toNat = g) := by show ¬ (w.ab k + 4 * 0 = g); omega
        rw [if_neg e1, if_neg e2, if_neg (fun e => Bool.noConfusion e.2), if_neg h]
        exact ⟨by omega, by omega⟩
    · have e2 : ¬ (w.ab k + 4 * true.toNat = g) := by show ¬ (w.ab k + 4 * 1 = g); omega
      by_cases h : w.ab k = g
      · have e1 : w.ab k + 4 * true.toNat = g + 4 := by show w.ab k + 4 * 1 = g + 4; omega
        rw [if_pos e1, if_neg e2, if_pos ⟨h, rfl⟩, if_pos h]
        exact ⟨by omega, by omega⟩
      · have e1 : ¬ (w.ab k + 4 * true.toNat = g + 4) := by show ¬ (w.ab k + 4 * 1 = g + 4); omega
        rw [if_neg e1, if_neg e2, if_neg (fun e => h e.1), if_neg h]
        exact ⟨by omega, by omega⟩
/-- in each field the first ones are chosen, till there are so many. -/
def pickL (x : Wd) (T : Nat → Int) (i : Nat) : Bool := decide (x.abN (x.ab i) i < T (x.ab i))
theorem pick_in (x : Wd) (T : Nat → Int) (hT : ∀ g, 0 ≤ T g) (g : Nat) : ∀ k, x.inN (pickL x T) g k = min (x.abN g k) (T g) := by
  intro k
  induction k with
  | zero => show (0 : Int) = min 0 (T g); have := hT g; omega
  | succ k ih =>
    unfold Wd.inN Wd.abN
    rw [ih]
    by_cases h : x.ab k = g
    · subst h
      rw [if_pos rfl]
      by_cases hl : x.abN (x.ab k) k < T (x.ab k)
      · rw [if_pos ⟨rfl, decide_eq_true hl⟩]; omega
      · rw [if_neg (fun e => hl (of_decide_eq_true e.2))]; omega
    · rw [if_neg (fun e => h e.1), if_neg h]; omega
theorem put_self (w : Wd) : w.put 2 w.c = w := rfl
theorem ab_same {w x : Wd} (h : Alike w x) {g : Nat} (hg : g < 4) : x.abN g x.u.toNat = w.abN g w.u.toNat := by
  obtain ⟨a1, a2⟩ := put_fc w w.c hg w.u.toNat
  obtain ⟨b1, b2⟩ := put_fc x x.c hg x.u.toNat
  rw [put_self] at a1 a2 b1 b2
  have h1 := h.fc g (by omega)
  have h2 := h.fc (g + 4) (by omega)
  omega
theorem Alike.symm {w x : Wd} (h : Alike w x) : Alike x w := ⟨h.ok', h.ok, fun f hf => (h.fc f hf).symm⟩
/-- a set in one of them, a set in the other. -/
theorem some_other {w x : Wd} (h : Alike w x) (hu : x.u = w.u) {ats : List At} {c : List Int} {s : Nat} (hs : s < setsN w.u) (hw : withB ats c 2 w s = true) : ∃ r : Nat, r < setsN x.u ∧ withB ats c 2 x r = true := by
  obtain ⟨u0, u6⟩ := ok_u h.ok
  obtain ⟨T, hT⟩ : ∃ T : Nat → Int, T = fun g => w.inN (fun i => hasB (s : Int) i) g w.u.toNat := ⟨_, rfl⟩
  have hT0 : ∀ g, 0 ≤ T g := fun g => by rw [hT]; exact (inN_le _ _ _ _).1
  obtain ⟨m0, m1⟩ := maskTo_le (pickL x T) x.u.toNat
  obtain ⟨r, hr⟩ := Int.eq_ofNat_of_zero_le m0
  have hrlt : r < setsN x.u := by
    have := sets_pw x.u
    rw [hr] at m1
    omega
  refine ⟨r, hrlt, ?_⟩
  have hbit : ∀ i, i < x.u.toNat → hasB (r : Int) i = pickL x T i := fun i hi => by
    rw [← hr]; exact has_mask _ (by omega) hi
  have ow : (w.put 2 (s : Int)).ok = true := wput_ok h.ok 2 ((set_ok u0 u6).2 hs)
  have ox : (x.put 2 (r : Int)).ok = true := wput_ok h.ok' 2 ((set_ok (by omega) (by omega)).2 hrlt)
  have key : Alike (w.put 2 (s : Int)) (x.put 2 (r : Int)) := ⟨ow, ox, fun f hf => by
    rw [put_u, put_u]
    have cnt : ∀ g, g < 4 → x.inN (fun i => hasB (r : Int) i) g x.u.toNat = T g := fun g hg => by
      rw [inN_congr x g _ hbit, pick_in x T hT0, ab_same h hg]
      have := (inN_le w (fun i => hasB (s : Int) i) g w.u.toNat).2
      have e : T g = w.inN (fun i => hasB (s : Int) i) g w.u.toNat := by rw [hT]
      omega
    have eT : ∀ g, w.inN (fun i => hasB (s : Int) i) g w.u.toNat = T g := fun g => by rw [hT]
    rcases Nat.lt_or_ge f 4 with hf4 | hf4
    · rw [(put_fc x _ hf4 _).2, (put_fc w _ hf4 _).2, cnt f hf4, ab_same h hf4, eT]
    · obtain ⟨g, rfl⟩ : ∃ g, f = g + 4 := ⟨f - 4, by omega⟩
      rw [(put_fc x _ (by omega) _).1, (put_fc w _ (by omega) _).1, cnt g (by omega), eT]⟩
  unfold withB
  rw [key.form]
  exact hw
/-- whether there is one is the same in both. -/
theorem some_alike {w x : Wd} (h : Alike w x) (hu : x.u = w.u) {ats : List At} {c : List Int} (hf : formFault ats c = 0) : someB ats c 2 x = someB ats c 2 w := by
  have z1 : someFault ats c 2 w = 0 := some_zero.2 ⟨hf, ⟨by decide, by decide⟩, h.ok⟩
  have z2 : someFault ats c 2 x = 0 := some_zero.2 ⟨hf, ⟨by decide, by decide⟩, h.ok'⟩
  unfold someB someLow
  rw [if_pos z1, if_pos z2]
  have e2 : (2 : Int).toNat = 2 := rfl
  rw [e2]
  rcases low_spec (withB ats c 2 w) (setsN w.u) with ⟨a, b⟩ | ⟨k, a, b, d, _⟩
  · rcases low_spec (withB ats c 2 x) (setsN x.u) with ⟨a', b'⟩ | ⟨k', a', b', d', _⟩
    · rw [a, a']
    · obtain ⟨r, hr1, hr2⟩ := some_other h.symm hu.symm b' d'
      rw [b r hr1] at hr2; exact absurd hr2 (by decide)
  · rcases low_spec (withB ats c 2 x) (setsN x.u) with ⟨a', b'⟩ | ⟨k', a', b', d', _⟩
    · obtain ⟨r, hr1, hr2⟩ := some_other h hu b d
      rw [b' r hr1] at hr2; exact absurd hr2 (by decide)
    · rw [a, a']
      rw [decide_eq_true (by omega), decide_eq_true (by omega)]
end Go.Proofs.YtjaedfjfcghgcabDoor

namespace Go.Proofs.YtjaedfjfcghgcabDoor
open Go.RowKit

def facN : Nat → Int
  | 0 => 1
  | n + 1 => ((n : Int) + 1) * facN n
/-- parted by 2, by 3, and on, up to n. -/
def downN (w : Int) : Nat → Int
  | 0 => w
  | 1 => w
  | k + 2 => (downN w (k + 1)).tdiv ((k : Int) + 2)
def likeTo (N : Nat → Int) : Nat → Int
  | 0 => facN (sumN N 8).toNat
  | i + 1 => downN (likeTo N i) (N i).toNat
/-- how many worlds have so many things in each field. -/
def likeN (N : Nat → Int) : Int := likeTo N 8
def eightN : Nat → Int
  | 0 => 1
  | n + 1 => eightN n * 8
/-- the worlds of those counts that are so. -/
def sumL (p : (Nat → Int) → Bool) : List (Nat → Int) → Int
  | [] => 0
  | N :: A => (if p N = true then likeN N else 0) + sumL p A

theorem downN_range {w : Int} (h : 0 ≤ w) (k : Nat) : 0 ≤ downN w k ∧ downN w k ≤ w := by
  induction k with
  | zero => exact ⟨h, Int.le_refl _⟩
  | succ k ih =>
    cases k with
    | zero => exact ⟨h, Int.le_refl _⟩
    | succ k =>
      show 0 ≤ (downN w (k + 1)).tdiv ((k : Int) + 2) ∧ (downN w (k + 1)).tdiv ((k : Int) + 2) ≤ w
      exact ⟨Int.tdiv_nonneg ih.1 (by omega), Int.le_trans (Int.tdiv_le_self _ ih.1) ih.2⟩
theorem downN_step (w : Int) (k : Nat) : downN w (k + 2) = (downN w (k + 1)).tdiv ((k : Int) + 2) := rfl
theorem facN_range : ∀ n, n ≤ 6 → 1 ≤ facN n ∧ facN n ≤ 720 := by decide
theorem likeTo_range {N : Nat → Int} (h : countsFault N = 0) (i : Nat) : 0 ≤ likeTo N i ∧ likeTo N i ≤ 720 := by
  induction i with
  | zero =>
    have := facN_range (sumN N 8).toNat (by have := (counts_zero.1 h).2; omega)
    exact ⟨by show 0 ≤ facN _; omega, this.2⟩
  | succ i ih =>
    have := downN_range ih.1 (N i).toNat
    exact ⟨this.1, Int.le_trans this.2 ih.2⟩
theorem likeTo_same {N M : Nat → Int} (h : ∀ g, g < 8 → N g = M g) : ∀ i, i ≤ 8 → likeTo N i = likeTo M i := by
  intro i
  induction i with
  | zero =>
    intro _
    have e : ∀ k, k ≤ 8 → sumN N k = sumN M k := by
      intro k
      induction k with
      | zero => intro _; rfl
      | succ k ih => intro hk; unfold sumN; rw [ih (by omega), h k (by omega)]
    show facN _ = facN _
    rw [e 8 (by omega)]
  | succ i ih =>
    intro hi
    show downN _ _ = downN _ _
    rw [ih (by omega), h i (by omega)]
theorem likeN_same {N M : Nat → Int} (h : ∀ g, g < 8 → N g = M g) : likeN N = likeN M := likeTo_same h 8 (by omega)
theorem like_facts : ∀ u, u ≤ 6 → ((everyC u).all fun N => decide (1 ≤ likeN N)) = true ∧ sumL (fun _ => true) (everyC u) = eightN u := by decide +kernel
theorem like_pos {u : Nat} (hu : u ≤ 6) {N : Nat → Int} (h : N ∈ everyC u) : 1 ≤ likeN N := of_decide_eq_true (List.all_eq_true.1 (like_facts u hu).1 N h)
theorem eight_le : ∀ u, u ≤ 6 → eightN u ≤ 262144 := by decide
theorem sumL_take {p : (Nat → Int) → Bool} : ∀ {A : List (Nat → Int)} {k : Nat} {N : Nat → Int}, A[k]? = some N → sumL p (A.take (k + 1)) = sumL p (A.take k) + if p N = true then likeN N else 0 := by
  intro A
  induction A with
  | nil => intro k N h; simp at h
  | cons M A ih =>
    intro k N h
    cases k with
    | zero =>
      obtain rfl : M = N := by simpa using h
      simp [sumL]
    | succ k =>
      have := ih (k := k) (N := N) (by simpa using h)
      simp only [List.take_succ_cons, sumL]
      rw [this]
      omega
theorem eight_pos (u : Nat) : 1 ≤ eightN u := by
  induction u with
  | zero => exact Int.le_refl _
  | succ u ih => show 1 ≤ eightN u * 8; omega
theorem sumL_part {A : List (Nat → Int)} (hp : ∀ N ∈ A, 0 ≤ likeN N) {p : (Nat → Int) → Bool} : ∀ k, sumL p (A.take k) ≤ sumL p A := by
  induction A with
  | nil => intro k; simp
  | cons M A ih =>
    intro k
    have h1 := hp M List.mem_cons_self
    have h2 := ih fun N hN => hp N (List.mem_cons_of_mem _ hN)
    cases k with
    | zero =>
      have h3 := h2 0
      simp only [List.take_zero, sumL] at h3 ⊢
      by_cases h : p M = true
      · rw [if_pos h]; omega
      · rw [if_neg h]; omega
    | succ k =>
      have := h2 k
      simp only [List.take_succ_cons, sumL]
      omega
theorem sumL_range {A : List (Nat → Int)} (hp : ∀ N ∈ A, 1 ≤ likeN N) (p : (Nat → Int) → Bool) : 0 ≤ sumL p A ∧ sumL p A ≤ sumL (fun _ => true) A := by
  induction A with
  | nil => exact ⟨Int.le_refl _, Int.le_refl _⟩
  | cons N A ih =>
    have h1 := hp N List.mem_cons_self
    have h2 := ih fun M hM => hp M (List.mem_cons_of_mem _ hM)
    simp only [sumL, if_true]
    by_cases h : p N = true
    · rw [if_pos h]; omega
    · rw [if_neg h]; omega
theorem sumL_not {A : List (Nat → Int)} {p q : (Nat → Int) → Bool} (h : ∀ N ∈ A, q N = !p N) : sumL p A + sumL q A = sumL (fun _ => true) A := by
  induction A with
  | nil => rfl
  | cons N A ih =>
    have h1 := h N List.mem_cons_self
    have h2 := ih fun M hM => h M (List.mem_cons_of_mem _ hM)
    simp only [sumL, if_true]
    rw [h1]
    cases p N <;> simp <;> omega
theorem sumL_has {A : List (Nat → Int)} (hp : ∀ N ∈ A, 1 ≤ likeN N) {p : (Nat → Int) → Bool} {N : Nat → Int} (hN : N ∈ A) (h : p N = true) : likeN N ≤ sumL p A := by
  induction A with
  | nil => cases hN
  | cons M A ih =>
    have h1 := hp M List.mem_cons_self
    have h2 := sumL_range (fun M hM => hp M (List.mem_cons_of_mem _ hM)) p
    simp only [sumL]
    rcases List.mem_cons.1 hN with rfl | hN
    · rw [if_pos h]; omega
    · have := ih (fun M hM => hp M (List.mem_cons_of_mem _ hM)) hN
      by_cases hm : p M = true
      · rw [if_pos hm]; omega
      · rw [if_neg hm]; omega
theorem sumL_none {A : List (Nat → Int)} {p : (Nat → Int) → Bool} (h : ∀ N ∈ A, p N = false) : sumL p A = 0 := by
  induction A with
  | nil => rfl
  | cons M A ih =>
    simp only [sumL]
    rw [h M List.mem_cons_self, if_neg (by decide), ih fun N hN => h N (List.mem_cons_of_mem _ hN)]
    rfl

theorem made_same {N M : Nat → Int} (h : ∀ g, g < 8 → N g = M g) : madeN N 8 = madeN M 8 := by
  have e : ∀ k, k ≤ 8 → madeN N k = madeN M k := by
    intro k
    induction k with
    | zero => intro _; rfl
    | succ k ih => intro hk; unfold madeN; rw [ih (by omega), h k (by omega)]
  exact e 8 (by omega)

def allFault (u : Int) : Int := if 0 ≤ u ∧ u ≤ 6 then 0 else 1
def allW (u : Int) : Int := if 0 ≤ u ∧ u ≤ 6 then eightN u.toNat else 0
def likeW (w : Wd) : Int := if w.ok = true then likeN (w.fc w.u.toNat) else 0
def worldsFault (ats : List At) (c : List Int) (u : Int) : Int := if formFault ats c = 0 then allFault u else formFault ats c
def worldsN (ats : List At) (c : List Int) (u : Int) : Int := if worldsFault ats c u = 0 then sumL (fun N => (madeN N 8).formIs ats c) (everyC u.toNat) else 0
theorem worlds_zero {ats : List At} {c : List Int} {u : Int} (h : worldsFault ats c u = 0) : formFault ats c = 0 ∧ (0 ≤ u ∧ u ≤ 6) := by
  unfold worldsFault at h
  by_cases hf : formFault ats c = 0
  · rw [if_pos hf] at h
    unfold allFault at h
    by_cases hu : 0 ≤ u ∧ u ≤ 6
    · exact ⟨hf, hu⟩
    · rw [if_neg hu] at h; exact absurd h (by decide)
  · rw [if_neg hf] at h; exact absurd h hf
theorem worlds_range {ats : List At} {c : List Int} {u : Int} (h : worldsFault ats c u = 0) : 0 ≤ worldsN ats c u ∧ worldsN ats c u ≤ allW u := by
  obtain ⟨_, hu⟩ := worlds_zero h
  have hn : u.toNat ≤ 6 := by omega
  unfold worldsN allW
  rw [if_pos h, if_pos hu, ← (like_facts _ hn).2]
  exact sumL_range (fun N hN => like_pos hn hN) _
/-- where it holds and where it does not is all. -/
theorem worlds_not {ats : List At} {c : List Int} {u : Int} (h : worldsFault ats c u = 0) (hn : negFault ats c = 0) : worldsFault ats (c ++ [12]) u = 0 ∧ worldsN ats c u + worldsN ats (c ++ [12]) u = allW u := by
  obtain ⟨hf, hu⟩ := worlds_zero h
  obtain ⟨_, h19, hf'⟩ := neg_good hn
  have hn6 : u.toNat ≤ 6 := by omega
  have h' : worldsFault ats (c ++ [12]) u = 0 := by unfold worldsFault allFault; rw [if_pos hf', if_pos hu]
  refine ⟨h', ?_⟩
  unfold worldsN allW
  rw [if_pos h, if_pos h', if_pos hu, ← (like_facts _ hn6).2]
  refine sumL_not fun N hN => ?_
  exact formIs_no hf h19 (made_ok (everyC_right hn6 hN))
/-- the counts of a world are among all. -/
theorem world_counts {w : Wd} (hw : w.ok = true) {u : Int} (hu : w.u = u) : ∃ A ∈ everyC u.toNat, (∀ g, g < 8 → A g = w.fc w.u.toNat g) ∧ ∀ ats c, (madeN A 8).formIs ats c = w.formIs ats c := by
  have hcf := counts_fc hw
  have hsum : sumN (w.fc w.u.toNat) 8 = ((u.toNat : Nat) : Int) := by rw [sum_fc, hu]
  obtain ⟨A, hA, hAw⟩ := everyC_all (u := u.toNat) (fun g hg => ((counts_zero.1 hcf).1 g hg).1) hsum
  refine ⟨A, hA, hAw, fun ats c => ?_⟩
  have e := made_same (N := A) (M := w.fc w.u.toNat) hAw
  rw [e]
  exact (alike_made hw).form ats c
theorem worlds_some {ats : List At} {c : List Int} {u : Int} (h : worldsFault ats c u = 0) {w : Wd} (hw : w.ok = true) (hu : w.u = u) (hh : w.formIs ats c = true) : likeW w ≤ worldsN ats c u := by
  obtain ⟨_, hu6⟩ := worlds_zero h
  obtain ⟨A, hA, hAw, hAf⟩ := world_counts hw hu
  unfold likeW worldsN
  rw [if_pos hw, if_pos h, ← likeN_same hAw]
  exact sumL_has (fun N hN => like_pos (by omega) hN) hA (by rw [hAf]; exact hh)
theorem worlds_rest {ats : List At} {c : List Int} {u : Int} (h : worldsFault ats c u = 0) {w : Wd} (hw : w.ok = true) (hu : w.u = u) (hh : w.formIs ats c = false) : likeW w ≤ allW u - worldsN ats c u := by
  obtain ⟨_, hu6⟩ := worlds_zero h
  have hn6 : u.toNat ≤ 6 := by omega
  obtain ⟨A, hA, hAw, hAf⟩ := world_counts hw hu
  have hs := sumL_not (A := everyC u.toNat) (p := fun N => (madeN N 8).formIs ats c) (q := fun N => !(madeN N 8).formIs ats c) fun _ _ => rfl
  have hq := sumL_has (A := everyC u.toNat) (fun N hN => like_pos hn6 hN) (p := fun N => !(madeN N 8).formIs ats c) hA (by simp only [hAf, hh]; rfl)
  unfold likeW worldsN allW
  rw [if_pos hw, if_pos h, if_pos hu6, ← likeN_same hAw, ← (like_facts _ hn6).2]
  omega
theorem like_range {w : Wd} (hw : w.ok = true) {u : Int} (hu : w.u = u) (hu6 : 0 ≤ u ∧ u ≤ 6) : 1 ≤ likeW w ∧ likeW w ≤ allW u := by
  have hn6 : u.toNat ≤ 6 := by omega
  obtain ⟨A, hA, hAw, _⟩ := world_counts hw hu
  unfold likeW allW
  rw [if_pos hw, if_pos hu6, ← likeN_same hAw, ← (like_facts _ hn6).2]
  exact ⟨like_pos hn6 hA, sumL_has (fun N hN => like_pos hn6 hN) hA rfl⟩
/-- there is one just if there is a model. -/
theorem worlds_model {ats : List At} {c : List Int} {u : Int} (h : worldsFault ats c u = 0) : (modelFault ats c u = 0 → ¬ worldsN ats c u = 0) ∧ (modelFault ats c u = 5 → worldsN ats c u = 0) := by
  obtain ⟨hf, hu6⟩ := worlds_zero h
  refine ⟨fun hm => ?_, fun hm => ?_⟩
  · obtain ⟨_, g2, g3, g4⟩ := model_zero hm
    have h1 := worlds_some h g2 g3 g4
    have h2 := (like_range g2 g3 hu6).1
    omega
  · unfold worldsN
    rw [if_pos h]
    refine sumL_none fun N hN => ?_
    have hc := everyC_right (by omega) hN
    exact model_five hm hf (made_ok hc) (by rw [made_u hc, (everyC_sum hN).2]; omega)
end Go.Proofs.YtjaedfjfcghgcabDoor
