/-
  Plain facts on memory while an atom is read: the atom's own place and the three errors' place, behind a call and behind a store. (What the walk of atom.Parse leans on.)
-/
import Derived.Test.YtenmheenieifpabGreatDoorAtomSplit
import Derived.Laws.World
namespace Go.Proofs.YtenmheenieifpabGreatDoor
open Go.ChangeShapes Go.WideShapes Go.ChangeAt Go.RowKit
set_option maxRecDepth 100000

/-- the atom lies at A, the errors at A + 1, and both may be written. -/
def PS (W : World) (A : Nat) (k vS vT n e0 e1 e2 : Value) : Prop :=
  (W.cell? ⟨A, 0, none⟩ = some k ∧ W.cell? ⟨A, 1, none⟩ = some vS ∧ W.cell? ⟨A, 2, none⟩ = some vT ∧ W.cell? ⟨A, 3, none⟩ = some n) ∧ (W.cell? ⟨A + 1, 0, none⟩ = some e0 ∧ W.cell? ⟨A + 1, 1, none⟩ = some e1 ∧ W.cell? ⟨A + 1, 2, none⟩ = some e2) ∧ (∀ j, W.frozen? ⟨A, j, none⟩ = false) ∧ (∀ j, W.frozen? ⟨A + 1, j, none⟩ = false) ∧ A + 1 < W.heap.size
theorem PS.below {W W' : World} {A : Nat} {k vS vT n e0 e1 e2 : Value} (h : PS W A k vS vT n e0 e1 e2) (hb : Below W.heap.size W W') : PS W' A k vS vT n e0 e1 e2 := by
  obtain ⟨⟨a0, a1, a2, a3⟩, ⟨b0, b1, b2⟩, f0, f1, hl⟩ := h
  have h0 : A < W.heap.size := by omega
  exact ⟨⟨(hb.cell h0).trans a0, (hb.cell h0).trans a1, (hb.cell h0).trans a2, (hb.cell h0).trans a3⟩, ⟨(hb.cell hl).trans b0, (hb.cell hl).trans b1, (hb.cell hl).trans b2⟩, fun j => (hb.frozen h0).trans (f0 j), fun j => (hb.frozen hl).trans (f1 j), Nat.lt_of_lt_of_le hl hb.size⟩
theorem set_far {W : World} {p q : Addr} {v : Value} (h : p ≠ q) : (W.setCell p v).cell? q = W.cell? q := by apply World.cell?_setCell_other; exact h
theorem set_same {W : World} {p : Addr} {u v : Value} (h : W.cell? p = some u) : (W.setCell p v).cell? p = some v := by apply World.cell?_setCell_same; exact h
theorem ne_off {A i j : Nat} (h : i ≠ j) : (⟨A, i, none⟩ : Addr) ≠ ⟨A, j, none⟩ := fun e => h (by injection e)
theorem ne_blk {A B i j : Nat} (h : A ≠ B) : (⟨A, i, none⟩ : Addr) ≠ ⟨B, j, none⟩ := fun e => h (by injection e)
theorem PS.storeS {W : World} {A : Nat} {k vS vT n e0 e1 e2 : Value} (h : PS W A k vS vT n e0 e1 e2) (v e : Value) : PS ((W.setCell ⟨A, 1, none⟩ v).setCell ⟨A + 1, 0, none⟩ e) A k v vT n e e1 e2 := by
  obtain ⟨⟨a0, a1, a2, a3⟩, ⟨b0, b1, b2⟩, f0, f1, hl⟩ := h
  have n1 : A + 1 ≠ A := by omega
  refine ⟨⟨?_, ?_, ?_, ?_⟩, ⟨?_, ?_, ?_⟩, fun j => by simp [f0 j], fun j => by simp [f1 j], by simpa using hl⟩
  · rw [set_far (ne_blk n1), set_far (ne_off (by decide))]; exact a0
  · rw [set_far (ne_blk n1)]; exact set_same a1
  · rw [set_far (ne_blk n1), set_far (ne_off (by decide))]; exact a2
  · rw [set_far (ne_blk n1), set_far (ne_off (by decide))]; exact a3
  · exact set_same ((set_far (ne_blk n1.symm)).trans b0)
  · rw [set_far (ne_off (by decide)), set_far (ne_blk n1.symm)]; exact b1
  · rw [set_far (ne_off (by decide)), set_far (ne_blk n1.symm)]; exact b2
theorem PS.storeT {W : World} {A : Nat} {k vS vT n e0 e1 e2 : Value} (h : PS W A k vS vT n e0 e1 e2) (v e : Value) : PS ((W.setCell ⟨A, 2, none⟩ v).setCell ⟨A + 1, 1, none⟩ e) A k vS v n e0 e e2 := by
  obtain ⟨⟨a0, a1, a2, a3⟩, ⟨b0, b1, b2⟩, f0, f1, hl⟩ := h
  have n1 : A + 1 ≠ A := by omega
  refine ⟨⟨?_, ?_, ?_, ?_⟩, ⟨?_, ?_, ?_⟩, fun j => by simp [f0 j], fun j => by simp [f1 j], by simpa using hl⟩
  · rw [set_far (ne_blk n1), set_far (ne_off (by decide))]; exact a0
  · rw [set_far (ne_blk n1), set_far (ne_off (by decide))]; exact a1
  · rw [set_far (ne_blk n1)]; exact set_same a2
  · rw [set_far (ne_blk n1), set_far (ne_off (by decide))]; exact a3
  · rw [set_far (ne_off (by decide)), set_far (ne_blk n1.symm)]; exact b0
  · exact set_same ((set_far (ne_blk n1.symm)).trans b1)
  · rw [set_far (ne_off (by decide)), set_far (ne_blk n1.symm)]; exact b2
theorem PS.storeN {W : World} {A : Nat} {k vS vT n e0 e1 e2 : Value} (h : PS W A k vS vT n e0 e1 e2) (v e : Value) : PS ((W.setCell ⟨A, 3, none⟩ v).setCell ⟨A + 1, 2, none⟩ e) A k vS vT v e0 e1 e := by
  obtain ⟨⟨a0, a1, a2, a3⟩, ⟨b0, b1, b2⟩, f0, f1, hl⟩ := h
  have n1 : A + 1 ≠ A := by omega
  refine ⟨⟨?_, ?_, ?_, ?_⟩, ⟨?_, ?_, ?_⟩, fun j => by simp [f0 j], fun j => by simp [f1 j], by simpa using hl⟩
  · rw [set_far (ne_blk n1), set_far (ne_off (by decide))]; exact a0
  · rw [set_far (ne_blk n1), set_far (ne_off (by decide))]; exact a1
  · rw [set_far (ne_blk n1), set_far (ne_off (by decide))]; exact a2
  · rw [set_far (ne_blk n1)]; exact set_same a3
  · rw [set_far (ne_off (by decide)), set_far (ne_blk n1.symm)]; exact b0
  · rw [set_far (ne_off (by decide)), set_far (ne_blk n1.symm)]; exact b1
  · exact set_same ((set_far (ne_blk n1.symm)).trans b2)
/-- the two places as they are made. -/
theorem ps_alloc (W : World) (k : Value) (ta te : TypeId) : PS ((W.alloc (.cells #[k, .slice none 0 0, .slice none 0 0, .int .i64 0] ta)).alloc (.cells #[.nilIface, .nilIface, .nilIface] te)) W.heap.size k (.slice none 0 0) (.slice none 0 0) (.int .i64 0) .nilIface .nilIface .nilIface := by
  have h : ∀ j, ((W.alloc (.cells #[k, .slice none 0 0, .slice none 0 0, .int .i64 0] ta)).alloc (.cells #[.nilIface, .nilIface, .nilIface] te)).cell? ⟨W.heap.size, j, none⟩ = (W.alloc (.cells #[k, .slice none 0 0, .slice none 0 0, .int .i64 0] ta)).cell? ⟨W.heap.size, j, none⟩ := fun j => World.cell?_alloc_lt _ _ ⟨W.heap.size, j, none⟩ (by simp)
  have e : W.heap.size + 1 = (W.alloc (.cells #[k, .slice none 0 0, .slice none 0 0, .int .i64 0] ta)).heap.size := by simp
  refine ⟨⟨?_, ?_, ?_, ?_⟩, ⟨?_, ?_, ?_⟩, fun j => ?_, fun j => ?_, by simp⟩
  · rw [h]; simp
  · rw [h]; simp
  · rw [h]; simp
  · rw [h]; simp
  · rw [e]; simp
  · rw [e]; simp
  · rw [e]; simp
  · rw [World.frozen?_alloc_old _ _ ⟨W.heap.size, j, none⟩ (by simp)]; simp
  · rw [e]; simp
/-- a row in another block reads as it did behind a store. -/
theorem Reads.store {W : World} {g c : Nat} {t : List Int} {p : Addr} {v : Value} (h : Reads W (.slice (some ⟨g, 0, none⟩) c c) t) (hp : p.block ≠ g) : Reads (W.setCell p v) (.slice (some ⟨g, 0, none⟩) c c) t := by
  rcases h with ⟨ao, cap, e, ht⟩ | ⟨b, off, cap, e, h2, h3, h4, h5⟩
  · exact Or.inl ⟨ao, cap, e, ht⟩
  · have eb : b = g := by injection e with e1 _ _; injection e1 with e2; injection e2 with e3; exact e3.symm
    refine Or.inr ⟨b, off, cap, e, by simpa using h2, h3, h4, fun k hk => ?_⟩
    rw [set_far (fun e' => hp (by rw [e', eb]))]
    exact h5 k hk
end Go.Proofs.YtenmheenieifpabGreatDoor
