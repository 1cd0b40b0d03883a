/-
  A row of numbers, and of atoms, that a call makes: where it lies, and what it reads as (facts that the contracts of chapter 16 lean on).
-/
import Derived.Test.YteknlcachfhfkaiDoorTermWork
import Derived.Test.YteknlcachfhfkaiDoorFormCheck
import Derived.Deep.Onto
namespace Go.Proofs.YteknlcachfhfkaiDoor
open Go.ChangeShapes Go.WideShapes Go.ChangeAt Go.RowKit
set_option maxRecDepth 100000

def FreshT (K : Nat) (w : World) (v : Value) (t : List Int) : Prop := w.ownsRow K 3 1 v t.length (t.map (Value.int .i64))
theorem FreshT.reads {K : Nat} {w : World} {v : Value} {t : List Int} (h : FreshT K w v t) : Reads w v t := by
  rcases h.2 with ⟨rfl, h0⟩ | ⟨g, cap, cur, rfl, hg, hh, hn, hm, _, _⟩
  · exact Or.inl ⟨none, 0, rfl, List.eq_nil_of_length_eq_zero h0⟩
  · rcases Nat.eq_zero_or_pos t.length with h0 | h0
    · refine Or.inl ⟨some ⟨g, 0, none⟩, cap, by rw [h0], List.eq_nil_of_length_eq_zero h0⟩
    · refine Or.inr ⟨g, 0, cap, rfl, (Array.getElem?_eq_some_iff.1 hh).1, h0, ⟨by unfold maxLen at hm; omega, hn⟩, fun k hk => ?_⟩
      rw [Nat.zero_add]; exact ownsRow_int h hk
theorem FreshT.below {K : Nat} {w w' : World} {v : Value} {t : List Int} (h : FreshT K w v t) (hb : Below w.heap.size w w') : FreshT K w' v t := ownsRow_below h hb

theorem infoAT : (Tryd.prog.info? 44).map (fun i => (i.zero, i.size, i.bytes)) = some (some (.agg #[.int .i64 0, .slice none 0 0, .slice none 0 0, .int .i64 0]), 4, 64) := by kernel_rfl

/-- four cells that are an atom, whose rows lie in K or behind. -/
def AtomT (K : Nat) (w : World) (xs : List Value) (i : Nat) (a : At) : Prop :=
  ∃ vs vt, xs[i * 4]? = some (.int .i64 a.k) ∧ xs[i * 4 + 1]? = some vs ∧ xs[i * 4 + 2]? = some vt ∧ xs[i * 4 + 3]? = some (.int .i64 a.n) ∧ FreshT K w vs a.s ∧ FreshT K w vt a.t
theorem AtomT.below {K : Nat} {w w' : World} {xs : List Value} {i : Nat} {a : At} (h : AtomT K w xs i a) (hb : Below w.heap.size w w') : AtomT K w' xs i a := by
  obtain ⟨vs, vt, h1, h2, h3, h4, h5, h6⟩ := h
  exact ⟨vs, vt, h1, h2, h3, h4, h5.below hb, h6.below hb⟩
theorem AtomT.mono {K K' : Nat} {w : World} {xs : List Value} {i : Nat} {a : At} (h : AtomT K w xs i a) (hK : K' ≤ K) : AtomT K' w xs i a := by
  obtain ⟨vs, vt, h1, h2, h3, h4, h5, h6⟩ := h
  exact ⟨vs, vt, h1, h2, h3, h4, World.ownsRow.mono h5 hK, World.ownsRow.mono h6 hK⟩
/-- what lies behind a place is as it was when that place is written. -/
theorem FreshT.set {K G j : Nat} {w : World} {v u : Value} {t : List Int} (h : FreshT K w v t) (hG : G < K) : FreshT K (w.setCell ⟨G, j, none⟩ u) v t := by
  obtain ⟨h1, h2⟩ := h
  refine ⟨h1, ?_⟩
  rcases h2 with h2 | ⟨g, cap, cur, hv, hg, hh, r⟩
  · exact .inl h2
  · refine .inr ⟨g, cap, cur, hv, hg, ?_, r⟩
    rw [RowKit.Below.heap_setCell _ _ _ _ (by simp; omega)]; exact hh
theorem AtomT.set {K G j : Nat} {w : World} {xs : List Value} {i : Nat} {a : At} (h : AtomT K w xs i a) (hG : G < K) (u : Value) : AtomT K (w.setCell ⟨G, j, none⟩ u) xs i a := by
  obtain ⟨vs, vt, h1, h2, h3, h4, h5, h6⟩ := h
  exact ⟨vs, vt, h1, h2, h3, h4, h5.set hG, h6.set hG⟩
theorem freshT_slice {K : Nat} {w : World} {v : Value} {t : List Int} (h : FreshT K w v t) : ∃ o c, v = .slice o t.length c := by
  rcases h.2 with ⟨rfl, h0⟩ | ⟨g, cap, cur, rfl, _⟩
  · exact ⟨none, 0, by rw [h0]⟩
  · exact ⟨_, cap, rfl⟩
/-- the row of atoms, as far as it is filled. -/
def FillT (G : Nat) (w : World) (ats : List At) (m k : Nat) : Prop :=
  ∃ xs, w.ownsRow G 44 4 (.slice (some ⟨G, 0, none⟩) m m) m xs ∧ ∀ i a, i < k → ats[i]? = some a → AtomT (G + 1) w xs i a
theorem FillT.below {G : Nat} {w w' : World} {ats : List At} {m k : Nat} (h : FillT G w ats m k) (hb : Below w.heap.size w w') : FillT G w' ats m k := by
  obtain ⟨xs, h1, h2⟩ := h
  exact ⟨xs, ownsRow_below h1 hb, fun i a hi ha => (h2 i a hi ha).below hb⟩
/-- one atom more. -/
theorem FillT.set {G : Nat} {w : World} {ats : List At} {m k : Nat} (h : FillT G w ats m k) {a : At} (ha : ats[k]? = some a) (hk : k < m) {vs vt : Value} (hs : FreshT (G + 1) w vs a.s) (ht : FreshT (G + 1) w vt a.t) :
    FillT G ((((w.setCell ⟨G, k * 4, none⟩ (.int .i64 a.k)).setCell ⟨G, k * 4 + 1, none⟩ vs).setCell ⟨G, k * 4 + 2, none⟩ vt).setCell ⟨G, k * 4 + 3, none⟩ (.int .i64 a.n)) ats m (k + 1) := by
  obtain ⟨xs, h1, h2⟩ := h
  have hl : xs.length = m * 4 := h1.1
  have g1 := (h1.stored (k * 4) (.int .i64 a.k)).1
  have g2 := (g1.stored (k * 4 + 1) vs).1
  have g3 := (g2.stored (k * 4 + 2) vt).1
  have g4 := (g3.stored (k * 4 + 3) (.int .i64 a.n)).1
  refine ⟨_, g4, fun i b hi hb => ?_⟩
  have hG : G < G + 1 := by omega
  by_cases hik : i = k
  · subst hik
    obtain rfl := Option.some.inj (ha.symm.trans hb)
    refine ⟨vs, vt, ?_, ?_, ?_, ?_, (((hs.set hG).set hG).set hG).set hG, (((ht.set hG).set hG).set hG).set hG⟩
    · rw [List.getElem?_set_ne (by omega), List.getElem?_set_ne (by omega), List.getElem?_set_ne (by omega), List.getElem?_set_self (by omega)]
    · rw [List.getElem?_set_ne (by omega), List.getElem?_set_ne (by omega), List.getElem?_set_self (by simp; omega)]
    · rw [List.getElem?_set_ne (by omega), List.getElem?_set_self (by simp; omega)]
    · rw [List.getElem?_set_self (by simp; omega)]
  · obtain ⟨us, ut, e1, e2, e3, e4, f1, f2⟩ := h2 i b (by omega) hb
    refine ⟨us, ut, ?_, ?_, ?_, ?_, (((f1.set hG).set hG).set hG).set hG, (((f2.set hG).set hG).set hG).set hG⟩
    · rw [List.getElem?_set_ne (by omega), List.getElem?_set_ne (by omega), List.getElem?_set_ne (by omega), List.getElem?_set_ne (by omega)]; exact e1
    · rw [List.getElem?_set_ne (by omega), List.getElem?_set_ne (by omega), List.getElem?_set_ne (by omega), List.getElem?_set_ne (by omega)]; exact e2
    · rw [List.getElem?_set_ne (by omega), List.getElem?_set_ne (by omega), List.getElem?_set_ne (by omega), List.getElem?_set_ne (by omega)]; exact e3
    · rw [List.getElem?_set_ne (by omega), List.getElem?_set_ne (by omega), List.getElem?_set_ne (by omega), List.getElem?_set_ne (by omega)]; exact e4
/-- its cells are there, and may be written. -/
theorem FillT.there {G : Nat} {w : World} {ats : List At} {m k : Nat} (h : FillT G w ats m k) (hk : k < m) :
    ∃ z0 z1 z2 z3, (w.cell? ⟨G, k * 4, none⟩ = some z0 ∧ w.cell? ⟨G, k * 4 + 1, none⟩ = some z1 ∧ w.cell? ⟨G, k * 4 + 2, none⟩ = some z2 ∧ w.cell? ⟨G, k * 4 + 3, none⟩ = some z3) ∧ (w.frozen? ⟨G, k * 4, none⟩ = false ∧ w.frozen? ⟨G, k * 4 + 1, none⟩ = false ∧ w.frozen? ⟨G, k * 4 + 2, none⟩ = false ∧ w.frozen? ⟨G, k * 4 + 3, none⟩ = false) := by
  obtain ⟨xs, h1, _⟩ := h
  have hl : xs.length = m * 4 := h1.1
  have e : ∀ j, j < m * 4 → ∃ z, w.cell? ⟨G, j, none⟩ = some z := fun j hj => ⟨xs[j]'(by omega), by rw [h1.cellAt j hj, List.getElem?_eq_getElem]⟩
  obtain ⟨z0, e0⟩ := e (k * 4) (by omega)
  obtain ⟨z1, e1⟩ := e (k * 4 + 1) (by omega)
  obtain ⟨z2, e2⟩ := e (k * 4 + 2) (by omega)
  obtain ⟨z3, e3⟩ := e (k * 4 + 3) (by omega)
  exact ⟨z0, z1, z2, z3, ⟨e0, e1, e2, e3⟩, h1.frozenAt _, h1.frozenAt _, h1.frozenAt _, h1.frozenAt _⟩

theorem set4_farT {w : World} {G B o0 o1 o2 o3 j : Nat} {u0 u1 u2 u3 : Value} (h : G ≠ B) : ((((w.setCell ⟨G, o0, none⟩ u0).setCell ⟨G, o1, none⟩ u1).setCell ⟨G, o2, none⟩ u2).setCell ⟨G, o3, none⟩ u3).cell? ⟨B, j, none⟩ = w.cell? ⟨B, j, none⟩ := by
  have e : ∀ (W : World) (o : Nat) (u : Value), (W.setCell ⟨G, o, none⟩ u).cell? ⟨B, j, none⟩ = W.cell? ⟨B, j, none⟩ := fun W o u => by
    apply World.cell?_setCell_other
    intro e
    injection e with e1
    exact h e1
  rw [e, e, e, e]

/-- a full row of atoms reads as they do. -/
theorem FillT.reads {G : Nat} {w : World} {ats : List At} (h : FillT G w ats ats.length ats.length) (h0 : 0 < ats.length) (h6 : ats.length ≤ 40) : ReadsA w (.slice (some ⟨G, 0, none⟩) ats.length ats.length) ats := by
  obtain ⟨xs, h1, h2⟩ := h
  refine Or.inr ⟨G, 0, ats.length, rfl, (ownsRow_block h1).2.1, h0, ⟨by omega, Nat.le_refl _⟩, fun i a ha => ?_⟩
  have hi : i < ats.length := (List.getElem?_eq_some_iff.1 ha).1
  obtain ⟨vs, vt, e1, e2, e3, e4, f1, f2⟩ := h2 i a hi ha
  rw [Nat.zero_add]
  exact ⟨vs, vt, by rw [h1.cellAt _ (by omega)]; exact e1, by rw [h1.cellAt _ (by omega)]; exact e2, by rw [h1.cellAt _ (by omega)]; exact e3, by rw [h1.cellAt _ (by omega)]; exact e4, f1.reads, f2.reads⟩
end Go.Proofs.YteknlcachfhfkaiDoor
