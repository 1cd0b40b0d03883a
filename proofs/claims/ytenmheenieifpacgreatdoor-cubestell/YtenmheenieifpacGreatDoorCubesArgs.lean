/-
  Proved: what rows of rows of numbers are, as an argument of a statement. (What the statements' frames lean on.)
-/
import Derived.Test.YtenmheenieifpacGreatDoorFormArgs
import Derived.Test.YtenmheenieifpacGreatDoorCubesRows
namespace Go.Proofs.YtenmheenieifpacGreatDoor
open Go.ChangeShapes Go.WideShapes Go.ChangeAt Go.RowKit Go.WideMaps Go.WideElems
set_option maxRecDepth 100000

theorem rows_of {w : World} (b off : Nat) (n : Nat) (h : ∀ i, i < n → ∃ t u, w.cell? ⟨b, off + i, none⟩ = some u ∧ Reads w u t) : ∃ L : List (List Int), L.length = n ∧ ∀ i t, L[i]? = some t → ∃ u, w.cell? ⟨b, off + i, none⟩ = some u ∧ Reads w u t := by
  induction n with
  | zero => exact ⟨[], rfl, fun i a h => by simp at h⟩
  | succ n ih =>
    obtain ⟨ats, hl, ha⟩ := ih (fun i hi => h i (by omega))
    obtain ⟨t, u, haa⟩ := h n (by omega)
    refine ⟨ats ++ [t], by simp [hl], fun i x hx => ?_⟩
    rcases Nat.lt_or_ge i n with hi | hi
    · rw [List.getElem?_append_left (by omega)] at hx; exact ha i x hx
    · rw [List.getElem?_append_right (by omega), hl] at hx
      obtain rfl : i = n := by
        have := (List.getElem?_eq_some_iff.1 hx).1
        simp at this; omega
      simp at hx
      subst hx
      exact ⟨u, haa⟩
theorem lists_trod {H : Type} {enc : TypeId × Value → H} {W : World} {fuel : Nat} {cs : List Value} {x : DataW H × List MemPlace} (h : DataW.trod enc Tryz.prog W 0 (fun _ => true) true fuel 26 cs = some x) :
    ∃ v L, cs = [v] ∧ RS2 (fun _ => True) W v L := by
  rcases Go.Deep.open_slice Tryz.underlying26 h with ⟨hcs, _⟩ | ⟨a, len, cap, m, n, D, Pl, hcs, _, hl, hm, hmm, _, hx⟩
  · exact ⟨_, [], hcs, Or.inl ⟨none, 0, rfl, rfl⟩⟩
  · rw [if_pos rfl] at hmm
    rcases Nat.eq_zero_or_pos len with h0 | h0
    · subst h0; exact ⟨_, [], hcs, Or.inl ⟨_, _, rfl, rfl⟩⟩
    · obtain ⟨b, off, spot⟩ := a
      have cell : ∀ i, i < m → ∃ cs', DataW.trod enc Tryz.prog W 0 (fun _ => true) true n 23 cs' = some (D i, Pl i) ∧ ∀ j, j < 1 → W.cell? ((Addr.add ⟨b, off, spot⟩ (i * 1)).add j) = cs'[j]? := by
        intro i hi
        obtain ⟨cs', h1, h2⟩ := hx i hi
        rw [cellsInts] at h1
        exact ⟨cs', h2, (World.cells?_some h1).2.2⟩
      have hspot : spot = none := by
        obtain ⟨cs', h2, hc⟩ := cell 0 (by omega)
        obtain ⟨v, t, rfl, _⟩ := reads_trod h2
        have := hc 0 (by omega)
        simpa [Addr.add] using World.cell?_spot this
      subst hspot
      obtain ⟨L, hlen, has⟩ := rows_of (w := W) b off len (fun i hi => by
        obtain ⟨cs', h2, hc⟩ := cell i (by omega)
        obtain ⟨v, t, rfl, r1⟩ := reads_trod h2
        refine ⟨t, v, ?_, r1⟩
        have := hc 0 (by omega)
        rw [Go.WideShapes.add_plain, Go.WideShapes.add_plain] at this
        simpa using this)
      unfold maxLen at hm
      refine ⟨_, L, hcs, Or.inr ⟨b, off, cap, by rw [hlen], ⟨trivial, ?_⟩, by omega, ⟨by omega, by omega⟩, fun k t hk => ?_⟩⟩
      · obtain ⟨u, h1, _⟩ := has 0 (L[0]'(by omega)) (List.getElem?_eq_getElem _)
        exact World.block_lt_of_cell? W ⟨b, off + 0, none⟩ h1
      · obtain ⟨u, h1, h2⟩ := has k t hk
        exact ⟨u, h1, h2.rs (fun _ _ => trivial)⟩
theorem lists_arg {H : Type} {enc : TypeId × Value → H} {W : World} {v : Value} {d : DataW H} {p : List MemPlace} {r : Reach} {b0 : Nat} (hv : Value.okWide Tryz.prog W r b0 26 v) (h : DataW.Trod enc Tryz.prog W 0 (fun _ => true) true 26 v d p) :
    ∃ L, RS2 (fun _ => True) W v L := by
  obtain ⟨a0, len, cap, rfl⟩ := okWide_slice Tryz.underlying26 hv
  obtain ⟨fuel, hf⟩ := h
  obtain ⟨v, L, e, hr⟩ := lists_trod hf
  simp [Value.cells] at e
  subst e
  exact ⟨L, hr⟩
end Go.Proofs.YtenmheenieifpacGreatDoor
