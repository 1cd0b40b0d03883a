/-
  Rows of rows of numbers in memory, and which blocks they lie in: what they read as stays where these blocks stay (facts that the contracts on cubes lean on).
-/
import Derived.Test.YtenmheenieifpacGreatDoorTermCheck
import Derived.OwnWalk
import Derived.Laws.OwnMore
import Derived.Laws.AppendOwn
namespace Go.Proofs.YtenmheenieifpacGreatDoor
open Go.ChangeShapes Go.WideShapes Go.ChangeAt Go.RowKit
set_option maxRecDepth 100000

/-- blocks of S stay as they were. -/
def Kept (S : Nat → Prop) (w w' : World) : Prop := w.heap.size ≤ w'.heap.size ∧ ∀ b, S b → b < w.heap.size → w'.heap[b]? = w.heap[b]?
theorem Kept.of_below {S : Nat → Prop} {w w' : World} (h : Below w.heap.size w w') : Kept S w w' := ⟨h.size, fun b _ hb => h.block b hb⟩
theorem Kept.of_belowK {S : Nat → Prop} {w w' : World} {K : Nat} (h : Below K w w') (hS : ∀ b, S b → b < w.heap.size → b < K) : Kept S w w' := ⟨h.size, fun b h1 h2 => h.block b (hS b h1 h2)⟩
theorem Kept.of_grown {S : Nat → Prop} {w w' : World} {r : Option Nat} (h : w.grownBy w' r) (hS : ∀ b, S b → some b ≠ r) : Kept S w w' := ⟨h.size, fun b h1 h2 => h.block b h2 (hS b h1)⟩
/-- the slice v reads, in the world w, as the numbers t, and lies in a block of S. -/
def RS (S : Nat → Prop) (w : World) (v : Value) (t : List Int) : Prop :=
  (∃ ao cap, v = .slice ao 0 cap ∧ t = []) ∨ (∃ b off cap, v = .slice (some ⟨b, off, none⟩) t.length cap ∧ (S b ∧ b < w.heap.size) ∧ 0 < t.length ∧ (t.length ≤ 9223372036854775807 ∧ t.length ≤ cap) ∧ ∀ k, k < t.length → w.cell? ⟨b, off + k, none⟩ = some (.int .i64 (t.getD k 0)))
theorem RS.reads {S : Nat → Prop} {w : World} {v : Value} {t : List Int} (h : RS S w v t) : Reads w v t := by
  rcases h with h | ⟨b, off, cap, h1, h2, h3, h4, h5⟩
  · exact Or.inl h
  · exact Or.inr ⟨b, off, cap, h1, h2.2, h3, h4, h5⟩
theorem Reads.rs {S : Nat → Prop} {w : World} {v : Value} {t : List Int} (h : Reads w v t) (hS : ∀ b, b < w.heap.size → S b) : RS S w v t := by
  rcases h with h | ⟨b, off, cap, h1, h2, h3, h4, h5⟩
  · exact Or.inl h
  · exact Or.inr ⟨b, off, cap, h1, ⟨hS b h2, h2⟩, h3, h4, h5⟩
theorem RS.mono {S T : Nat → Prop} {w : World} {v : Value} {t : List Int} (h : RS S w v t) (hS : ∀ b, b < w.heap.size → S b → T b) : RS T w v t := by
  rcases h with h | ⟨b, off, cap, h1, h2, h3, h4, h5⟩
  · exact Or.inl h
  · exact Or.inr ⟨b, off, cap, h1, ⟨hS b h2.2 h2.1, h2.2⟩, h3, h4, h5⟩
theorem RS.kept {S : Nat → Prop} {w w' : World} {v : Value} {t : List Int} (h : RS S w v t) (hk : Kept S w w') : RS S w' v t := by
  rcases h with h | ⟨b, off, cap, h1, h2, h3, h4, h5⟩
  · exact Or.inl h
  · exact Or.inr ⟨b, off, cap, h1, ⟨h2.1, Nat.lt_of_lt_of_le h2.2 hk.1⟩, h3, h4, fun k hk' => by rw [World.cell?_of_block (w := w) (hk.2 b h2.1 h2.2)]; exact h5 k hk'⟩
theorem RS.slice {S : Nat → Prop} {w : World} {v : Value} {t : List Int} (h : RS S w v t) : ∃ ao cap, v = .slice ao t.length cap ∧ t.length ≤ 9223372036854775807 := by
  rcases h with ⟨ao, cap, rfl, rfl⟩ | ⟨b, off, cap, rfl, _, _, h, _⟩
  · exact ⟨ao, cap, rfl, by decide⟩
  · exact ⟨_, cap, rfl, h.1⟩
theorem RS.one {S : Nat → Prop} {w : World} {v : Value} {t : List Int} (h : RS S w v t) : v.oneCell' = true := by
  obtain ⟨_, _, rfl, _⟩ := h.slice; rfl
/-- the slice v reads as these rows of numbers; it and they lie in blocks of S. -/
def RS2 (S : Nat → Prop) (w : World) (v : Value) (L : List (List Int)) : Prop :=
  (∃ ao cap, v = .slice ao 0 cap ∧ L = []) ∨ (∃ b off cap, v = .slice (some ⟨b, off, none⟩) L.length cap ∧ (S b ∧ b < w.heap.size) ∧ 0 < L.length ∧ (L.length ≤ 9223372036854775807 ∧ L.length ≤ cap) ∧ ∀ k t, L[k]? = some t → ∃ u, w.cell? ⟨b, off + k, none⟩ = some u ∧ RS S w u t)
theorem RS2.mono {S T : Nat → Prop} {w : World} {v : Value} {L : List (List Int)} (h : RS2 S w v L) (hS : ∀ b, b < w.heap.size → S b → T b) : RS2 T w v L := by
  rcases h with h | ⟨b, off, cap, h1, h2, h3, h4, h5⟩
  · exact Or.inl h
  · refine Or.inr ⟨b, off, cap, h1, ⟨hS b h2.2 h2.1, h2.2⟩, h3, h4, fun k t hk => ?_⟩
    obtain ⟨u, hu, hr⟩ := h5 k t hk
    exact ⟨u, hu, hr.mono hS⟩
theorem RS2.kept {S : Nat → Prop} {w w' : World} {v : Value} {L : List (List Int)} (h : RS2 S w v L) (hk : Kept S w w') : RS2 S w' v L := by
  rcases h with h | ⟨b, off, cap, h1, h2, h3, h4, h5⟩
  · exact Or.inl h
  · refine Or.inr ⟨b, off, cap, h1, ⟨h2.1, Nat.lt_of_lt_of_le h2.2 hk.1⟩, h3, h4, fun k t hkt => ?_⟩
    obtain ⟨u, hu, hr⟩ := h5 k t hkt
    exact ⟨u, by rw [World.cell?_of_block (w := w) (hk.2 b h2.1 h2.2)]; exact hu, hr.kept hk⟩
theorem RS2.slice {S : Nat → Prop} {w : World} {v : Value} {L : List (List Int)} (h : RS2 S w v L) : ∃ ao cap, v = .slice ao L.length cap ∧ L.length ≤ 9223372036854775807 := by
  rcases h with ⟨ao, cap, rfl, rfl⟩ | ⟨b, off, cap, rfl, _, _, h, _⟩
  · exact ⟨ao, cap, rfl, by decide⟩
  · exact ⟨_, cap, rfl, h.1⟩
theorem RS2.one {S : Nat → Prop} {w : World} {v : Value} {L : List (List Int)} (h : RS2 S w v L) : v.oneCell' = true := by
  obtain ⟨_, _, rfl, _⟩ := h.slice; rfl
/-- a row of rows that is the call's own, behind K; its rows lie elsewhere. -/
def Own2 (S : Nat → Prop) (K : Nat) (w : World) (v : Value) (L : List (List Int)) : Prop :=
  ∃ xs : List Value, w.ownsRow K 23 1 v L.length xs ∧ ∀ (k : Nat) t, L[k]? = some t → ∃ u, xs[k]? = some u ∧ RS (fun b => (S b ∨ K ≤ b) ∧ some b ≠ v.ownBlock) w u t
theorem Own2.nil (S : Nat → Prop) (K : Nat) (w : World) : Own2 S K w (.slice none 0 0) [] := ⟨[], World.ownsRow_nil _ _ _ _, fun k t h => (by simp at h)⟩
theorem ownsRow_same {w w' : World} {base : Nat} {e : TypeId} {size : Nat} {v : Value} {n : Nat} {xs : List Value} (h : w.ownsRow base e size v n xs) (hb : ∀ b, b < w.heap.size → w'.heap[b]? = w.heap[b]?) : w'.ownsRow base e size v n xs := by
  refine ⟨h.1, ?_⟩
  rcases h.2 with hn | ⟨g, cap, cur, rfl, hg, hh, rest⟩
  · exact .inl hn
  · exact .inr ⟨g, cap, cur, rfl, hg, by rw [hb g (Array.getElem?_eq_some_iff.1 hh).1]; exact hh, rest⟩
theorem Own2.below {S : Nat → Prop} {K : Nat} {w w' : World} {v : Value} {L : List (List Int)} (h : Own2 S K w v L) (hb : Below w.heap.size w w') : Own2 S K w' v L := by
  obtain ⟨xs, h1, h2⟩ := h
  refine ⟨xs, ownsRow_same h1 hb.block, fun k t hk => ?_⟩
  obtain ⟨u, hu, hr⟩ := h2 k t hk
  exact ⟨u, hu, hr.kept (Kept.of_below hb)⟩
theorem Own2.push {S : Nat → Prop} {K : Nat} {w w' : World} {v u : Value} {L : List (List Int)} {t : List Int} {xs : List Value} {g cap : Nat} (hw : w.ownsRow K 23 1 v L.length xs)
    (hx : ∀ (k : Nat) t, L[k]? = some t → ∃ u, xs[k]? = some u ∧ RS (fun b => (S b ∨ K ≤ b) ∧ some b ≠ v.ownBlock) w u t) (hu : RS (fun b => (S b ∨ K ≤ b) ∧ some b ≠ v.ownBlock) w u t)
    (hown : w'.ownsRow K 23 1 (.slice (some ⟨g, 0, none⟩) (L.length + 1) cap) (L.length + 1) (xs ++ [u])) (hg : w.grownBy w' v.ownBlock) (hat : v.ownBlock = some g ∨ g = w.heap.size) :
    Own2 S K w' (.slice (some ⟨g, 0, none⟩) (L.length + 1) cap) (L ++ [t]) := by
  have hl : xs.length = L.length := by have := hw.1; simpa using this
  have key : ∀ x s, RS (fun b => (S b ∨ K ≤ b) ∧ some b ≠ v.ownBlock) w x s → RS (fun b => (S b ∨ K ≤ b) ∧ some b ≠ (Value.slice (some ⟨g, 0, none⟩) (L.length + 1) cap).ownBlock) w' x s := by
    intro x s hxs
    have h1 : RS (fun b => ((S b ∨ K ≤ b) ∧ some b ≠ v.ownBlock) ∧ some b ≠ (Value.slice (some ⟨g, 0, none⟩) (L.length + 1) cap).ownBlock) w x s := hxs.mono fun b hb h => ⟨h, by
      show some b ≠ some g
      rcases hat with e | e
      · rw [← e]; exact h.2
      · intro e2; rw [Option.some.inj e2, e] at hb; omega⟩
    have h2 := h1.kept (Kept.of_grown hg fun b hb => hb.1.2)
    exact h2.mono fun b _ hb => ⟨hb.1.1, hb.2⟩
  refine ⟨xs ++ [u], by rw [List.length_append]; exact hown, fun k s hk => ?_⟩
  by_cases hlt : k < L.length
  · rw [List.getElem?_append_left hlt] at hk
    obtain ⟨x, hx1, hx2⟩ := hx k s hk
    exact ⟨x, by rw [List.getElem?_append_left (by omega)]; exact hx1, key _ _ hx2⟩
  · rw [List.getElem?_append_right (by omega)] at hk
    have e : k - L.length = 0 := by
      have := (List.getElem?_eq_some_iff.1 hk).1; simp at this; omega
    rw [e] at hk
    simp at hk; subst hk
    exact ⟨u, by rw [List.getElem?_append_right (by omega), hl, e]; rfl, key _ _ hu⟩
/-- what a call's own row of rows reads as. -/
theorem Own2.reads {S : Nat → Prop} {K : Nat} {w : World} {v : Value} {L : List (List Int)} (h : Own2 S K w v L) (hm : L.length ≤ 9223372036854775807) : RS2 (fun b => S b ∨ K ≤ b) w v L := by
  obtain ⟨xs, h1, h2⟩ := h
  rcases h1.2 with ⟨rfl, h0⟩ | ⟨g, cap, cur, rfl, hg, hh, hc, _⟩
  · exact Or.inl ⟨_, _, rfl, List.eq_nil_of_length_eq_zero (by omega)⟩
  · rcases Nat.eq_zero_or_pos L.length with h0 | h0
    · exact Or.inl ⟨_, cap, by rw [h0], List.eq_nil_of_length_eq_zero (by omega)⟩
    · refine Or.inr ⟨g, 0, cap, rfl, ⟨Or.inr hg, (Array.getElem?_eq_some_iff.1 hh).1⟩, h0, ⟨hm, hc⟩, fun k t hk => ?_⟩
      have hi := (List.getElem?_eq_some_iff.1 hk).1
      obtain ⟨u, hu, hr⟩ := h2 k t hk
      exact ⟨u, by rw [Nat.zero_add, h1.cellAt _ (by omega)]; exact hu, hr.mono fun b _ hb => hb.1⟩
theorem Own2.lt {S : Nat → Prop} {K : Nat} {w : World} {v : Value} {L : List (List Int)} (h : Own2 S K w v L) : ∀ k, v.ownBlock = some k → K ≤ k ∧ k < w.heap.size := by
  obtain ⟨xs, h1, _⟩ := h; exact h1.lt
end Go.Proofs.YtenmheenieifpacGreatDoor
