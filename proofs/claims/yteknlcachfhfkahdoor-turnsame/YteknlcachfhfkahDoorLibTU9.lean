/-
  Rows of atoms in memory: the values that lie there, and what they read as (facts that the contracts lean on).
  A formula that is being made in memory: its place, and the rows that it holds (facts that the walk of TurnTells leans on).
  Proved: eight numbers are the same as themselves, and so is a world (the model's comparison of arrays and structs, at equal values).
  Proved: what errors.As does at a target of type *api.Errno, what plain.Told returns, and what vennsame.Error answers, of a nil error and of any api.Errno; what was in memory is as it was. (Contracts that the statements lean on; after the manner of the guide's worked example Toyas.)
  Proved: what vennsame.Error returns of an error and its number (what the statements of chapter 9 lean on).
-/
import Derived.Test.YteknlcachfhfkahDoorLibTU8
import Derived.OwnWalk
import Derived.Laws.OwnMore
import Derived.Laws.AppendOwn
import Derived.Maps.AppendAt
import Derived.ChangeKeysEq
import Derived.Laws.StructEq
import Derived.Test.YteknlcachfhfkahDoorRows
import Derived.WalkKit
import Derived.LaidEql
import Derived.Stop.Asserts
import Derived.RowKitTokens
import Derived.Test.YteknlcachfhfkahDoorLibTU5
import Derived.Test.YteknlcachfhfkahDoorLibTU6
namespace Go.Proofs.YteknlcachfhfkahDoor
open Go.ChangeShapes Go.WideShapes Go.ChangeAt Go.RowKit
set_option maxRecDepth 100000

/-- the four values from 4 i on are those of an atom. -/
def AtomV (w : World) (xs : List Value) (i : Nat) (a : At) : Prop :=
  ∃ vs vt, xs[i * 4]? = some (.int .i64 a.k) ∧ xs[i * 4 + 1]? = some vs ∧ xs[i * 4 + 2]? = some vt ∧ xs[i * 4 + 3]? = some (.int .i64 a.n) ∧ Reads w vs a.s ∧ Reads w vt a.t
theorem reads_one {w : World} {v : Value} {t : List Int} (h : Reads w v t) : v.oneCell' = true := by
  rcases h with ⟨_, _, rfl, _⟩ | ⟨_, _, _, rfl, _⟩ <;> rfl
theorem AtomV.to {w w' : World} {xs : List Value} {i : Nat} {a : At} (h : AtomV w xs i a) (hr : ∀ v t, Reads w v t → Reads w' v t) : AtomV w' xs i a := by
  obtain ⟨vs, vt, e1, e2, e3, e4, f1, f2⟩ := h
  exact ⟨vs, vt, e1, e2, e3, e4, hr _ _ f1, hr _ _ f2⟩
theorem cell_atoms {w : World} {b off : Nat} {ats : List At} (h : ∀ i a, ats[i]? = some a → AtomAt w b (off + i * 4) a) {j : Nat} (hj : j < ats.length * 4) : ∃ u, w.cell? ⟨b, off + j, none⟩ = some u ∧ u.oneCell' = true := by
  have hj4 : j / 4 < ats.length := by omega
  obtain ⟨vs, vt, e1, e2, e3, e4, f1, f2⟩ := h (j / 4) ats[j / 4] (List.getElem?_eq_getElem hj4)
  have hr : j % 4 = 0 ∨ j % 4 = 1 ∨ j % 4 = 2 ∨ j % 4 = 3 := by omega
  rcases hr with r | r | r | r
  · rw [show off + j / 4 * 4 = off + j by omega] at e1; exact ⟨_, e1, rfl⟩
  · rw [show off + j / 4 * 4 + 1 = off + j by omega] at e2; exact ⟨_, e2, reads_one f1⟩
  · rw [show off + j / 4 * 4 + 2 = off + j by omega] at e3; exact ⟨_, e3, reads_one f2⟩
  · rw [show off + j / 4 * 4 + 3 = off + j by omega] at e4; exact ⟨_, e4, rfl⟩
/-- the values of a row of atoms. -/
theorem atoms_row {w : World} {b off : Nat} {ats : List At} (h : ∀ i a, ats[i]? = some a → AtomAt w b (off + i * 4) a) :
    ∃ xs : List Value, xs.length = ats.length * 4 ∧ (∀ j u, xs[j]? = some u → w.cell? ⟨b, off + j, none⟩ = some u) ∧ (∀ u ∈ xs, u.oneCell' = true) ∧ ∀ i a, ats[i]? = some a → AtomV w xs i a := by
  refine ⟨(List.range (ats.length * 4)).map (fun j => (w.cell? ⟨b, off + j, none⟩).getD (.int .i64 0)), by simp, ?_, ?_, ?_⟩
  · intro j u hu
    rw [List.getElem?_map] at hu
    cases hr : (List.range (ats.length * 4))[j]? with
    | none => rw [hr] at hu; cases hu
    | some k =>
      rw [hr] at hu
      obtain ⟨hk, e⟩ := List.getElem?_eq_some_iff.1 hr
      have e' : k = j := by simpa using e.symm
      subst e'
      obtain ⟨x, hx, _⟩ := cell_atoms h (by simpa using hk)
      simp only [Option.map_some, hx, Option.getD_some, Option.some.injEq] at hu
      rw [hx, hu]
  · intro u hu
    obtain ⟨k, hk, rfl⟩ := List.mem_map.1 hu
    obtain ⟨x, hx, h1⟩ := cell_atoms h (List.mem_range.1 hk)
    rw [hx]; exact h1
  · intro i a ha
    have hi := (List.getElem?_eq_some_iff.1 ha).1
    obtain ⟨vs, vt, e1, e2, e3, e4, f1, f2⟩ := h i a ha
    have g : ∀ (j : Nat) (u : Value), j < ats.length * 4 → w.cell? ⟨b, off + j, none⟩ = some u → ((List.range (ats.length * 4)).map (fun j => (w.cell? ⟨b, off + j, none⟩).getD (.int .i64 0)))[j]? = some u := by
      intro j u hj hu
      rw [List.getElem?_map, List.getElem?_range hj]
      simp [hu]
    exact ⟨vs, vt, g _ _ (by omega) e1, g _ _ (by omega) (by rw [← Nat.add_assoc]; exact e2), g _ _ (by omega) (by rw [← Nat.add_assoc]; exact e3), g _ _ (by omega) (by rw [← Nat.add_assoc]; exact e4), f1, f2⟩
theorem atomV_append {w : World} {xs ys : List Value} {ats bts : List At} (hl : xs.length = ats.length * 4) (h1 : ∀ i a, ats[i]? = some a → AtomV w xs i a) (h2 : ∀ i a, bts[i]? = some a → AtomV w ys i a) : ∀ i a, (ats ++ bts)[i]? = some a → AtomV w (xs ++ ys) i a := by
  intro i a ha
  by_cases hi : i < ats.length
  · rw [List.getElem?_append_left hi] at ha
    obtain ⟨vs, vt, e1, e2, e3, e4, f1, f2⟩ := h1 i a ha
    exact ⟨vs, vt, by rw [List.getElem?_append_left (by omega)]; exact e1, by rw [List.getElem?_append_left (by omega)]; exact e2, by rw [List.getElem?_append_left (by omega)]; exact e3, by rw [List.getElem?_append_left (by omega)]; exact e4, f1, f2⟩
  · rw [List.getElem?_append_right (by omega)] at ha
    obtain ⟨vs, vt, e1, e2, e3, e4, f1, f2⟩ := h2 _ a ha
    exact ⟨vs, vt, by rw [List.getElem?_append_right (by omega), show i * 4 - xs.length = (i - ats.length) * 4 by omega]; exact e1, by rw [List.getElem?_append_right (by omega), show i * 4 + 1 - xs.length = (i - ats.length) * 4 + 1 by omega]; exact e2, by rw [List.getElem?_append_right (by omega), show i * 4 + 2 - xs.length = (i - ats.length) * 4 + 2 by omega]; exact e3, by rw [List.getElem?_append_right (by omega), show i * 4 + 3 - xs.length = (i - ats.length) * 4 + 3 by omega]; exact e4, f1, f2⟩
/-- a new row of such values reads as the atoms. -/
theorem own_readsA {w : World} {base : Nat} {v : Value} {n : Nat} {xs : List Value} {ats : List At} (h : w.ownsRow base 49 4 v n xs) (hn : n = ats.length) (hx : ∀ i a, ats[i]? = some a → AtomV w xs i a) (hm : n ≤ 9223372036854775807) : ReadsA w v ats := by
  rcases h.2 with ⟨rfl, h0⟩ | ⟨g, cap, cur, rfl, hg, hh, hc, _⟩
  · exact Or.inl ⟨_, _, rfl, List.eq_nil_of_length_eq_zero (by omega)⟩
  · rcases Nat.eq_zero_or_pos n with h0 | h0
    · exact Or.inl ⟨_, cap, by rw [h0], List.eq_nil_of_length_eq_zero (by omega)⟩
    · refine Or.inr ⟨g, 0, cap, by rw [hn], (Array.getElem?_eq_some_iff.1 hh).1, by omega, ⟨by omega, by omega⟩, fun i a ha => ?_⟩
      have hi := (List.getElem?_eq_some_iff.1 ha).1
      obtain ⟨vs, vt, e1, e2, e3, e4, f1, f2⟩ := hx i a ha
      rw [Nat.zero_add]
      exact ⟨vs, vt, by rw [h.cellAt _ (by omega)]; exact e1, by rw [h.cellAt _ (by omega)]; exact e2, by rw [h.cellAt _ (by omega)]; exact e3, by rw [h.cellAt _ (by omega)]; exact e4, f1, f2⟩
end Go.Proofs.YteknlcachfhfkahDoor

namespace Go.Proofs.YteknlcachfhfkahDoor
open Go.ChangeShapes Go.WideShapes Go.ChangeAt Go.RowKit
set_option maxRecDepth 100000

/-- a slice whose row lies in K or behind, or nowhere. -/
def NewM (K : Nat) (v : Value) : Prop := ∃ ao n c, v = .slice ao n c ∧ ∀ p, ao = some p → K ≤ p.block
theorem newM_own {w : World} {base : Nat} {e : TypeId} {v : Value} {n : Nat} {xs : List Value} (h : w.ownsRow base e 1 v n xs) : NewM base v := by
  rcases h.2 with ⟨rfl, h0⟩ | ⟨g, cap, cur, rfl, hg, _⟩
  · exact ⟨_, _, _, rfl, fun p hp => by cases hp⟩
  · exact ⟨_, _, _, rfl, fun p hp => by cases hp; exact hg⟩
theorem newM_mono {K L : Nat} {v : Value} (h : NewM L v) (hK : K ≤ L) : NewM K v := by
  obtain ⟨ao, n, c, rfl, h⟩ := h
  exact ⟨ao, n, c, rfl, fun p hp => Nat.le_trans hK (h p hp)⟩
theorem set_farM {w : World} {G B o j : Nat} {u : Value} (h : G ≠ B) : (w.setCell ⟨G, o, none⟩ u).cell? ⟨B, j, none⟩ = w.cell? ⟨B, j, none⟩ := by
  apply World.cell?_setCell_other
  intro e
  injection e with e1
  exact h e1
/-- a new row reads as it did behind a store before it. -/
theorem Reads.storeNewM {W : World} {K : Nat} {v : Value} {t : List Int} {B j : Nat} {x : Value} (h : Reads W v t) (hn : NewM K v) (hB : B < K) : Reads (W.setCell ⟨B, j, none⟩ x) v t := by
  rcases h with h | ⟨b, off, cap, e, h2, h3, h4, h5⟩
  · exact Or.inl h
  · obtain ⟨ao, n, c, e', hp⟩ := hn
    rw [e] at e'
    injection e' with e1 _ _
    have hb : K ≤ b := hp _ e1.symm
    refine Or.inr ⟨b, off, cap, e, by simpa using h2, h3, h4, fun k hk => ?_⟩
    rw [set_farM (by omega)]
    exact h5 k hk
theorem infoAtM : (Tryd.prog.info? 49).map (fun i => (i.zero, i.size, i.bytes)) = some (some (.agg #[.int .i64 0, .slice none 0 0, .slice none 0 0, .int .i64 0]), 4, 64) := by kernel_rfl
/-- the place of the formula that is being made, and what stood ahead of it. -/
def InM (G : Nat) (w3 W : World) (va vq : Value) : Prop := Blk W G 25 #[va, vq] ∧ Below G w3 W ∧ G < W.heap.size
theorem InM.alloc {G : Nat} {w3 W : World} {va vq : Value} (h : InM G w3 W va vq) (o : Obj) : InM G w3 (W.alloc o) va vq :=
  ⟨h.1.old _, h.2.1.alloc (Nat.le_of_lt h.2.2) _, by have := h.2.2; simp; omega⟩
theorem InM.below {G : Nat} {w3 W W' : World} {va vq : Value} (h : InM G w3 W va vq) (hb : Below W.heap.size W W') : InM G w3 W' va vq :=
  ⟨h.1.below hb, h.2.1.trans (hb.mono (Nat.le_of_lt h.2.2)), Nat.lt_of_lt_of_le h.2.2 hb.size⟩
theorem InM.drewM {G : Nat} {w3 W : World} {va vq : Value} (h : InM G w3 W va vq) : InM G w3 W.drew va vq := ⟨h.1.drew, h.2.1.drew, h.2.2⟩
theorem InM.grown {G : Nat} {w3 W W' : World} {va vq : Value} {row : Option Nat} (h : InM G w3 W va vq) (hg : W.grownBy W' row) (hr : ∀ k, row = some k → G < k) : InM G w3 W' va vq := by
  obtain ⟨h1, hb, hG⟩ := h
  have e : W'.heap[G]? = W.heap[G]? := hg.block G hG (fun e => by have := hr G e.symm; omega)
  exact ⟨by unfold Blk; rw [e]; exact h1, hb.grown hg (by omega) (fun k hk => by have := hr k hk; omega), by have := hg.size; omega⟩
theorem InM.set0 {G : Nat} {w3 W : World} {va vq : Value} (h : InM G w3 W va vq) (u : Value) : InM G w3 (W.setCell ⟨G, 0, none⟩ u) u vq :=
  ⟨by have := h.1.set 0 u; simpa using this, h.2.1.setCell (Nat.le_refl _) _, by simpa using h.2.2⟩
theorem InM.set1 {G : Nat} {w3 W : World} {va vq : Value} (h : InM G w3 W va vq) (u : Value) : InM G w3 (W.setCell ⟨G, 1, none⟩ u) va u :=
  ⟨by have := h.1.set 1 u; simpa using this, h.2.1.setCell (Nat.le_refl _) _, by simpa using h.2.2⟩
theorem ownsRow_setM {W : World} {base : Nat} {e : TypeId} {size : Nat} {v : Value} {n : Nat} {xs : List Value} {B j : Nat} {u : Value} (h : W.ownsRow base e size v n xs) (hB : B < base) : (W.setCell ⟨B, j, none⟩ u).ownsRow base e size v n xs := by
  obtain ⟨h1, h2⟩ := h
  refine ⟨h1, ?_⟩
  rcases h2 with h2 | ⟨g, cap, cur, hv, hg, hh, r⟩
  · exact .inl h2
  · refine .inr ⟨g, cap, cur, hv, hg, ?_, r⟩
    rw [Below.heap_setCell _ _ _ _ (show g ≠ B by omega)]; exact hh
theorem ownsRow_belowM {W W' : World} {base : Nat} {e : TypeId} {size : Nat} {v : Value} {n : Nat} {xs : List Value} (h : W.ownsRow base e size v n xs) (hb : Below W.heap.size W W') : W'.ownsRow base e size v n xs := by
  obtain ⟨h1, h2⟩ := h
  refine ⟨h1, ?_⟩
  rcases h2 with h2 | ⟨g, cap, cur, hv, hg, hh, r⟩
  · exact .inl h2
  · refine .inr ⟨g, cap, cur, hv, hg, ?_, r⟩
    rw [hb.block g (Array.getElem?_eq_some_iff.1 hh).1]; exact hh
theorem own_readsM {w : World} {base : Nat} {v : Value} {t : List Int} (h : w.ownsRow base 3 1 v t.length (t.map (Value.int .i64))) (hm : t.length ≤ 9223372036854775807) : Reads w v t := by
  rcases h.2 with ⟨rfl, h0⟩ | ⟨g, cap, cur, rfl, hg, hh, hc, _⟩
  · exact Or.inl ⟨_, _, rfl, List.eq_nil_of_length_eq_zero h0⟩
  · rcases Nat.eq_zero_or_pos t.length with h0 | h0
    · exact Or.inl ⟨_, cap, by rw [h0], List.eq_nil_of_length_eq_zero h0⟩
    · refine Or.inr ⟨g, 0, cap, rfl, (Array.getElem?_eq_some_iff.1 hh).1, h0, ⟨hm, hc⟩, fun k hk => ?_⟩
      rw [Nat.zero_add, h.cellAt k (by omega)]
      simp [List.getElem?_eq_getElem hk]
theorem row_atM {w : World} {base : Nat} {e : TypeId} {size : Nat} {v : Value} {n : Nat} {xs : List Value} (h : w.ownsRow base e size v n xs) : ∀ k, v.ownBlock = some k → base ≤ k ∧ k < w.heap.size := by
  intro k hk
  rcases h.2 with ⟨rfl, _⟩ | ⟨g, cap, cur, rfl, hg, hh, _⟩
  · cases hk
  · have e : g = k := Option.some.inj hk
    exact ⟨by omega, by have := (Array.getElem?_eq_some_iff.1 hh).1; omega⟩
/-- what reads from a place behind K is as it was where nothing but a row and a place before K have turned. -/
theorem Reads.grownM {W W' : World} {K : Nat} {v : Value} {t : List Int} {row : Option Nat} (h : Reads W v t) (hn : NewM K v) (hg : W.grownBy W' row) (hr : ∀ k, row = some k → ∀ ao n c p, v = .slice ao n c → ao = some p → p.block ≠ k) : Reads W' v t := by
  obtain ⟨ao, n, c, rfl, _⟩ := hn
  rcases h with h | ⟨b, off, cap, hv, h2, h3, h4, h5⟩
  · exact Or.inl h
  · obtain ⟨h1, _, _⟩ := Value.slice.inj hv
    have e : W'.heap[b]? = W.heap[b]? := hg.block b h2 fun e => hr b e.symm ao n c ⟨b, off, none⟩ rfl h1 rfl
    exact Or.inr ⟨b, off, cap, hv, Nat.lt_of_lt_of_le h2 hg.size, h3, h4, fun k hk => by rw [World.cell?_of_block (w := W) (a := ⟨b, off + k, none⟩) e]; exact h5 k hk⟩
theorem own_sliceM {w : World} {base : Nat} {e : TypeId} {size : Nat} {v : Value} {n : Nat} {xs : List Value} (h : w.ownsRow base e size v n xs) : ∃ ao m c, v = .slice ao m c := by
  rcases h.2 with ⟨rfl, _⟩ | ⟨g, cap, cur, rfl, _⟩
  · exact ⟨_, _, _, rfl⟩
  · exact ⟨_, _, _, rfl⟩
/-- a row lies elsewhere than another one. -/
def ApartM (v : Value) (t : List Int) (va : Value) : Prop := ∀ k, va.ownBlock = some k → 0 < t.length → ∀ b off n c, v = .slice (some ⟨b, off, none⟩) n c → b ≠ k
theorem Reads.keptM {W W' : World} {v va : Value} {t : List Int} (h : Reads W v t) (hg : W.grownBy W' va.ownBlock) (hr : ApartM v t va) : Reads W' v t := by
  rcases h with h | ⟨b, off, cap, rfl, h2, h3, h4, h5⟩
  · exact Or.inl h
  · have e : W'.heap[b]? = W.heap[b]? := hg.block b h2 fun e => hr b e.symm h3 b off _ _ rfl rfl
    exact Or.inr ⟨b, off, cap, rfl, Nat.lt_of_lt_of_le h2 hg.size, h3, h4, fun k hk => by rw [World.cell?_of_block (w := W) (a := ⟨b, off + k, none⟩) e]; exact h5 k hk⟩
theorem Reads.ltM {W : World} {v : Value} {t : List Int} (h : Reads W v t) (h0 : 0 < t.length) : ∀ b off n c, v = .slice (some ⟨b, off, none⟩) n c → b < W.heap.size := by
  intro b off n c hv
  rcases h with ⟨_, _, _, rfl⟩ | ⟨b', off', cap, hv', h2, _⟩
  · simp at h0
  · rw [hv] at hv'
    obtain ⟨h1, _, _⟩ := Value.slice.inj hv'
    obtain ⟨rfl, _, _⟩ := Addr.mk.inj (Option.some.inj h1)
    exact h2
theorem ApartM.more {W : World} {v va va' : Value} {t : List Int} {H : Nat} (h : ApartM v t va) (hR : Reads W v t) (hH : W.heap.size ≤ H) (hat : va'.ownBlock = va.ownBlock ∨ va'.ownBlock = some H) : ApartM v t va' := by
  intro k hk h0 b off n c hv
  rcases hat with e | e
  · exact h k (by rw [← e]; exact hk) h0 b off n c hv
  · have := hR.ltM h0 b off n c hv
    have e2 : H = k := Option.some.inj (e.symm.trans hk)
    omega
theorem ApartM.new {v va : Value} {t : List Int} {K : Nat} (hn : NewM K v) (hk : ∀ k, va.ownBlock = some k → k < K) : ApartM v t va := by
  intro k h1 _ b off n c hv
  obtain ⟨ao, m, d, rfl, h⟩ := hn
  obtain ⟨e, _, _⟩ := Value.slice.inj hv
  have := h _ e
  have := hk k h1
  have : K ≤ b := by assumption
  omega
theorem apart_nilM (v : Value) : v.ownBlock = none ∨ v.ownBlock ≠ (Value.slice none 0 0).ownBlock := by
  cases v.ownBlock with
  | none => exact Or.inl rfl
  | some b => exact Or.inr (by simp [Value.ownBlock])
/-- the four values of an atom in a row, and where its terms lie. -/
def AtM (K : Nat) (w : World) (xs : List Value) (i : Nat) (a : At) (va : Value) : Prop :=
  ∃ vs vt, (xs[i * 4]? = some (.int .i64 a.k) ∧ xs[i * 4 + 1]? = some vs ∧ xs[i * 4 + 2]? = some vt ∧ xs[i * 4 + 3]? = some (.int .i64 a.n)) ∧ (Reads w vs a.s ∧ NewM K vs ∧ ApartM vs a.s va) ∧ (Reads w vt a.t ∧ NewM K vt ∧ ApartM vt a.t va)
theorem AtM.to {K : Nat} {w : World} {xs : List Value} {i : Nat} {a : At} {va : Value} (h : AtM K w xs i a va) : AtomV w xs i a := by
  obtain ⟨vs, vt, ⟨e1, e2, e3, e4⟩, ⟨f1, _⟩, f2, _⟩ := h
  exact ⟨vs, vt, e1, e2, e3, e4, f1, f2⟩
theorem AtM.below {K : Nat} {w w' : World} {xs : List Value} {i : Nat} {a : At} {va : Value} (h : AtM K w xs i a va) (hb : Below w.heap.size w w') : AtM K w' xs i a va := by
  obtain ⟨vs, vt, e, ⟨f1, f2, f3⟩, g1, g2, g3⟩ := h
  exact ⟨vs, vt, e, ⟨f1.below hb, f2, f3⟩, g1.below hb, g2, g3⟩
end Go.Proofs.YteknlcachfhfkahDoor

namespace Go.Proofs.YteknlcachfhfkahDoor
open Go.ChangeShapes Go.WideShapes Go.ChangeAt Go.RowKit

theorem guard8 : Tryd.prog.eqGuardType Tryd.prog.depth 63 = false := by kernel_rfl
theorem guardW : Tryd.prog.eqGuardType Tryd.prog.depth 38 = false := by kernel_rfl
theorem stoodW : Tryd.prog.stoodInHeld 38 = false := by kernel_rfl
theorem plainI : Tryd.prog.plainKey 3 = true := by kernel_rfl
theorem cells1 : Tryd.prog.cellsOf 3 = 1 := by kernel_rfl
theorem eqItems_same (d : Nat) (xs : Array Value) (is : List Nat) (h : ∀ j ∈ is, ∃ n : Int, xs[j]? = some (.int .i64 n)) (w : World) : (Op.eqItems (d + 1) 3 1 xs xs is).run Tryd.prog w = .ok true w := by
  induction is with
  | nil => simp [Op.eqItems]
  | cons j is ih =>
    obtain ⟨n, hn⟩ := h j (by simp)
    have p : (part 3 xs (j * 1)).run Tryd.prog w = .ok (.int .i64 n) w := run_part_plain w plainI (by rw [Nat.mul_one]; exact hn)
    have q : (Op.equalIn (d + 1) 3 (.int .i64 n) (.int .i64 n)).run Tryd.prog w = .ok true w := by
      rw [run_equalIn_int w d 3 .i64 .i64 n n Tryd.underlying3]; simp
    simp only [Op.eqItems, Sem.run_bind, p, q, Result.andThen_ok]
    simpa using ih fun k hk => h k (by simp [hk])
theorem equalIn8 (N : Nat → Int) (d : Nat) (w : World) : (Op.equalIn (d + 2) 63 (.agg (arr8 N)) (.agg (arr8 N))).run Tryd.prog w = .ok true w := by
  obtain ⟨i, hi⟩ := info_of_underlying Tryd.underlying3
  rw [run_equalIn_array w (d + 1) (arr8 N) (arr8 N) Tryd.underlying63 hi, cells1]
  exact eqItems_same d (arr8 N) _ (fun j hj => ⟨N j, arr8_get N (List.mem_range.1 hj)⟩) w
/-- x == x, of eight numbers. -/
theorem same8 (N : Nat → Int) (w : World) : (binOp .eql 63 (.agg #[.int .i64 (N 0), .int .i64 (N 1), .int .i64 (N 2), .int .i64 (N 3), .int .i64 (N 4), .int .i64 (N 5), .int .i64 (N 6), .int .i64 (N 7)]) (.agg #[.int .i64 (N 0), .int .i64 (N 1), .int .i64 (N 2), .int .i64 (N 3), .int .i64 (N 4), .int .i64 (N 5), .int .i64 (N 6), .int .i64 (N 7)])).run Tryd.prog w = .ok (.bool true) w := by
  rw [run_eql_struct]
  have := equalIn8 N 9998 w
  unfold arr8 at this
  rw [this]
  simp
theorem differ8 (N : Nat → Int) (w : World) : (binOp .neq 63 (.agg #[.int .i64 (N 0), .int .i64 (N 1), .int .i64 (N 2), .int .i64 (N 3), .int .i64 (N 4), .int .i64 (N 5), .int .i64 (N 6), .int .i64 (N 7)]) (.agg #[.int .i64 (N 0), .int .i64 (N 1), .int .i64 (N 2), .int .i64 (N 3), .int .i64 (N 4), .int .i64 (N 5), .int .i64 (N 6), .int .i64 (N 7)])).run Tryd.prog w = .ok (.bool false) w := by
  rw [run_neq_struct]
  have := equalIn8 N 9998 w
  unfold arr8 at this
  rw [this]
  simp
theorem equalIn3 (a b c : Int) (d : Nat) (w : World) : (Op.equalIn (d + 2) 36 (.agg #[.int .i64 a, .int .i64 b, .int .i64 c]) (.agg #[.int .i64 a, .int .i64 b, .int .i64 c])).run Tryd.prog w = .ok true w := by
  obtain ⟨i, hi⟩ := info_of_underlying Tryd.underlying3
  rw [run_equalIn_array w (d + 1) _ _ Tryd.underlying36 hi, cells1]
  refine eqItems_same d _ _ (fun j hj => ?_) w
  have hj3 : j = 0 ∨ j = 1 ∨ j = 2 := by have := List.mem_range.1 hj; omega
  rcases hj3 with rfl | rfl | rfl
  · exact ⟨a, rfl⟩
  · exact ⟨b, rfl⟩
  · exact ⟨c, rfl⟩
theorem equalInW (u a b c : Int) (d : Nat) (w : World) : (Op.equalIn (d + 3) 38 (.agg #[.int .i64 u, .int .i64 a, .int .i64 b, .int .i64 c]) (.agg #[.int .i64 u, .int .i64 a, .int .i64 b, .int .i64 c])).run Tryd.prog w = .ok true w := by
  have hs : Tryd.prog.underlying 38 = some (.struct (Tryd.prog.fieldsOf 38)) := by kernel_rfl
  rw [run_equalIn_struct w (d + 2) 38 _ _ hs stoodW]
  have p1 : (part 3 #[.int .i64 u, .int .i64 a, .int .i64 b, .int .i64 c] 0).run Tryd.prog w = .ok (.int .i64 u) w := run_part_plain w plainI rfl
  have q1 : (Op.equalIn (d + 2) 3 (.int .i64 u) (.int .i64 u)).run Tryd.prog w = .ok true w := by
    rw [run_equalIn_int w (d + 1) 3 .i64 .i64 u u Tryd.underlying3]; simp
  have p2 : (part 36 #[.int .i64 u, .int .i64 a, .int .i64 b, .int .i64 c] 1).run Tryd.prog w = .ok (.agg #[.int .i64 a, .int .i64 b, .int .i64 c]) w := by
    simp [part, Tryd.isAgg36, Tryd.sizeOf36, Result.andThen]
  have q2 := equalIn3 a b c d w
  have ef : (Tryd.prog.fieldsOf 38).toList.map (fun f => (f.name, f.type, f.offset)) = [("Things", 3, 0), ("Has", 36, 1)] := by kernel_rfl
  generalize (Tryd.prog.fieldsOf 38).toList = fs at ef ⊢
  match fs, ef with
  | [f, g], ef =>
    simp only [List.map_cons, List.map_nil, List.cons.injEq, Prod.mk.injEq, and_true] at ef
    obtain ⟨⟨n1, t1, o1⟩, n2, t2, o2⟩ := ef
    simp [Op.eqFields, n1, n2, t1, t2, o1, o2, Sem.run_bind, p1, q1, p2, q2, Result.andThen_ok]
  | [], ef => simp at ef
  | [_], ef => simp at ef
  | _ :: _ :: _ :: _, ef => simp at ef
/-- x == x, of a world. -/
theorem sameW (u a b c : Int) (w : World) : (binOp .eql 38 (.agg #[.int .i64 u, .int .i64 a, .int .i64 b, .int .i64 c]) (.agg #[.int .i64 u, .int .i64 a, .int .i64 b, .int .i64 c])).run Tryd.prog w = .ok (.bool true) w := by
  rw [run_eql_struct]
  rw [equalInW u a b c 9997 w]
  simp
end Go.Proofs.YteknlcachfhfkahDoor

namespace Go.Proofs.YteknlcachfhfkahDoor
open Go.RowKit Go.Extern.Stop Go.Stop Go.Extern
set_option maxRecDepth 100000

/-! ### closed facts on the model's entries for internal/reflectlite, at this program's numbers -/
theorem rlValueOfP (t : Addr) (w : World) : (ReflectliteValue.unpack (.iface 107 (.pointer (some t)))).run Tryd.prog w
    = .ok (.agg #[.pointer (some ⟨2, 107, none⟩), .pointer (some ⟨w.heap.size, 0, none⟩), .int .u64 150]) (w.alloc (.cells #[.pointer (some t)] 107)) := by kernel_rfl
theorem rlTypeP (a : Addr) (w : World) : (ReflectliteValue.methodAny (ReflectliteValue.valueError "reflectlite.Value.Type" 0) (fun t _ _ _ => ReflectliteType.toType t) #[.agg #[.pointer (some ⟨2, 107, none⟩), .pointer (some a), .int .u64 150]]).run Tryd.prog w
    = .ok (.iface 141 (.agg #[.pointer (some ⟨2, 107, none⟩)])) w := by kernel_rfl
theorem rlMethodKind (h : Value) (w : World) : (Go.method 290 141 (.agg #[h]) "Kind").run Tryd.prog w = .ok (117, h) w := by kernel_rfl
theorem rlKindP (w : World) : ((ReflectliteType.abiMethod fun t => (fun a : Nat => Value.int IntKind.u8 (a : Int)) <$> Rtype.kind t) #[.pointer (some ⟨2, 107, none⟩)]).run Tryd.prog w = .ok (.int .u8 22) w := by kernel_rfl
theorem rlKindE (w : World) : ((ReflectliteType.abiMethod fun t => (fun a : Nat => Value.int IntKind.u8 (a : Int)) <$> Rtype.kind t) #[.pointer (some ⟨2, 67, none⟩)]).run Tryd.prog w = .ok (.int .u8 2) w := by kernel_rfl

/-! ### the entries that read or write memory -/
theorem rlPartsP (a : Addr) (w : World) : (ReflectliteValue.parts (.agg #[.pointer (some ⟨2, 107, none⟩), .pointer (some a), .int .u64 150])).run Tryd.prog w = .ok (some (107, a, 150)) w := by kernel_rfl
theorem rlIsNilP (a p : Addr) (W : World) (ha : W.cell? a = some (.pointer (some p))) :
    (ReflectliteValue.method (ReflectliteValue.valueError "reflectlite.Value.IsNil" 0) ReflectliteValue.isNil #[.agg #[.pointer (some ⟨2, 107, none⟩), .pointer (some a), .int .u64 150]]).run Tryd.prog W = .ok (.bool false) W := by
  change (ReflectliteValue.parts (.agg #[.pointer (some ⟨2, 107, none⟩), .pointer (some a), .int .u64 150]) >>= _).run _ _ = _
  simp only [Sem.run_bind, rlPartsP, Result.andThen]
  simp [ReflectliteValue.isNil, loadVar, isAgg, underlying, Tryd.underlying107, ha, Result.andThen]

theorem rlMethodElem (h : Value) (w : World) : (Go.method 290 141 (.agg #[h]) "Elem").run Tryd.prog w = .ok (128, .agg #[h]) w := by kernel_rfl
theorem rlMethodImplements (h : Value) (w : World) : (Go.method 290 141 (.agg #[h]) "Implements").run Tryd.prog w = .ok (129, .agg #[h]) w := by kernel_rfl
theorem rlMethodAssignableTo (h : Value) (w : World) : (Go.method 290 141 (.agg #[h]) "AssignableTo").run Tryd.prog w = .ok (126, .agg #[h]) w := by kernel_rfl
theorem rlElemP (w : World) : (ReflectliteType.method ReflectliteType.elem #[.agg #[.pointer (some ⟨2, 107, none⟩)]]).run Tryd.prog w = .ok (.iface 141 (.agg #[.pointer (some ⟨2, 67, none⟩)])) w := by kernel_rfl
theorem rlImplementsE (w : World) : (ReflectliteType.relation "Implements" ReflectliteType.implements_ #[.agg #[.pointer (some ⟨2, 67, none⟩)], .iface 141 (.agg #[.pointer (some ⟨2, 28, none⟩)])]).run Tryd.prog w = .ok (.bool true) w := by kernel_rfl
theorem rlTypeOfE (v : Value) (w : World) : (ReflectliteType.typeOf #[.iface 67 v]).run Tryd.prog w = .ok (.iface 141 (.agg #[.pointer (some ⟨2, 67, none⟩)])) w := by kernel_rfl
theorem rlAssignableE (w : World) : (ReflectliteType.relation "AssignableTo" ReflectliteType.assignableTo #[.agg #[.pointer (some ⟨2, 67, none⟩)], .iface 141 (.agg #[.pointer (some ⟨2, 67, none⟩)])]).run Tryd.prog w = .ok (.bool true) w := by kernel_rfl
theorem rlValueOfE (n : Int) (w : World) : (ReflectliteValue.unpack (.iface 67 (.int .i64 n))).run Tryd.prog w
    = .ok (.agg #[.pointer (some ⟨2, 67, none⟩), .pointer (some ⟨w.heap.size, 0, none⟩), .int .u64 130]) (w.alloc (.cells #[.int .i64 n] 67)) := by kernel_rfl

theorem rlElemOfP (w : World) : (Rtype.elem? 107).run Tryd.prog w = .ok (some 67) w := by kernel_rfl
theorem rlMkE (p : Addr) (w : World) : (ReflectliteValue.mk 67 p ReflectliteValue.flagAddr).run Tryd.prog w = .ok (.agg #[.pointer (some ⟨2, 67, none⟩), .pointer (some p), .int .u64 386]) w := by kernel_rfl
theorem rlElemV (a p : Addr) (W : World) (ha : W.cell? a = some (.pointer (some p))) :
    (ReflectliteValue.method (ReflectliteValue.valueError "reflectlite.Value.Elem" 0) ReflectliteValue.elem #[.agg #[.pointer (some ⟨2, 107, none⟩), .pointer (some a), .int .u64 150]]).run Tryd.prog W
      = .ok (.agg #[.pointer (some ⟨2, 67, none⟩), .pointer (some p), .int .u64 386]) W := by
  change (ReflectliteValue.parts (.agg #[.pointer (some ⟨2, 107, none⟩), .pointer (some a), .int .u64 150]) >>= _).run _ _ = _
  simp only [Sem.run_bind, rlPartsP, Result.andThen]
  simp [ReflectliteValue.elem, loadVar, isAgg, underlying, Tryd.underlying107, ha, Result.andThen, rlElemOfP, rlMkE]
theorem rlPartsEa (a : Addr) (w : World) : (ReflectliteValue.parts (.agg #[.pointer (some ⟨2, 67, none⟩), .pointer (some a), .int .u64 386])).run Tryd.prog w = .ok (some (67, a, 386)) w := by kernel_rfl
theorem rlPartsE (a : Addr) (w : World) : (ReflectliteValue.parts (.agg #[.pointer (some ⟨2, 67, none⟩), .pointer (some a), .int .u64 130])).run Tryd.prog w = .ok (some (67, a, 130)) w := by kernel_rfl
theorem rlDirectE (w : World) : (Rtype.directlyAssignable 67 67).run Tryd.prog w = .ok true w := by kernel_rfl
theorem rlSetE (ta b : Addr) (n : Int) (old : Value) (W : World) (hb : W.cell? b = some (.int .i64 n)) (ht : W.cell? ta = some old) (hf : W.frozen? ta = false) :
    (ReflectliteValue.set #[.agg #[.pointer (some ⟨2, 67, none⟩), .pointer (some ta), .int .u64 386], .agg #[.pointer (some ⟨2, 67, none⟩), .pointer (some b), .int .u64 130]]).run Tryd.prog W
      = .ok (.tuple #[]) (W.setCell ta (.int .i64 n)) := by
  change (ReflectliteValue.parts (.agg #[.pointer (some ⟨2, 67, none⟩), .pointer (some ta), .int .u64 386]) >>= fun _ => ReflectliteValue.parts (.agg #[.pointer (some ⟨2, 67, none⟩), .pointer (some b), .int .u64 130]) >>= _).run _ _ = _
  simp only [Sem.run_bind, rlPartsEa, rlPartsE, Result.andThen]
  simp [ReflectliteValue.flagAddr, loadVar, isAgg, underlying, Tryd.underlying67, hb, Result.andThen, rlDirectE, storeVar, Value.cells, storeCells, Addr.add]
  rw [run_store Tryd.prog W ta _ _ (by rfl)]
  simp [ht, hf]

/-- what errors.errorType holds: the handle of the type error. -/
def Laid (w : World) : Prop := w.cell? ⟨1, 0, none⟩ = some (.iface 141 (.agg #[.pointer (some ⟨2, 28, none⟩)]))
theorem Laid.lt {w : World} (h : Laid w) : 1 < w.heap.size := by
  rcases Nat.lt_or_ge 1 w.heap.size with h' | h'
  · exact h'
  · simp [Laid, World.cell?, Array.getElem?_eq_none h'] at h
theorem Laid.below {w w' : World} (h : Laid w) (hb : Below w.heap.size w w') : Laid w' := by
  unfold Laid
  rw [hb.cell h.lt]
  exact h

/-- what a walk carries from world to world: the variable is laid, and what was there at the start is as it was. -/
def Acc (w0 w : World) : Prop := Laid w ∧ Below w0.heap.size w0 w
theorem Acc.start {w : World} (h : Laid w) : Acc w w := ⟨h, Below.refl _ _⟩
theorem Acc.step {w0 w w' : World} (h : Acc w0 w) (hb : Below w.heap.size w w') : Acc w0 w' := ⟨h.1.below hb, h.2.trans (hb.mono h.2.size)⟩

set_option maxRecDepth 100000 in
set_option maxHeartbeats 4000000 in
theorem as_hit (n : Int) (t : Addr) (old : Value) (w : World) (hg : w.cell? ⟨1, 0, none⟩ = some (.iface 141 (.agg #[.pointer (some ⟨2, 28, none⟩)]))) (ht0 : w.cell? t = some old) (hf0 : w.frozen? t = false) :
    Calls Tryd.prog 67 #[.iface 67 (.int .i64 n), .iface 107 (.pointer (some t))] w fun ev w' => ev = .returned (.bool true) ∧ ((((w.alloc (.cells #[.pointer (some t)] 107)).alloc (.cells #[.pointer (some ⟨2, 107, none⟩), .pointer (some ⟨w.heap.size, 0, none⟩), .int .u64 150] 126)).alloc (.cells #[.pointer (some ⟨2, 107, none⟩), .pointer (some ⟨w.heap.size, 0, none⟩), .int .u64 150] 126)).alloc (.cells #[.int .i64 n] 67)).setCell t (.int .i64 n) = w' := by
  have h6 := @run_callFunc_extern Tryd.prog 85 _ (fun args => ReflectliteValue.unpack (args.getD 0 (.tuple #[]))) Tryd.func85 (by kernel_rfl) (by kernel_rfl) (by kernel_rfl) (by kernel_rfl)
  have h7 := @run_callFunc_extern Tryd.prog 86 _ (ReflectliteValue.methodAny (ReflectliteValue.valueError "reflectlite.Value.Type" 0) (fun t _ _ _ => ReflectliteType.toType t)) Tryd.func86 (by kernel_rfl) (by kernel_rfl) (by kernel_rfl) (by kernel_rfl)
  have h8 := @run_callFunc_extern Tryd.prog 87 _ (ReflectliteValue.method (ReflectliteValue.valueError "reflectlite.Value.IsNil" 0) ReflectliteValue.isNil) Tryd.func87 (by kernel_rfl) (by kernel_rfl) (by kernel_rfl) (by kernel_rfl)
  have h27 := @run_callFunc_extern Tryd.prog 117 _ (ReflectliteType.abiMethod fun t => do pure (.int .u8 (← Rtype.kind t))) Tryd.func117 (by kernel_rfl) (by kernel_rfl) (by kernel_rfl) (by kernel_rfl)
  have h37 := @run_callFunc_extern Tryd.prog 128 _ (ReflectliteType.method ReflectliteType.elem) Tryd.func128 (by kernel_rfl) (by kernel_rfl) (by kernel_rfl) (by kernel_rfl)
  have h38 := @run_callFunc_extern Tryd.prog 129 _ (ReflectliteType.relation "Implements" ReflectliteType.implements_) Tryd.func129 (by kernel_rfl) (by kernel_rfl) (by kernel_rfl) (by kernel_rfl)
  have h10 := @run_callFunc_extern Tryd.prog 95 _ ReflectliteType.typeOf Tryd.func95 (by kernel_rfl) (by kernel_rfl) (by kernel_rfl) (by kernel_rfl)
  have h35 := @run_callFunc_extern Tryd.prog 126 _ (ReflectliteType.relation "AssignableTo" ReflectliteType.assignableTo) Tryd.func126 (by kernel_rfl) (by kernel_rfl) (by kernel_rfl) (by kernel_rfl)
  have h11 := @run_callFunc_extern Tryd.prog 96 _ (ReflectliteValue.method (ReflectliteValue.valueError "reflectlite.Value.Elem" 0) ReflectliteValue.elem) Tryd.func96 (by kernel_rfl) (by kernel_rfl) (by kernel_rfl) (by kernel_rfl)
  have h12 := @run_callFunc_extern Tryd.prog 97 _ ReflectliteValue.set Tryd.func97 (by kernel_rfl) (by kernel_rfl) (by kernel_rfl) (by kernel_rfl)
  have tO := rlTypeOfE
  have mA := rlMethodAssignableTo
  have a25 := rlAssignableE
  have v25 := rlValueOfE
  have f6 := rlValueOfP
  have f7 := rlTypeP
  have mK := rlMethodKind
  have mE := rlMethodElem
  have mI := rlMethodImplements
  have k27 := rlKindP
  have k25 := rlKindE
  have e27 := rlElemP
  have i25 := rlImplementsE
  have n8 := rlIsNilP ⟨w.heap.size, 0, none⟩ t ((w.alloc (.cells #[.pointer (some t)] 107)).alloc (.cells #[.pointer (some ⟨2, 107, none⟩), .pointer (some ⟨w.heap.size, 0, none⟩), .int .u64 150] 126)) (by simp)
  have hlt : 1 < w.heap.size := Laid.lt hg
  have hg2 : ((w.alloc (.cells #[.pointer (some t)] 107)).alloc (.cells #[.pointer (some ⟨2, 107, none⟩), .pointer (some ⟨w.heap.size, 0, none⟩), .int .u64 150] 126)).cell? ⟨1, 0, none⟩ = some (.iface 141 (.agg #[.pointer (some ⟨2, 28, none⟩)])) := by
    rw [World.cell?_alloc_lt _ _ ⟨1, 0, none⟩ (Nat.lt_of_lt_of_le hlt (by simp)), World.cell?_alloc_lt _ _ ⟨1, 0, none⟩ hlt]; exact hg
  have htl : t.block < w.heap.size := by
    rcases Nat.lt_or_ge t.block w.heap.size with h | h
    · exact h
    · simp [World.cell?, Array.getElem?_eq_none h] at ht0
  have el := rlElemV ⟨w.heap.size, 0, none⟩ t (((w.alloc (.cells #[.pointer (some t)] 107)).alloc (.cells #[.pointer (some ⟨2, 107, none⟩), .pointer (some ⟨w.heap.size, 0, none⟩), .int .u64 150] 126)).alloc (.cells #[.pointer (some ⟨2, 107, none⟩), .pointer (some ⟨w.heap.size, 0, none⟩), .int .u64 150] 126)) (by rw [World.cell?_alloc_lt _ _ ⟨w.heap.size, 0, none⟩ (by simp; omega)]; simp)
  have st := rlSetE t ⟨w.heap.size + 1 + 1 + 1, 0, none⟩ n old ((((w.alloc (.cells #[.pointer (some t)] 107)).alloc (.cells #[.pointer (some ⟨2, 107, none⟩), .pointer (some ⟨w.heap.size, 0, none⟩), .int .u64 150] 126)).alloc (.cells #[.pointer (some ⟨2, 107, none⟩), .pointer (some ⟨w.heap.size, 0, none⟩), .int .u64 150] 126)).alloc (.cells #[.int .i64 n] 67))
    (by rw [World.cell?_alloc_at _ _ _ _ (by simp)]; rfl)
    (by rw [World.cell?_alloc_lt _ _ t (by simp; omega), World.cell?_alloc_lt _ _ t (by simp; omega), World.cell?_alloc_lt _ _ t (by simp; omega), World.cell?_alloc_lt _ _ t htl]; exact ht0)
    (by rw [World.frozen?_alloc_old _ _ t (by simp; omega), World.frozen?_alloc_old _ _ t (by simp; omega), World.frozen?_alloc_old _ _ t (by simp; omega), World.frozen?_alloc_old _ _ t (Nat.ne_of_lt htl)]; exact hf0)
  go_enter Tryd.func67, Tryd.ntmps67
  go_wp2
  refine wp_loop_rounds 1 ?_
  rw [rounds_succ]
  go_wp2
  go_ret
  exact ⟨rfl, rfl⟩

theorem told_nil (w : World) : Calls Tryd.prog 39 #[.nilIface] w fun e w' => e = .returned (.int .i64 0) ∧ w = w' := by
  go_enter Tryd.func39, Tryd.ntmps39
  go_wp2
  go_ret
  exact ⟨rfl, rfl⟩

set_option maxHeartbeats 1000000 in
theorem told_err (n : Int) (w : World) (hg : Laid w) : Calls Tryd.prog 39 #[.iface 67 (.int .i64 n)] w fun e w' => e = .returned (.int .i64 n) ∧ Below w.heap.size w w' := by
  have hgA : (w.alloc (.cells #[.int .i64 0] 67)).cell? ⟨1, 0, none⟩ = some (.iface 141 (.agg #[.pointer (some ⟨2, 28, none⟩)])) := by
    rw [World.cell?_alloc_lt _ _ ⟨1, 0, none⟩ hg.lt]; exact hg
  have htA : (w.alloc (.cells #[.int .i64 0] 67)).cell? ⟨w.heap.size, 0, none⟩ = some (.int .i64 0) := by simp
  have hfA : (w.alloc (.cells #[.int .i64 0] 67)).frozen? ⟨w.heap.size, 0, none⟩ = false := by simp
  clear hg
  go_enter Tryd.func39, Tryd.ntmps39
  go_wp2_with (go_at_call 67; refine (as_hit _ _ _ _ hgA htA hfA).mono ?_; rintro e w' ⟨rfl, rfl⟩)
  go_ret
  refine ⟨rfl, ?_⟩
  exact ((((((Below.refl _ _).alloc (Nat.le_refl _) _).alloc (by simp) _).alloc (by simp; omega) _).alloc (by simp; omega) _).alloc (by simp; omega) _)

/-- vennsame.Error of nil. -/
theorem same_nil (n : Int) (w : World) : Calls Tryd.prog 17 #[.nilIface, .int .i64 n] w fun e w' => e = .returned (.bool (0 == n)) ∧ w = w' := by
  go_enter Tryd.func17, Tryd.ntmps17
  go_wp2_with (go_at_call 39; refine (told_nil _).mono ?_; rintro e w' ⟨rfl, rfl⟩)
  go_ret
  exact ⟨rfl, rfl⟩
/-- vennsame.Error of an Errno. -/
theorem same_err (m n : Int) (w : World) (hg : Laid w) : Calls Tryd.prog 17 #[.iface 67 (.int .i64 m), .int .i64 n] w fun e w' => e = .returned (.bool (m == n)) ∧ Below w.heap.size w w' := by
  have HG : Hid (Laid w) := hg
  clear hg
  go_enter Tryd.func17, Tryd.ntmps17
  go_wp2_with (go_at_call 39; refine (told_err _ _ HG.out).mono ?_; rintro e w' ⟨rfl, hb⟩)
  go_ret
  exact ⟨rfl, hb⟩
end Go.Proofs.YteknlcachfhfkahDoor

namespace Go.Proofs.YteknlcachfhfkahDoor
open Go.ChangeShapes Go.WideShapes Go.ChangeAt Go.RowKit

theorem merr_any (n : Int) (w : World) (hg : Laid w) : Calls Tryd.prog 17 #[errV n, .int .i64 n] w fun e w' => e = .returned (.bool true) ∧ Below w.heap.size w w' := by
  by_cases h : n = 0
  · subst h
    exact (same_nil 0 w).mono fun _ _ h => ⟨h.1, by rw [← h.2]; exact Below.refl _ _⟩
  · rw [errV_no h]
    have := same_err n n w hg
    rw [beq_self_eq_true] at this; exact this
end Go.Proofs.YteknlcachfhfkahDoor
