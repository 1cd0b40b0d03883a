/-
  A row of formulas of one's own and what it reads as, and the formulas that vennlaw2.CoreEnough lays itself (what its walk leans on).
  Proved: what vennsame.Error returns of an error and its number (what the statements of chapter 9 lean on).
-/
import Derived.Test.YthddegjnaigepagDoorLibC6
import Derived.Test.YthddegjnaigepagDoorLibC5
import Derived.Test.YthddegjnaigepagDoorLibC11
import Derived.Test.YthddegjnaigepagDoorLibC22
import Derived.Maps.AppendAt
import Derived.OwnWalk
import Derived.Laws.OwnMore
import Derived.Test.YthddegjnaigepagDoorLibC15
namespace Go.Proofs.YthddegjnaigepagDoor
open Go.ChangeShapes Go.WideShapes Go.ChangeAt Go.RowKit
set_option maxRecDepth 100000

/-- these cells, two by two, are formulas. -/
def CellsF (w : World) (xs : List Value) (gs : List Fm) : Prop :=
  xs.length = gs.length * 2 ∧ (∀ u ∈ xs, u.oneCell' = true) ∧ ∀ i f, gs[i]? = some f → ∃ va vc, xs[i * 2]? = some va ∧ xs[i * 2 + 1]? = some vc ∧ ReadsA w va f.ats ∧ Reads w vc f.c
theorem CellsF.below {w w' : World} {xs : List Value} {gs : List Fm} (h : CellsF w xs gs) (hb : Below w.heap.size w w') : CellsF w' xs gs :=
  ⟨h.1, h.2.1, fun i f hf => by
    obtain ⟨va, vc, h1, h2, h3, h4⟩ := h.2.2 i f hf
    exact ⟨va, vc, h1, h2, h3.below hb, h4.below hb⟩⟩
theorem CellsF.nil (w : World) : CellsF w [] [] := ⟨rfl, fun u hu => (by cases hu), fun i f hf => (by simp at hf)⟩
theorem CellsF.append {w : World} {xs ys : List Value} {gs hs : List Fm} (h : CellsF w xs gs) (k : CellsF w ys hs) : CellsF w (xs ++ ys) (gs ++ hs) := by
  obtain ⟨h1, h2, h3⟩ := h
  obtain ⟨k1, k2, k3⟩ := k
  refine ⟨by rw [List.length_append, List.length_append]; omega, fun u hu => ?_, fun i f hf => ?_⟩
  · rcases List.mem_append.1 hu with hu | hu
    · exact h2 u hu
    · exact k2 u hu
  · rcases Nat.lt_or_ge i gs.length with hi | hi
    · rw [List.getElem?_append_left hi] at hf
      obtain ⟨va, vc, a, b, c, d⟩ := h3 i f hf
      exact ⟨va, vc, by rw [List.getElem?_append_left (by omega)]; exact a, by rw [List.getElem?_append_left (by omega)]; exact b, c, d⟩
    · rw [List.getElem?_append_right hi] at hf
      obtain ⟨va, vc, a, b, c, d⟩ := k3 _ f hf
      refine ⟨va, vc, ?_, ?_, c, d⟩
      · rw [List.getElem?_append_right (by omega), show i * 2 - xs.length = (i - gs.length) * 2 by omega]; exact a
      · rw [List.getElem?_append_right (by omega), show i * 2 + 1 - xs.length = (i - gs.length) * 2 + 1 by omega]; exact b
theorem CellsF.one {w : World} {va vc : Value} {f : Fm} (o1 : va.oneCell' = true) (o2 : vc.oneCell' = true) (hA : ReadsA w va f.ats) (hC : Reads w vc f.c) : CellsF w [va, vc] [f] := by
  refine ⟨rfl, fun u hu => ?_, fun i g hg => ?_⟩
  · simp at hu; rcases hu with rfl | rfl
    · exact o1
    · exact o2
  · obtain rfl : i = 0 := by have := (List.getElem?_eq_some_iff.1 hg).1; simpa using this
    obtain rfl : f = g := by simpa using hg
    exact ⟨va, vc, rfl, rfl, hA, hC⟩
theorem CellsF.take {w : World} {xs : List Value} {gs : List Fm} (h : CellsF w xs gs) (k : Nat) : CellsF w (xs.take (k * 2)) (gs.take k) := by
  obtain ⟨h1, h2, h3⟩ := h
  refine ⟨by rw [List.length_take, List.length_take, h1]; omega, fun u hu => h2 u (List.mem_of_mem_take hu), fun i f hf => ?_⟩
  have hi : i < k := by have := (List.getElem?_eq_some_iff.1 hf).1; rw [List.length_take] at this; omega
  rw [List.getElem?_take_of_lt hi] at hf
  obtain ⟨va, vc, a, b, c, d⟩ := h3 i f hf
  exact ⟨va, vc, by rw [List.getElem?_take_of_lt (by omega)]; exact a, by rw [List.getElem?_take_of_lt (by omega)]; exact b, c, d⟩
theorem CellsF.drop {w : World} {xs : List Value} {gs : List Fm} (h : CellsF w xs gs) (k : Nat) : CellsF w (xs.drop (k * 2)) (gs.drop k) := by
  obtain ⟨h1, h2, h3⟩ := h
  refine ⟨by rw [List.length_drop, List.length_drop, h1]; omega, fun u hu => h2 u (List.mem_of_mem_drop hu), fun i f hf => ?_⟩
  rw [List.getElem?_drop] at hf
  obtain ⟨va, vc, a, b, c, d⟩ := h3 _ f hf
  exact ⟨va, vc, by rw [List.getElem?_drop, show k * 2 + i * 2 = (k + i) * 2 by omega]; exact a, by rw [List.getElem?_drop, show k * 2 + (i * 2 + 1) = (k + i) * 2 + 1 by omega]; exact b, c, d⟩
/-- a row of one's own of such cells reads as the formulas. -/
theorem own_readsF {w : World} {K : Nat} {v : Value} {xs : List Value} {gs : List Fm} {m : Nat} (hm : m = gs.length) (h : w.ownsRow K 42 2 v m xs) (hc : CellsF w xs gs) (h40 : gs.length ≤ 40) : ReadsF w v gs := by
  subst hm
  rcases h.2 with ⟨rfl, hn0⟩ | ⟨gb, cap, cur, rfl, hb, hgb, hcp, hmx, hs, ht⟩
  · exact Or.inl ⟨none, 0, rfl, List.eq_nil_of_length_eq_zero hn0⟩
  · rcases Nat.eq_zero_or_pos gs.length with hz | hz
    · rw [hz]; exact Or.inl ⟨_, _, rfl, List.eq_nil_of_length_eq_zero hz⟩
    · refine Or.inr ⟨gb, 0, cap, rfl, (Array.getElem?_eq_some_iff.1 hgb).1, hz, ⟨by omega, hcp⟩, fun i f hf => ?_⟩
      have hil : i < gs.length := (List.getElem?_eq_some_iff.1 hf).1
      obtain ⟨va, vc, ca, cc, hA, hC⟩ := hc.2.2 i f hf
      refine ⟨va, vc, ?_, ?_, hA, hC⟩
      · rw [cell_of_row w gb _ cur _ (0, 0) hgb, ← Array.getElem?_toList, show 0 + i * 2 = i * 2 by omega]
        rw [← ht, List.getElem?_take_of_lt (by omega)] at ca
        exact ca
      · rw [cell_of_row w gb _ cur _ (0, 0) hgb, ← Array.getElem?_toList, show 0 + i * 2 + 1 = i * 2 + 1 by omega]
        rw [← ht, List.getElem?_take_of_lt (by omega)] at cc
        exact cc
/-- where a row of one's own lies, and its cells. -/
theorem own_place {w : World} {K : Nat} {v : Value} {m : Nat} {xs : List Value} (h : w.ownsRow K 42 2 v m xs) (h0 : 0 < m) : ∃ g cap, v = .slice (some ⟨g, 0, none⟩) m cap ∧ K ≤ g ∧ g < w.heap.size ∧ m ≤ cap ∧ ∀ j u, xs[j]? = some u → w.cell? ⟨g, j, none⟩ = some u := by
  rcases h.2 with ⟨rfl, hn0⟩ | ⟨gb, cap, cur, rfl, hb, hgb, hcp, hmx, hs, ht⟩
  · omega
  · refine ⟨gb, cap, rfl, hb, (Array.getElem?_eq_some_iff.1 hgb).1, hcp, fun j u hj => ?_⟩
    rw [cell_of_row w gb _ cur _ (0, 0) hgb, ← Array.getElem?_toList]
    have hjl := (List.getElem?_eq_some_iff.1 hj).1
    rw [← ht] at hj hjl
    rw [List.length_take] at hjl
    rw [List.getElem?_take_of_lt (by omega)] at hj
    exact hj
theorem own_slice {w : World} {K : Nat} {v : Value} {m : Nat} {xs : List Value} (h : w.ownsRow K 42 2 v m xs) : ∃ o cap, v = .slice o m cap := by
  rcases h.2 with ⟨rfl, hn0⟩ | ⟨gb, cap, cur, rfl, _⟩
  · exact ⟨none, 0, by rw [hn0]⟩
  · exact ⟨_, cap, rfl⟩
theorem infoFe : (Tryd.prog.info? 42).isSome = true := by kernel_rfl
theorem zeroFe : (Tryd.prog.info? 42).bind (·.zero) = some (.agg #[.slice none 0 0, .slice none 0 0]) := by kernel_rfl
theorem sizeFe : (Tryd.prog.info? 42).map (·.size) = some 2 := by kernel_rfl
theorem bytesFe : (Tryd.prog.info? 42).map (·.bytes) = some 48 := by kernel_rfl
/-- some formulas more, out of another place. -/
theorem append_forms {w : World} {ops : Array Oper} {rest : List Oper} {o : Oper} {a : Act} {Q : Exit → Act → World → Prop} (hgd : o.guard = none) (s x : Operand)
    (ho : o.op = .call { callee := .builtin .append, args := #[s, x], argTypes := #[22, 22] }) (K : Nat) (v : Value) (hs : a.eval s = v) (n : Nat) (xs news : List Value) (m c b off : Nat) (hx : a.eval x = .slice (some ⟨b, off, none⟩) m c)
    (hown : w.ownsRow K 42 2 v n xs) (hl : news.length = m * 2) (h1 : ∀ u ∈ news, u.oneCell' = true) (hB : ∀ j u, news[j]? = some u → w.cell? ⟨b, off + j, none⟩ = some u) (hK : K ≤ w.heap.size) (h12 : n + m ≤ 40)
    (h : ∀ v' w', w'.ownsRow K 42 2 v' (n + m) (xs ++ news) → w.grownBy w' v.ownBlock → wpList Tryd.prog ops Q rest (a.put o.dst v') w') :
    wpList Tryd.prog ops Q (o :: rest) a w := by
  obtain ⟨i1, hi⟩ : ∃ i, Tryd.prog.info? 42 = some i := Option.isSome_iff_exists.1 infoFe
  have hz0 : i1.zero = some (.agg #[.slice none 0 0, .slice none 0 0]) := by have := zeroFe; rw [hi] at this; simpa using this
  have hz1 : i1.size = 2 := by have := sizeFe; rw [hi] at this; simpa using this
  have hz2 : i1.bytes = 48 := by have := bytesFe; rw [hi] at this; simpa using this
  refine wpList_append_own_at w hgd s x 22 ho K 42 i1 _ 2 48 Tryd.underlying22 hi hz0 hz1 hz2 rfl (by decide) v n xs hs hown ⟨b, off, none⟩ m c news hx hl (fun j u hj => by have := hB j u hj; by_cases h0 : j = 0 <;> simp [Addr.add, h0] at this ⊢ <;> exact this) h1 (by unfold maxLen; omega) (by omega) hK ?_
  intro v' w' h1 h2 _ _
  exact h v' w' h1 h2

/-- that a has something, and that it has nothing. -/
def enoughA : Fm := ⟨[⟨3, [0], [], 1⟩], [0]⟩
def enoughB : Fm := ⟨[⟨4, [0], [], 0⟩], [0]⟩
theorem enough_fact : coreFault [enoughA, enoughA, enoughB] 2 = 0 ∧ coreL [enoughA, enoughA, enoughB] 2 = [1, 2] := by decide +kernel
/-- such a formula, laid in four blocks. -/
theorem enough_form {W : World} {G : Nat} {k n : Int} (hS : Blk W G 3 #[.int .i64 0]) (hA : Blk W (G + 1) 39 #[.int .i64 k, .slice (some ⟨G, 0, none⟩) 1 1, .slice none 0 0, .int .i64 n]) (hC : Blk W (G + 1 + 1) 3 #[.int .i64 0]) :
    ReadsA W (.slice (some ⟨G + 1, 0, none⟩) 1 1) [⟨k, [0], [], n⟩] ∧ Reads W (.slice (some ⟨G + 1 + 1, 0, none⟩) 1 1) [0] := by
  refine ⟨Or.inr ⟨G + 1, 0, 1, rfl, hA.lt, by simp, ⟨by simp, by simp⟩, fun i a ha => ?_⟩, Or.inr ⟨G + 1 + 1, 0, 1, rfl, hC.lt, by simp, ⟨by simp, by simp⟩, fun j hj => ?_⟩⟩
  · cases i with
    | zero =>
      obtain rfl : (⟨k, [0], [], n⟩ : At) = a := by simpa using ha
      refine ⟨_, _, hA.cell 0, hA.cell 1, hA.cell 2, hA.cell 3, Or.inr ⟨G, 0, 1, rfl, hS.lt, by simp, ⟨by simp, by simp⟩, fun j hj => ?_⟩, Or.inl ⟨none, 0, rfl, rfl⟩⟩
      obtain rfl : j = 0 := by simp at hj; exact hj
      exact hS.cell 0
    | succ i => simp at ha
  · obtain rfl : j = 0 := by simp at hj; exact hj
    exact hC.cell 0
end Go.Proofs.YthddegjnaigepagDoor

namespace Go.Proofs.YthddegjnaigepagDoor
open Go.ChangeShapes Go.WideShapes Go.ChangeAt Go.RowKit

theorem merr_any (n : Int) (w : World) (hg : Laid w) : Calls Tryd.prog 9 #[errV n, .int .i64 n] w fun e w' => e = .returned (.bool true) ∧ Below w.heap.size w w' := by
  by_cases h : n = 0
  · subst h
    exact (same_nil 0 w).mono fun _ _ h => ⟨h.1, by rw [← h.2]; exact Below.refl _ _⟩
  · rw [errV_no h]
    have := same_err n n w hg
    rw [beq_self_eq_true] at this; exact this
end Go.Proofs.YthddegjnaigepagDoor
