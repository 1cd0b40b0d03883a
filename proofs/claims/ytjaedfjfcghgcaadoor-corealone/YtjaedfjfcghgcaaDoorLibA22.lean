/-
  Proved: what vennlaw4.atomOf and vennlaw4.pow return; what was in memory is as it was (contracts that the statements lean on).
  A row of formulas of one's own and what it reads as, and the formulas that vennlaw2.CoreEnough lays itself (what its walk leans on).
  Proved: the row's condition on atom.kinds gives the walk its table, and the heap that the program's own initialisers leave meets the condition. (What the tied statement's frame leans on.)
  Plain facts on between how many things a term has in the worlds in which a formula holds (chapter 14). No program is read here.
  Plain facts on what some formulas say of another one (chapter 18). No program is read here.
-/
import Derived.Test.YtjaedfjfcghgcaaDoorLibA6
import Derived.Test.YtjaedfjfcghgcaaDoorLibA1
import Derived.Test.YtjaedfjfcghgcaaDoorLibA16
import Derived.Maps.AppendAt
import Derived.OwnWalk
import Derived.Laws.OwnMore
import Derived.Test.YtjaedfjfcghgcaaDoorLibA21
import Derived.LaidMore
import Derived.LaidHandle
import Derived.Stop.Joined
import Derived.Test.YtjaedfjfcghgcaaDoorLibA5
namespace Go.Proofs.YtjaedfjfcghgcaaDoor
open Go.ChangeShapes Go.WideShapes Go.ChangeAt Go.RowKit
set_option maxRecDepth 100000

theorem four_at (w : World) (o0 o1 o2 o3 : Obj) :
    ((((w.alloc o0).alloc o1).alloc o2).alloc o3).heap[w.heap.size]? = some o0 ∧
    ((((w.alloc o0).alloc o1).alloc o2).alloc o3).heap[w.heap.size + 1]? = some o1 ∧
    ((((w.alloc o0).alloc o1).alloc o2).alloc o3).heap[w.heap.size + 1 + 1]? = some o2 ∧
    ((((w.alloc o0).alloc o1).alloc o2).alloc o3).heap[w.heap.size + 1 + 1 + 1]? = some o3 ∧
    Below w.heap.size w ((((w.alloc o0).alloc o1).alloc o2).alloc o3) := by
  have s1 : (w.alloc o0).heap.size = w.heap.size + 1 := World.size_alloc _ _
  have s2 : ((w.alloc o0).alloc o1).heap.size = w.heap.size + 1 + 1 := by rw [World.size_alloc, s1]
  have s3 : (((w.alloc o0).alloc o1).alloc o2).heap.size = w.heap.size + 1 + 1 + 1 := by rw [World.size_alloc, s2]
  refine ⟨?_, ?_, ?_, ?_, ?_⟩
  · rw [Below.heap_alloc _ _ _ (by omega), Below.heap_alloc _ _ _ (by omega), Below.heap_alloc _ _ _ (by omega)]; exact heap_alloc_new _ _
  · rw [Below.heap_alloc _ _ _ (by omega), Below.heap_alloc _ _ _ (by omega), ← s1]; exact heap_alloc_new _ _
  · rw [Below.heap_alloc _ _ _ (by omega), ← s2]; exact heap_alloc_new _ _
  · rw [← s3]; exact heap_alloc_new _ _
  · exact ((((Below.refl _ w).alloc (Nat.le_refl _) _).alloc (by omega) _).alloc (by omega) _).alloc (by omega) _
theorem six_few (w : World) (o0 o1 o2 o3 o4 o5 : Obj) :
    ((((((w.alloc o0).alloc o1).alloc o2).alloc o3).alloc o4).alloc o5).heap[w.heap.size]? = some o0 ∧
    ((((((w.alloc o0).alloc o1).alloc o2).alloc o3).alloc o4).alloc o5).heap[w.heap.size + 1]? = some o1 ∧
    ((((((w.alloc o0).alloc o1).alloc o2).alloc o3).alloc o4).alloc o5).heap[w.heap.size + 1 + 1]? = some o2 ∧
    ((((((w.alloc o0).alloc o1).alloc o2).alloc o3).alloc o4).alloc o5).heap[w.heap.size + 1 + 1 + 1]? = some o3 ∧
    ((((((w.alloc o0).alloc o1).alloc o2).alloc o3).alloc o4).alloc o5).heap[w.heap.size + 1 + 1 + 1 + 1]? = some o4 ∧
    ((((((w.alloc o0).alloc o1).alloc o2).alloc o3).alloc o4).alloc o5).heap[w.heap.size + 1 + 1 + 1 + 1 + 1]? = some o5 ∧
    Below w.heap.size w ((((((w.alloc o0).alloc o1).alloc o2).alloc o3).alloc o4).alloc o5) := by
  have s1 : (w.alloc o0).heap.size = w.heap.size + 1 := World.size_alloc _ _
  have s2 : ((w.alloc o0).alloc o1).heap.size = w.heap.size + 1 + 1 := by rw [World.size_alloc, s1]
  obtain ⟨h0, h1, h2, h3, hb⟩ := four_at ((w.alloc o0).alloc o1) o2 o3 o4 o5
  have hb2 : Below w.heap.size w ((w.alloc o0).alloc o1) := (below_alloc1 _ _).alloc (by omega) _
  rw [s2] at h0 h1 h2 h3
  refine ⟨?_, ?_, h0, h1, h2, h3, hb2.trans (hb.mono (by omega))⟩
  · rw [hb.block _ (by omega), Below.heap_alloc _ _ _ (by omega)]; exact heap_alloc_new _ _
  · rw [hb.block _ (by omega), ← s1]; exact heap_alloc_new _ _

theorem infoForm : (Tryd.prog.info? 42).map (·.size) = some 2 := by kernel_rfl

set_option maxHeartbeats 4000000 in
theorem atomOf_any (name n : Int) (w : World) :
    Calls Tryd.prog 24 #[.int .i64 name, .int .i64 n] w fun e w' => ∃ b1 b2, e = .returned (.agg #[.slice (some ⟨b1, 0, none⟩) 1 1, .slice (some ⟨b2, 0, none⟩) 1 1]) ∧ ReadsA w' (.slice (some ⟨b1, 0, none⟩) 1 1) [⟨3, [name], [], n⟩] ∧ Reads w' (.slice (some ⟨b2, 0, none⟩) 1 1) [0] ∧ Below w.heap.size w w' := by
  go_enter Tryd.func24, Tryd.ntmps24
  go_wp2
  obtain ⟨b0, b1, b2, b3, hB⟩ := four_at w (.cells #[.slice (some ⟨w.heap.size + 1 + 1, 0, none⟩) 1 1, .slice (some ⟨w.heap.size + 1 + 1 + 1, 0, none⟩) 1 1] 42) (.cells #[.int .i64 name] 3) (.cells #[.int .i64 3, .slice (some ⟨w.heap.size + 1, 0, none⟩) 1 1, .slice none 0 0, .int .i64 n] 39) (.cells #[.int .i64 0] 3)
  obtain ⟨W, hW⟩ : ∃ W, W = (((w.alloc (.cells #[.slice (some ⟨w.heap.size + 1 + 1, 0, none⟩) 1 1, .slice (some ⟨w.heap.size + 1 + 1 + 1, 0, none⟩) 1 1] 42)).alloc (.cells #[.int .i64 name] 3)).alloc (.cells #[.int .i64 3, .slice (some ⟨w.heap.size + 1, 0, none⟩) 1 1, .slice none 0 0, .int .i64 n] 39)).alloc (.cells #[.int .i64 0] 3) := ⟨_, rfl⟩
  rw [← hW] at b0 b1 b2 b3 hB ⊢
  clear hW
  have k1 : Blk W (w.heap.size + 1) 3 #[.int .i64 name] := b1
  have k2 : Blk W (w.heap.size + 1 + 1) 39 #[.int .i64 3, .slice (some ⟨w.heap.size + 1, 0, none⟩) 1 1, .slice none 0 0, .int .i64 n] := b2
  have k3 : Blk W (w.heap.size + 1 + 1 + 1) 3 #[.int .i64 0] := b3
  refine bodyPost_ret (v := .agg #[.slice (some ⟨w.heap.size + 1 + 1, 0, none⟩) 1 1, .slice (some ⟨w.heap.size + 1 + 1 + 1, 0, none⟩) 1 1]) ?_ rfl ⟨_, _, rfl, ?_, ?_, hB⟩
  · exact results_cell_row rfl _ _ w.heap.size 42 _ (0, 0) _ rfl b0 Tryd.underlying42 rfl infoForm
  · refine Or.inr ⟨w.heap.size + 1 + 1, 0, 1, rfl, k2.lt, by simp, ⟨by simp, by simp⟩, fun i a ha => ?_⟩
    cases i with
    | zero =>
      obtain rfl : (⟨3, [name], [], n⟩ : At) = a := by simpa using ha
      refine ⟨_, _, k2.cell 0, k2.cell 1, k2.cell 2, k2.cell 3, Or.inr ⟨w.heap.size + 1, 0, 1, rfl, k1.lt, by simp, ⟨by simp, by simp⟩, fun j hj => ?_⟩, Or.inl ⟨none, 0, rfl, rfl⟩⟩
      obtain rfl : j = 0 := by simp at hj; exact hj
      exact k1.cell 0
    | succ i => simp at ha
  · refine Or.inr ⟨w.heap.size + 1 + 1 + 1, 0, 1, rfl, k3.lt, by simp, ⟨by simp, by simp⟩, fun j hj => ?_⟩
    obtain rfl : j = 0 := by simp at hj; exact hj
    exact k3.cell 0

end Go.Proofs.YtjaedfjfcghgcaaDoor

namespace Go.Proofs.YtjaedfjfcghgcaaDoor
open Go.ChangeShapes Go.WideShapes Go.ChangeAt Go.RowKit
set_option maxRecDepth 100000

/-- these cells, two by two, are formulas. -/
def CellsF (w : World) (xs : List Value) (gs : List Fm) : Prop :=
  xs.length = gs.length * 2 ∧ (∀ u ∈ xs, u.oneCell' = true) ∧ ∀ i f, gs[i]? = some f → ∃ va vc, xs[i * 2]? = some va ∧ xs[i * 2 + 1]? = some vc ∧ ReadsA w va f.ats ∧ Reads w vc f.c
theorem CellsF.below {w w' : World} {xs : List Value} {gs : List Fm} (h : CellsF w xs gs) (hb : Below w.heap.size w w') : CellsF w' xs gs :=
  ⟨h.1, h.2.1, fun i f hf => by
    obtain ⟨va, vc, h1, h2, h3, h4⟩ := h.2.2 i f hf
    exact ⟨va, vc, h1, h2, h3.below hb, h4.below hb⟩⟩
theorem CellsF.nil (w : World) : CellsF w [] [] := ⟨rfl, fun u hu => (by cases hu), fun i f hf => (by simp at hf)⟩
theorem CellsF.append {w : World} {xs ys : List Value} {gs hs : List Fm} (h : CellsF w xs gs) (k : CellsF w ys hs) : CellsF w (xs ++ ys) (gs ++ hs) := by
  obtain ⟨h1, h2, h3⟩ := h
  obtain ⟨k1, k2, k3⟩ := k
  refine ⟨by rw [List.length_append, List.length_append]; omega, fun u hu => ?_, fun i f hf => ?_⟩
  · rcases List.mem_append.1 hu with hu | hu
    · exact h2 u hu
    · exact k2 u hu
  · rcases Nat.lt_or_ge i gs.length with hi | hi
    · rw [List.getElem?_append_left hi] at hf
      obtain ⟨va, vc, a, b, c, d⟩ := h3 i f hf
      exact ⟨va, vc, by rw [List.getElem?_append_left (by omega)]; exact a, by rw [List.getElem?_append_left (by omega)]; exact b, c, d⟩
    · rw [List.getElem?_append_right hi] at hf
      obtain ⟨va, vc, a, b, c, d⟩ := k3 _ f hf
      refine ⟨va, vc, ?_, ?_, c, d⟩
      · rw [List.getElem?_append_right (by omega), show i * 2 - xs.length = (i - gs.length) * 2 by omega]; exact a
      · rw [List.getElem?_append_right (by omega), show i * 2 + 1 - xs.length = (i - gs.length) * 2 + 1 by omega]; exact b
theorem CellsF.one {w : World} {va vc : Value} {f : Fm} (o1 : va.oneCell' = true) (o2 : vc.oneCell' = true) (hA : ReadsA w va f.ats) (hC : Reads w vc f.c) : CellsF w [va, vc] [f] := by
  refine ⟨rfl, fun u hu => ?_, fun i g hg => ?_⟩
  · simp at hu; rcases hu with rfl | rfl
    · exact o1
    · exact o2
  · obtain rfl : i = 0 := by have := (List.getElem?_eq_some_iff.1 hg).1; simpa using this
    obtain rfl : f = g := by simpa using hg
    exact ⟨va, vc, rfl, rfl, hA, hC⟩
theorem CellsF.take {w : World} {xs : List Value} {gs : List Fm} (h : CellsF w xs gs) (k : Nat) : CellsF w (xs.take (k * 2)) (gs.take k) := by
  obtain ⟨h1, h2, h3⟩ := h
  refine ⟨by rw [List.length_take, List.length_take, h1]; omega, fun u hu => h2 u (List.mem_of_mem_take hu), fun i f hf => ?_⟩
  have hi : i < k := by have := (List.getElem?_eq_some_iff.1 hf).1; rw [List.length_take] at this; omega
  rw [List.getElem?_take_of_lt hi] at hf
  obtain ⟨va, vc, a, b, c, d⟩ := h3 i f hf
  exact ⟨va, vc, by rw [List.getElem?_take_of_lt (by omega)]; exact a, by rw [List.getElem?_take_of_lt (by omega)]; exact b, c, d⟩
theorem CellsF.drop {w : World} {xs : List Value} {gs : List Fm} (h : CellsF w xs gs) (k : Nat) : CellsF w (xs.drop (k * 2)) (gs.drop k) := by
  obtain ⟨h1, h2, h3⟩ := h
  refine ⟨by rw [List.length_drop, List.length_drop, h1]; omega, fun u hu => h2 u (List.mem_of_mem_drop hu), fun i f hf => ?_⟩
  rw [List.getElem?_drop] at hf
  obtain ⟨va, vc, a, b, c, d⟩ := h3 _ f hf
  exact ⟨va, vc, by rw [List.getElem?_drop, show k * 2 + i * 2 = (k + i) * 2 by omega]; exact a, by rw [List.getElem?_drop, show k * 2 + (i * 2 + 1) = (k + i) * 2 + 1 by omega]; exact b, c, d⟩
/-- a row of one's own of such cells reads as the formulas. -/
theorem own_readsF {w : World} {K : Nat} {v : Value} {xs : List Value} {gs : List Fm} {m : Nat} (hm : m = gs.length) (h : w.ownsRow K 42 2 v m xs) (hc : CellsF w xs gs) (h40 : gs.length ≤ 40) : ReadsF w v gs := by
  subst hm
  rcases h.2 with ⟨rfl, hn0⟩ | ⟨gb, cap, cur, rfl, hb, hgb, hcp, hmx, hs, ht⟩
  · exact Or.inl ⟨none, 0, rfl, List.eq_nil_of_length_eq_zero hn0⟩
  · rcases Nat.eq_zero_or_pos gs.length with hz | hz
    · rw [hz]; exact Or.inl ⟨_, _, rfl, List.eq_nil_of_length_eq_zero hz⟩
    · refine Or.inr ⟨gb, 0, cap, rfl, (Array.getElem?_eq_some_iff.1 hgb).1, hz, ⟨by omega, hcp⟩, fun i f hf => ?_⟩
      have hil : i < gs.length := (List.getElem?_eq_some_iff.1 hf).1
      obtain ⟨va, vc, ca, cc, hA, hC⟩ := hc.2.2 i f hf
      refine ⟨va, vc, ?_, ?_, hA, hC⟩
      · rw [cell_of_row w gb _ cur _ (0, 0) hgb, ← Array.getElem?_toList, show 0 + i * 2 = i * 2 by omega]
        rw [← ht, List.getElem?_take_of_lt (by omega)] at ca
        exact ca
      · rw [cell_of_row w gb _ cur _ (0, 0) hgb, ← Array.getElem?_toList, show 0 + i * 2 + 1 = i * 2 + 1 by omega]
        rw [← ht, List.getElem?_take_of_lt (by omega)] at cc
        exact cc
/-- where a row of one's own lies, and its cells. -/
theorem own_place {w : World} {K : Nat} {v : Value} {m : Nat} {xs : List Value} (h : w.ownsRow K 42 2 v m xs) (h0 : 0 < m) : ∃ g cap, v = .slice (some ⟨g, 0, none⟩) m cap ∧ K ≤ g ∧ g < w.heap.size ∧ m ≤ cap ∧ ∀ j u, xs[j]? = some u → w.cell? ⟨g, j, none⟩ = some u := by
  rcases h.2 with ⟨rfl, hn0⟩ | ⟨gb, cap, cur, rfl, hb, hgb, hcp, hmx, hs, ht⟩
  · omega
  · refine ⟨gb, cap, rfl, hb, (Array.getElem?_eq_some_iff.1 hgb).1, hcp, fun j u hj => ?_⟩
    rw [cell_of_row w gb _ cur _ (0, 0) hgb, ← Array.getElem?_toList]
    have hjl := (List.getElem?_eq_some_iff.1 hj).1
    rw [← ht] at hj hjl
    rw [List.length_take] at hjl
    rw [List.getElem?_take_of_lt (by omega)] at hj
    exact hj
theorem own_slice {w : World} {K : Nat} {v : Value} {m : Nat} {xs : List Value} (h : w.ownsRow K 42 2 v m xs) : ∃ o cap, v = .slice o m cap := by
  rcases h.2 with ⟨rfl, hn0⟩ | ⟨gb, cap, cur, rfl, _⟩
  · exact ⟨none, 0, by rw [hn0]⟩
  · exact ⟨_, cap, rfl⟩
theorem infoFe : (Tryd.prog.info? 42).isSome = true := by kernel_rfl
theorem zeroFe : (Tryd.prog.info? 42).bind (·.zero) = some (.agg #[.slice none 0 0, .slice none 0 0]) := by kernel_rfl
theorem sizeFe : (Tryd.prog.info? 42).map (·.size) = some 2 := by kernel_rfl
theorem bytesFe : (Tryd.prog.info? 42).map (·.bytes) = some 48 := by kernel_rfl
/-- some formulas more, out of another place. -/
theorem append_forms {w : World} {ops : Array Oper} {rest : List Oper} {o : Oper} {a : Act} {Q : Exit → Act → World → Prop} (hgd : o.guard = none) (s x : Operand)
    (ho : o.op = .call { callee := .builtin .append, args := #[s, x], argTypes := #[22, 22] }) (K : Nat) (v : Value) (hs : a.eval s = v) (n : Nat) (xs news : List Value) (m c b off : Nat) (hx : a.eval x = .slice (some ⟨b, off, none⟩) m c)
    (hown : w.ownsRow K 42 2 v n xs) (hl : news.length = m * 2) (h1 : ∀ u ∈ news, u.oneCell' = true) (hB : ∀ j u, news[j]? = some u → w.cell? ⟨b, off + j, none⟩ = some u) (hK : K ≤ w.heap.size) (h12 : n + m ≤ 40)
    (h : ∀ v' w', w'.ownsRow K 42 2 v' (n + m) (xs ++ news) → w.grownBy w' v.ownBlock → wpList Tryd.prog ops Q rest (a.put o.dst v') w') :
    wpList Tryd.prog ops Q (o :: rest) a w := by
  obtain ⟨i1, hi⟩ : ∃ i, Tryd.prog.info? 42 = some i := Option.isSome_iff_exists.1 infoFe
  have hz0 : i1.zero = some (.agg #[.slice none 0 0, .slice none 0 0]) := by have := zeroFe; rw [hi] at this; simpa using this
  have hz1 : i1.size = 2 := by have := sizeFe; rw [hi] at this; simpa using this
  have hz2 : i1.bytes = 48 := by have := bytesFe; rw [hi] at this; simpa using this
  refine wpList_append_own_at w hgd s x 22 ho K 42 i1 _ 2 48 Tryd.underlying22 hi hz0 hz1 hz2 rfl (by decide) v n xs hs hown ⟨b, off, none⟩ m c news hx hl (fun j u hj => by have := hB j u hj; by_cases h0 : j = 0 <;> simp [Addr.add, h0] at this ⊢ <;> exact this) h1 (by unfold maxLen; omega) (by omega) hK ?_
  intro v' w' h1 h2 _ _
  exact h v' w' h1 h2

/-- that a has something, and that it has nothing. -/
def enoughA : Fm := ⟨[⟨3, [0], [], 1⟩], [0]⟩
def enoughB : Fm := ⟨[⟨4, [0], [], 0⟩], [0]⟩
theorem enough_fact : coreFault [enoughA, enoughA, enoughB] 2 = 0 ∧ coreL [enoughA, enoughA, enoughB] 2 = [1, 2] := by decide +kernel
/-- such a formula, laid in four blocks. -/
theorem enough_form {W : World} {G : Nat} {k n : Int} (hS : Blk W G 3 #[.int .i64 0]) (hA : Blk W (G + 1) 39 #[.int .i64 k, .slice (some ⟨G, 0, none⟩) 1 1, .slice none 0 0, .int .i64 n]) (hC : Blk W (G + 1 + 1) 3 #[.int .i64 0]) :
    ReadsA W (.slice (some ⟨G + 1, 0, none⟩) 1 1) [⟨k, [0], [], n⟩] ∧ Reads W (.slice (some ⟨G + 1 + 1, 0, none⟩) 1 1) [0] := by
  refine ⟨Or.inr ⟨G + 1, 0, 1, rfl, hA.lt, by simp, ⟨by simp, by simp⟩, fun i a ha => ?_⟩, Or.inr ⟨G + 1 + 1, 0, 1, rfl, hC.lt, by simp, ⟨by simp, by simp⟩, fun j hj => ?_⟩⟩
  · cases i with
    | zero =>
      obtain rfl : (⟨k, [0], [], n⟩ : At) = a := by simpa using ha
      refine ⟨_, _, hA.cell 0, hA.cell 1, hA.cell 2, hA.cell 3, Or.inr ⟨G, 0, 1, rfl, hS.lt, by simp, ⟨by simp, by simp⟩, fun j hj => ?_⟩, Or.inl ⟨none, 0, rfl, rfl⟩⟩
      obtain rfl : j = 0 := by simp at hj; exact hj
      exact hS.cell 0
    | succ i => simp at ha
  · obtain rfl : j = 0 := by simp at hj; exact hj
    exact hC.cell 0
end Go.Proofs.YtjaedfjfcghgcaaDoor

namespace Go.Proofs.YtjaedfjfcghgcaaDoor
open Go.ChangeShapes Go.WideShapes Go.ChangeAt Go.RowKit
set_option maxRecDepth 100000

theorem ownN : ownKnob Tryd.prog.godebug = none := by kernel_rfl
def laidN : List (String × DataW Unit) := [("vennhouse/atom.kinds", Rows.laid_vennhouse_atom_kinds)]
theorem kinds_of_met {W : World} (h : laidMetH Tryd.prog laidN W) : KindsLaid W := by
  have h' : laidMet Tryd.prog laidN W := h
  exact kinds_of_head h'
theorem doorN_met (os : Os) (args : Array Value) : laidMetH Tryd.prog laidN ((World.doorLaid Tryd.prog 400 os).forCall (fun _ _ => 0) ⟨#[], args, []⟩).memory := by
  show laidMet Tryd.prog laidN _
  exact laidMet_of_run' 8 (by kernel_rfl) (by kernel_rfl)
end Go.Proofs.YtjaedfjfcghgcaaDoor

namespace Go.Proofs.YtjaedfjfcghgcaaDoor
open Go.RowKit

def spanStep (ats : List At) (c t : List Int) (p : Int × Int) (D : Wd) : Int × Int :=
  if D.formIs ats c = true then (if pcN (D.val t) < p.1 then pcN (D.val t) else p.1, if p.2 < pcN (D.val t) then pcN (D.val t) else p.2) else p
def spanOver (ats : List At) (c t : List Int) (L : List Wd) : Int × Int := L.foldl (spanStep ats c t) (100, -1)
def spanP (ats : List At) (c t : List Int) (u : Nat) : Int × Int := spanOver ats c t (worldsL u)
def spanFault (ats : List At) (c t : List Int) (u : Int) : Int := if formFault ats c = 0 then (if faultN t = 0 then (if 0 ≤ u ∧ u ≤ 6 then (if (spanP ats c t u.toNat).2 < 0 then 5 else 0) else 1) else faultN t) else formFault ats c
def spanLo (ats : List At) (c t : List Int) (u : Int) : Int := if spanFault ats c t u = 0 then (spanP ats c t u.toNat).1 else 0
def spanHi (ats : List At) (c t : List Int) (u : Int) : Int := if spanFault ats c t u = 0 then (spanP ats c t u.toNat).2 else 0
def exactFault (ats : List At) (c t : List Int) (u : Int) : Int := if spanFault ats c t u = 0 then (if spanLo ats c t u = spanHi ats c t u then 0 else 8) else spanFault ats c t u
def exactN (ats : List At) (c t : List Int) (u : Int) : Int := if exactFault ats c t u = 0 then spanLo ats c t u else 0

theorem revInd {α : Type} {P : List α → Prop} (h0 : P []) (h1 : ∀ L a, P L → P (L ++ [a])) : ∀ L, P L := by
  intro L
  have key : ∀ n, P (L.take n) := by
    intro n
    induction n with
    | zero => exact h0
    | succ n ih =>
      rw [List.take_add_one]
      cases h : L[n]? with
      | none => simpa using ih
      | some a => exact h1 _ _ ih
  have := key L.length
  rwa [List.take_length] at this
theorem spanOver_add (ats : List At) (c t : List Int) (L : List Wd) (D : Wd) : spanOver ats c t (L ++ [D]) = spanStep ats c t (spanOver ats c t L) D := by
  unfold spanOver; rw [List.foldl_append]; rfl
/-- all that hold lie between. -/
theorem span_bound {ats : List At} {c t : List Int} : ∀ L : List Wd, ∀ D ∈ L, D.formIs ats c = true → (spanOver ats c t L).1 ≤ pcN (D.val t) ∧ pcN (D.val t) ≤ (spanOver ats c t L).2 := by
  refine revInd ?_ ?_
  · intro D hD; cases hD
  · intro L E ih D hD hf
    rw [spanOver_add]
    unfold spanStep
    rcases List.mem_append.1 hD with h | h
    · obtain ⟨a, b⟩ := ih D h hf
      by_cases hE : E.formIs ats c = true
      · rw [if_pos hE]
        constructor
        · show (if _ then _ else _) ≤ _
          split <;> omega
        · show _ ≤ (if _ then _ else _)
          split <;> omega
      · rw [if_neg hE]; exact ⟨a, b⟩
    · obtain rfl : D = E := by simpa using h
      rw [if_pos hf]
      constructor
      · show (if _ then _ else _) ≤ _
        split <;> omega
      · show _ ≤ (if _ then _ else _)
        split <;> omega
/-- none holds, or both ends are reached. -/
theorem span_hit {ats : List At} {c t : List Int} : ∀ L : List Wd, (spanOver ats c t L = (100, -1) ∧ ∀ D ∈ L, D.formIs ats c = false) ∨ ((∃ D ∈ L, D.formIs ats c = true ∧ pcN (D.val t) = (spanOver ats c t L).1) ∧ ∃ D ∈ L, D.formIs ats c = true ∧ pcN (D.val t) = (spanOver ats c t L).2) := by
  refine revInd ?_ ?_
  · exact Or.inl ⟨rfl, fun D h => by cases h⟩
  · intro L E ih
    rw [spanOver_add]
    have hl : ∀ D, D ∈ L → D ∈ L ++ [E] := fun D h => List.mem_append_left _ h
    have hr : E ∈ L ++ [E] := by simp
    have hp := pcN_le (E.val t)
    rcases Bool.eq_false_or_eq_true (E.formIs ats c) with hE | hE
    · right
      rcases ih with ⟨h1, _⟩ | ⟨⟨D, hD, hf, e⟩, ⟨D', hD', hf', e'⟩⟩
      · rw [h1]
        unfold spanStep
        rw [if_pos hE]
        refine ⟨⟨E, hr, hE, ?_⟩, ⟨E, hr, hE, ?_⟩⟩
        · show _ = (if _ then _ else _)
          rw [if_pos (by show pcN (E.val t) < 100; omega)]
        · show _ = (if _ then _ else _)
          rw [if_pos (by show (-1 : Int) < pcN (E.val t); omega)]
      · unfold spanStep
        rw [if_pos hE]
        constructor
        · by_cases h : pcN (E.val t) < (spanOver ats c t L).1
          · exact ⟨E, hr, hE, by show _ = (if _ then _ else _); rw [if_pos h]⟩
          · exact ⟨D, hl D hD, hf, by show _ = (if _ then _ else _); rw [if_neg h]; exact e⟩
        · by_cases h : (spanOver ats c t L).2 < pcN (E.val t)
          · exact ⟨E, hr, hE, by show _ = (if _ then _ else _); rw [if_pos h]⟩
          · exact ⟨D', hl D' hD', hf', by show _ = (if _ then _ else _); rw [if_neg h]; exact e'⟩
    · have es : spanStep ats c t (spanOver ats c t L) E = spanOver ats c t L := by unfold spanStep; rw [if_neg (by rw [hE]; decide)]
      rw [es]
      rcases ih with ⟨h1, h2⟩ | ⟨⟨D, hD, hf, e⟩, ⟨D', hD', hf', e'⟩⟩
      · left
        refine ⟨h1, fun D hD => ?_⟩
        rcases List.mem_append.1 hD with h | h
        · exact h2 D h
        · obtain rfl : D = E := by simpa using h
          exact hE
      · right
        exact ⟨⟨D, hl D hD, hf, e⟩, ⟨D', hl D' hD', hf', e'⟩⟩
theorem span_zero {ats : List At} {c t : List Int} {u : Int} : spanFault ats c t u = 0 ↔ formFault ats c = 0 ∧ faultN t = 0 ∧ (0 ≤ u ∧ u ≤ 6) ∧ ¬ (spanP ats c t u.toNat).2 < 0 := by
  unfold spanFault
  by_cases h1 : formFault ats c = 0
  · rw [if_pos h1]
    by_cases h2 : faultN t = 0
    · rw [if_pos h2]
      by_cases h3 : 0 ≤ u ∧ u ≤ 6
      · rw [if_pos h3]
        by_cases h4 : (spanP ats c t u.toNat).2 < 0
        · rw [if_pos h4]; exact ⟨fun h => absurd h (by decide), fun h => absurd h4 h.2.2.2⟩
        · rw [if_neg h4]; exact ⟨fun _ => ⟨h1, h2, h3, h4⟩, fun _ => rfl⟩
      · rw [if_neg h3]; exact ⟨fun h => absurd h (by decide), fun h => absurd h.2.2.1 h3⟩
    · rw [if_neg h2]; exact ⟨fun h => absurd h h2, fun h => absurd h.2.1 h2⟩
  · rw [if_neg h1]; exact ⟨fun h => absurd h h1, fun h => absurd h.1 h1⟩
/-- in any world in which it holds the term has as many. -/
theorem span_world {ats : List At} {c t : List Int} {u : Int} (h : spanFault ats c t u = 0) {w : Wd} (hw : w.ok = true) (hu : w.u = u) (hf : w.formIs ats c = true) : spanLo ats c t u ≤ pcN (w.val t) ∧ pcN (w.val t) ≤ spanHi ats c t u := by
  obtain ⟨_, h2, h3, _⟩ := span_zero.1 h
  unfold spanLo spanHi
  rw [if_pos h, if_pos h]
  obtain ⟨D, hD, hl⟩ := worldsL_like (u := u.toNat) hw (by omega)
  obtain ⟨n, hn⟩ := one_term h2
  have := span_bound (worldsL u.toNat) D hD (by rw [hl.form]; exact hf) (t := t)
  rw [hl.size hn] at this
  exact this
/-- there are worlds with the least, and the most. -/
theorem span_ends {ats : List At} {c t : List Int} {u : Int} (h : spanFault ats c t u = 0) : (0 ≤ spanLo ats c t u ∧ spanLo ats c t u ≤ spanHi ats c t u ∧ spanHi ats c t u ≤ 6) ∧
    (∃ w : Wd, w.ok = true ∧ w.u = u ∧ w.formIs ats c = true ∧ pcN (w.val t) = spanLo ats c t u) ∧ ∃ w : Wd, w.ok = true ∧ w.u = u ∧ w.formIs ats c = true ∧ pcN (w.val t) = spanHi ats c t u := by
  obtain ⟨_, h2, h3, h4⟩ := span_zero.1 h
  have e1 : spanLo ats c t u = (spanP ats c t u.toNat).1 := by unfold spanLo; rw [if_pos h]
  have e2 : spanHi ats c t u = (spanP ats c t u.toNat).2 := by unfold spanHi; rw [if_pos h]
  rcases span_hit (ats := ats) (c := c) (t := t) (worldsL u.toNat) with ⟨h5, _⟩ | ⟨⟨D, hD, hf, e⟩, ⟨D', hD', hf', e'⟩⟩
  · exact absurd (show (spanP ats c t u.toNat).2 < 0 by unfold spanP; rw [h5]; decide) h4
  · have hb := span_bound (t := t) _ D hD hf
    have hb' := span_bound (t := t) _ D' hD' hf'
    have p1 := pcN_le (D.val t)
    have p2 := pcN_le (D'.val t)
    have q1 : (spanP ats c t u.toNat).1 = pcN (D.val t) := e.symm
    have q2 : (spanP ats c t u.toNat).2 = pcN (D'.val t) := e'.symm
    rw [e1, e2, q1, q2]
    refine ⟨⟨by omega, ?_, by omega⟩, ⟨D, worldsL_ok (by omega) hD, by rw [worldsL_u (by omega) hD]; omega, hf, rfl⟩, ⟨D', worldsL_ok (by omega) hD', by rw [worldsL_u (by omega) hD']; omega, hf', rfl⟩⟩
    have := hb.2
    rw [← e'] at this
    exact this
end Go.Proofs.YtjaedfjfcghgcaaDoor

namespace Go.Proofs.YtjaedfjfcghgcaaDoor
open Go.RowKit

def askStep (fs : List Fm) (ats : List At) (c : List Int) (p : Int × Int) (D : Wd) : Int × Int :=
  (if (D.so fs && D.formIs ats c) = true then p.1 + 1 else p.1, if (D.so fs && !D.formIs ats c) = true then p.2 + 1 else p.2)
def askOver (fs : List Fm) (ats : List At) (c : List Int) (L : List Wd) : Int × Int := L.foldl (askStep fs ats c) (0, 0)
/-- in how many kinds of worlds it holds, and does not, where they do. -/
def askP (fs : List Fm) (ats : List At) (c : List Int) (u : Nat) : Int × Int := askOver fs ats c (worldsL u)
def answerN (p : Int × Int) : Int := if p.2 = 0 then 1 else if p.1 = 0 then -1 else 0
def askFault (fs : List Fm) (ats : List At) (c : List Int) (u : Int) : Int := if formsFault fs u = 0 then (if formFault ats c = 0 then (if (askP fs ats c u.toNat).1 + (askP fs ats c u.toNat).2 = 0 then 6 else 0) else formFault ats c) else formsFault fs u
def askN (fs : List Fm) (ats : List At) (c : List Int) (u : Int) : Int := if askFault fs ats c u = 0 then answerN (askP fs ats c u.toNat) else 0
def sumP (f : Nat → Int × Int) : Nat → Int × Int
  | 0 => (0, 0)
  | k + 1 => ((sumP f k).1 + (f k).1, (sumP f k).2 + (f k).2)
def alwaysP (fs : List Fm) (ats : List At) (c : List Int) : Int × Int := sumP (askP fs ats c) 7
def alwaysFault (fs : List Fm) (ats : List At) (c : List Int) : Int := if formsFault fs 0 = 0 then (if formFault ats c = 0 then (if (alwaysP fs ats c).1 + (alwaysP fs ats c).2 = 0 then 6 else 0) else formFault ats c) else formsFault fs 0
def alwaysN (fs : List Fm) (ats : List At) (c : List Int) : Int := if alwaysFault fs ats c = 0 then answerN (alwaysP fs ats c) else 0

theorem askOver_add (fs : List Fm) (ats : List At) (c : List Int) (L : List Wd) (D : Wd) : askOver fs ats c (L ++ [D]) = askStep fs ats c (askOver fs ats c L) D := by
  unfold askOver; rw [List.foldl_append]; rfl
theorem ask_range (fs : List Fm) (ats : List At) (c : List Int) : ∀ L : List Wd, (0 ≤ (askOver fs ats c L).1 ∧ 0 ≤ (askOver fs ats c L).2) ∧ (askOver fs ats c L).1 + (askOver fs ats c L).2 ≤ L.length := by
  refine revInd ?_ ?_
  · exact ⟨⟨Int.le_refl _, Int.le_refl _⟩, Int.le_refl _⟩
  · intro L E ih
    rw [askOver_add]
    unfold askStep
    rw [List.length_append]
    cases E.so fs <;> cases E.formIs ats c <;> simp <;> omega
theorem ask_yes (fs : List Fm) (ats : List At) (c : List Int) : ∀ L : List Wd, (askOver fs ats c L).1 = 0 ↔ ∀ D ∈ L, D.so fs = true → D.formIs ats c = false := by
  refine revInd ?_ ?_
  · exact ⟨fun _ D h => (by cases h), fun _ => rfl⟩
  · intro L E ih
    have hr := (ask_range fs ats c L).1.1
    rw [askOver_add]
    show (if (E.so fs && E.formIs ats c) = true then _ else _) = 0 ↔ _
    by_cases h : (E.so fs && E.formIs ats c) = true
    · rw [if_pos h]
      constructor
      · intro g; omega
      · intro g
        rw [Bool.and_eq_true] at h
        have := g E (by simp) h.1
        rw [h.2] at this; exact absurd this (by decide)
    · rw [if_neg h, ih]
      constructor
      · intro g D hD hs
        rcases List.mem_append.1 hD with hD | hD
        · exact g D hD hs
        · obtain rfl : D = E := by simpa using hD
          rw [hs] at h
          simpa using h
      · intro g D hD hs
        exact g D (List.mem_append_left _ hD) hs
theorem ask_no (fs : List Fm) (ats : List At) (c : List Int) : ∀ L : List Wd, (askOver fs ats c L).2 = 0 ↔ ∀ D ∈ L, D.so fs = true → D.formIs ats c = true := by
  refine revInd ?_ ?_
  · exact ⟨fun _ D h => (by cases h), fun _ => rfl⟩
  · intro L E ih
    have hr := (ask_range fs ats c L).1.2
    rw [askOver_add]
    show (if (E.so fs && !E.formIs ats c) = true then _ else _) = 0 ↔ _
    by_cases h : (E.so fs && !E.formIs ats c) = true
    · rw [if_pos h]
      constructor
      · intro g; omega
      · intro g
        rw [Bool.and_eq_true] at h
        have := g E (by simp) h.1
        rw [this] at h; exact absurd h.2 (by decide)
    · rw [if_neg h, ih]
      constructor
      · intro g D hD hs
        rcases List.mem_append.1 hD with hD | hD
        · exact g D hD hs
        · obtain rfl : D = E := by simpa using hD
          rw [hs] at h
          simpa using h
      · intro g D hD hs
        exact g D (List.mem_append_left _ hD) hs
theorem so_alike {w D : Wd} (h : Alike w D) (fs : List Fm) : D.so fs = w.so fs := by
  unfold Wd.so
  congr 1
  funext f
  exact h.form f.ats f.c
/-- in all worlds, not in one of each kind alone. -/
theorem ask_all_no {fs : List Fm} {ats : List At} {c : List Int} {u : Nat} (h : (askP fs ats c u).2 = 0) {w : Wd} (hw : w.ok = true) (hu : w.u = u) (hs : w.so fs = true) : w.formIs ats c = true := by
  obtain ⟨D, hD, hl⟩ := worldsL_like hw hu
  have := (ask_no fs ats c _).1 h D hD (by rw [so_alike hl]; exact hs)
  rw [hl.form] at this
  exact this
theorem ask_all_yes {fs : List Fm} {ats : List At} {c : List Int} {u : Nat} (h : (askP fs ats c u).1 = 0) {w : Wd} (hw : w.ok = true) (hu : w.u = u) (hs : w.so fs = true) : w.formIs ats c = false := by
  obtain ⟨D, hD, hl⟩ := worldsL_like hw hu
  have := (ask_yes fs ats c _).1 h D hD (by rw [so_alike hl]; exact hs)
  rw [hl.form] at this
  exact this
theorem ask_open {fs : List Fm} {ats : List At} {c : List Int} {u : Nat} : (askP fs ats c u).1 + (askP fs ats c u).2 = 0 ↔ openN fs u = false := by
  have hr := (ask_range fs ats c (worldsL u)).1
  have eO : openN fs u = (worldsL u).any fun D => D.so fs := by unfold openN worldsL; rw [List.any_map]; rfl
  have e1 := ask_yes fs ats c (worldsL u)
  have e2 := ask_no fs ats c (worldsL u)
  unfold askP
  constructor
  · intro h
    rw [eO, List.any_eq_false]
    intro D hD hs
    have h1 := e1.1 (by omega) D hD hs
    have h2 := e2.1 (by omega) D hD hs
    rw [h1] at h2; exact absurd h2 (by decide)
  · intro h
    rw [eO, List.any_eq_false] at h
    have h1 := e1.2 fun D hD hs => absurd hs (h D hD)
    have h2 := e2.2 fun D hD hs => absurd hs (h D hD)
    omega
theorem ask_zero {fs : List Fm} {ats : List At} {c : List Int} {u : Int} : askFault fs ats c u = 0 ↔ formsFault fs u = 0 ∧ formFault ats c = 0 ∧ ¬ (askP fs ats c u.toNat).1 + (askP fs ats c u.toNat).2 = 0 := by
  unfold askFault
  by_cases h1 : formsFault fs u = 0
  · rw [if_pos h1]
    by_cases h2 : formFault ats c = 0
    · rw [if_pos h2]
      by_cases h3 : (askP fs ats c u.toNat).1 + (askP fs ats c u.toNat).2 = 0
      · rw [if_pos h3]; exact ⟨fun h => absurd h (by decide), fun h => absurd h3 h.2.2⟩
      · rw [if_neg h3]; exact ⟨fun _ => ⟨h1, h2, h3⟩, fun _ => rfl⟩
    · rw [if_neg h2]; exact ⟨fun h => absurd h h2, fun h => absurd h.2.1 h2⟩
  · rw [if_neg h1]; exact ⟨fun h => absurd h h1, fun h => absurd h.1 h1⟩
/-- of the opposite the opposite follows. -/
theorem ask_neg {fs : List Fm} {ats : List At} {c : List Int} (hf : formFault ats c = 0) (h19 : c.length ≤ 19) {u : Nat} (hu : u ≤ 6) : askP fs ats (c ++ [12]) u = ((askP fs ats c u).2, (askP fs ats c u).1) := by
  have key : ∀ L : List Wd, (∀ D ∈ L, D.ok = true) → askOver fs ats (c ++ [12]) L = ((askOver fs ats c L).2, (askOver fs ats c L).1) := by
    refine revInd ?_ ?_
    · intro _; rfl
    · intro L E ih h
      rw [askOver_add, askOver_add, ih fun D hD => h D (List.mem_append_left _ hD)]
      unfold askStep
      rw [formIs_no hf h19 (h E (by simp)), Bool.not_not]
  exact key _ fun D hD => worldsL_ok hu hD
theorem answer_neg {p : Int × Int} (h : ¬ p.1 + p.2 = 0) : answerN (p.2, p.1) = - answerN p := by
  unfold answerN
  simp only
  by_cases h1 : p.1 = 0
  · rw [if_pos h1, if_neg (by omega : ¬ p.2 = 0), if_pos h1]; rfl
  · rw [if_neg h1]
    by_cases h2 : p.2 = 0
    · rw [if_pos h2, if_pos h2]
    · rw [if_neg h2, if_neg h2, if_neg h1]; rfl
theorem answer_one {p : Int × Int} : answerN p = 1 ↔ p.2 = 0 := by
  unfold answerN
  by_cases h2 : p.2 = 0
  · rw [if_pos h2]; exact ⟨fun _ => h2, fun _ => rfl⟩
  · rw [if_neg h2]
    by_cases h1 : p.1 = 0
    · rw [if_pos h1]; exact ⟨fun h => absurd h (by decide), fun h => absurd h h2⟩
    · rw [if_neg h1]; exact ⟨fun h => absurd h (by decide), fun h => absurd h h2⟩
theorem answer_range (p : Int × Int) : -1 ≤ answerN p ∧ answerN p ≤ 1 := by
  unfold answerN
  split
  · decide
  · split <;> decide
theorem answer_less {p : Int × Int} (h : answerN p = -1) : p.1 = 0 := by
  unfold answerN at h
  by_cases h2 : p.2 = 0
  · rw [if_pos h2] at h; exact absurd h (by decide)
  · rw [if_neg h2] at h
    by_cases h1 : p.1 = 0
    · exact h1
    · rw [if_neg h1] at h; exact absurd h (by decide)
end Go.Proofs.YtjaedfjfcghgcaaDoor
