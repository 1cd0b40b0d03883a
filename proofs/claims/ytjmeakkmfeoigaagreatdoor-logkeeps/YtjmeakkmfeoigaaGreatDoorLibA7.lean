/-
  Facts and contracts that the statement leans on.
-/
import Derived.Test.YtjmeakkmfeoigaaGreatDoorLibA6
import Derived.Test.YtjmeakkmfeoigaaGreatDoorLibA5
import Derived.Test.YtjmeakkmfeoigaaGreatDoorLibA3
import Derived.Test.YtjmeakkmfeoigaaGreatDoorLibA4
import Derived.Test.YtjmeakkmfeoigaaGreatDoorLibA1
import Derived.Maps.AppendAt
import Derived.OwnWalk
import Derived.Laws.OwnMore
import Derived.Deep.AppendLies
import Derived.Laws.ResultCell
import Derived.Deep.CutRange
namespace Go.Proofs.YtjmeakkmfeoigaaGreatDoor
open Go.ChangeShapes Go.WideShapes Go.ChangeAt Go.RowKit
theorem cell_off {w : World} {G : Nat} {T : TypeId} {o1 o2 : Option Addr} {l1 c1 l2 c2 : Nat} (hb : Blk w G T #[.slice o1 l1 c1, .slice o2 l2 c2]) {b off : Nat} {n : Int} (h : w.cell? ⟨b, off, none⟩ = some (.int .i64 n)) : b ≠ G := fun e => by
 subst e
 have hc := hb.cell off
 rw [h] at hc
 rcases (by omega : off = 0 ∨ off = 1 ∨ 2 ≤ off) with rfl | rfl | h2
 ·simp at hc
 ·simp at hc
 ·rw [Array.getElem?_eq_none (by simpa using h2)] at hc; cases hc
theorem cell_put {w : World} {G j b off : Nat} (u : Value) (h : b ≠ G) : (w.setCell ⟨G, j, none⟩ u).cell? ⟨b, off, none⟩ = w.cell? ⟨b, off, none⟩ := World.cell?_of_block (Below.heap_setCell _ _ _ _ h)
theorem size_put (w : World) (p : Addr) (u : Value) : (w.setCell p u).heap.size = w.heap.size := by simp [World.setCell]
theorem Reads.put {w : World} {v : Value} {t : List Int} (h : Reads w v t) {G : Nat} {T : TypeId} {o1 o2 : Option Addr} {l1 c1 l2 c2 : Nat} (hb : Blk w G T #[.slice o1 l1 c1, .slice o2 l2 c2]) (j : Nat) (u : Value) : Reads (w.setCell ⟨G, j, none⟩ u) v t := by
 rcases h with h | ⟨b, off, cap, h1, h2, h3, h4, h5⟩
 ·exact Or.inl h
 ·exact Or.inr ⟨b, off, cap, h1, by rw [size_put]; exact h2, h3, h4, fun k hk => by rw [cell_put u (cell_off hb (h5 k hk))]; exact h5 k hk⟩
theorem ReadsA.put {w : World} {v : Value} {ats : List At} (h : ReadsA w v ats) {G : Nat} {T : TypeId} {o1 o2 : Option Addr} {l1 c1 l2 c2 : Nat} (hb : Blk w G T #[.slice o1 l1 c1, .slice o2 l2 c2]) (j : Nat) (u : Value) : ReadsA (w.setCell ⟨G, j, none⟩ u) v ats := by
 rcases h with h | ⟨b, off, cap, h1, h2, h3, h4, h5⟩
 ·exact Or.inl h
 ·refine Or.inr ⟨b, off, cap, h1, by rw [size_put]; exact h2, h3, h4, fun i a hi => ?_⟩
  obtain ⟨vs, vt, k0, k1, k2, k3, r1, r2⟩ := h5 i a hi
  have hne := cell_off hb k0
  exact ⟨vs, vt, by rw [cell_put u hne]; exact k0, by rw [cell_put u hne]; exact k1, by rw [cell_put u hne]; exact k2, by rw [cell_put u hne]; exact k3, r1.put hb j u, r2.put hb j u⟩
def BoxF (w : World) (G : Nat) (f : Fm) : Prop := ∃ o1 l1 c1 o2 l2 c2, Blk w G 39 #[.slice o1 l1 c1, .slice o2 l2 c2] ∧ ReadsA w (.slice o1 l1 c1) f.ats ∧ Reads w (.slice o2 l2 c2) f.c
theorem BoxF.below {w w' : World} {G : Nat} {f : Fm} (h : BoxF w G f) (hb : Below w.heap.size w w') : BoxF w' G f := by
 obtain ⟨o1, l1, c1, o2, l2, c2, h1, h2, h3⟩ := h
 exact ⟨o1, l1, c1, o2, l2, c2, h1.below hb, h2.below hb, h3.below hb⟩
theorem BoxF.put {w : World} {G : Nat} {o1 o2 p1 p2 : Option Addr} {l1 c1 l2 c2 m1 d1 m2 d2 : Nat} {f : Fm} (hb : Blk w G 39 #[.slice p1 m1 d1, .slice p2 m2 d2]) (hA : ReadsA w (.slice o1 l1 c1) f.ats) (hC : Reads w (.slice o2 l2 c2) f.c) :
    BoxF ((w.setCell ⟨G, 0, none⟩ (.slice o1 l1 c1)).setCell ⟨G, 1, none⟩ (.slice o2 l2 c2)) G f := by
 have hb1 : Blk (w.setCell ⟨G, 0, none⟩ (.slice o1 l1 c1)) G 39 #[.slice o1 l1 c1, .slice p2 m2 d2] := hb.set 0 _
 exact ⟨o1, l1, c1, o2, l2, c2, hb1.set 1 _, (hA.put hb 0 _).put hb1 1 _, (hC.put hb 0 _).put hb1 1 _⟩
structure LS2 (w : World) (Rep : Addr → Lg → (Nat → Prop) → World → Prop) (p : Addr) (l : Lg) (S : Nat → Prop) (W : World) : Prop where
 bel : Below w.heap.size w W
 rep : Rep p l S W
 ge : ∀ b, S b → w.heap.size ≤ b
theorem LS2.step {w : World} {Rep : Addr → Lg → (Nat → Prop) → World → Prop} (hok : LogOk w Rep) {p : Addr} {l : Lg} {S : Nat → Prop} {W W' : World} (h : LS2 w Rep p l S W) (hb : Below W.heap.size W W') : LS2 w Rep p l S W' :=
 ⟨h.bel.trans (hb.mono h.bel.size), hok.step h.rep hb, h.ge⟩
theorem LS2.move {w : World} {Rep : Addr → Lg → (Nat → Prop) → World → Prop} {p : Addr} {l l' : Lg} {S S' : Nat → Prop} {W W' : World} (h : LS2 w Rep p l S W) (hr : Rep p l' S' W') (hk : LKeep S W W') (hg : Grows S S' W) : LS2 w Rep p l' S' W' :=
 ⟨h.bel.trans (hk.below h.ge h.bel.size), hr, hg.ge h.ge h.bel.size⟩
end Go.Proofs.YtjmeakkmfeoigaaGreatDoor
namespace Go.Proofs.YtjmeakkmfeoigaaGreatDoor
open Go.RowKit
theorem leftTo_mem {fs : List Fm} {g : Nat → Bool} {f : Fm} : ∀ k, k ≤ fs.length → (f ∈ leftTo fs g k ↔ ∃ j, j < k ∧ g j = false ∧ fs[j]? = some f) := by
 intro k
 induction k with
 | zero => intro _; exact ⟨fun h => by simp [leftTo] at h, fun ⟨j, h, _⟩ => by omega⟩
 | succ k ih =>
  intro hk
  unfold leftTo
  rw [List.mem_append, ih (by omega), List.getElem?_eq_getElem (show k < fs.length by omega)]
  constructor
  ·rintro (⟨j, h1, h2, h3⟩ | h)
   ·exact ⟨j, by omega, h2, h3⟩
   ·cases hg : g k
    ·rw [hg] at h
     simp at h
     exact ⟨k, by omega, hg, by rw [List.getElem?_eq_getElem (by omega), h]⟩
    ·rw [hg] at h; simp at h
  ·rintro ⟨j, h1, h2, h3⟩
   rcases Nat.lt_or_ge j k with h | h
   ·exact Or.inl ⟨j, h, h2, h3⟩
   ·obtain rfl : j = k := by omega
    right
    rw [h2]
    rw [List.getElem?_eq_getElem (by omega)] at h3
    simp at h3
    simp [h3]
theorem putG_same (g : Nat → Bool) (i : Nat) (b : Bool) : putG g i b i = b := by unfold putG; simp
theorem putG_other (g : Nat → Bool) {i k : Nat} (b : Bool) (h : k ≠ i) : putG g i b k = g k := by unfold putG; simp [h]
theorem goneTo_succ (fs : List Fm) (u i : Nat) : goneTo fs u (i + 1) = if openN (leftF fs (putG (goneTo fs u i) i true)) u = true then putG (goneTo fs u i) i false else putG (goneTo fs u i) i true := rfl
theorem coreTo_succ (fs : List Fm) (u i : Nat) : coreTo fs u (i + 1) = if openN (leftF fs (putG (goneTo fs u i) i true)) u = true then coreTo fs u i ++ [(i : Int)] else coreTo fs u i := rfl
theorem goneTo_far (fs : List Fm) (u : Nat) : ∀ i k, i ≤ k → goneTo fs u i k = false := by
 intro i
 induction i with
 | zero => intro k _; rfl
 | succ i ih =>
  intro k hk
  rw [goneTo_succ]
  split
  ·rw [putG_other _ _ (by omega)]; exact ih k (by omega)
  ·rw [putG_other _ _ (by omega)]; exact ih k (by omega)
theorem goneTo_keep (fs : List Fm) (u : Nat) : ∀ d i k, k < i → goneTo fs u (i + d) k = goneTo fs u i k := by
 intro d
 induction d with
 | zero => intro i k _; rfl
 | succ d ih =>
  intro i k hk
  rw [← ih i k hk, show i + (d + 1) = i + d + 1 by omega, goneTo_succ]
  split
  ·rw [putG_other _ _ (by omega)]
  ·rw [putG_other _ _ (by omega)]
theorem left_closed {fs : List Fm} {u : Nat} (h : openN fs u = false) : ∀ i, i ≤ fs.length → openN (leftF fs (goneTo fs u i)) u = false := by
 intro i
 induction i with
 | zero =>
  intro _
  have hsub : ∀ f ∈ fs, f ∈ leftF fs (goneTo fs u 0) := fun f hf => by
   obtain ⟨j, hj⟩ := List.mem_iff_getElem?.1 hf
   exact (leftTo_mem fs.length (Nat.le_refl _)).2 ⟨j, (List.getElem?_eq_some_iff.1 hj).1, rfl, hj⟩
  cases e : openN (leftF fs (goneTo fs u 0)) u
  ·rfl
  ·rw [open_less hsub e] at h; exact absurd h (by decide)
 | succ i ih =>
  intro hi
  have ih := ih (by omega)
  rw [goneTo_succ]
  split
  ·rename_i ho
   have hsame : putG (goneTo fs u i) i false = goneTo fs u i := by
    funext k
    by_cases hk : k = i
    ·rw [hk, putG_same, goneTo_far fs u i i (Nat.le_refl _)]
    ·rw [putG_other _ _ hk]
   rw [hsame]; exact ih
  ·rename_i ho
   simpa using ho
theorem left_less {fs : List Fm} {u : Nat} {i : Nat} (hi : i < fs.length) (hk : goneTo fs u fs.length i = false) {gs : List Fm} (hgs : ∀ f ∈ gs, ∃ j, j < fs.length ∧ j ≠ i ∧ goneTo fs u fs.length j = false ∧ fs[j]? = some f) : openN gs u = true := by
 have e1 : goneTo fs u (i + 1) i = false := by
  have := goneTo_keep fs u (fs.length - (i + 1)) (i + 1) i (by omega)
  rw [show i + 1 + (fs.length - (i + 1)) = fs.length by omega] at this
  rw [← this]; exact hk
 have ho : openN (leftF fs (putG (goneTo fs u i) i true)) u = true := by
  cases ho : openN (leftF fs (putG (goneTo fs u i) i true)) u
  ·have : goneTo fs u (i + 1) i = true := by
    rw [goneTo_succ, if_neg (by rw [ho]; decide), putG_same]
   rw [this] at e1; exact absurd e1 (by decide)
  ·rfl
 refine open_less (fun f hf => ?_) ho
 obtain ⟨j, hj, hji, hjk, hfj⟩ := hgs f hf
 refine (leftTo_mem fs.length (Nat.le_refl _)).2 ⟨j, hj, ?_, hfj⟩
 rw [putG_other _ _ hji]
 rcases Nat.lt_or_ge j i with h | h
 ·have := goneTo_keep fs u (fs.length - i) i j h
  rw [show i + (fs.length - i) = fs.length by omega] at this
  rw [← this]; exact hjk
 ·exact goneTo_far fs u i j h
theorem core_mem {fs : List Fm} {u : Nat} : ∀ i, i ≤ fs.length → (coreTo fs u i).Pairwise (· < ·) ∧ ∀ x : Int, x ∈ coreTo fs u i ↔ ∃ j : Nat, j < i ∧ x = j ∧ goneTo fs u i j = false := by
 intro i
 induction i with
 | zero => intro _; exact ⟨List.Pairwise.nil, fun x => ⟨fun h => (by cases h), fun ⟨j, h, _⟩ => by omega⟩⟩
 | succ i ih =>
  intro hi
  obtain ⟨h1, h2⟩ := ih (by omega)
  have hlow : ∀ j, j < i → goneTo fs u (i + 1) j = goneTo fs u i j := fun j hj => goneTo_keep fs u 1 i j hj
  cases ho : openN (leftF fs (putG (goneTo fs u i) i true)) u
  ·have ec : coreTo fs u (i + 1) = coreTo fs u i := by rw [coreTo_succ, if_neg (by rw [ho]; decide)]
   have eg : goneTo fs u (i + 1) i = true := by
    rw [goneTo_succ, if_neg (by rw [ho]; decide), putG_same]
   rw [ec]
   refine ⟨h1, fun x => ?_⟩
   rw [h2 x]
   constructor
   ·rintro ⟨j, a, b, c⟩; exact ⟨j, by omega, b, by rw [hlow j a]; exact c⟩
   ·rintro ⟨j, a, b, c⟩
    rcases Nat.lt_or_ge j i with h | h
    ·exact ⟨j, h, b, by rw [← hlow j h]; exact c⟩
    ·obtain rfl : j = i := by omega
     rw [eg] at c; exact absurd c (by decide)
  ·have ec : coreTo fs u (i + 1) = coreTo fs u i ++ [(i : Int)] := by rw [coreTo_succ, if_pos ho]
   have eg : goneTo fs u (i + 1) i = false := by
    rw [goneTo_succ, if_pos ho, putG_same]
   rw [ec]
   refine ⟨?_, fun x => ?_⟩
   ·rw [List.pairwise_append]
    refine ⟨h1, by simp, fun a ha b hb => ?_⟩
    obtain ⟨j, hj, rfl, _⟩ := (h2 a).1 ha
    obtain rfl : b = (i : Int) := by simpa using hb
    omega
   ·rw [List.mem_append, h2 x]
    constructor
    ·rintro (⟨j, a, b, c⟩ | h)
     ·exact ⟨j, by omega, b, by rw [hlow j a]; exact c⟩
     ·exact ⟨i, by omega, by simpa using h, eg⟩
    ·rintro ⟨j, a, b, c⟩
     rcases Nat.lt_or_ge j i with h | h
     ·exact Or.inl ⟨j, h, b, by rw [← hlow j h]; exact c⟩
     ·obtain rfl : j = i := by omega
      exact Or.inr (by simp [b])
def coreF (fs : List Fm) (u : Nat) : List Fm := (coreTo fs u fs.length).map fun x => fs.getD x.toNat fmZ
theorem coreF_in {fs : List Fm} {u : Nat} {k : Nat} {x : Int} (hx : (coreTo fs u fs.length)[k]? = some x) : ∃ j : Nat, j < fs.length ∧ x = j ∧ goneTo fs u fs.length j = false ∧ fs[j]? = some (fs.getD x.toNat fmZ) := by
 obtain ⟨j, a, rfl, c⟩ := ((core_mem fs.length (Nat.le_refl _)).2 x).1 (List.mem_of_getElem? hx)
 refine ⟨j, a, rfl, c, ?_⟩
 rw [Int.toNat_natCast, List.getD_eq_getElem?_getD, List.getElem?_eq_getElem a]; rfl
theorem core_closed {fs : List Fm} {u : Nat} (h : openN fs u = false) : openN (coreF fs u) u = false := by
 have hl := left_closed h fs.length (Nat.le_refl _)
 cases e : openN (coreF fs u) u
 ·rfl
 ·have hsub : ∀ f ∈ leftF fs (goneTo fs u fs.length), f ∈ coreF fs u := fun f hf => by
   obtain ⟨j, h1, h2, h3⟩ := (leftTo_mem fs.length (Nat.le_refl _)).1 hf
   unfold coreF
   rw [List.mem_map]
   refine ⟨(j : Int), ((core_mem fs.length (Nat.le_refl _)).2 _).2 ⟨j, h1, rfl, h2⟩, ?_⟩
   rw [Int.toNat_natCast, List.getD_eq_getElem?_getD, h3]; rfl
  rw [open_less hsub e] at hl; exact absurd hl (by decide)
theorem core_without {fs : List Fm} {u : Nat} {k : Nat} (hk : k < (coreF fs u).length) : openN ((coreF fs u).take k ++ (coreF fs u).drop (k + 1)) u = true := by
 have hkc : k < (coreTo fs u fs.length).length := by unfold coreF at hk; simpa using hk
 obtain ⟨i, hi, hx, hg, _⟩ := coreF_in (List.getElem?_eq_getElem hkc)
 refine left_less hi hg fun f hf => ?_
 have hmem : ∃ m, m ≠ k ∧ (coreF fs u)[m]? = some f := by
  rcases List.mem_append.1 hf with h | h
  ·obtain ⟨m, hm⟩ := List.mem_iff_getElem?.1 h
   have hmk : m < k := by have := (List.getElem?_eq_some_iff.1 hm).1; simp at this; omega
   exact ⟨m, by omega, by rw [List.getElem?_take_of_lt hmk] at hm; exact hm⟩
  ·obtain ⟨m, hm⟩ := List.mem_iff_getElem?.1 h
   rw [List.getElem?_drop] at hm
   exact ⟨k + 1 + m, by omega, hm⟩
 obtain ⟨m, hmk, hm⟩ := hmem
 unfold coreF at hm
 rw [List.getElem?_map] at hm
 cases hy : (coreTo fs u fs.length)[m]? with
 | none => rw [hy] at hm; cases hm
 | some y =>
  rw [hy] at hm
  have hf' : fs.getD y.toNat fmZ = f := by simpa using hm
  obtain ⟨j, hj, hyj, hgj, hfj⟩ := coreF_in hy
  refine ⟨j, hj, ?_, hgj, by rw [← hf']; exact hfj⟩
  intro e
  have hp := (core_mem (fs := fs) (u := u) fs.length (Nat.le_refl _)).1
  have hml := (List.getElem?_eq_some_iff.1 hy).1
  have hyv : (coreTo fs u fs.length)[m] = y := (List.getElem?_eq_some_iff.1 hy).2
  rcases Nat.lt_or_gt_of_ne hmk with h | h
  ·have := List.pairwise_iff_getElem.1 hp m k hml hkc h
   rw [hyv, hx, hyj, e] at this; omega
  ·have := List.pairwise_iff_getElem.1 hp k m hkc hml h
   rw [hyv, hx, hyj, e] at this; omega
theorem core_some {fs : List Fm} {u : Nat} (h : openN fs u = false) : 0 < (coreF fs u).length := by
 rcases Nat.eq_zero_or_pos (coreF fs u).length with h0 | h0
 ·have := core_closed h
  rw [List.eq_nil_of_length_eq_zero h0, open_nil] at this
  exact absurd this (by decide)
 ·exact h0
end Go.Proofs.YtjmeakkmfeoigaaGreatDoor
namespace Go.Proofs.YtjmeakkmfeoigaaGreatDoor
open Go.ChangeShapes Go.WideShapes Go.ChangeAt Go.RowKit
set_option maxRecDepth 100000
theorem four_at (w : World) (o0 o1 o2 o3 : Obj) :
    ((((w.alloc o0).alloc o1).alloc o2).alloc o3).heap[w.heap.size]? = some o0 ∧
    ((((w.alloc o0).alloc o1).alloc o2).alloc o3).heap[w.heap.size + 1]? = some o1 ∧
    ((((w.alloc o0).alloc o1).alloc o2).alloc o3).heap[w.heap.size + 1 + 1]? = some o2 ∧
    ((((w.alloc o0).alloc o1).alloc o2).alloc o3).heap[w.heap.size + 1 + 1 + 1]? = some o3 ∧
    Below w.heap.size w ((((w.alloc o0).alloc o1).alloc o2).alloc o3) := by
 have s1 : (w.alloc o0).heap.size = w.heap.size + 1 := World.size_alloc _ _
 have s2 : ((w.alloc o0).alloc o1).heap.size = w.heap.size + 1 + 1 := by rw [World.size_alloc, s1]
 have s3 : (((w.alloc o0).alloc o1).alloc o2).heap.size = w.heap.size + 1 + 1 + 1 := by rw [World.size_alloc, s2]
 refine ⟨?_, ?_, ?_, ?_, ?_⟩
 ·rw [Below.heap_alloc _ _ _ (by omega), Below.heap_alloc _ _ _ (by omega), Below.heap_alloc _ _ _ (by omega)]; exact heap_alloc_new _ _
 ·rw [Below.heap_alloc _ _ _ (by omega), Below.heap_alloc _ _ _ (by omega), ← s1]; exact heap_alloc_new _ _
 ·rw [Below.heap_alloc _ _ _ (by omega), ← s2]; exact heap_alloc_new _ _
 ·rw [← s3]; exact heap_alloc_new _ _
 ·exact ((((Below.refl _ w).alloc (Nat.le_refl _) _).alloc (by omega) _).alloc (by omega) _).alloc (by omega) _
theorem six_few (w : World) (o0 o1 o2 o3 o4 o5 : Obj) :
    ((((((w.alloc o0).alloc o1).alloc o2).alloc o3).alloc o4).alloc o5).heap[w.heap.size]? = some o0 ∧
    ((((((w.alloc o0).alloc o1).alloc o2).alloc o3).alloc o4).alloc o5).heap[w.heap.size + 1]? = some o1 ∧
    ((((((w.alloc o0).alloc o1).alloc o2).alloc o3).alloc o4).alloc o5).heap[w.heap.size + 1 + 1]? = some o2 ∧
    ((((((w.alloc o0).alloc o1).alloc o2).alloc o3).alloc o4).alloc o5).heap[w.heap.size + 1 + 1 + 1]? = some o3 ∧
    ((((((w.alloc o0).alloc o1).alloc o2).alloc o3).alloc o4).alloc o5).heap[w.heap.size + 1 + 1 + 1 + 1]? = some o4 ∧
    ((((((w.alloc o0).alloc o1).alloc o2).alloc o3).alloc o4).alloc o5).heap[w.heap.size + 1 + 1 + 1 + 1 + 1]? = some o5 ∧
    Below w.heap.size w ((((((w.alloc o0).alloc o1).alloc o2).alloc o3).alloc o4).alloc o5) := by
 have s1 : (w.alloc o0).heap.size = w.heap.size + 1 := World.size_alloc _ _
 have s2 : ((w.alloc o0).alloc o1).heap.size = w.heap.size + 1 + 1 := by rw [World.size_alloc, s1]
 obtain ⟨h0, h1, h2, h3, hb⟩ := four_at ((w.alloc o0).alloc o1) o2 o3 o4 o5
 have hb2 : Below w.heap.size w ((w.alloc o0).alloc o1) := (below_alloc1 _ _).alloc (by omega) _
 rw [s2] at h0 h1 h2 h3
 refine ⟨?_, ?_, h0, h1, h2, h3, hb2.trans (hb.mono (by omega))⟩
 ·rw [hb.block _ (by omega), Below.heap_alloc _ _ _ (by omega)]; exact heap_alloc_new _ _
 ·rw [hb.block _ (by omega), ← s1]; exact heap_alloc_new _ _
theorem infoForm : (Tryz.prog.info? 39).map (·.size) = some 2 := by kernel_rfl
end Go.Proofs.YtjmeakkmfeoigaaGreatDoor
namespace Go.Proofs.YtjmeakkmfeoigaaGreatDoor
open Go.ChangeShapes Go.WideShapes Go.ChangeAt Go.RowKit
set_option maxRecDepth 100000
def CellsF (w : World) (xs : List Value) (gs : List Fm) : Prop :=
 xs.length = gs.length * 2 ∧ (∀ u ∈ xs, u.oneCell' = true) ∧ ∀ i f, gs[i]? = some f → ∃ va vc, xs[i * 2]? = some va ∧ xs[i * 2 + 1]? = some vc ∧ ReadsA w va f.ats ∧ Reads w vc f.c
theorem CellsF.below {w w' : World} {xs : List Value} {gs : List Fm} (h : CellsF w xs gs) (hb : Below w.heap.size w w') : CellsF w' xs gs :=
 ⟨h.1, h.2.1, fun i f hf => by
  obtain ⟨va, vc, h1, h2, h3, h4⟩ := h.2.2 i f hf
  exact ⟨va, vc, h1, h2, h3.below hb, h4.below hb⟩⟩
theorem CellsF.nil (w : World) : CellsF w [] [] := ⟨rfl, fun u hu => (by cases hu), fun i f hf => (by simp at hf)⟩
theorem CellsF.append {w : World} {xs ys : List Value} {gs hs : List Fm} (h : CellsF w xs gs) (k : CellsF w ys hs) : CellsF w (xs ++ ys) (gs ++ hs) := by
 obtain ⟨h1, h2, h3⟩ := h
 obtain ⟨k1, k2, k3⟩ := k
 refine ⟨by rw [List.length_append, List.length_append]; omega, fun u hu => ?_, fun i f hf => ?_⟩
 ·rcases List.mem_append.1 hu with hu | hu
  ·exact h2 u hu
  ·exact k2 u hu
 ·rcases Nat.lt_or_ge i gs.length with hi | hi
  ·rw [List.getElem?_append_left hi] at hf
   obtain ⟨va, vc, a, b, c, d⟩ := h3 i f hf
   exact ⟨va, vc, by rw [List.getElem?_append_left (by omega)]; exact a, by rw [List.getElem?_append_left (by omega)]; exact b, c, d⟩
  ·rw [List.getElem?_append_right hi] at hf
   obtain ⟨va, vc, a, b, c, d⟩ := k3 _ f hf
   refine ⟨va, vc, ?_, ?_, c, d⟩
   ·rw [List.getElem?_append_right (by omega), show i * 2 - xs.length = (i - gs.length) * 2 by omega]; exact a
   ·rw [List.getElem?_append_right (by omega), show i * 2 + 1 - xs.length = (i - gs.length) * 2 + 1 by omega]; exact b
theorem CellsF.one {w : World} {va vc : Value} {f : Fm} (o1 : va.oneCell' = true) (o2 : vc.oneCell' = true) (hA : ReadsA w va f.ats) (hC : Reads w vc f.c) : CellsF w [va, vc] [f] := by
 refine ⟨rfl, fun u hu => ?_, fun i g hg => ?_⟩
 ·simp at hu; rcases hu with rfl | rfl
  ·exact o1
  ·exact o2
 ·obtain rfl : i = 0 := by have := (List.getElem?_eq_some_iff.1 hg).1; simpa using this
  obtain rfl : f = g := by simpa using hg
  exact ⟨va, vc, rfl, rfl, hA, hC⟩
theorem CellsF.take {w : World} {xs : List Value} {gs : List Fm} (h : CellsF w xs gs) (k : Nat) : CellsF w (xs.take (k * 2)) (gs.take k) := by
 obtain ⟨h1, h2, h3⟩ := h
 refine ⟨by rw [List.length_take, List.length_take, h1]; omega, fun u hu => h2 u (List.mem_of_mem_take hu), fun i f hf => ?_⟩
 have hi : i < k := by have := (List.getElem?_eq_some_iff.1 hf).1; rw [List.length_take] at this; omega
 rw [List.getElem?_take_of_lt hi] at hf
 obtain ⟨va, vc, a, b, c, d⟩ := h3 i f hf
 exact ⟨va, vc, by rw [List.getElem?_take_of_lt (by omega)]; exact a, by rw [List.getElem?_take_of_lt (by omega)]; exact b, c, d⟩
theorem CellsF.drop {w : World} {xs : List Value} {gs : List Fm} (h : CellsF w xs gs) (k : Nat) : CellsF w (xs.drop (k * 2)) (gs.drop k) := by
 obtain ⟨h1, h2, h3⟩ := h
 refine ⟨by rw [List.length_drop, List.length_drop, h1]; omega, fun u hu => h2 u (List.mem_of_mem_drop hu), fun i f hf => ?_⟩
 rw [List.getElem?_drop] at hf
 obtain ⟨va, vc, a, b, c, d⟩ := h3 _ f hf
 exact ⟨va, vc, by rw [List.getElem?_drop, show k * 2 + i * 2 = (k + i) * 2 by omega]; exact a, by rw [List.getElem?_drop, show k * 2 + (i * 2 + 1) = (k + i) * 2 + 1 by omega]; exact b, c, d⟩
theorem own_readsF {w : World} {K : Nat} {v : Value} {xs : List Value} {gs : List Fm} {m : Nat} (hm : m = gs.length) (h : w.ownsRow K 39 2 v m xs) (hc : CellsF w xs gs) (h40 : gs.length ≤ 40) : ReadsF w v gs := by
 subst hm
 rcases h.2 with ⟨rfl, hn0⟩ | ⟨gb, cap, cur, rfl, hb, hgb, hcp, hmx, hs, ht⟩
 ·exact Or.inl ⟨none, 0, rfl, List.eq_nil_of_length_eq_zero hn0⟩
 ·rcases Nat.eq_zero_or_pos gs.length with hz | hz
  ·rw [hz]; exact Or.inl ⟨_, _, rfl, List.eq_nil_of_length_eq_zero hz⟩
  ·refine Or.inr ⟨gb, 0, cap, rfl, (Array.getElem?_eq_some_iff.1 hgb).1, hz, ⟨by omega, hcp⟩, fun i f hf => ?_⟩
   have hil : i < gs.length := (List.getElem?_eq_some_iff.1 hf).1
   obtain ⟨va, vc, ca, cc, hA, hC⟩ := hc.2.2 i f hf
   refine ⟨va, vc, ?_, ?_, hA, hC⟩
   ·rw [cell_of_row w gb _ cur _ (0, 0) hgb, ← Array.getElem?_toList, show 0 + i * 2 = i * 2 by omega]
    rw [← ht, List.getElem?_take_of_lt (by omega)] at ca
    exact ca
   ·rw [cell_of_row w gb _ cur _ (0, 0) hgb, ← Array.getElem?_toList, show 0 + i * 2 + 1 = i * 2 + 1 by omega]
    rw [← ht, List.getElem?_take_of_lt (by omega)] at cc
    exact cc
theorem own_place {w : World} {K : Nat} {v : Value} {m : Nat} {xs : List Value} (h : w.ownsRow K 39 2 v m xs) (h0 : 0 < m) : ∃ g cap, v = .slice (some ⟨g, 0, none⟩) m cap ∧ K ≤ g ∧ g < w.heap.size ∧ m ≤ cap ∧ ∀ j u, xs[j]? = some u → w.cell? ⟨g, j, none⟩ = some u := by
 rcases h.2 with ⟨rfl, hn0⟩ | ⟨gb, cap, cur, rfl, hb, hgb, hcp, hmx, hs, ht⟩
 ·omega
 ·refine ⟨gb, cap, rfl, hb, (Array.getElem?_eq_some_iff.1 hgb).1, hcp, fun j u hj => ?_⟩
  rw [cell_of_row w gb _ cur _ (0, 0) hgb, ← Array.getElem?_toList]
  have hjl := (List.getElem?_eq_some_iff.1 hj).1
  rw [← ht] at hj hjl
  rw [List.length_take] at hjl
  rw [List.getElem?_take_of_lt (by omega)] at hj
  exact hj
theorem own_sliceC {w : World} {K : Nat} {v : Value} {m : Nat} {xs : List Value} (h : w.ownsRow K 39 2 v m xs) : ∃ o cap, v = .slice o m cap := by
 rcases h.2 with ⟨rfl, hn0⟩ | ⟨gb, cap, cur, rfl, _⟩
 ·exact ⟨none, 0, by rw [hn0]⟩
 ·exact ⟨_, cap, rfl⟩
theorem infoFe : (Tryz.prog.info? 39).isSome = true := by kernel_rfl
theorem zeroFe : (Tryz.prog.info? 39).bind (·.zero) = some (.agg #[.slice none 0 0, .slice none 0 0]) := by kernel_rfl
theorem sizeFe : (Tryz.prog.info? 39).map (·.size) = some 2 := by kernel_rfl
theorem bytesFe : (Tryz.prog.info? 39).map (·.bytes) = some 48 := by kernel_rfl
theorem append_forms {w : World} {ops : Array Oper} {rest : List Oper} {o : Oper} {a : Act} {Q : Exit → Act → World → Prop} (hgd : o.guard = none) (s x : Operand)
    (ho : o.op = .call { callee := .builtin .append, args := #[s, x], argTypes := #[34, 34] }) (K : Nat) (v : Value) (hs : a.eval s = v) (n : Nat) (xs news : List Value) (m c b off : Nat) (hx : a.eval x = .slice (some ⟨b, off, none⟩) m c)
    (hown : w.ownsRow K 39 2 v n xs) (hl : news.length = m * 2) (h1 : ∀ u ∈ news, u.oneCell' = true) (hB : ∀ j u, news[j]? = some u → w.cell? ⟨b, off + j, none⟩ = some u) (hK : K ≤ w.heap.size) (h12 : n + m ≤ 40)
    (h : ∀ v' w', w'.ownsRow K 39 2 v' (n + m) (xs ++ news) → w.grownBy w' v.ownBlock → wpList Tryz.prog ops Q rest (a.put o.dst v') w') :
    wpList Tryz.prog ops Q (o :: rest) a w := by
 obtain ⟨i1, hi⟩ : ∃ i, Tryz.prog.info? 39 = some i := Option.isSome_iff_exists.1 infoFe
 have hz0 : i1.zero = some (.agg #[.slice none 0 0, .slice none 0 0]) := by have := zeroFe; rw [hi] at this; simpa using this
 have hz1 : i1.size = 2 := by have := sizeFe; rw [hi] at this; simpa using this
 have hz2 : i1.bytes = 48 := by have := bytesFe; rw [hi] at this; simpa using this
 refine wpList_append_own_at w hgd s x 34 ho K 39 i1 _ 2 48 Tryz.underlying34 hi hz0 hz1 hz2 rfl (by decide) v n xs hs hown ⟨b, off, none⟩ m c news hx hl (fun j u hj => by have := hB j u hj; by_cases h0 : j = 0 <;> simp [Addr.add, h0] at this ⊢ <;> exact this) h1 (by unfold maxLen; omega) (by omega) hK ?_
 intro v' w' h1 h2 _ _
 exact h v' w' h1 h2
def enoughA : Fm := ⟨[⟨3, [0], [], 1⟩], [0]⟩
def enoughB : Fm := ⟨[⟨4, [0], [], 0⟩], [0]⟩
theorem enough_fact : coreFault [enoughA, enoughA, enoughB] 2 = 0 ∧ coreL [enoughA, enoughA, enoughB] 2 = [1, 2] := by decide +kernel
theorem enough_form {W : World} {G : Nat} {k n : Int} (hS : Blk W G 3 #[.int .i64 0]) (hA : Blk W (G + 1) 29 #[.int .i64 k, .slice (some ⟨G, 0, none⟩) 1 1, .slice none 0 0, .int .i64 n]) (hC : Blk W (G + 1 + 1) 3 #[.int .i64 0]) :
    ReadsA W (.slice (some ⟨G + 1, 0, none⟩) 1 1) [⟨k, [0], [], n⟩] ∧ Reads W (.slice (some ⟨G + 1 + 1, 0, none⟩) 1 1) [0] := by
 refine ⟨Or.inr ⟨G + 1, 0, 1, rfl, hA.lt, by simp, ⟨by simp, by simp⟩, fun i a ha => ?_⟩, Or.inr ⟨G + 1 + 1, 0, 1, rfl, hC.lt, by simp, ⟨by simp, by simp⟩, fun j hj => ?_⟩⟩
 ·cases i with
  | zero =>
   obtain rfl : (⟨k, [0], [], n⟩ : At) = a := by simpa using ha
   refine ⟨_, _, hA.cell 0, hA.cell 1, hA.cell 2, hA.cell 3, Or.inr ⟨G, 0, 1, rfl, hS.lt, by simp, ⟨by simp, by simp⟩, fun j hj => ?_⟩, Or.inl ⟨none, 0, rfl, rfl⟩⟩
   obtain rfl : j = 0 := by simp at hj; exact hj
   exact hS.cell 0
  | succ i => simp at ha
 ·obtain rfl : j = 0 := by simp at hj; exact hj
  exact hC.cell 0
end Go.Proofs.YtjmeakkmfeoigaaGreatDoor
namespace Go.Proofs.YtjmeakkmfeoigaaGreatDoor
open Go.ChangeShapes Go.WideShapes Go.ChangeAt Go.RowKit
set_option maxRecDepth 100000
theorem infoH : (Tryz.prog.info? 3).isSome = true := by kernel_rfl
theorem zeroH : (Tryz.prog.info? 3).bind (·.zero) = some (.int .i64 0) := by kernel_rfl
theorem sizeH : (Tryz.prog.info? 3).map (·.size) = some 1 := by kernel_rfl
theorem bytesH : (Tryz.prog.info? 3).map (·.bytes) = some 8 := by kernel_rfl
theorem append_long {w : World} {ops : Array Oper} {rest : List Oper} {o : Oper} {a : Act} {Q : Exit → Act → World → Prop} (hgd : o.guard = none) (s x : Operand)
    (ho : o.op = .call { callee := .builtin .append, args := #[s, x], argTypes := #[27, 27] }) (K : Nat) (v : Value) (hs : a.eval s = v) (l : List Int) (r : Int) (B c : Nat) (hx : a.eval x = .slice (some ⟨B, 0, none⟩) 1 c)
    (hown : w.ownsRow K 3 1 v l.length (l.map (Value.int .i64))) (hB : w.heap[B]? = some (.cells #[.int .i64 r] 3 (0, 0))) (hK : K ≤ w.heap.size) (h12 : l.length ≤ 1000000)
    (h : ∀ v' w', w'.ownsRow K 3 1 v' (l.length + 1) ((l ++ [r]).map (Value.int .i64)) → w.grownBy w' v.ownBlock → (v'.ownBlock = v.ownBlock ∨ v'.ownBlock = some w.heap.size) → wpList Tryz.prog ops Q rest (a.put o.dst v') w') :
    wpList Tryz.prog ops Q (o :: rest) a w := by
 obtain ⟨i1, hi⟩ : ∃ i, Tryz.prog.info? 3 = some i := Option.isSome_iff_exists.1 infoH
 have hz0 : i1.zero = some (.int .i64 0) := by have := zeroH; rw [hi] at this; simpa using this
 have hz1 : i1.size = 1 := by have := sizeH; rw [hi] at this; simpa using this
 have hz2 : i1.bytes = 8 := by have := bytesH; rw [hi] at this; simpa using this
 refine wpList_append_own_at w hgd s x 27 ho K 3 i1 _ 1 8 Tryz.underlying27 hi hz0 hz1 hz2 rfl (by decide) v l.length (l.map (Value.int .i64)) hs hown ⟨B, 0, none⟩ 1 c [.int .i64 r] hx rfl (World.news_of_block hB) (by simp [Value.oneCell']) (by unfold maxLen; omega) (by omega) hK ?_
 intro v' w' h1 h2 _ h5
 refine h v' w' ?_ h2 h5
 rw [List.map_append]
 exact h1
theorem own_readsL {w : World} {K : Nat} {v : Value} {t : List Int} (h : w.ownsRow K 3 1 v t.length (t.map (Value.int .i64))) (hm : t.length ≤ 9223372036854775807) : Reads w v t := by
 rcases h.2 with ⟨rfl, h0⟩ | ⟨g, cap, cur, rfl, hb, hg, hc, _⟩
 ·exact Or.inl ⟨none, 0, rfl, List.eq_nil_of_length_eq_zero h0⟩
 ·rcases Nat.eq_zero_or_pos t.length with h0 | h0
  ·have e : t = [] := List.eq_nil_of_length_eq_zero h0
   subst e
   exact Or.inl ⟨_, _, rfl, rfl⟩
  ·refine Or.inr ⟨g, 0, cap, rfl, (Array.getElem?_eq_some_iff.1 hg).1, h0, ⟨hm, hc⟩, fun k hk => ?_⟩
   rw [Nat.zero_add, h.cellAt _ (by omega), List.getElem?_map, List.getElem?_eq_getElem hk, List.getD_eq_getElem?_getD, List.getElem?_eq_getElem hk]
   rfl
theorem own_keep {X Y : World} {K n size : Nat} {e : TypeId} {v : Value} {xs : List Value} (h : X.ownsRow K e size v n xs) (hs : ∀ b, v.ownBlock = some b → Y.heap[b]? = X.heap[b]?) : Y.ownsRow K e size v n xs := by
 refine ⟨h.1, ?_⟩
 rcases h.2 with h0 | ⟨g, cap, cur, hv, hb, hg, rest⟩
 ·exact Or.inl h0
 ·exact Or.inr ⟨g, cap, cur, hv, hb, (hs g (by rw [hv]; rfl)).trans hg, rest⟩
end Go.Proofs.YtjmeakkmfeoigaaGreatDoor
namespace Go.Proofs.YtjmeakkmfeoigaaGreatDoor
open Go.ChangeShapes Go.WideShapes Go.ChangeAt Go.RowKit
set_option maxRecDepth 100000
theorem loadF {W : World} {R : Nat} {v u : Value} (h : Blk W R 39 #[v, u]) : (loadVar 39 ⟨R, 0, none⟩).run Tryz.prog W = .ok (.agg #[v, u]) W := by
 have hl := run_loadCells_list (P := Tryz.prog) W ⟨R, 0, none⟩ [v, u] (fun j x hj => by
  have := h.cell j
  rw [← Array.getElem?_toList] at this
  rw [hj] at this
  have ha : (⟨R, 0, none⟩ : Addr).add j = ⟨R, j, none⟩ := by unfold Addr.add; split <;> simp_all
  rw [ha]; exact this)
 simp [loadVar, Tryz.isAgg39, Tryz.sizeOf39, Result.andThen] at hl ⊢
 simp [hl]
theorem results_one {fn : Func} {p : Tmp} {ty : TypeId} (h : fn.results = #[.cell p ty]) (tmps : Array Value) (P : Program) (w : World) :
    (results fn tmps).run P w = ((asAddr (tmps.getD p undef)).run P w).andThen fun a w1 => (loadVar ty a).run P w1 := by
 simp only [results, h]
 simp [Sem.run_bind, Result.andThen]
theorem own_far {X : World} {K n size : Nat} {e : TypeId} {v : Value} {xs : List Value} (h : X.ownsRow K e size v n xs) {p : Addr} (hp : ∀ b, v.ownBlock = some b → b ≠ p.block) (u : Value) : (X.setCell p u).ownsRow K e size v n xs := by
 refine ⟨h.1, ?_⟩
 rcases h.2 with h0 | ⟨g, cap, cur, hv, hb, hg, rest⟩
 ·exact Or.inl h0
 ·exact Or.inr ⟨g, cap, cur, hv, hb, (Below.heap_setCell _ _ _ _ (hp g (by rw [hv]; rfl))).trans hg, rest⟩
set_option maxHeartbeats 8000000 in
theorem refAlone_kp (a : At) (h : Bool) (vs vt : Value) (w : World) (S : Nat → Prop) (hlt : ∀ b, S b → b < w.heap.size) (hS : Kp S w (fun X => Reads X vs a.s)) (hT : Kp S w (fun X => Reads X vt a.t)) :
    Calls Tryz.prog 19 #[.agg #[.int .i64 a.k, vs, vt, .int .i64 a.n], .bool h] w fun e w' => ∃ o1 l1 c1 o2 l2 c2, e = .returned (.agg #[.slice o1 l1 c1, .slice o2 l2 c2]) ∧ Kp S w' (fun X => ReadsA X (.slice o1 l1 c1) (aloneF a h).ats ∧ Reads X (.slice o2 l2 c2) (aloneF a h).c) ∧ Below w.heap.size w w' := by
 obtain ⟨w1, hw1⟩ := nm ((w.alloc (.cells #[.int .i64 a.k, vs, vt, .int .i64 a.n] 29)).alloc (.cells #[.slice none 0 0, .slice none 0 0] 39))
 have b1 : Below w.heap.size w w1 := by rw [hw1]; exact (below_alloc1 _ _).alloc (by simp) _
 have s1 : w1.heap.size = w.heap.size + 2 := by rw [hw1]; simp
 have k0 : Blk w1 w.heap.size 29 #[.int .i64 a.k, vs, vt, .int .i64 a.n] := by rw [hw1]; exact (Blk.new _ _ _).old _
 have k1 : Blk w1 (w.heap.size + 1) 39 #[.slice none 0 0, .slice none 0 0] := by
  rw [hw1]
  have := Blk.new (w.alloc (.cells #[.int .i64 a.k, vs, vt, .int .i64 a.n] 29)) 39 #[.slice none 0 0, .slice none 0 0]
  rw [World.size_alloc] at this
  exact this
 obtain ⟨G, hG⟩ := nm w1.heap.size
 obtain ⟨w2, hw2⟩ := nm (((w1.alloc (.cells #[.int .i64 a.k, vs, vt, .int .i64 a.n] 29)).alloc (.cells #[.int .i64 0] 3)).alloc (.cells #[.slice (some ⟨w1.heap.size, 0, none⟩) 1 1, .slice (some ⟨w1.heap.size + 1, 0, none⟩) 1 1] 39))
 have b2 : Below w1.heap.size w1 w2 := by rw [hw2]; exact ((below_alloc1 _ _).alloc (by simp) _).alloc (by simp; omega) _
 have k2 : Blk w2 G 29 #[.int .i64 a.k, vs, vt, .int .i64 a.n] := by rw [hw2, hG]; exact ((Blk.new _ _ _).old _).old _
 have k3 : Blk w2 (G + 1) 3 #[.int .i64 0] := by
  rw [hw2, hG]
  have := Blk.new (w1.alloc (.cells #[.int .i64 a.k, vs, vt, .int .i64 a.n] 29)) 3 #[.int .i64 0]
  rw [World.size_alloc] at this
  exact this.old _
 have k4 : Blk w2 (G + 1 + 1) 39 #[.slice (some ⟨G, 0, none⟩) 1 1, .slice (some ⟨G + 1, 0, none⟩) 1 1] := by
  rw [hw2, hG]
  have := Blk.new ((w1.alloc (.cells #[.int .i64 a.k, vs, vt, .int .i64 a.n] 29)).alloc (.cells #[.int .i64 0] 3)) 39 #[.slice (some ⟨w1.heap.size, 0, none⟩) 1 1, .slice (some ⟨w1.heap.size + 1, 0, none⟩) 1 1]
  rw [World.size_alloc, World.size_alloc] at this
  exact this
 have HB2 := hide (b1.trans (b2.mono b1.size))
 have HG : Hid (w.heap.size + 2 = G) := by unfold Hid; omega
 have HK1 := hide (k1.below b2)
 have HK2 : Hid (Blk w2 G 29 #[.int .i64 a.k, vs, vt, .int .i64 a.n]) := k2
 have HK3 : Hid (Blk w2 (G + 1) 3 #[.int .i64 0]) := k3
 have HK4 : Hid (Blk w2 (G + 1 + 1) 39 #[.slice (some ⟨G, 0, none⟩) 1 1, .slice (some ⟨G + 1, 0, none⟩) 1 1]) := k4
 have HNs : Hid (∀ g, w.heap.size ≤ g → ¬ S g) := fun g hg hs => by have := hlt g hs; omega
 have HRd : Hid (∀ W, Below w.heap.size w W → Blk W G 29 #[.int .i64 a.k, vs, vt, .int .i64 a.n] → Kp S W (fun X => ReadsA X (.slice (some ⟨G, 0, none⟩) 1 1) [a])) := fun W hW hk0 X hX => by
  have hk := hX.blk hk0 (HNs.out G (by have := HG.out; omega))
  have hwX : LKeep S w X := (LKeep.of_below hW).trans (Grows.refl _ _) hX
  exact Or.inr ⟨G, 0, 1, rfl, hk.lt, by simp, ⟨by simp, by simp⟩, fun i b hb => by
   cases i with
   | zero =>
    obtain rfl : a = b := by simpa using hb
    exact ⟨vs, vt, hk.cell 0, hk.cell 1, hk.cell 2, hk.cell 3, hS X hwX, hT X hwX⟩
   | succ i => simp at hb⟩
 obtain ⟨so, sc, rfl, _⟩ := hS.now.slice
 obtain ⟨tto, tc, rfl, _⟩ := hT.now.slice
 have a0 : w1.cell? ⟨w.heap.size, 0, none⟩ = some (.int .i64 a.k) := k0.cell 0
 have a1 : w1.cell? ⟨w.heap.size, 1, none⟩ = some (.slice so a.s.length sc) := k0.cell 1
 have a2 : w1.cell? ⟨w.heap.size, 2, none⟩ = some (.slice tto a.t.length tc) := k0.cell 2
 have a3 : w1.cell? ⟨w.heap.size, 3, none⟩ = some (.int .i64 a.n) := k0.cell 3
 clear k0 k1 k2 k3 k4 b1 b2 s1 hS hT hlt
 go_enter Tryz.func19, Tryz.ntmps19
 go_upto_region 1 with fail
 rw [← hw1]
 clear hw1
 go_upto_region 2 with fail
 rw [← hw2, ← hG]
 clear hw2 hG a0 a1 a2 a3
 cases h with
 | true =>
  have y0 : w2.cell? ⟨G + 1 + 1, 0, none⟩ = some (.slice (some ⟨G, 0, none⟩) 1 1) := HK4.out.cell 0
  have y1 : w2.cell? ⟨G + 1 + 1, 1, none⟩ = some (.slice (some ⟨G + 1, 0, none⟩) 1 1) := HK4.out.cell 1
  have z0 : w2.cell? ⟨w.heap.size + 1, 0, none⟩ = some (.slice none 0 0) := HK1.out.cell 0
  have z1 : w2.cell? ⟨w.heap.size + 1, 1, none⟩ = some (.slice none 0 0) := HK1.out.cell 1
  have f0 : w2.frozen? ⟨w.heap.size + 1, 0, none⟩ = false := HK1.out.frozen 0
  have f1 : w2.frozen? ⟨w.heap.size + 1, 1, none⟩ = false := HK1.out.frozen 1
  go_wp2
  have hg := HG.out
  have r1 : Blk ((w2.setCell ⟨w.heap.size + 1, 0, none⟩ (.slice (some ⟨G, 0, none⟩) 1 1)).setCell ⟨w.heap.size + 1, 1, none⟩ (.slice (some ⟨G + 1, 0, none⟩) 1 1)) (w.heap.size + 1) 39 #[.slice (some ⟨G, 0, none⟩) 1 1, .slice (some ⟨G + 1, 0, none⟩) 1 1] := (HK1.out.set 0 _).set 1 _
  have l1 := loadF r1
  have hB : Below w.heap.size w ((w2.setCell ⟨w.heap.size + 1, 0, none⟩ (.slice (some ⟨G, 0, none⟩) 1 1)).setCell ⟨w.heap.size + 1, 1, none⟩ (.slice (some ⟨G + 1, 0, none⟩) 1 1)) := (HB2.out.setCell (by simp) _).setCell (by simp) _
  refine bodyPost_ret (v := .agg #[.slice (some ⟨G, 0, none⟩) 1 1, .slice (some ⟨G + 1, 0, none⟩) 1 1]) ?_ rfl ⟨_, _, _, _, _, _, rfl, fun X hX => ⟨HRd.out _ hB ((HK2.out.far (by omega) _ _).far (by omega) _ _) X hX, ?_⟩, hB⟩
  ·rw [results_one rfl]
   simp [asAddr, Result.andThen, l1]
  ·have q0 : Blk ((w2.setCell ⟨w.heap.size + 1, 0, none⟩ (.slice (some ⟨G, 0, none⟩) 1 1)).setCell ⟨w.heap.size + 1, 1, none⟩ (.slice (some ⟨G + 1, 0, none⟩) 1 1)) (G + 1) 3 #[.int .i64 0] := (HK3.out.far (by omega) _ _).far (by omega) _ _
   have q := hX.blk q0 (HNs.out (G + 1) (by omega))
   show Reads _ _ [0]
   refine Or.inr ⟨G + 1, 0, 1, rfl, q.lt, by simp, ⟨by simp, by simp⟩, fun j hj => ?_⟩
   obtain rfl : j = 0 := by have : j < 1 := hj; omega
   exact q.cell 0
 | false =>
  have hg := HG.out
  have HO2 : Hid (w2.ownsRow w.heap.size 3 1 (.slice (some ⟨G + 1, 0, none⟩) 1 1) [(0 : Int)].length ([(0 : Int)].map (Value.int .i64))) := ⟨rfl, Or.inr ⟨G + 1, 1, #[.int .i64 0], rfl, by omega, HK3.out, by decide, by decide, rfl, rfl⟩⟩
  have HS2 := hide (HB2.out.size)
  have HG4 := hide (HK4.out.lt)
  clear hg
  have y1 : w2.cell? ⟨G + 1 + 1, 1, none⟩ = some (.slice (some ⟨G + 1, 0, none⟩) 1 1) := HK4.out.cell 1
  go_wp2_with (at_builtin; refine append_long rfl _ _ rfl w.heap.size (.slice (some ⟨G + 1, 0, none⟩) 1 1) rfl [0] 12 w2.heap.size 1 rfl (HO2.out.alloc _) (heap_alloc_new w2 _) (by have := HS2.out; simp; omega) (by decide) ?_)
  intro v9 w9 hown hgrow hat
  obtain ⟨vo, vn, vc, hv9⟩ : ∃ vo vn vc, v9 = .slice vo vn vc := by
   rcases hown.2 with ⟨rfl, _⟩ | ⟨g, cap, cur, rfl, _⟩
   ·exact ⟨_, _, _, rfl⟩
   ·exact ⟨_, _, _, rfl⟩
  subst hv9
  have keep : ∀ g T cs, Blk w2 g T cs → g ≠ G + 1 → Blk w9 g T cs := fun g T cs hb hne => by
   have h6 := hb.old (.cells #[.int .i64 12] 3)
   unfold Blk
   rw [hgrow.block g h6.lt fun e => hne (Option.some.inj e)]
   exact h6
  have hg := HG.out
  have hB9 : Below w.heap.size w w9 := (HB2.out.alloc HB2.out.size _).grown hgrow (by simp; have := HS2.out; omega) fun b e => by
   have : G + 1 = b := Option.some.inj e
   omega
  have HoB : Hid (∀ b, (Value.slice vo vn vc).ownBlock = some b → b = G + 1 ∨ b = w2.heap.size + 1) := fun b e => by
   rcases hat with h | h
   ·rw [h] at e; left; exact (Option.some.inj e).symm
   ·rw [h] at e; right; have := Option.some.inj e; first | omega | (simp at this; omega)
  have HK1' : Hid (Blk w9 (w.heap.size + 1) 39 #[.slice none 0 0, .slice none 0 0]) := keep _ _ _ HK1.out (by omega)
  have HK2' : Hid (Blk w9 G 29 #[.int .i64 a.k, .slice so a.s.length sc, .slice tto a.t.length tc, .int .i64 a.n]) := keep _ _ _ HK2.out (by omega)
  have HK4' : Hid (Blk w9 (G + 1 + 1) 39 #[.slice (some ⟨G, 0, none⟩) 1 1, .slice (some ⟨G + 1, 0, none⟩) 1 1]) := keep _ _ _ HK4.out (by omega)
  have HB9 := hide hB9
  have HO9 := hide hown
  clear hown hgrow hat keep hB9 y1
  obtain ⟨w10, hw10⟩ := nm (w9.setCell ⟨G + 1 + 1, 1, none⟩ (.slice vo vn vc))
  have HB10 : Hid (Below w.heap.size w w10) := by unfold Hid; rw [hw10]; exact HB9.out.setCell (by simp; omega) _
  have HK1f : Hid (Blk w10 (w.heap.size + 1) 39 #[.slice none 0 0, .slice none 0 0]) := by unfold Hid; rw [hw10]; exact HK1'.out.far (by omega) _ _
  have HK2f : Hid (Blk w10 G 29 #[.int .i64 a.k, .slice so a.s.length sc, .slice tto a.t.length tc, .int .i64 a.n]) := by unfold Hid; rw [hw10]; exact HK2'.out.far (by omega) _ _
  have HK4f : Hid (Blk w10 (G + 1 + 1) 39 #[.slice (some ⟨G, 0, none⟩) 1 1, .slice vo vn vc]) := by unfold Hid; rw [hw10]; exact HK4'.out.set 1 _
  have HO10 : Hid (w10.ownsRow w.heap.size 3 1 (.slice vo vn vc) [(0 : Int), 12].length ([(0 : Int), 12].map (Value.int .i64))) := by
   unfold Hid; rw [hw10]
   exact own_far HO9.out (fun b e => by have h1 := HoB.out b e; have h2 := HG4.out; show b ≠ G + 1 + 1; omega) _
  have y1 : w9.cell? ⟨G + 1 + 1, 1, none⟩ = some (.slice (some ⟨G + 1, 0, none⟩) 1 1) := HK4'.out.cell 1
  have f9 : w9.frozen? ⟨G + 1 + 1, 1, none⟩ = false := HK4'.out.frozen 1
  clear hg
  go_upto_region 4 with fail
  rw [← hw10]
  clear hw10 y1 f9
  have y0 : w10.cell? ⟨G + 1 + 1, 0, none⟩ = some (.slice (some ⟨G, 0, none⟩) 1 1) := HK4f.out.cell 0
  have y1 : w10.cell? ⟨G + 1 + 1, 1, none⟩ = some (.slice vo vn vc) := HK4f.out.cell 1
  have z0 : w10.cell? ⟨w.heap.size + 1, 0, none⟩ = some (.slice none 0 0) := HK1f.out.cell 0
  have z1 : w10.cell? ⟨w.heap.size + 1, 1, none⟩ = some (.slice none 0 0) := HK1f.out.cell 1
  have f0 : w10.frozen? ⟨w.heap.size + 1, 0, none⟩ = false := HK1f.out.frozen 0
  have f1 : w10.frozen? ⟨w.heap.size + 1, 1, none⟩ = false := HK1f.out.frozen 1
  go_wp2
  have hg := HG.out
  have hg4 := HG4.out
  have r1 : Blk ((w10.setCell ⟨w.heap.size + 1, 0, none⟩ (.slice (some ⟨G, 0, none⟩) 1 1)).setCell ⟨w.heap.size + 1, 1, none⟩ (.slice vo vn vc)) (w.heap.size + 1) 39 #[.slice (some ⟨G, 0, none⟩) 1 1, .slice vo vn vc] := (HK1f.out.set 0 _).set 1 _
  have l1 := loadF r1
  have hB : Below w.heap.size w ((w10.setCell ⟨w.heap.size + 1, 0, none⟩ (.slice (some ⟨G, 0, none⟩) 1 1)).setCell ⟨w.heap.size + 1, 1, none⟩ (.slice vo vn vc)) := (HB10.out.setCell (by simp) _).setCell (by simp) _
  refine bodyPost_ret (v := .agg #[.slice (some ⟨G, 0, none⟩) 1 1, .slice vo vn vc]) ?_ rfl ⟨_, _, _, _, _, _, rfl, fun X hX => ⟨HRd.out _ hB ((HK2f.out.far (by omega) _ _).far (by omega) _ _) X hX, ?_⟩, hB⟩
  ·rw [results_one rfl]
   simp [asAddr, Result.andThen, l1]
  ·have hne : ∀ b, (Value.slice vo vn vc).ownBlock = some b → b ≠ w.heap.size + 1 := fun b e => by have := HoB.out b e; omega
   show Reads _ _ [0, 12]
   have hown := own_far (own_far HO10.out hne (.slice (some ⟨G, 0, none⟩) 1 1) (p := ⟨w.heap.size + 1, 0, none⟩)) hne (.slice vo vn vc) (p := ⟨w.heap.size + 1, 1, none⟩)
   refine own_readsL (own_keep hown fun g e => hX.block g ?_ (HNs.out g (hown.lt g e).1)) (by simp)
   exact (hown.lt g e).2
theorem refAlone_any (a : At) (h : Bool) (vs vt : Value) (w : World) (hS : Reads w vs a.s) (hT : Reads w vt a.t) :
    Calls Tryz.prog 19 #[.agg #[.int .i64 a.k, vs, vt, .int .i64 a.n], .bool h] w fun e w' => ∃ o1 l1 c1 o2 l2 c2, e = .returned (.agg #[.slice o1 l1 c1, .slice o2 l2 c2]) ∧ (ReadsA w' (.slice o1 l1 c1) (aloneF a h).ats ∧ Reads w' (.slice o2 l2 c2) (aloneF a h).c) ∧ Below w.heap.size w w' :=
 (refAlone_kp a h vs vt w (fun _ => False) (fun _ h => h.elim) (fun _ hX => hS.below (hX.below (fun _ h => h.elim) (Nat.le_refl _))) (fun _ hX => hT.below (hX.below (fun _ h => h.elim) (Nat.le_refl _)))).mono fun _ _ ⟨o1, l1, c1, o2, l2, c2, h1, h2, h3⟩ => ⟨o1, l1, c1, o2, l2, c2, h1, h2.now, h3⟩
end Go.Proofs.YtjmeakkmfeoigaaGreatDoor
namespace Go.Proofs.YtjmeakkmfeoigaaGreatDoor
open Go.ChangeShapes Go.WideShapes Go.ChangeAt Go.RowKit
set_option maxRecDepth 100000
def RowF (X : World) (v : Value) (xs : List Value) (n : Nat) : Prop :=
 xs.length = n * 2 ∧ ((n = 0 ∧ v = .slice none 0 0) ∨ ∃ b c, v = .slice (some ⟨b, 0, none⟩) n c ∧ n ≤ c ∧ c ≤ maxLen ∧ b < X.heap.size ∧ ∀ j u, xs[j]? = some u → X.cell? ⟨b, j, none⟩ = some u)
theorem RowF.slice {X : World} {v : Value} {xs : List Value} {n : Nat} (h : RowF X v xs n) : ∃ o c, v = .slice o n c := by
 rcases h.2 with ⟨rfl, rfl⟩ | ⟨b, c, rfl, _⟩
 ·exact ⟨none, 0, rfl⟩
 ·exact ⟨_, c, rfl⟩
theorem RowF.reads {X : World} {v : Value} {xs : List Value} {fs : List Fm} (h : RowF X v xs fs.length) (hc : CellsF X xs fs) (h40 : fs.length ≤ 40) : ReadsF X v fs := by
 rcases h.2 with ⟨h0, rfl⟩ | ⟨b, c, rfl, hcp, hmx, hb, hcell⟩
 ·exact Or.inl ⟨none, 0, rfl, List.eq_nil_of_length_eq_zero h0⟩
 ·rcases Nat.eq_zero_or_pos fs.length with hz | hz
  ·rw [hz]; exact Or.inl ⟨_, _, rfl, List.eq_nil_of_length_eq_zero hz⟩
  ·refine Or.inr ⟨b, 0, c, rfl, hb, hz, ⟨by omega, hcp⟩, fun i f hf => ?_⟩
   obtain ⟨va, vc, ca, cc, hA, hC⟩ := hc.2.2 i f hf
   exact ⟨va, vc, by rw [show 0 + i * 2 = i * 2 by omega]; exact hcell _ _ ca, by rw [show 0 + i * 2 + 1 = i * 2 + 1 by omega]; exact hcell _ _ cc, hA, hC⟩
theorem RowF.take {X : World} {b n m c : Nat} {xs : List Value} (h : RowF X (.slice (some ⟨b, 0, none⟩) n c) xs n) (hm : m ≤ n) : RowF X (.slice (some ⟨b, 0, none⟩) m c) (xs.take (m * 2)) m := by
 obtain ⟨hl, h2⟩ := h
 refine ⟨by rw [List.length_take, hl]; omega, ?_⟩
 rcases h2 with ⟨_, h0⟩ | ⟨b', c', hv, h3, h4, h5, h6⟩
 ·cases h0
 ·cases hv
  refine Or.inr ⟨_, _, rfl, by omega, h4, h5, fun j u hj => ?_⟩
  have : j < m * 2 := by have := (List.getElem?_eq_some_iff.1 hj).1; rw [List.length_take] at this; omega
  rw [List.getElem?_take_of_lt this] at hj
  exact h6 j u hj
theorem own_rowF {S : Nat → Prop} {K : Nat} {W : World} {v : Value} {n : Nat} {xs : List Value} (h : W.ownsRow K 39 2 v n xs) (hS : ∀ b, S b → b < K) : Kp S W (fun X => RowF X v xs n) := fun X hX => by
 refine ⟨h.1, ?_⟩
 rcases h.2 with ⟨rfl, h0⟩ | ⟨g, cap, cur, rfl, hb, hg, h3, h4, h5, h6⟩
 ·exact Or.inl ⟨h0, rfl⟩
 ·have hlt : g < W.heap.size := (Array.getElem?_eq_some_iff.1 hg).1
  have hgX : X.heap[g]? = some (.cells cur 39 (0, 0)) := (hX.block g hlt fun hs => by have := hS g hs; omega).trans hg
  refine Or.inr ⟨g, cap, rfl, h3, h4, Nat.lt_of_lt_of_le hlt hX.size, fun j u hj => ?_⟩
  rw [cell_of_row X g _ cur _ (0, 0) hgX, ← Array.getElem?_toList]
  rw [← h6] at hj
  have : j < n * 2 := by have := (List.getElem?_eq_some_iff.1 hj).1; rw [List.length_take] at this; omega
  rw [List.getElem?_take_of_lt this] at hj
  exact hj
def SaidAt (W : World) (v : Value) (fs : List Fm) : Prop := ∃ xs, RowF W v xs fs.length ∧ CellsF W xs fs
theorem RowF.below {W W' : World} {v : Value} {xs : List Value} {n : Nat} (h : RowF W v xs n) (hb : Below W.heap.size W W') : RowF W' v xs n := by
 refine ⟨h.1, ?_⟩
 rcases h.2 with h0 | ⟨b, c, h1, h2, h3, h4, h5⟩
 ·exact Or.inl h0
 ·exact Or.inr ⟨b, c, h1, h2, h3, Nat.lt_of_lt_of_le h4 hb.size, fun j u hj => (hb.cell h4).trans (h5 j u hj)⟩
theorem SaidAt.below {W W' : World} {v : Value} {fs : List Fm} (h : SaidAt W v fs) (hb : Below W.heap.size W W') : SaidAt W' v fs := by
 obtain ⟨xs, h1, h2⟩ := h
 exact ⟨xs, h1.below hb, h2.below hb⟩
theorem SaidAt.reads {W : World} {v : Value} {fs : List Fm} (h : SaidAt W v fs) (h6 : fs.length ≤ 6) : ReadsF W v fs := by
 obtain ⟨xs, h1, h2⟩ := h
 exact h1.reads h2 (by omega)
theorem said_nil (W : World) : SaidAt W (.slice none 0 0) [] := ⟨[], ⟨rfl, Or.inl ⟨rfl, rfl⟩⟩, CellsF.nil W⟩
end Go.Proofs.YtjmeakkmfeoigaaGreatDoor