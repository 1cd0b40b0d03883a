/-
  Proved: vennsame.Atom of two atoms that read as the same returns true; what was in memory is as it was (a contract that the statements lean on).
  Proved: vennsame.Form, of two formulas that read alike, returns true; what was in memory is as it was (a contract that the statements lean on).
  A row of numbers, and of atoms, that a call makes: where it lies, and what it reads as (facts that the contracts of chapter 16 lean on).
  Proved: what turn.eachOnce, turn.moved, turn.renamed and slices.Clone return; what was in memory is as it was (contracts that the statements of chapter 16 lean on).
-/
import Derived.Test.YteknlcachfhfkahDoorLibTU12
import Derived.Test.YteknlcachfhfkahDoorLibTU10
import Derived.Test.YteknlcachfhfkahDoorLibTU8
import Derived.Deep.RegionWith
import Derived.Deep.Cut
import Derived.Deep.CutRange
import Derived.Test.YteknlcachfhfkahDoorLibTU6
import Derived.Deep.Onto
import Derived.Lib.Walk
import Derived.Lib.SliceRun
namespace Go.Proofs.YteknlcachfhfkahDoor
open Go.ChangeShapes Go.WideShapes Go.ChangeAt Go.RowKit
set_option maxRecDepth 100000

set_option maxHeartbeats 2000000 in
theorem atom_same (k n : Int) (vs vt us ut : Value) (s t : List Int) (w : World) (hS : Reads w vs s) (hT : Reads w vt t) (hS' : Reads w us s) (hT' : Reads w ut t) :
    Calls Tryd.prog 49 #[.agg #[.int .i64 k, vs, vt, .int .i64 n], .agg #[.int .i64 k, us, ut, .int .i64 n]] w fun e w' => e = .returned (.bool true) ∧ Below w.heap.size w w' := by
  have h1 : ∀ W, Below w.heap.size w W → _ := fun W h => ints_same s vs us W (hS.below h) (hS'.below h)
  have h2 : ∀ W, Below w.heap.size w W → _ := fun W h => ints_same t vt ut W (hT.below h) (hT'.below h)
  obtain ⟨a0, b0, rfl, _⟩ := hS.slice
  obtain ⟨a1, b1, rfl, _⟩ := hT.slice
  obtain ⟨a2, b2, rfl, _⟩ := hS'.slice
  obtain ⟨a3, b3, rfl, _⟩ := hT'.slice
  clear hS hT hS' hT'
  obtain ⟨w1, hw1⟩ : ∃ w1, w1 = (w.alloc (.cells #[.int .i64 k, .slice a0 s.length b0, .slice a1 t.length b1, .int .i64 n] 49)).alloc (.cells #[.int .i64 k, .slice a2 s.length b2, .slice a3 t.length b3, .int .i64 n] 49) := ⟨_, rfl⟩
  have HB1 : Hid (Below w.heap.size w w1) := by unfold Hid; rw [hw1]; exact (below_alloc1 w _).trans ((below_alloc1 _ _).mono (by simp))
  have HX : Hid (w1.cell? ⟨w.heap.size, 2, none⟩ = some (.slice a1 t.length b1) ∧ w1.cell? ⟨w.heap.size + 1, 2, none⟩ = some (.slice a3 t.length b3) ∧ w.heap.size + 1 < w1.heap.size) := by
    unfold Hid; rw [hw1]
    refine ⟨?_, ?_, by simp⟩
    · rw [World.cell?_alloc_lt _ _ ⟨w.heap.size, 2, none⟩ (by simp)]; simp
    · rw [World.cell?_alloc_at _ _ _ _ (by simp)]; rfl
  have H1 : Hid (Calls Tryd.prog 50 #[.slice a0 s.length b0, .slice a2 s.length b2] w1 fun e w' => e = .returned (.bool true) ∧ Below w1.heap.size w1 w') := h1 w1 HB1.out
  have H2 : Hid (∀ W, Below w.heap.size w W → Calls Tryd.prog 50 #[.slice a1 t.length b1, .slice a3 t.length b3] W fun e w' => e = .returned (.bool true) ∧ Below W.heap.size W w') := h2
  clear h1 h2
  go_enter Tryd.func49, Tryd.ntmps49
  go_wp2_with fail
  rw [← hw1]
  clear hw1
  go_at_call 50
  refine H1.out.mono ?_
  rintro e w2 ⟨rfl, hb⟩
  have HB2 : Hid (Below w.heap.size w w2) := HB1.out.trans (hb.mono HB1.out.size)
  have x2 := (hb.cell (p := ⟨w.heap.size, 2, none⟩) (Nat.lt_of_succ_lt HX.out.2.2)).trans HX.out.1
  have y2 := (hb.cell (p := ⟨w.heap.size + 1, 2, none⟩) HX.out.2.2).trans HX.out.2.1
  clear hb
  go_wp2_with fail
  go_at_call 50
  refine (H2.out _ HB2.out).mono ?_
  rintro e w3 ⟨rfl, hb⟩
  have HB3 : Hid (Below w.heap.size w w3) := HB2.out.trans (hb.mono HB2.out.size)
  clear hb
  go_wp2
  go_ret
  exact ⟨rfl, HB3.out⟩
end Go.Proofs.YteknlcachfhfkahDoor

namespace Go.Proofs.YteknlcachfhfkahDoor
open Go.ChangeShapes Go.WideShapes Go.ChangeAt Go.RowKit
set_option maxRecDepth 100000

set_option maxHeartbeats 8000000 in
theorem form_same (va vc ua uc : Value) (ats : List At) (c : List Int) (w : World) (hA : ReadsA w va ats) (hC : Reads w vc c) (hA' : ReadsA w ua ats) (hC' : Reads w uc c) :
    Calls Tryd.prog 25 #[.agg #[va, vc], .agg #[ua, uc]] w fun e w' => e = .returned (.bool true) ∧ Below w.heap.size w w' := by
  obtain ⟨ao, acap, rfl, hm63⟩ := hA.slice
  obtain ⟨co, ccap, rfl, _⟩ := hC.slice
  obtain ⟨bo, bcap, rfl, _⟩ := hA'.slice
  obtain ⟨eo, ecap, rfl, _⟩ := hC'.slice
  obtain ⟨w1, hw1⟩ : ∃ w1, w1 = (w.alloc (.cells #[.slice ao ats.length acap, .slice co c.length ccap] 25)).alloc (.cells #[.slice bo ats.length bcap, .slice eo c.length ecap] 25) := ⟨_, rfl⟩
  have HB1 : Hid (Below w.heap.size w w1) := by unfold Hid; rw [hw1]; exact (below_alloc1 _ _).trans ((below_alloc1 _ _).mono (by simp))
  have HS1 : Hid (w1.heap.size = w.heap.size + 2) := by unfold Hid; rw [hw1]; simp
  have HX : Hid ((w1.cell? ⟨w.heap.size, 0, none⟩ = some (.slice ao ats.length acap) ∧ w1.cell? ⟨w.heap.size, 1, none⟩ = some (.slice co c.length ccap)) ∧ (w1.cell? ⟨w.heap.size + 1, 0, none⟩ = some (.slice bo ats.length bcap) ∧ w1.cell? ⟨w.heap.size + 1, 1, none⟩ = some (.slice eo c.length ecap))) := by
    unfold Hid; rw [hw1]
    have q : w.heap.size + 1 = (w.alloc (.cells #[.slice ao ats.length acap, .slice co c.length ccap] 25)).heap.size := by simp
    have r : ∀ o j, ((w.alloc (.cells #[.slice ao ats.length acap, .slice co c.length ccap] 25)).alloc o).cell? ⟨w.heap.size, j, none⟩ = (w.alloc (.cells #[.slice ao ats.length acap, .slice co c.length ccap] 25)).cell? ⟨w.heap.size, j, none⟩ := fun o j => World.cell?_alloc_lt _ _ ⟨w.heap.size, j, none⟩ (by simp)
    simp only [r]
    rw [q]
    simp
  have HA : Hid (ReadsA w1 (.slice ao ats.length acap) ats ∧ ReadsA w1 (.slice bo ats.length bcap) ats) := ⟨hA.below HB1.out, hA'.below HB1.out⟩
  have HC : Hid (Reads w1 (.slice co c.length ccap) c ∧ Reads w1 (.slice eo c.length ecap) c) := ⟨hC.below HB1.out, hC'.below HB1.out⟩
  clear hA hC hA' hC'
  obtain ⟨m, hm⟩ : ∃ m, m = ats.length := ⟨_, rfl⟩
  obtain ⟨n, hn⟩ : ∃ n, n = c.length := ⟨_, rfl⟩
  rw [← hm] at hw1 HX HA hm63 ⊢
  rw [← hn] at hw1 HX HC ⊢
  have HM : Hid (m = ats.length) := hm
  clear hm hn
  obtain ⟨⟨x0, x1⟩, ⟨z0, z1⟩⟩ := HX.out
  go_enter Tryd.func25, Tryd.ntmps25
  go_wp2
  rw [← hw1]
  clear hw1 x0 x1 z0 z1
  go_loopw [5] (fun i wr => ∃ k : Nat, k ≤ m ∧ i = .int .i64 k ∧ Below w1.heap.size w1 wr) (fun i _ => m - (intOf i).toNat)
  case atStart => exact ⟨0, Nat.zero_le _, rfl, Below.refl _ _⟩
  case round =>
    obtain ⟨k, hk, rfl, hbel⟩ := hrel
    have HB : Hid (Below w1.heap.size w1 wr) := hbel
    clear hbel
    have l0 : w.heap.size < w1.heap.size := by have := HS1.out; omega
    have l1 : w.heap.size + 1 < w1.heap.size := by have := HS1.out; omega
    have x0 : wr.cell? ⟨w.heap.size, 0, none⟩ = some (.slice ao m acap) := by rw [HB.out.cell l0]; exact HX.out.1.1
    have x1 : wr.cell? ⟨w.heap.size, 1, none⟩ = some (.slice co n ccap) := by rw [HB.out.cell l0]; exact HX.out.1.2
    have z0 : wr.cell? ⟨w.heap.size + 1, 0, none⟩ = some (.slice bo m bcap) := by rw [HB.out.cell l1]; exact HX.out.2.1
    have z1 : wr.cell? ⟨w.heap.size + 1, 1, none⟩ = some (.slice eo n ecap) := by rw [HB.out.cell l1]; exact HX.out.2.2
    clear l0 l1
    by_cases hlt : k < m
    · obtain ⟨a, ha⟩ : ∃ a, ats[k]? = some a := ⟨_, List.getElem?_eq_getElem (by have := HM.out; omega)⟩
      rcases HA.out.1.below HB.out with ⟨_, _, hv, hn⟩ | ⟨b, off, cap, hv, hb, _, _, hall⟩
      · have := HM.out; rw [hn] at this; simp at this; omega
      obtain rfl : ao = some ⟨b, off, none⟩ := by cases hv; rfl
      rcases HA.out.2.below HB.out with ⟨_, _, hv2, hn⟩ | ⟨b2, off2, cap2, hv2, hb2, _, _, hall2⟩
      · have := HM.out; rw [hn] at this; simp at this; omega
      obtain rfl : bo = some ⟨b2, off2, none⟩ := by cases hv2; rfl
      obtain ⟨vs, vt, c0, c1, c2, c3, r1, r2⟩ := hall k a ha
      obtain ⟨us, ut, d0, d1, d2, d3, r3, r4⟩ := hall2 k a ha
      obtain ⟨sao, scap, rfl, _⟩ := r1.slice
      obtain ⟨tao, tcap, rfl, _⟩ := r2.slice
      obtain ⟨sbo, sdap, rfl, _⟩ := r3.slice
      obtain ⟨tbo, tdap, rfl, _⟩ := r4.slice
      clear hv hall hv2 hall2
      have HCk : Hid (∀ W, Below wr.heap.size wr W → Calls Tryd.prog 49 #[.agg #[.int .i64 a.k, .slice sao a.s.length scap, .slice tao a.t.length tcap, .int .i64 a.n], .agg #[.int .i64 a.k, .slice sbo a.s.length sdap, .slice tbo a.t.length tdap, .int .i64 a.n]] W fun e w' => e = .returned (.bool true) ∧ Below W.heap.size W w') := fun W h => atom_same a.k a.n _ _ _ _ a.s a.t W (r1.below h) (r2.below h) (r3.below h) (r4.below h)
      clear r1 r2 r3 r4
      have hlt' : (k : Int) < (m : Int) := by omega
      go_wp2_with fail
      go_cut [6] from 14 to 33 (fun ok wx => ok = .bool true ∧ Below w1.heap.size w1 wx)
      case first =>
        go_region_with (go_at_call 49; refine (HCk.out _ (by first | exact Below.refl _ _ | exact below_drewNs _ _)).mono ?_; rintro e w3 ⟨rfl, hb3⟩)
        all_goals (try go_wp2_with fail)
        all_goals go_meet
        all_goals exact ⟨rfl, HB.out.trans (Below.mono (Below.trans (by first | exact Below.refl _ _ | exact below_drewNs _ _) (Below.mono hb3 (by first | exact Nat.le_refl _ | (have := (below_drewNs wr _).size; assumption)))) HB.out.size)⟩
      case rest =>
        obtain ⟨rfl, hbc⟩ := hcut
        have HB3 : Hid (Below w1.heap.size w1 wc) := hbc
        clear hbc
        go_wp2
        go_roundw
        case rel => exact ⟨k + 1, by omega, by go_num, HB3.out⟩
        case measure => simp [intOf]; omega
    · have HCk : Hid (Calls Tryd.prog 50 #[.slice co n ccap, .slice eo n ecap] wr fun e w' => e = .returned (.bool true) ∧ Below wr.heap.size wr w') := ints_same c _ _ wr (HC.out.1.below HB.out) (HC.out.2.below HB.out)
      go_wp2_with fail
      go_at_call 50
      refine HCk.out.mono ?_
      rintro e w3 ⟨rfl, hb3⟩
      have HB3 : Hid (Below w1.heap.size w1 w3) := HB.out.trans (hb3.mono HB.out.size)
      clear hb3 HCk
      go_wp2
      go_ret
      exact ⟨rfl, HB1.out.trans (HB3.out.mono HB1.out.size)⟩
end Go.Proofs.YteknlcachfhfkahDoor

namespace Go.Proofs.YteknlcachfhfkahDoor
open Go.ChangeShapes Go.WideShapes Go.ChangeAt Go.RowKit
set_option maxRecDepth 100000

def FreshT (K : Nat) (w : World) (v : Value) (t : List Int) : Prop := w.ownsRow K 3 1 v t.length (t.map (Value.int .i64))
theorem FreshT.reads {K : Nat} {w : World} {v : Value} {t : List Int} (h : FreshT K w v t) : Reads w v t := by
  rcases h.2 with ⟨rfl, h0⟩ | ⟨g, cap, cur, rfl, hg, hh, hn, hm, _, _⟩
  · exact Or.inl ⟨none, 0, rfl, List.eq_nil_of_length_eq_zero h0⟩
  · rcases Nat.eq_zero_or_pos t.length with h0 | h0
    · refine Or.inl ⟨some ⟨g, 0, none⟩, cap, by rw [h0], List.eq_nil_of_length_eq_zero h0⟩
    · refine Or.inr ⟨g, 0, cap, rfl, (Array.getElem?_eq_some_iff.1 hh).1, h0, ⟨by unfold maxLen at hm; omega, hn⟩, fun k hk => ?_⟩
      rw [Nat.zero_add]; exact ownsRow_int h hk
theorem FreshT.below {K : Nat} {w w' : World} {v : Value} {t : List Int} (h : FreshT K w v t) (hb : Below w.heap.size w w') : FreshT K w' v t := ownsRow_below h hb

theorem infoAT : (Tryd.prog.info? 49).map (fun i => (i.zero, i.size, i.bytes)) = some (some (.agg #[.int .i64 0, .slice none 0 0, .slice none 0 0, .int .i64 0]), 4, 64) := by kernel_rfl

/-- four cells that are an atom, whose rows lie in K or behind. -/
def AtomT (K : Nat) (w : World) (xs : List Value) (i : Nat) (a : At) : Prop :=
  ∃ vs vt, xs[i * 4]? = some (.int .i64 a.k) ∧ xs[i * 4 + 1]? = some vs ∧ xs[i * 4 + 2]? = some vt ∧ xs[i * 4 + 3]? = some (.int .i64 a.n) ∧ FreshT K w vs a.s ∧ FreshT K w vt a.t
theorem AtomT.below {K : Nat} {w w' : World} {xs : List Value} {i : Nat} {a : At} (h : AtomT K w xs i a) (hb : Below w.heap.size w w') : AtomT K w' xs i a := by
  obtain ⟨vs, vt, h1, h2, h3, h4, h5, h6⟩ := h
  exact ⟨vs, vt, h1, h2, h3, h4, h5.below hb, h6.below hb⟩
theorem AtomT.mono {K K' : Nat} {w : World} {xs : List Value} {i : Nat} {a : At} (h : AtomT K w xs i a) (hK : K' ≤ K) : AtomT K' w xs i a := by
  obtain ⟨vs, vt, h1, h2, h3, h4, h5, h6⟩ := h
  exact ⟨vs, vt, h1, h2, h3, h4, World.ownsRow.mono h5 hK, World.ownsRow.mono h6 hK⟩
/-- what lies behind a place is as it was when that place is written. -/
theorem FreshT.set {K G j : Nat} {w : World} {v u : Value} {t : List Int} (h : FreshT K w v t) (hG : G < K) : FreshT K (w.setCell ⟨G, j, none⟩ u) v t := by
  obtain ⟨h1, h2⟩ := h
  refine ⟨h1, ?_⟩
  rcases h2 with h2 | ⟨g, cap, cur, hv, hg, hh, r⟩
  · exact .inl h2
  · refine .inr ⟨g, cap, cur, hv, hg, ?_, r⟩
    rw [RowKit.Below.heap_setCell _ _ _ _ (by simp; omega)]; exact hh
theorem AtomT.set {K G j : Nat} {w : World} {xs : List Value} {i : Nat} {a : At} (h : AtomT K w xs i a) (hG : G < K) (u : Value) : AtomT K (w.setCell ⟨G, j, none⟩ u) xs i a := by
  obtain ⟨vs, vt, h1, h2, h3, h4, h5, h6⟩ := h
  exact ⟨vs, vt, h1, h2, h3, h4, h5.set hG, h6.set hG⟩
theorem freshT_slice {K : Nat} {w : World} {v : Value} {t : List Int} (h : FreshT K w v t) : ∃ o c, v = .slice o t.length c := by
  rcases h.2 with ⟨rfl, h0⟩ | ⟨g, cap, cur, rfl, _⟩
  · exact ⟨none, 0, by rw [h0]⟩
  · exact ⟨_, cap, rfl⟩
/-- the row of atoms, as far as it is filled. -/
def FillT (G : Nat) (w : World) (ats : List At) (m k : Nat) : Prop :=
  ∃ xs, w.ownsRow G 49 4 (.slice (some ⟨G, 0, none⟩) m m) m xs ∧ ∀ i a, i < k → ats[i]? = some a → AtomT (G + 1) w xs i a
theorem FillT.below {G : Nat} {w w' : World} {ats : List At} {m k : Nat} (h : FillT G w ats m k) (hb : Below w.heap.size w w') : FillT G w' ats m k := by
  obtain ⟨xs, h1, h2⟩ := h
  exact ⟨xs, ownsRow_below h1 hb, fun i a hi ha => (h2 i a hi ha).below hb⟩
/-- one atom more. -/
theorem FillT.set {G : Nat} {w : World} {ats : List At} {m k : Nat} (h : FillT G w ats m k) {a : At} (ha : ats[k]? = some a) (hk : k < m) {vs vt : Value} (hs : FreshT (G + 1) w vs a.s) (ht : FreshT (G + 1) w vt a.t) :
    FillT G ((((w.setCell ⟨G, k * 4, none⟩ (.int .i64 a.k)).setCell ⟨G, k * 4 + 1, none⟩ vs).setCell ⟨G, k * 4 + 2, none⟩ vt).setCell ⟨G, k * 4 + 3, none⟩ (.int .i64 a.n)) ats m (k + 1) := by
  obtain ⟨xs, h1, h2⟩ := h
  have hl : xs.length = m * 4 := h1.1
  have g1 := (h1.stored (k * 4) (.int .i64 a.k)).1
  have g2 := (g1.stored (k * 4 + 1) vs).1
  have g3 := (g2.stored (k * 4 + 2) vt).1
  have g4 := (g3.stored (k * 4 + 3) (.int .i64 a.n)).1
  refine ⟨_, g4, fun i b hi hb => ?_⟩
  have hG : G < G + 1 := by omega
  by_cases hik : i = k
  · subst hik
    obtain rfl := Option.some.inj (ha.symm.trans hb)
    refine ⟨vs, vt, ?_, ?_, ?_, ?_, (((hs.set hG).set hG).set hG).set hG, (((ht.set hG).set hG).set hG).set hG⟩
    · rw [List.getElem?_set_ne (by omega), List.getElem?_set_ne (by omega), List.getElem?_set_ne (by omega), List.getElem?_set_self (by omega)]
    · rw [List.getElem?_set_ne (by omega), List.getElem?_set_ne (by omega), List.getElem?_set_self (by simp; omega)]
    · rw [List.getElem?_set_ne (by omega), List.getElem?_set_self (by simp; omega)]
    · rw [List.getElem?_set_self (by simp; omega)]
  · obtain ⟨us, ut, e1, e2, e3, e4, f1, f2⟩ := h2 i b (by omega) hb
    refine ⟨us, ut, ?_, ?_, ?_, ?_, (((f1.set hG).set hG).set hG).set hG, (((f2.set hG).set hG).set hG).set hG⟩
    · rw [List.getElem?_set_ne (by omega), List.getElem?_set_ne (by omega), List.getElem?_set_ne (by omega), List.getElem?_set_ne (by omega)]; exact e1
    · rw [List.getElem?_set_ne (by omega), List.getElem?_set_ne (by omega), List.getElem?_set_ne (by omega), List.getElem?_set_ne (by omega)]; exact e2
    · rw [List.getElem?_set_ne (by omega), List.getElem?_set_ne (by omega), List.getElem?_set_ne (by omega), List.getElem?_set_ne (by omega)]; exact e3
    · rw [List.getElem?_set_ne (by omega), List.getElem?_set_ne (by omega), List.getElem?_set_ne (by omega), List.getElem?_set_ne (by omega)]; exact e4
/-- its cells are there, and may be written. -/
theorem FillT.there {G : Nat} {w : World} {ats : List At} {m k : Nat} (h : FillT G w ats m k) (hk : k < m) :
    ∃ z0 z1 z2 z3, (w.cell? ⟨G, k * 4, none⟩ = some z0 ∧ w.cell? ⟨G, k * 4 + 1, none⟩ = some z1 ∧ w.cell? ⟨G, k * 4 + 2, none⟩ = some z2 ∧ w.cell? ⟨G, k * 4 + 3, none⟩ = some z3) ∧ (w.frozen? ⟨G, k * 4, none⟩ = false ∧ w.frozen? ⟨G, k * 4 + 1, none⟩ = false ∧ w.frozen? ⟨G, k * 4 + 2, none⟩ = false ∧ w.frozen? ⟨G, k * 4 + 3, none⟩ = false) := by
  obtain ⟨xs, h1, _⟩ := h
  have hl : xs.length = m * 4 := h1.1
  have e : ∀ j, j < m * 4 → ∃ z, w.cell? ⟨G, j, none⟩ = some z := fun j hj => ⟨xs[j]'(by omega), by rw [h1.cellAt j hj, List.getElem?_eq_getElem]⟩
  obtain ⟨z0, e0⟩ := e (k * 4) (by omega)
  obtain ⟨z1, e1⟩ := e (k * 4 + 1) (by omega)
  obtain ⟨z2, e2⟩ := e (k * 4 + 2) (by omega)
  obtain ⟨z3, e3⟩ := e (k * 4 + 3) (by omega)
  exact ⟨z0, z1, z2, z3, ⟨e0, e1, e2, e3⟩, h1.frozenAt _, h1.frozenAt _, h1.frozenAt _, h1.frozenAt _⟩

theorem set4_farT {w : World} {G B o0 o1 o2 o3 j : Nat} {u0 u1 u2 u3 : Value} (h : G ≠ B) : ((((w.setCell ⟨G, o0, none⟩ u0).setCell ⟨G, o1, none⟩ u1).setCell ⟨G, o2, none⟩ u2).setCell ⟨G, o3, none⟩ u3).cell? ⟨B, j, none⟩ = w.cell? ⟨B, j, none⟩ := by
  have e : ∀ (W : World) (o : Nat) (u : Value), (W.setCell ⟨G, o, none⟩ u).cell? ⟨B, j, none⟩ = W.cell? ⟨B, j, none⟩ := fun W o u => by
    apply World.cell?_setCell_other
    intro e
    injection e with e1
    exact h e1
  rw [e, e, e, e]

/-- a full row of atoms reads as they do. -/
theorem FillT.reads {G : Nat} {w : World} {ats : List At} (h : FillT G w ats ats.length ats.length) (h0 : 0 < ats.length) (h6 : ats.length ≤ 40) : ReadsA w (.slice (some ⟨G, 0, none⟩) ats.length ats.length) ats := by
  obtain ⟨xs, h1, h2⟩ := h
  refine Or.inr ⟨G, 0, ats.length, rfl, (ownsRow_block h1).2.1, h0, ⟨by omega, Nat.le_refl _⟩, fun i a ha => ?_⟩
  have hi : i < ats.length := (List.getElem?_eq_some_iff.1 ha).1
  obtain ⟨vs, vt, e1, e2, e3, e4, f1, f2⟩ := h2 i a hi ha
  rw [Nat.zero_add]
  exact ⟨vs, vt, by rw [h1.cellAt _ (by omega)]; exact e1, by rw [h1.cellAt _ (by omega)]; exact e2, by rw [h1.cellAt _ (by omega)]; exact e3, by rw [h1.cellAt _ (by omega)]; exact e4, f1.reads, f2.reads⟩
end Go.Proofs.YteknlcachfhfkahDoor

namespace Go.Proofs.YteknlcachfhfkahDoor
open Go.ChangeShapes Go.WideShapes Go.ChangeAt Go.RowKit
set_option maxRecDepth 100000

theorem sum_le {f : Nat → Nat} : ∀ n : Nat, (∀ i, i < n → f i ≤ 1) → ((List.range n).map f).sum ≤ n := by
  intro n
  induction n with
  | zero => intro _; exact Nat.le_refl _
  | succ n ih =>
    intro h
    rw [List.range_succ, List.map_append, List.sum_append]
    have := ih fun i hi => h i (by omega)
    have := h n (by omega)
    simp; omega
theorem sum_one {f : Nat → Nat} : ∀ n : Nat, (∀ i, i < n → f i ≤ 1) → ((List.range n).map f).sum = n → ∀ i, i < n → f i = 1 := by
  intro n
  induction n with
  | zero => intro _ _ i hi; omega
  | succ n ih =>
    intro h hs i hi
    rw [List.range_succ, List.map_append, List.sum_append] at hs
    have h1 := sum_le n fun i hi => h i (by omega)
    have h2 := h n (by omega)
    have hs2 : ((List.range n).map f).sum + f n = n + 1 := by simpa using hs
    by_cases e : i = n
    · subst e; omega
    · exact ih (fun i hi => h i (by omega)) (by omega) i (by omega)
theorem once_nodup {q : List Int} (h : onceB q = true) : q.Nodup := by
  rw [List.nodup_iff_count]
  intro a
  obtain ⟨h1, hall⟩ := once_in h
  by_cases ha : a ∈ q
  · obtain ⟨n, rfl⟩ := Int.eq_ofNat_of_zero_le (hall a ha).1
    have := (hall _ ha).2
    rw [h1 n (by omega)]
    exact Nat.le_refl _
  · rw [List.count_eq_zero.2 ha]
    exact Nat.zero_le _
theorem once_of {q : List Int} (hr : ∀ x ∈ q, 0 ≤ x ∧ x < (q.length : Int)) (hd : q.Nodup) : onceB q = true := by
  have hs := count_sum q.length q
  rw [(List.length_filter_eq_length_iff (p := fun x : Int => decide (0 ≤ x ∧ x < (q.length : Int)))).2 (fun x hx => decide_eq_true (hr x hx))] at hs
  unfold onceB
  rw [List.all_eq_true]
  intro i hi
  exact decide_eq_true (sum_one q.length (fun i _ => List.nodup_iff_count.1 hd _) hs i (List.mem_range.1 hi))
theorem getD_at {q : List Int} {k : Nat} (hk : k < q.length) : q.getD k 0 = q[k] := by rw [List.getD_eq_getElem?_getD, List.getElem?_eq_getElem hk]; rfl
theorem once_yes {q : List Int} (h : ∀ k, k < q.length → (0 ≤ q.getD k 0 ∧ q.getD k 0 < (q.length : Int)) ∧ (q.take k).count (q.getD k 0) = 0) : onceB q = true := by
  refine once_of (fun x hx => ?_) ?_
  · obtain ⟨k, hk, rfl⟩ := List.mem_iff_getElem.1 hx
    have := (h k hk).1
    rw [getD_at hk] at this
    exact this
  · refine List.pairwise_iff_getElem.2 fun i j hi hj hij e => ?_
    have h0 := (h j hj).2
    rw [getD_at hj, List.count_eq_zero] at h0
    refine h0 ?_
    rw [← e]
    exact List.mem_take_iff_getElem.2 ⟨i, by omega, rfl⟩
theorem once_no {q : List Int} {k : Nat} (hk : k < q.length) (h : ¬ (0 ≤ q.getD k 0 ∧ q.getD k 0 < (q.length : Int)) ∨ 0 < (q.take k).count (q.getD k 0)) : onceB q = false := by
  rcases (Bool.eq_false_or_eq_true (onceB q)).symm with e | e
  · exact e
  · exfalso
    rw [getD_at hk] at h
    rcases h with h | h
    · exact h ((once_in e).2 _ (List.getElem_mem _))
    · obtain ⟨i, hi, e2⟩ := List.mem_take_iff_getElem.1 (List.count_pos_iff.1 h)
      exact List.pairwise_iff_getElem.1 (once_nodup e) i k (by omega) hk (by omega) e2
/-- six numbers. -/
def arr6 (N : Nat → Int) : Array Value := #[.int .i64 (N 0), .int .i64 (N 1), .int .i64 (N 2), .int .i64 (N 3), .int .i64 (N 4), .int .i64 (N 5)]
theorem arr6_get (N : Nat → Int) {j : Nat} (hj : j < 6) : (arr6 N)[j]? = some (.int .i64 (N j)) := by
  rcases (by omega : j = 0 ∨ j = 1 ∨ j = 2 ∨ j = 3 ∨ j = 4 ∨ j = 5) with rfl | rfl | rfl | rfl | rfl | rfl <;> rfl
def timesN (q : List Int) (k : Nat) : Nat → Int := fun j => (((q.take k).count (j : Int) : Nat) : Int)
theorem times_next {q : List Int} {k j : Nat} (hk : k < q.length) (hj : j < 6) (e : q.getD k 0 = (j : Int)) (h0 : (q.take k).count (j : Int) = 0) : (arr6 (timesN q k)).setIfInBounds j (.int .i64 1) = arr6 (timesN q (k + 1)) := by
  have ht : ∀ i : Nat, timesN q (k + 1) i = timesN q k i + if j = i then 1 else 0 := fun i => by
    unfold timesN
    rw [List.take_add_one, List.getElem?_eq_getElem hk, List.count_append, ← getD_at hk, e]
    by_cases h : j = i
    · subst h; simp
    · have : ¬ (j : Int) = (i : Int) := by omega
      simp [this, h]
  have h1 : timesN q (k + 1) j = 1 := by rw [ht]; unfold timesN; rw [h0]; simp
  have h2 : ∀ i, ¬ j = i → timesN q (k + 1) i = timesN q k i := fun i hi => by rw [ht, if_neg hi]; omega
  unfold arr6
  rcases (by omega : j = 0 ∨ j = 1 ∨ j = 2 ∨ j = 3 ∨ j = 4 ∨ j = 5) with rfl | rfl | rfl | rfl | rfl | rfl <;> simp [h1, h2]

set_option maxHeartbeats 4000000 in
theorem eachOnce_any (q : List Int) (h6 : q.length ≤ 6) (v : Value) (w : World) (h : Reads w v q) :
    Calls Tryd.prog 46 #[v] w fun e w' => e = .returned (.bool (onceB q)) ∧ Below w.heap.size w w' := by
  obtain ⟨ao, cap, rfl⟩ : ∃ ao cap, v = .slice ao q.length cap := by
    rcases h with ⟨ao, cap, rfl, rfl⟩ | ⟨b, off, cap, rfl, _⟩
    · exact ⟨ao, cap, rfl⟩
    · exact ⟨_, cap, rfl⟩
  have HT : Hid (Reads w (.slice ao q.length cap) q) := h
  have HY : Hid ((∀ k, k < q.length → (0 ≤ q.getD k 0 ∧ q.getD k 0 < (q.length : Int)) ∧ (q.take k).count (q.getD k 0) = 0) → onceB q = true) := once_yes
  have HNo : Hid (∀ k, k < q.length → (¬ (0 ≤ q.getD k 0 ∧ q.getD k 0 < (q.length : Int)) ∨ 0 < (q.take k).count (q.getD k 0)) → onceB q = false) := fun k hk h => once_no hk h
  have HNx : Hid (∀ k j : Nat, k < q.length → j < 6 → q.getD k 0 = (j : Int) → (q.take k).count (j : Int) = 0 → (arr6 (timesN q k)).setIfInBounds j (.int .i64 1) = arr6 (timesN q (k + 1))) := fun k j hk hj e h0 => times_next hk hj e h0
  obtain ⟨R, hR⟩ : ∃ R, R = onceB q := ⟨_, rfl⟩
  rw [← hR] at HY HNo ⊢
  obtain ⟨n, hn⟩ : ∃ n, n = q.length := ⟨_, rfl⟩
  have HN : Hid (n = q.length) := hn
  rw [← hn] at HT HY HNo HNx h6 ⊢
  obtain ⟨w1, hw1⟩ : ∃ w1, w1 = w.alloc (.cells #[.int .i64 0, .int .i64 0, .int .i64 0, .int .i64 0, .int .i64 0, .int .i64 0] 119) := ⟨_, rfl⟩
  have HB1 : Hid (Below w.heap.size w w1) := by unfold Hid; rw [hw1]; exact below_alloc1 _ _
  have HP1 : Hid (Blk w1 w.heap.size 119 (arr6 (timesN q 0))) := by unfold Hid; rw [hw1]; exact Blk.new _ _ _
  clear h hn hR
  go_enter Tryd.func46, Tryd.ntmps46
  go_wp2
  rw [← hw1]
  clear hw1
  go_loopw [5, 8] (fun _ i wr => ∃ k : Nat, k ≤ n ∧ i = .int .i64 k ∧ Blk wr w.heap.size 119 (arr6 (timesN q k)) ∧ Below w.heap.size w wr ∧ ∀ m, m < k → (0 ≤ q.getD m 0 ∧ q.getD m 0 < (n : Int)) ∧ (q.take m).count (q.getD m 0) = 0) (fun _ i _ => n - (intOf i).toNat)
  case atStart => exact ⟨0, Nat.zero_le _, rfl, HP1.out, HB1.out, fun m hm => absurd hm (Nat.not_lt_zero _)⟩
  case round =>
    obtain ⟨k, hk, rfl, hblk, hbr, hall⟩ := hrel
    have HBr : Hid (Below w.heap.size w wr) := hbr
    have HK : Hid (Blk wr w.heap.size 119 (arr6 (timesN q k))) := hblk
    have HA : Hid (∀ m, m < k → (0 ≤ q.getD m 0 ∧ q.getD m 0 < (n : Int)) ∧ (q.take m).count (q.getD m 0) = 0) := hall
    clear hblk hbr hall
    by_cases hlt : k < n
    · obtain ⟨b, off, hao, hcl⟩ : ∃ b off, ao = some ⟨b, off, none⟩ ∧ wr.cell? ⟨b, off + k, none⟩ = some (.int .i64 (q.getD k 0)) := by
        rcases HT.out with ⟨ao', cap', hv, h0⟩ | ⟨b, off, cap', hv, hb, _, _, hcell⟩
        · have := HN.out; rw [h0] at this; simp at this; omega
        · obtain ⟨h1, _, _⟩ := Value.slice.inj hv
          exact ⟨b, off, h1, (HBr.out.cell hb).trans (hcell k (by rw [← HN.out]; exact hlt))⟩
      subst hao
      have hkn : (k : Int) < (n : Int) := by omega
      by_cases hx0 : q.getD k 0 < 0
      · have HR : Hid (R = false) := HNo.out k hlt (Or.inl (by omega))
        obtain ⟨x, hx⟩ : ∃ x, x = q.getD k 0 := ⟨_, rfl⟩
        rw [← hx] at hcl hx0
        clear hx
        go_wp2
        go_ret
        exact ⟨by first | (rw [HR.out]; done) | (rw [HR.out]; rfl), HBr.out⟩
      by_cases hxn : (n : Int) ≤ q.getD k 0
      · have HR : Hid (R = false) := HNo.out k hlt (Or.inl (by omega))
        obtain ⟨x, hx⟩ : ∃ x, x = q.getD k 0 := ⟨_, rfl⟩
        rw [← hx] at hcl hx0 hxn
        clear hx
        go_wp2
        go_ret
        exact ⟨by first | (rw [HR.out]; done) | (rw [HR.out]; rfl), HBr.out⟩
      obtain ⟨j, hj⟩ : ∃ j : Nat, q.getD k 0 = (j : Int) := ⟨(q.getD k 0).toNat, by omega⟩
      have HJ : Hid (q.getD k 0 = (j : Int)) := hj
      rw [hj] at hcl hx0 hxn
      have hjn : (j : Int) < (n : Int) := by omega
      have hj6 : j < 6 := by omega
      have y : wr.cell? ⟨w.heap.size, j, none⟩ = some (.int .i64 (((q.take k).count (j : Int) : Nat) : Int)) := by rw [HK.out.cell j, arr6_get _ hj6]; rfl
      have fz : wr.frozen? ⟨w.heap.size, j, none⟩ = false := HK.out.frozen j
      clear hj hx0 hxn
      by_cases hc : (q.take k).count (j : Int) = 0
      · have HKn : Hid (Blk (wr.setCell ⟨w.heap.size, j, none⟩ (.int .i64 1)) w.heap.size 119 (arr6 (timesN q (k + 1)))) := by
          unfold Hid; rw [← HNx.out k j hlt hj6 HJ.out hc]; exact HK.out.set j _
        have HBn : Hid (Below w.heap.size w (wr.setCell ⟨w.heap.size, j, none⟩ (.int .i64 1))) := HBr.out.setCell (Nat.le_refl _) _
        have HAn : Hid (∀ m, m < k + 1 → (0 ≤ q.getD m 0 ∧ q.getD m 0 < (n : Int)) ∧ (q.take m).count (q.getD m 0) = 0) := fun m hm => by
          by_cases e : m = k
          · subst e; rw [HJ.out]; exact ⟨⟨by omega, hjn⟩, hc⟩
          · exact HA.out m (by omega)
        rw [hc] at y
        clear hc
        go_wp2
        go_roundw
        case rel => exact ⟨k + 1, by omega, by go_num, HKn.out, HBn.out, HAn.out⟩
        case measure => simp [intOf]; omega
      · have HR : Hid (R = false) := HNo.out k hlt (Or.inr (by rw [HJ.out]; omega))
        obtain ⟨c, hcc⟩ : ∃ c, c = (q.take k).count (j : Int) := ⟨_, rfl⟩
        rw [← hcc] at y hc
        have hc0 : 0 < (c : Int) := by omega
        clear hcc hc
        go_wp2
        go_ret
        exact ⟨by first | (rw [HR.out]; done) | (rw [HR.out]; rfl), HBr.out⟩
    · obtain rfl : k = n := by omega
      have HR : Hid (R = true) := HY.out HA.out
      go_wp2
      go_ret
      exact ⟨by first | (rw [HR.out]; done) | (rw [HR.out]; rfl), HBr.out⟩

set_option maxHeartbeats 4000000 in
theorem renamed_any (t : List Int) (p : Nat → Int) (hs : t.all signB = true) (h12 : t.length ≤ 12) (v : Value) (w : World) (h : Reads w v t) :
    Calls Tryd.prog 47 #[v, .agg #[.int .i64 (p 0), .int .i64 (p 1), .int .i64 (p 2)]] w fun e w' => ∃ v' K, e = .returned v' ∧ w.heap.size ≤ K ∧ w'.ownsRow K 3 1 v' t.length ((renT p t).map (Value.int .i64)) ∧ Below w.heap.size w w' := by
  obtain ⟨ao, cap, rfl, hl63⟩ : ∃ ao cap, v = .slice ao t.length cap ∧ t.length ≤ 9223372036854775807 := by
    rcases h with ⟨ao, cap, rfl, rfl⟩ | ⟨b, off, cap, rfl, _, _, h, _⟩
    · exact ⟨ao, cap, rfl, by decide⟩
    · exact ⟨_, cap, rfl, h.1⟩
  have HT : Hid (Reads w (.slice ao t.length cap) t) := h
  have HSg : Hid (∀ k, k < t.length → 0 ≤ t.getD k 0 ∧ t.getD k 0 ≤ 8) := fun k hk => by
    have := List.all_eq_true.1 hs (t.getD k 0) (by rw [List.getD_eq_getElem?_getD, List.getElem?_eq_getElem hk]; exact List.getElem_mem _)
    exact signB_iff.1 this
  obtain ⟨n, hn⟩ : ∃ n, n = t.length := ⟨_, rfl⟩
  rw [← hn] at HT HSg h12 ⊢
  have HN : Hid (n = t.length) := hn
  obtain ⟨w1, hw1⟩ : ∃ w1, w1 = w.alloc (.cells #[.int .i64 (p 0), .int .i64 (p 1), .int .i64 (p 2)] 36) := ⟨_, rfl⟩
  have HB1 : Hid (Below w.heap.size w w1) := by unfold Hid; rw [hw1]; exact below_alloc1 _ _
  have HP1 : Hid (Blk w1 w.heap.size 36 (arr3 p)) := by unfold Hid; rw [hw1]; exact Blk.new _ _ _
  clear h hs hn hl63
  go_enter Tryd.func47, Tryd.ntmps47
  go_wp2
  rw [← hw1]
  clear hw1
  go_loopw [5, 7, 10] (fun r _ i wr => ∃ k : Nat, k ≤ n ∧ i = .int .i64 k ∧ wr.ownsRow w1.heap.size 3 1 r k ((renT p (t.take k)).map (Value.int .i64)) ∧ Below w1.heap.size w1 wr) (fun _ _ i _ => n - (intOf i).toNat)
  case atStart => exact ⟨0, Nat.zero_le _, rfl, World.ownsRow_nil _ _ _ _, Below.refl _ _⟩
  case round =>
    obtain ⟨k, hk, rfl, hown, hbr⟩ := hrel
    have HBr : Hid (Below w1.heap.size w1 wr) := hbr
    have HBw : Hid (Below w.heap.size w wr) := HB1.out.trans (hbr.mono HB1.out.size)
    have HOw : Hid (wr.ownsRow w1.heap.size 3 1 u5 k ((renT p (t.take k)).map (Value.int .i64))) := hown
    clear hbr hown
    by_cases hlt : k < n
    · obtain ⟨b, off, hao, hcl⟩ : ∃ b off, ao = some ⟨b, off, none⟩ ∧ wr.cell? ⟨b, off + k, none⟩ = some (.int .i64 (t.getD k 0)) := by
        rcases HT.out with ⟨ao', cap', hv, h0⟩ | ⟨b, off, cap', hv, hb, _, _, hcell⟩
        · have := HN.out; rw [h0] at this; simp at this; omega
        · obtain ⟨h1, _, _⟩ := Value.slice.inj hv
          exact ⟨b, off, h1, (HBw.out.cell hb).trans (hcell k (by rw [← HN.out]; exact hlt))⟩
      subst hao
      obtain ⟨s0, s8⟩ := HSg.out k hlt
      obtain ⟨l, hl⟩ : ∃ l, l = renT p (t.take k) := ⟨_, rfl⟩
      have HLl : Hid (l.length = k) := by unfold Hid; rw [hl]; unfold renT; rw [List.length_map, List.length_take, ← HN.out]; omega
      have HO6 : Hid (wr.ownsRow w1.heap.size 3 1 u5 l.length (l.map (Value.int .i64))) := by unfold Hid; rw [HLl.out, hl]; exact HOw.out
      have HLs : Hid (renT p (t.take (k + 1)) = l ++ [renS p (t.getD k 0)]) := by
        unfold Hid
        have hk' : k < t.length := by rw [← HN.out]; exact hlt
        rw [List.take_add_one, List.getElem?_eq_getElem hk', hl]
        unfold renT
        rw [List.map_append, List.getD_eq_getElem?_getD, List.getElem?_eq_getElem hk']
        rfl
      have HS : Hid (w1.heap.size ≤ wr.heap.size) := HBr.out.size
      have hl20 : l.length ≤ 20 := by have := HLl.out; omega
      obtain ⟨s, hs⟩ : ∃ s, s = t.getD k 0 := ⟨_, rfl⟩
      rw [← hs] at hcl s0 s8 HLs
      clear hl hs
      have hkn : (k : Int) < (n : Int) := by omega
      by_cases h3 : s < 3
      · obtain ⟨j, rfl⟩ := Int.eq_ofNat_of_zero_le s0
        have hj3 : j < 3 := by omega
        have HLs' : Hid (renT p (t.take (k + 1)) = l ++ [p j]) := by
          unfold Hid
          rw [HLs.out]
          unfold renS
          rw [if_pos h3, Int.toNat_natCast]
        have y : wr.cell? ⟨w.heap.size, j, none⟩ = some (.int .i64 (p j)) := by
          rw [(HP1.out.below HBr.out).cell j]
          rcases (by omega : j = 0 ∨ j = 1 ∨ j = 2) with rfl | rfl | rfl <;> rfl
        clear HLs s0 s8
        go_wp2_with (at_builtin; refine append_turn rfl _ _ rfl w1.heap.size u5 rfl l (p j) wr.heap.size 1 rfl (HO6.out.alloc _) (heap_alloc_new wr _) (by have := HS.out; simp; omega) hl20 ?_)
        intro v9 w9 hown hgrow
        have HBa : Hid (Below w1.heap.size w1 (wr.alloc (.cells #[.int .i64 (p j)] 3))) := HBr.out.alloc HBr.out.size _
        have HB9 : Hid (Below w1.heap.size w1 w9) := HBa.out.grown hgrow HBa.out.size (fun x hx => (HO6.out.lt x hx).1)
        have HO9 : Hid (w9.ownsRow w1.heap.size 3 1 v9 (k + 1) ((renT p (t.take (k + 1))).map (Value.int .i64))) := by
          unfold Hid
          rw [HLs'.out]
          have hl := HLl.out
          rw [← hl, List.map_append]
          exact hown
        clear hown hgrow
        go_wp2
        go_roundw
        case rel => exact ⟨k + 1, by omega, by go_num, HO9.out, HB9.out⟩
        case measure => simp [intOf]; omega
      · have HLs' : Hid (renT p (t.take (k + 1)) = l ++ [s]) := by
          unfold Hid
          rw [HLs.out]
          unfold renS
          rw [if_neg h3]
        clear HLs
        go_wp2_with (at_builtin; refine append_turn rfl _ _ rfl w1.heap.size u5 rfl l s wr.heap.size 1 rfl (HO6.out.alloc _) (heap_alloc_new wr _) (by have := HS.out; simp; omega) hl20 ?_)
        intro v9 w9 hown hgrow
        have HBa : Hid (Below w1.heap.size w1 (wr.alloc (.cells #[.int .i64 s] 3))) := HBr.out.alloc HBr.out.size _
        have HB9 : Hid (Below w1.heap.size w1 w9) := HBa.out.grown hgrow HBa.out.size (fun x hx => (HO6.out.lt x hx).1)
        have HO9 : Hid (w9.ownsRow w1.heap.size 3 1 v9 (k + 1) ((renT p (t.take (k + 1))).map (Value.int .i64))) := by
          unfold Hid
          rw [HLs'.out]
          have hl := HLl.out
          rw [← hl, List.map_append]
          exact hown
        clear hown hgrow
        go_wp2
        go_roundw
        case rel => exact ⟨k + 1, by omega, by go_num, HO9.out, HB9.out⟩
        case measure => simp [intOf]; omega
    · obtain rfl : k = n := by omega
      have HOf : Hid (wr.ownsRow w1.heap.size 3 1 u5 k ((renT p t).map (Value.int .i64))) := by
        have h := HOw.out
        rw [HN.out, List.take_length] at h
        unfold Hid
        rw [HN.out]
        exact h
      have HSz : Hid (w.heap.size ≤ w1.heap.size) := HB1.out.size
      go_wp2
      go_ret
      exact ⟨u5, w1.heap.size, rfl, HSz.out, HOf.out, HBw.out⟩

set_option maxHeartbeats 2000000 in
theorem clone_any (t : List Int) (v : Value) (w : World) (h : Reads w v t) (h0 : 0 < t.length) (hl : t.length ≤ 40) :
    Calls Tryd.prog 48 #[v] w fun e w' => ∃ v', e = .returned v' ∧ FreshT w.heap.size w' v' t ∧ Below w.heap.size w w' := by
  obtain ⟨i0, hi, hz0, hz1, hz2⟩ := info_parts infoInt
  rcases h with ⟨ao, cap, rfl, rfl⟩ | ⟨b, off, cap, rfl, hB, _, ⟨_, hcap⟩, hc⟩
  · simp at h0
  · have HC : Hid (∀ k, k < t.length → (w.alloc (.cells #[] 3)).cell? ⟨b, off + k, none⟩ = some (.int .i64 (t.getD k 0))) := fun k hk => by
      rw [World.cell?_alloc_lt _ _ ⟨b, off + k, none⟩ hB]; exact hc k hk
    clear hc hB
    obtain ⟨n, hn⟩ : ∃ n, n = t.length := ⟨_, rfl⟩
    have HN : Hid (n = t.length) := hn
    obtain ⟨K, hK⟩ : ∃ K, K = w.heap.size := ⟨_, rfl⟩
    have HK : Hid (K = w.heap.size) := hK
    have HO0 : Hid ((w.alloc (.cells #[] 3)).ownsRow K 3 1 (.slice (some ⟨w.heap.size, 0, none⟩) 0 0) 0 []) := World.ownsRow_lit w #[] 0 (by omega) (by unfold maxLen; omega) rfl
    rw [← hn] at hl h0 hcap ⊢
    rw [← hK]
    clear hn hK
    have q22 : ∀ (w : World) (a : Option Addr) (n c n' c' : Nat), (binOp .eql 23 (.slice a n c) (.slice none n' c')).run Tryd.prog w = .ok (.bool a.isNone) w := fun w a n c n' c' => Lib.run_eql_slice_nil w _ _ a n c n' c' Tryd.underlying23
    go_enter Tryd.func48, Tryd.ntmps48
    go_wp2_with (first | (at_builtin; refine wpList_append_own _ rfl _ _ 23 rfl K 3 i0 (.int .i64 0) 1 8 Tryd.underlying23 hi hz0 hz1 hz2 rfl (by decide) (.slice (some ⟨w.heap.size, 0, none⟩) 0 0) 0 [] rfl HO0.out ⟨b, off, none⟩ n cap (t.map (Value.int .i64)) rfl ?a0 ?a1 ?a2 ?a3 ?a4 ?a5 ?_))
    case a0 => rw [List.length_map, HN.out, Nat.mul_one]
    case a1 =>
      intro j u hu
      rw [Go.WideShapes.add_plain]
      have hj : j < t.length := by have := (List.getElem?_eq_some_iff.1 hu).1; simpa using this
      rw [HC.out j hj]
      rw [← hu]
      simp [List.getElem?_eq_getElem hj]
    case a2 => intro u hu; simp at hu; obtain ⟨_, _, rfl⟩ := hu; rfl
    case a3 => unfold maxLen; omega
    case a4 => omega
    case a5 => have := HK.out; simp; omega
    intro v' w2 hown' hgrow _
    have HO : Hid (FreshT K w2 v' t ∧ Below K w w2) := by
      refine ⟨?_, ((Below.refl _ w).alloc (by rw [HK.out]; exact Nat.le_refl _) _).grown hgrow (by have := HK.out; simp; omega) (fun k hk => by have := HK.out; simp [Value.ownBlock] at hk; omega)⟩
      have : w2.ownsRow K 3 1 v' n (t.map (Value.int .i64)) := by simpa using hown'
      rw [HN.out] at this
      exact this
    clear hown' hgrow
    go_wp2
    go_ret
    exact ⟨_, rfl, HO.out.1, HO.out.2⟩

theorem moved_part {q : List Int} (h : onceB q = true) (x : Int) {k : Nat} (hk : k ≤ q.length) : movedN q x k = maskTo (fun j => decide (placeN q (j : Int) < k) && hasB x (placeN q (j : Int))) q.length := by
  rw [mask_sum]
  have e := once_sum h fun y => if (decide (placeN q y < k) && hasB x (placeN q y)) = true then pw y.toNat else 0
  have e1 : ((List.range q.length).map fun i : Nat => if (decide (placeN q (q.getD i 0) < k) && hasB x (placeN q (q.getD i 0))) = true then pw (q.getD i 0).toNat else 0) = (List.range q.length).map fun i : Nat => if (decide (i < k) && hasB x i) = true then pw (q.getD i 0).toNat else 0 := by
    refine List.map_congr_left fun i hi => ?_
    rw [(once_place h (List.mem_range.1 hi)).1]
  rw [e1] at e
  have e2 : ∀ d, ((List.range (k + d)).map fun i : Nat => if (decide (i < k) && hasB x i) = true then pw (q.getD i 0).toNat else 0).sum = movedN q x k := by
    intro d
    induction d with
    | zero =>
      rw [moved_sum, Nat.add_zero]
      congr 1
      refine List.map_congr_left fun i hi => ?_
      rw [decide_eq_true (List.mem_range.1 hi), Bool.true_and]
    | succ d ih =>
      rw [← Nat.add_assoc, List.range_succ, List.map_append, List.sum_append, ih]
      have : decide (k + d < k) = false := decide_eq_false (by omega)
      simp only [List.map_cons, List.map_nil, List.sum_cons, List.sum_nil, this, Bool.false_and]
      simp
  have e3 := e2 (q.length - k)
  rw [show k + (q.length - k) = q.length by omega] at e3
  rw [← e3, e]
  congr 1
theorem turn_and : ∀ x : Nat, x < 64 → ∀ k : Nat, k < 6 → bits .and .i64 ((x : Int) / 2 ^ k) 1 = oneB (hasB x k) := by decide +kernel
theorem turn_or : ∀ m : Nat, m < 64 → ∀ j : Nat, j < 6 → hasB m j = false → ∀ b, bits .or .i64 (m : Int) (wrap64 (oneB b * 2 ^ j)) = m + if b = true then pw j else 0 := by decide +kernel
theorem moved_step {q : List Int} (h : onceB q = true) (h6 : q.length ≤ 6) {x : Nat} (hx : x < 64) {k j : Nat} (hk : k < q.length) (hj : q.getD k 0 = (j : Int)) : bits .or .i64 (movedN q x k) (wrap64 (bits .and .i64 ((x : Int) / 2 ^ k) 1 * 2 ^ j)) = movedN q x (k + 1) := by
  obtain ⟨h1, h2, h3⟩ := once_place h hk
  have hjq : j < q.length := by omega
  have hb : hasB (movedN q x k) j = false := by
    rw [moved_part h x (Nat.le_of_lt hk), has_mask _ (by omega) hjq, ← hj, h1, decide_eq_false (Nat.lt_irrefl k), Bool.false_and]
  have hle : 0 ≤ movedN q x k ∧ movedN q x k < 64 := by
    rw [moved_part h x (Nat.le_of_lt hk)]
    have := maskTo_le (fun j => decide (placeN q (j : Int) < k) && hasB x (placeN q (j : Int))) q.length
    have hp : ∀ n, n ≤ 6 → pw n ≤ 64 := by decide
    have := hp q.length h6
    omega
  show _ = movedN q x k + if hasB x k = true then pw (q.getD k 0).toNat else 0
  rw [hj, Int.toNat_natCast, turn_and x hx k (by omega)]
  obtain ⟨m, hm⟩ := Int.eq_ofNat_of_zero_le hle.1
  rw [hm] at hb hle ⊢
  exact turn_or m (by omega) j (by omega) hb _
set_option maxHeartbeats 4000000 in
theorem movedT_any (x : Nat) (q : List Int) (hx : x < 64) (h6 : q.length ≤ 6) (ho : onceB q = true) (v : Value) (w : World) (h : Reads w v q) :
    Calls Tryd.prog 52 #[.int .i64 (x : Int), v] w fun e w' => e = .returned (.int .i64 (movedN q x q.length)) ∧ w' = w := by
  obtain ⟨ao, cap, rfl⟩ : ∃ ao cap, v = .slice ao q.length cap := by
    rcases h with ⟨ao, cap, rfl, rfl⟩ | ⟨b, off, cap, rfl, _⟩
    · exact ⟨ao, cap, rfl⟩
    · exact ⟨_, cap, rfl⟩
  have HT : Hid (Reads w (.slice ao q.length cap) q) := h
  have HJ : Hid (∀ k, k < q.length → ∃ j : Nat, q.getD k 0 = (j : Int) ∧ j < 6) := fun k hk => by
    obtain ⟨_, h1, h2⟩ := once_place ho hk
    exact ⟨(q.getD k 0).toNat, by omega, by omega⟩
  obtain ⟨n, hn⟩ : ∃ n, n = q.length := ⟨_, rfl⟩
  have HN : Hid (n = q.length) := hn
  rw [← hn] at HT HJ h6 ⊢
  clear h hn
  obtain ⟨M, hM⟩ : ∃ M : Nat → Int, M = movedN q x := ⟨_, rfl⟩
  have HM0 : Hid (M 0 = 0) := by unfold Hid; rw [hM]; rfl
  have HMs : Hid (∀ k j : Nat, k < n → q.getD k 0 = (j : Int) → bits .or .i64 (M k) (wrap64 (bits .and .i64 ((x : Int) / 2 ^ k) 1 * 2 ^ j)) = M (k + 1)) := fun k j hk hj => by
    rw [hM]; exact moved_step ho (by rw [← HN.out]; exact h6) hx (by rw [← HN.out]; exact hk) hj
  rw [← hM]
  clear hM
  go_enter Tryd.func52, Tryd.ntmps52
  go_wp2
  go_loop [5, 6, 7, 10] (fun r _ _ i => ∃ k : Nat, k ≤ n ∧ i = .int .i64 k ∧ r = .int .i64 (M k)) (fun _ _ _ i => n - (intOf i).toNat)
  case atStart => exact ⟨0, Nat.zero_le _, rfl, by rw [HM0.out]⟩
  case round =>
    obtain ⟨k, hk, rfl, rfl⟩ := hrel
    by_cases hlt : k < n
    · obtain ⟨b, off, hao, hcl⟩ : ∃ b off, ao = some ⟨b, off, none⟩ ∧ w.cell? ⟨b, off + k, none⟩ = some (.int .i64 (q.getD k 0)) := by
        rcases HT.out with ⟨ao', cap', hv, h0⟩ | ⟨b, off, cap', hv, hb, _, _, hcell⟩
        · have := HN.out; rw [h0] at this; simp at this; omega
        · obtain ⟨h1, _, _⟩ := Value.slice.inj hv
          exact ⟨b, off, h1, hcell k (by rw [← HN.out]; exact hlt)⟩
      subst hao
      have hkn : (k : Int) < (n : Int) := by omega
      obtain ⟨j, hj, hj6⟩ := HJ.out k hlt
      rw [hj] at hcl
      have Hj : Hid (q.getD k 0 = (j : Int)) := hj
      clear hj
      go_wp2
      go_round
      case rel => exact ⟨k + 1, by omega, by go_num, by rw [HMs.out k j hlt Hj.out]⟩
      case measure => simp [intOf]; omega
    · obtain rfl : k = n := by omega
      go_wp2
      go_ret
      exact ⟨rfl, rfl⟩
end Go.Proofs.YteknlcachfhfkahDoor
