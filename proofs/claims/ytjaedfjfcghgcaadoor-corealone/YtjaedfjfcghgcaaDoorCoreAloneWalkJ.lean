/-
  Proved: vennlaw4.CoreAlone returns true, of any row and any number of things, where core's functions and term.Check answer as chapters 2 and 13 say; what was in memory is as it was (the walk that the statement leans on).
-/
import Derived.Test.YtjaedfjfcghgcaaDoorLibA6
import Derived.Deep.CutRange
namespace Go.Proofs.YtjaedfjfcghgcaaDoor
open Go.ChangeShapes Go.WideShapes Go.ChangeAt Go.RowKit
set_option maxRecDepth 100000

/-- the formula that a term has less than nothing, and the one that it has nothing or more. -/
def neverF (t : List Int) : Fm := ⟨[⟨4, t, [], -1⟩], [0]⟩
def everF (t : List Int) : Fm := ⟨[⟨3, t, [], 0⟩], [0]⟩
theorem neverF_fault (t : List Int) : (neverF t).fault = faultN t ∧ (everF t).fault = faultN t := by
  have key : ∀ k n : Int, (k = 3 ∨ k = 4) → -20 ≤ n → n ≤ 20 → formFault [⟨k, t, [], n⟩] [0] = faultN t := fun k n hk h1 h2 => by
    have hs : secondFault k [] = 0 := by rcases hk with rfl | rfl <;> decide
    have hm : mostN k = 20 := by rcases hk with rfl | rfl <;> decide
    have ha : atomFault k t [] n = faultN t := by
      unfold atomFault
      rw [if_pos (by omega)]
      by_cases hf : faultN t = 0
      · rw [if_pos hf, if_pos hs, hm, if_pos (by omega), hf]
      · rw [if_neg hf]
    have hfi : firstFault [⟨k, t, [], n⟩] = faultN t := by
      unfold firstFault At.fault
      rw [ha]
      by_cases hf : faultN t = 0
      · rw [if_pos hf, hf]; rfl
      · rw [if_neg hf]
    unfold formFault
    rw [if_neg (by simp), if_neg (by simp), hfi]
    by_cases hf : faultN t = 0
    · rw [if_pos hf, hf]; rfl
    · rw [if_neg hf]
  exact ⟨key 4 (-1) (Or.inr rfl) (by decide) (by decide), key 3 0 (Or.inl rfl) (by decide) (by decide)⟩
theorem never_holds {t : List Int} (ht : faultN t = 0) {w : Wd} (hw : w.ok = true) : w.formIs (neverF t).ats (neverF t).c = false ∧ w.formIs (everF t).ats (everF t).c = true := by
  have h1 : formFault (neverF t).ats (neverF t).c = 0 := (neverF_fault t).1.trans ht
  have h2 : formFault (everF t).ats (everF t).c = 0 := (neverF_fault t).2.trans ht
  have hp := pcN_le (w.val t)
  refine ⟨?_, ?_⟩
  · unfold Wd.formIs
    rw [if_pos (wdForm_zero.2 ⟨h1, hw⟩)]
    show decide (pcN (w.val t) ≤ -1) = false
    exact decide_eq_false (by omega)
  · unfold Wd.formIs
    rw [if_pos (wdForm_zero.2 ⟨h2, hw⟩)]
    show decide (0 ≤ pcN (w.val t)) = true
    exact decide_eq_true (by omega)
theorem never_open {t : List Int} (ht : faultN t = 0) {u : Nat} (hu : u ≤ 6) {fs : List Fm} (h : neverF t ∈ fs) : openN fs u = false := by
  cases e : openN fs u
  · rfl
  · obtain ⟨w, hw, _, hs⟩ := open_has hu e
    unfold Wd.so at hs
    rw [List.all_eq_true] at hs
    have := hs _ h
    rw [(never_holds ht hw).1] at this
    exact absurd this (by decide)
theorem ever_open {t : List Int} (ht : faultN t = 0) {u : Nat} (hu : u ≤ 6) : openN [everF t] u = true := by
  obtain ⟨w, hw, hwu, _⟩ := open_has hu (open_nil u)
  have := open_of (fs := [everF t]) hw (u := (u : Int)) hwu (by
    unfold Wd.so
    rw [List.all_eq_true]
    intro f hf
    obtain rfl : f = everF t := by simpa using hf
    exact (never_holds ht hw).2)
  simpa using this
theorem alone_facts {t : List Int} {u : Int} (h : formsFault [everF t, neverF t, everF t] u = 0) : coreFault [everF t, neverF t, everF t] u = 0 ∧ coreL [everF t, neverF t, everF t] u = [1] ∧ formsFault [everF t] u = 0 ∧ openB [everF t] u = true := by
  obtain ⟨_, hf, hu⟩ := forms_zero.1 h
  have ht : faultN t = 0 := (neverF_fault t).2.symm.trans (hf (everF t) (by simp))
  have hu6 : u.toNat ≤ 6 := by omega
  have ho : openB [everF t, neverF t, everF t] u = false := by unfold openB; rw [if_pos h]; exact never_open ht hu6 (by simp)
  have hc : coreFault [everF t, neverF t, everF t] u = 0 := by unfold coreFault; rw [if_pos h, if_neg (by rw [ho]; decide)]
  have h1 : formsFault [everF t] u = 0 := forms_zero.2 ⟨⟨by simp, by simp⟩, fun f hf' => by
    obtain rfl : f = everF t := by simpa using hf'
    exact (neverF_fault t).2.trans ht, hu⟩
  refine ⟨hc, ?_, h1, by unfold openB; rw [if_pos h1]; exact ever_open ht hu6⟩
  unfold coreL
  rw [if_pos hc]
  obtain ⟨F, hF⟩ : ∃ F, F = [everF t, neverF t, everF t] := ⟨_, rfl⟩
  have hl : F.length = 3 := by rw [hF]; rfl
  have l0 : leftF F (putG (goneTo F u.toNat 0) 0 true) = [neverF t, everF t] := by rw [hF]; rfl
  have o0 : openN (leftF F (putG (goneTo F u.toNat 0) 0 true)) u.toNat = false := by rw [l0]; exact never_open ht hu6 (by simp)
  have g1 : goneTo F u.toNat 1 = putG (goneTo F u.toNat 0) 0 true := by
    show (if _ then _ else _) = _
    rw [if_neg (by rw [o0]; decide)]
  have c1 : coreTo F u.toNat 1 = [] := by
    show (if _ then _ else _) = _
    rw [if_neg (by rw [o0]; decide)]; rfl
  have l1 : leftF F (putG (goneTo F u.toNat 1) 1 true) = [everF t] := by rw [g1, hF]; rfl
  have o1 : openN (leftF F (putG (goneTo F u.toNat 1) 1 true)) u.toNat = true := by rw [l1]; exact ever_open ht hu6
  have g2 : goneTo F u.toNat 2 = putG (goneTo F u.toNat 1) 1 false := by
    show (if _ then _ else _) = _
    rw [if_pos o1]
  have c2 : coreTo F u.toNat 2 = [1] := by
    show (if _ then _ else _) = _
    rw [if_pos o1, c1]; rfl
  have l2 : leftF F (putG (goneTo F u.toNat 2) 2 true) = [neverF t] := by rw [g2, g1, hF]; rfl
  have o2 : openN (leftF F (putG (goneTo F u.toNat 2) 2 true)) u.toNat = false := by rw [l2]; exact never_open ht hu6 (by simp)
  rw [← hF, hl]
  show (if _ then _ else _) = _
  rw [if_neg (by rw [o2]; decide), c2]
theorem alone_bad {t : List Int} {u : Int} (h : ¬ formsFault [everF t, neverF t, everF t] u = 0) : ¬ faultN t = 0 ∨ u < 0 ∨ 6 < u := by
  by_cases ht : faultN t = 0
  · right
    rcases Int.lt_or_le u 0 with h1 | h1
    · exact Or.inl h1
    · rcases Int.lt_or_le 6 u with h2 | h2
      · exact Or.inr h2
      · exfalso
        refine h (forms_zero.2 ⟨⟨by simp, by simp⟩, fun f hf => ?_, h1, h2⟩)
        have hf' : f = everF t ∨ f = neverF t := by simpa [or_comm] using hf
        rcases hf' with rfl | rfl
        · exact (neverF_fault t).2.trans ht
        · exact (neverF_fault t).1.trans ht
  · exact Or.inl ht

theorem core_three (w : World) (o0 o1 o2 : Obj) :
    (((w.alloc o0).alloc o1).alloc o2).heap[w.heap.size]? = some o0 ∧ (((w.alloc o0).alloc o1).alloc o2).heap[w.heap.size + 1]? = some o1 ∧ (((w.alloc o0).alloc o1).alloc o2).heap[w.heap.size + 1 + 1]? = some o2 ∧
    Below w.heap.size w (((w.alloc o0).alloc o1).alloc o2) ∧ (((w.alloc o0).alloc o1).alloc o2).heap.size = w.heap.size + 1 + 1 + 1 := by
  have s1 : (w.alloc o0).heap.size = w.heap.size + 1 := World.size_alloc _ _
  have s2 : ((w.alloc o0).alloc o1).heap.size = w.heap.size + 1 + 1 := by rw [World.size_alloc, s1]
  refine ⟨?_, ?_, ?_, ?_, by rw [World.size_alloc, s2]⟩
  · rw [Below.heap_alloc _ _ _ (by omega), Below.heap_alloc _ _ _ (by omega)]; exact heap_alloc_new _ _
  · rw [Below.heap_alloc _ _ _ (by omega), ← s1]; exact heap_alloc_new _ _
  · rw [← s2]; exact heap_alloc_new _ _
  · exact (((Below.refl _ w).alloc (Nat.le_refl _) _).alloc (by omega) _).alloc (by omega) _
/-- a formula of one atom over a row, laid in three blocks. -/
theorem core_form {W : World} {G : Nat} {k n : Int} {vt : Value} {t : List Int} (hA : Blk W G 39 #[.int .i64 k, vt, .slice none 0 0, .int .i64 n]) (hC : Blk W (G + 1) 3 #[.int .i64 0]) (hT : Reads W vt t) :
    ReadsA W (.slice (some ⟨G, 0, none⟩) 1 1) [⟨k, t, [], n⟩] ∧ Reads W (.slice (some ⟨G + 1, 0, none⟩) 1 1) [0] := by
  refine ⟨Or.inr ⟨G, 0, 1, rfl, hA.lt, by simp, ⟨by simp, by simp⟩, fun i a ha => ?_⟩, Or.inr ⟨G + 1, 0, 1, rfl, hC.lt, by simp, ⟨by simp, by simp⟩, fun j hj => ?_⟩⟩
  · cases i with
    | zero =>
      obtain rfl : (⟨k, t, [], n⟩ : At) = a := by simpa using ha
      exact ⟨_, _, hA.cell 0, hA.cell 1, hA.cell 2, hA.cell 3, hT, Or.inl ⟨none, 0, rfl, rfl⟩⟩
    | succ i => simp at ha
  · obtain rfl : j = 0 := by simp at hj; exact hj
    exact hC.cell 0

set_option maxHeartbeats 8000000 in
theorem coreAlone_in (to_ : Option Addr) (tc : Nat) (t : List Int) (u E : Int) (w : World) (hT : Reads w (.slice to_ t.length tc) t)
    (HB : Hid (¬ E = 0 → ¬ faultN t = 0 ∨ u < 0 ∨ 6 < u))
    (HCh : Hid (∀ W, Below w.heap.size w W → Calls Tryd.prog 17 #[.slice to_ t.length tc] W fun e w' => e = .returned (errV (faultN t)) ∧ Below W.heap.size W w'))
    (HCo : Hid (∀ W v, Below w.heap.size w W → ReadsF W v [everF t, neverF t, everF t] → Calls Tryd.prog 14 #[v, .int .i64 u] W fun e w' => (∃ x, e = .returned (.tuple #[x, errV E]) ∧ (E = 0 → Reads w' x [1]) ∧ ∃ o l c, x = .slice o l c) ∧ Below W.heap.size W w'))
    (HOp : Hid (E = 0 → ∀ W v, Below w.heap.size w W → ReadsF W v [everF t] → Calls Tryd.prog 11 #[v, .int .i64 u] W fun e w' => e = .returned (.tuple #[.bool true, .nilIface]) ∧ Below W.heap.size W w')) :
    Calls Tryd.prog 5 #[.slice to_ t.length tc, .int .i64 u] w fun e w' => e = .returned (.bool true) ∧ Below w.heap.size w w' := by
  have HT : Hid (Reads w (.slice to_ t.length tc) t) := hT
  obtain ⟨nt, hnt⟩ : ∃ n, n = t.length := ⟨_, rfl⟩
  rw [← hnt] at HT HCh ⊢
  clear hnt hT
  obtain ⟨a0, a1, a2, ab, as_⟩ := core_three w (.cells #[.int .i64 4, .slice to_ nt tc, .slice none 0 0, .int .i64 (-1)] 39) (.cells #[.int .i64 0] 3) (.cells #[.slice (some ⟨w.heap.size, 0, none⟩) 1 1, .slice (some ⟨w.heap.size + 1, 0, none⟩) 1 1] 42)
  obtain ⟨w1, hw1⟩ : ∃ w1, w1 = ((w.alloc (.cells #[.int .i64 4, .slice to_ nt tc, .slice none 0 0, .int .i64 (-1)] 39)).alloc (.cells #[.int .i64 0] 3)).alloc (.cells #[.slice (some ⟨w.heap.size, 0, none⟩) 1 1, .slice (some ⟨w.heap.size + 1, 0, none⟩) 1 1] 42) := ⟨_, rfl⟩
  rw [← hw1] at a0 a1 a2 ab as_
  obtain ⟨b0, b1, b2, bb, bs⟩ := core_three w1 (.cells #[.int .i64 3, .slice to_ nt tc, .slice none 0 0, .int .i64 0] 39) (.cells #[.int .i64 0] 3) (.cells #[.slice (some ⟨w1.heap.size, 0, none⟩) 1 1, .slice (some ⟨w1.heap.size + 1, 0, none⟩) 1 1] 42)
  obtain ⟨w2, hw2⟩ : ∃ w2, w2 = ((w1.alloc (.cells #[.int .i64 3, .slice to_ nt tc, .slice none 0 0, .int .i64 0] 39)).alloc (.cells #[.int .i64 0] 3)).alloc (.cells #[.slice (some ⟨w1.heap.size, 0, none⟩) 1 1, .slice (some ⟨w1.heap.size + 1, 0, none⟩) 1 1] 42) := ⟨_, rfl⟩
  rw [← hw2] at b0 b1 b2 bb bs
  have HB1 : Hid (Below w.heap.size w w1) := ab
  have HB12 : Hid (Below w1.heap.size w1 w2) := bb
  have HB2 : Hid (Below w.heap.size w w2) := ab.trans (bb.mono ab.size)
  have kF : Blk w1 (w.heap.size + 1 + 1) 42 #[.slice (some ⟨w.heap.size, 0, none⟩) 1 1, .slice (some ⟨w.heap.size + 1, 0, none⟩) 1 1] := a2
  have HF2 : Hid (Blk w2 (w.heap.size + 1 + 1) 42 #[.slice (some ⟨w.heap.size, 0, none⟩) 1 1, .slice (some ⟨w.heap.size + 1, 0, none⟩) 1 1]) := kF.below bb
  have HG2 : Hid (Blk w2 (w1.heap.size + 1 + 1) 42 #[.slice (some ⟨w1.heap.size, 0, none⟩) 1 1, .slice (some ⟨w1.heap.size + 1, 0, none⟩) 1 1]) := b2
  have HR2 : Hid (∀ W, Below w2.heap.size w2 W → (ReadsA W (.slice (some ⟨w.heap.size, 0, none⟩) 1 1) (neverF t).ats ∧ Reads W (.slice (some ⟨w.heap.size + 1, 0, none⟩) 1 1) (neverF t).c) ∧ (ReadsA W (.slice (some ⟨w1.heap.size, 0, none⟩) 1 1) (everF t).ats ∧ Reads W (.slice (some ⟨w1.heap.size + 1, 0, none⟩) 1 1) (everF t).c)) := fun W hW => by
    have f1 := core_form (W := w1) (G := w.heap.size) (k := 4) (n := -1) a0 a1 (HT.out.below HB1.out)
    have f2 := core_form (W := w2) (G := w1.heap.size) (k := 3) (n := 0) b0 b1 (HT.out.below HB2.out)
    exact ⟨⟨(f1.1.below bb).below hW, (f1.2.below bb).below hW⟩, f2.1.below hW, f2.2.below hW⟩
  obtain ⟨w3, hw3⟩ : ∃ w3, w3 = w2.alloc (.cells #[.slice (some ⟨w1.heap.size, 0, none⟩) 1 1, .slice (some ⟨w1.heap.size + 1, 0, none⟩) 1 1, .slice (some ⟨w.heap.size, 0, none⟩) 1 1, .slice (some ⟨w.heap.size + 1, 0, none⟩) 1 1, .slice (some ⟨w1.heap.size, 0, none⟩) 1 1, .slice (some ⟨w1.heap.size + 1, 0, none⟩) 1 1] 42) := ⟨_, rfl⟩
  have HB23 : Hid (Below w2.heap.size w2 w3) := by unfold Hid; rw [hw3]; exact below_alloc1 _ _
  have HB3 : Hid (Below w.heap.size w w3) := HB2.out.trans (HB23.out.mono HB2.out.size)
  have HL3 : Hid (ReadsF w3 (.slice (some ⟨w2.heap.size, 0, none⟩) 3 3) [everF t, neverF t, everF t]) := by
    have k : Blk w3 w2.heap.size 42 #[.slice (some ⟨w1.heap.size, 0, none⟩) 1 1, .slice (some ⟨w1.heap.size + 1, 0, none⟩) 1 1, .slice (some ⟨w.heap.size, 0, none⟩) 1 1, .slice (some ⟨w.heap.size + 1, 0, none⟩) 1 1, .slice (some ⟨w1.heap.size, 0, none⟩) 1 1, .slice (some ⟨w1.heap.size + 1, 0, none⟩) 1 1] := by rw [hw3]; exact Blk.new _ _ _
    obtain ⟨⟨r1, r2⟩, r3, r4⟩ := HR2.out w3 HB23.out
    refine Or.inr ⟨w2.heap.size, 0, 3, rfl, k.lt, by simp, ⟨by simp, by simp⟩, fun i f hf => ?_⟩
    have hi : i < 3 := by have := (List.getElem?_eq_some_iff.1 hf).1; simpa using this
    rcases (by omega : i = 0 ∨ i = 1 ∨ i = 2) with rfl | rfl | rfl
    · obtain rfl : everF t = f := by simpa using hf
      exact ⟨_, _, k.cell 0, k.cell 1, r3, r4⟩
    · obtain rfl : neverF t = f := by simpa using hf
      exact ⟨_, _, k.cell 2, k.cell 3, r1, r2⟩
    · obtain rfl : everF t = f := by simpa using hf
      exact ⟨_, _, k.cell 4, k.cell 5, r3, r4⟩
  have y0 : w2.cell? ⟨w.heap.size + 1 + 1, 0, none⟩ = some (.slice (some ⟨w.heap.size, 0, none⟩) 1 1) := HF2.out.cell 0
  have y1 : w2.cell? ⟨w.heap.size + 1 + 1, 1, none⟩ = some (.slice (some ⟨w.heap.size + 1, 0, none⟩) 1 1) := HF2.out.cell 1
  have z0 : w2.cell? ⟨w1.heap.size + 1 + 1, 0, none⟩ = some (.slice (some ⟨w1.heap.size, 0, none⟩) 1 1) := HG2.out.cell 0
  have z1 : w2.cell? ⟨w1.heap.size + 1 + 1, 1, none⟩ = some (.slice (some ⟨w1.heap.size + 1, 0, none⟩) 1 1) := HG2.out.cell 1
  clear a0 a1 a2 ab as_ b0 b1 b2 bb bs kF
  go_enter Tryd.func5, Tryd.ntmps5
  go_upto_region 2 with fail
  rw [← hw1]
  clear hw1
  go_upto_region 3 with fail
  rw [← hw2]
  clear hw2
  go_wp2_with fail
  rw [← hw3]
  clear hw3
  go_at_call 14
  refine (HCo.out _ _ HB3.out HL3.out).mono ?_
  rintro e w4 ⟨⟨x, rfl, hx, o, l, c, rfl⟩, hb⟩
  have HB4 : Hid (Below w.heap.size w w4) := HB3.out.trans (hb.mono HB3.out.size)
  have HB24 : Hid (Below w2.heap.size w2 w4) := HB23.out.trans (hb.mono HB23.out.size)
  clear hb y0 y1 z0 z1
  by_cases hE : E = 0
  · have hr := hx hE
    have eE : errV E = .nilIface := by rw [hE]; rfl
    have HOp' : Hid (∀ W v, Below w.heap.size w W → ReadsF W v [everF t] → Calls Tryd.prog 11 #[v, .int .i64 u] W fun e w' => e = .returned (.tuple #[.bool true, .nilIface]) ∧ Below W.heap.size W w') := HOp.out hE
    rw [eE]
    obtain ⟨bx, ox, cx, hbx, hv, hcx⟩ : ∃ bx ox cx, bx < w4.heap.size ∧ Value.slice o l c = .slice (some ⟨bx, ox, none⟩) 1 cx ∧ w4.cell? ⟨bx, ox, none⟩ = some (.int .i64 1) := by
      rcases hr with ⟨_, _, _, h0⟩ | ⟨b, off, cap, hv, h2, _, _, h5⟩
      · cases h0
      · exact ⟨b, off, cap, h2, hv, by have := h5 0 (by simp); simpa using this⟩
    obtain ⟨rfl, rfl, rfl⟩ := Value.slice.inj hv
    have Hbx : Hid (bx < w4.heap.size ∧ w4.cell? ⟨bx, ox, none⟩ = some (.int .i64 1)) := ⟨hbx, hcx⟩
    clear eE hE hx hr hv hbx hcx
    have z0 : w4.cell? ⟨w1.heap.size + 1 + 1, 0, none⟩ = some (.slice (some ⟨w1.heap.size, 0, none⟩) 1 1) := (HG2.out.below HB24.out).cell 0
    have z1 : w4.cell? ⟨w1.heap.size + 1 + 1, 1, none⟩ = some (.slice (some ⟨w1.heap.size + 1, 0, none⟩) 1 1) := (HG2.out.below HB24.out).cell 1
    obtain ⟨w5, hw5⟩ : ∃ w5, w5 = w4.alloc (.cells #[.slice (some ⟨w1.heap.size, 0, none⟩) 1 1, .slice (some ⟨w1.heap.size + 1, 0, none⟩) 1 1] 42) := ⟨_, rfl⟩
    have HB45 : Hid (Below w4.heap.size w4 w5) := by unfold Hid; rw [hw5]; exact below_alloc1 _ _
    have HB5 : Hid (Below w.heap.size w w5) := HB4.out.trans (HB45.out.mono HB4.out.size)
    have HL5 : Hid (ReadsF w5 (.slice (some ⟨w4.heap.size, 0, none⟩) 1 1) [everF t]) := by
      have k : Blk w5 w4.heap.size 42 #[.slice (some ⟨w1.heap.size, 0, none⟩) 1 1, .slice (some ⟨w1.heap.size + 1, 0, none⟩) 1 1] := by rw [hw5]; exact Blk.new _ _ _
      obtain ⟨_, r3, r4⟩ := HR2.out w5 (HB24.out.trans (HB45.out.mono HB24.out.size))
      refine Or.inr ⟨w4.heap.size, 0, 1, rfl, k.lt, by simp, ⟨by simp, by simp⟩, fun i f hf => ?_⟩
      obtain rfl : i = 0 := by have := (List.getElem?_eq_some_iff.1 hf).1; simpa using this
      obtain rfl : everF t = f := by simpa using hf
      exact ⟨_, _, k.cell 0, k.cell 1, r3, r4⟩
    go_wp2_with fail
    rw [← hw5]
    clear hw5
    go_at_call 11
    refine (HOp'.out _ _ HB5.out HL5.out).mono ?_
    rintro e w6 ⟨rfl, hb⟩
    have HB6 : Hid (Below w.heap.size w w6) := HB5.out.trans (hb.mono HB5.out.size)
    have cx6 : w6.cell? ⟨bx, ox, none⟩ = some (.int .i64 1) := ((HB45.out.trans (hb.mono HB45.out.size)).cell Hbx.out.1).trans Hbx.out.2
    clear hb z0 z1
    go_wp2
    go_ret
    exact ⟨rfl, HB6.out⟩
  · have hbad := HB.out hE
    rw [errV_no hE]
    clear hE hx
    go_wp2_with fail
    go_at_call 17
    refine (HCh.out _ HB4.out).mono ?_
    rintro e w5 ⟨rfl, hb⟩
    have HB5 : Hid (Below w.heap.size w w5) := HB4.out.trans (hb.mono HB4.out.size)
    clear hb
    by_cases hf : faultN t = 0
    · have ef : errV (faultN t) = .nilIface := by rw [hf]; rfl
      rw [ef]
      rcases hbad with h | h | h
      · exact absurd hf h
      · clear ef hf
        go_wp2
        go_ret
        exact ⟨rfl, HB5.out⟩
      · have h0 : ¬ u < 0 := by omega
        clear ef hf
        go_wp2
        go_ret
        exact ⟨rfl, HB5.out⟩
    · rw [errV_no hf]
      clear hbad
      go_wp2
      go_ret
      exact ⟨rfl, HB5.out⟩

theorem coreAlone_of (vt : Value) (t : List Int) (u : Int) (w : World) (hT : Reads w vt t)
    (cCh : ∀ (vt : Value) (t : List Int) (W : World), Reads W vt t → Calls Tryd.prog 17 #[vt] W fun e w' => e = .returned (errV (faultN t)) ∧ Below W.heap.size W w')
    (cOp : ∀ (v : Value) (fs : List Fm) (u : Int) (W : World), Below w.heap.size w W → ReadsF W v fs → Calls Tryd.prog 11 #[v, .int .i64 u] W fun e w' => e = .returned (.tuple #[.bool (openB fs u), errV (formsFault fs u)]) ∧ Below W.heap.size W w')
    (cCo : ∀ (v : Value) (fs : List Fm) (u : Int) (W : World), Below w.heap.size w W → ReadsF W v fs → Calls Tryd.prog 14 #[v, .int .i64 u] W fun e w' => (∃ x, e = .returned (.tuple #[x, errV (coreFault fs u)]) ∧ Reads w' x (coreL fs u)) ∧ Below W.heap.size W w') :
    Calls Tryd.prog 5 #[vt, .int .i64 u] w fun e w' => e = .returned (.bool true) ∧ Below w.heap.size w w' := by
  obtain ⟨F, hF⟩ : ∃ F, F = [everF t, neverF t, everF t] := ⟨_, rfl⟩
  have hz : coreFault F u = 0 → formsFault F u = 0 := fun h => by
    by_cases h0 : formsFault F u = 0
    · exact h0
    · unfold coreFault at h; rw [if_neg h0] at h; exact absurd h h0
  have hn : ¬ coreFault F u = 0 → ¬ formsFault F u = 0 := fun h h0 => by
    rw [hF] at h h0
    exact h (alone_facts h0).1
  have hCh := fun W (hW : Below w.heap.size w W) => cCh vt t W (hT.below hW)
  obtain ⟨to_, tc, rfl⟩ : ∃ to_ tc, vt = .slice to_ t.length tc := by
    rcases hT with ⟨ao, cap, rfl, rfl⟩ | ⟨b, off, cap, rfl, _⟩
    · exact ⟨ao, cap, rfl⟩
    · exact ⟨_, cap, rfl⟩
  refine coreAlone_in to_ tc t u (coreFault F u) w hT (fun h => ?_) hCh (fun W v hW hv => ?_) (fun h W v hW hv => ?_)
  · have := hn h
    rw [hF] at this
    exact alone_bad this
  · rw [hF]
    refine (cCo v _ u W hW hv).mono ?_
    rintro e w' ⟨⟨x, rfl, hr⟩, hb⟩
    refine ⟨⟨x, rfl, fun h => ?_, ?_⟩, hb⟩
    · rw [← hF] at h
      have h0 := hz h
      rw [hF] at h0
      rw [(alone_facts h0).2.1] at hr
      exact hr
    · rcases hr with ⟨ao, cap, rfl, h0⟩ | ⟨b, off, cap, rfl, _⟩
      · exact ⟨ao, 0, cap, rfl⟩
      · exact ⟨_, _, cap, rfl⟩
  · have h0 := hz h
    rw [hF] at h0
    obtain ⟨_, _, h3, h4⟩ := alone_facts h0
    have g := cOp v [everF t] u W hW hv
    rw [h3, h4] at g
    exact g
end Go.Proofs.YtjaedfjfcghgcaaDoor
