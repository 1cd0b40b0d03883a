/-
  Proved: what vennref1.ReadAtom returns, of words that are no atom's by their first or by their number; what was in memory is as it was (a contract that the statements lean on).
  Proved: what vennref1.ReadAtom returns, of words of kind 1, by which part is wrong; what was in memory is as it was (a contract that the statements lean on).
  Proved: what vennref1.ReadAtom returns, of words of kind 2, by which part is wrong; what was in memory is as it was (a contract that the statements lean on).
  Proved: what vennref1.ReadAtom returns, of words of kind 3, by which part is wrong; what was in memory is as it was (a contract that the statements lean on).
  Proved: what vennref1.ReadAtom returns, of words of kind 4, by which part is wrong; what was in memory is as it was (a contract that the statements lean on).
  Proved: what vennref1.ReadAtom returns, of words of kind 5, by which part is wrong; what was in memory is as it was (a contract that the statements lean on).
  Proved: what atom.Parse returns, of any text, as one contract; what was in memory is as it was.
  Proved: what vennref1.ReadAtom returns, of any text of at most 1048576 bytes; what was in memory is as it was (a contract that the statements lean on).
-/
import Derived.Test.YtenmheenieifpabGreatDoorAtomTellsPart1
import Derived.Test.YtenmheenieifpabGreatDoorAtomTellsPart2
import Derived.Test.YtenmheenieifpabGreatDoorAtomState
import Derived.Test.YtenmheenieifpabGreatDoorAtomParseHead
import Derived.Test.YtenmheenieifpabGreatDoorAtomParse
namespace Go.Proofs.YtenmheenieifpabGreatDoor
open Go.ChangeShapes Go.WideShapes Go.ChangeAt Go.RowKit
set_option maxRecDepth 100000
/-- an atom lies at A, and may be written. -/
def OneA (W : World) (A : Nat) (k vS vT n : Value) : Prop :=
  (W.cell? ⟨A, 0, none⟩ = some k ∧ W.cell? ⟨A, 1, none⟩ = some vS ∧ W.cell? ⟨A, 2, none⟩ = some vT ∧ W.cell? ⟨A, 3, none⟩ = some n) ∧ (∀ j, W.frozen? ⟨A, j, none⟩ = false) ∧ A < W.heap.size
theorem OneA.below {W W' : World} {A K : Nat} {k vS vT n : Value} (h : OneA W A k vS vT n) (hb : Below K W W') (hK : A < K) : OneA W' A k vS vT n := by
  obtain ⟨⟨a0, a1, a2, a3⟩, f0, hl⟩ := h
  exact ⟨⟨(hb.cell hK).trans a0, (hb.cell hK).trans a1, (hb.cell hK).trans a2, (hb.cell hK).trans a3⟩, fun j => (hb.frozen hK).trans (f0 j), Nat.lt_of_lt_of_le hl hb.size⟩
theorem OneA.far {W : World} {A B j : Nat} {k vS vT n v : Value} (h : OneA W A k vS vT n) (hB : B ≠ A) : OneA (W.setCell ⟨B, j, none⟩ v) A k vS vT n := by
  obtain ⟨⟨a0, a1, a2, a3⟩, f0, hl⟩ := h
  exact ⟨⟨(set_far (ne_blk hB)).trans a0, (set_far (ne_blk hB)).trans a1, (set_far (ne_blk hB)).trans a2, (set_far (ne_blk hB)).trans a3⟩, fun j => by simp [f0 j], by simpa using hl⟩
theorem OneA.s0 {W : World} {A : Nat} {k vS vT n : Value} (h : OneA W A k vS vT n) (v : Value) : OneA (W.setCell ⟨A, 0, none⟩ v) A v vS vT n := by
  obtain ⟨⟨a0, a1, a2, a3⟩, f0, hl⟩ := h
  exact ⟨⟨set_same a0, (set_far (ne_off (by decide))).trans a1, (set_far (ne_off (by decide))).trans a2, (set_far (ne_off (by decide))).trans a3⟩, fun j => by simp [f0 j], by simpa using hl⟩
theorem OneA.s1 {W : World} {A : Nat} {k vS vT n : Value} (h : OneA W A k vS vT n) (v : Value) : OneA (W.setCell ⟨A, 1, none⟩ v) A k v vT n := by
  obtain ⟨⟨a0, a1, a2, a3⟩, f0, hl⟩ := h
  exact ⟨⟨(set_far (ne_off (by decide))).trans a0, set_same a1, (set_far (ne_off (by decide))).trans a2, (set_far (ne_off (by decide))).trans a3⟩, fun j => by simp [f0 j], by simpa using hl⟩
theorem OneA.s2 {W : World} {A : Nat} {k vS vT n : Value} (h : OneA W A k vS vT n) (v : Value) : OneA (W.setCell ⟨A, 2, none⟩ v) A k vS v n := by
  obtain ⟨⟨a0, a1, a2, a3⟩, f0, hl⟩ := h
  exact ⟨⟨(set_far (ne_off (by decide))).trans a0, (set_far (ne_off (by decide))).trans a1, set_same a2, (set_far (ne_off (by decide))).trans a3⟩, fun j => by simp [f0 j], by simpa using hl⟩
theorem OneA.s3 {W : World} {A : Nat} {k vS vT n : Value} (h : OneA W A k vS vT n) (v : Value) : OneA (W.setCell ⟨A, 3, none⟩ v) A k vS vT v := by
  obtain ⟨⟨a0, a1, a2, a3⟩, f0, hl⟩ := h
  exact ⟨⟨(set_far (ne_off (by decide))).trans a0, (set_far (ne_off (by decide))).trans a1, (set_far (ne_off (by decide))).trans a2, set_same a3⟩, fun j => by simp [f0 j], by simpa using hl⟩
theorem oneA_alloc (w : World) (k vS vT n : Value) (ta : TypeId) : OneA (w.alloc (.cells #[k, vS, vT, n] ta)) w.heap.size k vS vT n := ⟨⟨by simp, by simp, by simp, by simp⟩, fun j => by simp, by simp⟩
/-- all four written anew. -/
theorem OneA.all {W : World} {A : Nat} {k vS vT n : Value} (h : OneA W A k vS vT n) (k' vS' vT' n' : Value) : OneA ((((W.setCell ⟨A, 0, none⟩ k').setCell ⟨A, 1, none⟩ vS').setCell ⟨A, 2, none⟩ vT').setCell ⟨A, 3, none⟩ n') A k' vS' vT' n' := (((h.s0 k').s1 vS').s2 vT').s3 n'

/-- while an atom is read: what was before w's end is as it was; the atom lies at A, the result at w's end, the words at wb. -/
def StA (w W : World) (A wb : Nat) (ws : List (List UInt8)) (k vS vT n : Value) : Prop :=
  Below w.heap.size w W ∧ OneA W A k vS vT n ∧ OneA W w.heap.size (.int .i64 0) (.slice none 0 0) (.slice none 0 0) (.int .i64 0) ∧ w.heap.size < A ∧ wb ≠ A ∧ wb < W.heap.size ∧ ∀ j, j < ws.length → W.cell? ⟨wb, j, none⟩ = some (.string (strOf (ws.getD j [])))
theorem stA_start {w w1 w2 : World} {wb : Nat} {ws : List (List UInt8)} (hB1 : Below w.heap.size w w1) (hR1 : OneA w1 w.heap.size (.int .i64 0) (.slice none 0 0) (.slice none 0 0) (.int .i64 0)) (hb : Below w1.heap.size w1 w2) (hwb : wb < w2.heap.size) (hcell : ∀ j, j < ws.length → w2.cell? ⟨wb, j, none⟩ = some (.string (strOf (ws.getD j [])))) (k : Value) (ta : TypeId) :
    StA w (w2.alloc (.cells #[k, .slice none 0 0, .slice none 0 0, .int .i64 0] ta)) w2.heap.size wb ws k (.slice none 0 0) (.slice none 0 0) (.int .i64 0) := by
  have hb3 : Below w2.heap.size w2 (w2.alloc (.cells #[k, .slice none 0 0, .slice none 0 0, .int .i64 0] ta)) := below_alloc1 w2 _
  have hR2 := hR1.below hb hR1.2.2
  have h12 := hb.size
  have h01 := hB1.size
  have hl := hR1.2.2
  refine ⟨(hB1.trans (hb.mono h01)).trans (hb3.mono (by omega)), oneA_alloc _ _ _ _ _ _, hR2.below hb3 hR2.2.2, by omega, by omega, Nat.lt_of_lt_of_le hwb hb3.size, fun j hj => (hb3.cell hwb).trans (hcell j hj)⟩
theorem StA.own {w W : World} {A wb : Nat} {ws : List (List UInt8)} {k vS vT n : Value} (h : StA w W A wb ws k vS vT n) : OneA W A k vS vT n := h.2.1
theorem StA.res {w W : World} {A wb : Nat} {ws : List (List UInt8)} {k vS vT n : Value} (h : StA w W A wb ws k vS vT n) : OneA W w.heap.size (.int .i64 0) (.slice none 0 0) (.slice none 0 0) (.int .i64 0) := h.2.2.1
theorem StA.word {w W : World} {A wb : Nat} {ws : List (List UInt8)} {k vS vT n : Value} (h : StA w W A wb ws k vS vT n) (j : Nat) (hj : j < ws.length) : W.cell? ⟨wb, j, none⟩ = some (.string (strOf (ws.getD j []))) := h.2.2.2.2.2.2 j hj
theorem StA.lts {w W : World} {A wb : Nat} {ws : List (List UInt8)} {k vS vT n : Value} (h : StA w W A wb ws k vS vT n) : A < W.heap.size ∧ w.heap.size < W.heap.size := ⟨h.2.1.2.2, h.2.2.1.2.2⟩
theorem StA.call {w W W' : World} {A wb : Nat} {ws : List (List UInt8)} {k vS vT n : Value} (h : StA w W A wb ws k vS vT n) (hb : Below W.heap.size W W') : StA w W' A wb ws k vS vT n := by
  obtain ⟨h1, h2, h3, h4, h5, h6, h7⟩ := h
  exact ⟨h1.trans (hb.mono h1.size), h2.below hb h2.2.2, h3.below hb h3.2.2, h4, h5, Nat.lt_of_lt_of_le h6 hb.size, fun j hj => (hb.cell h6).trans (h7 j hj)⟩
theorem StA.s1 {w W : World} {A wb : Nat} {ws : List (List UInt8)} {k vS vT n : Value} (h : StA w W A wb ws k vS vT n) (v : Value) : StA w (W.setCell ⟨A, 1, none⟩ v) A wb ws k v vT n := by
  obtain ⟨h1, h2, h3, h4, h5, h6, h7⟩ := h
  exact ⟨h1.setCell (Nat.le_of_lt h4) _, h2.s1 v, h3.far (by omega), h4, h5, by simpa using h6, fun j hj => (set_far (ne_blk h5.symm)).trans (h7 j hj)⟩
theorem StA.s2 {w W : World} {A wb : Nat} {ws : List (List UInt8)} {k vS vT n : Value} (h : StA w W A wb ws k vS vT n) (v : Value) : StA w (W.setCell ⟨A, 2, none⟩ v) A wb ws k vS v n := by
  obtain ⟨h1, h2, h3, h4, h5, h6, h7⟩ := h
  exact ⟨h1.setCell (Nat.le_of_lt h4) _, h2.s2 v, h3.far (by omega), h4, h5, by simpa using h6, fun j hj => (set_far (ne_blk h5.symm)).trans (h7 j hj)⟩
theorem StA.s3 {w W : World} {A wb : Nat} {ws : List (List UInt8)} {k vS vT n : Value} (h : StA w W A wb ws k vS vT n) (v : Value) : StA w (W.setCell ⟨A, 3, none⟩ v) A wb ws k vS vT v := by
  obtain ⟨h1, h2, h3, h4, h5, h6, h7⟩ := h
  exact ⟨h1.setCell (Nat.le_of_lt h4) _, h2.s3 v, h3.far (by omega), h4, h5, by simpa using h6, fun j hj => (set_far (ne_blk h5.symm)).trans (h7 j hj)⟩
theorem StA.fin {w W : World} {A wb : Nat} {ws : List (List UInt8)} {k vS vT n : Value} (h : StA w W A wb ws k vS vT n) (b0 b1 b2 b3 : Value) : Below w.heap.size w ((((W.setCell ⟨w.heap.size, 0, none⟩ b0).setCell ⟨w.heap.size, 1, none⟩ b1).setCell ⟨w.heap.size, 2, none⟩ b2).setCell ⟨w.heap.size, 3, none⟩ b3) :=
  (((h.1.setCell (Nat.le_refl _) _).setCell (Nat.le_refl _) _).setCell (Nat.le_refl _) _).setCell (Nat.le_refl _) _
/-- a new row reads as it did behind a store before it. -/
theorem Reads.storeNew {W : World} {K : Nat} {v : Value} {t : List Int} {B j : Nat} {x : Value} (h : Reads W v t) (hn : NewV K v) (hB : B < K) : Reads (W.setCell ⟨B, j, none⟩ x) v t := by
  rcases h with h | ⟨b, off, cap, e, h2, h3, h4, h5⟩
  · exact Or.inl h
  · obtain ⟨ao, n, c, e', hp⟩ := hn
    rw [e] at e'
    injection e' with e1 _ _
    have hb : K ≤ b := hp _ e1.symm
    refine Or.inr ⟨b, off, cap, e, by simpa using h2, h3, h4, fun k hk => ?_⟩
    rw [set_far (ne_blk (by omega))]
    exact h5 k hk
theorem Reads.storeAll {W : World} {K : Nat} {v : Value} {t : List Int} {B : Nat} {x0 x1 x2 x3 : Value} (h : Reads W v t) (hn : NewV K v) (hB : B < K) : Reads ((((W.setCell ⟨B, 0, none⟩ x0).setCell ⟨B, 1, none⟩ x1).setCell ⟨B, 2, none⟩ x2).setCell ⟨B, 3, none⟩ x3) v t :=
  (((h.storeNew hn hB).storeNew hn hB).storeNew hn hB).storeNew hn hB
theorem readTerm_word (l : List UInt8) (hl : l.length ≤ 1048576) (W : World) :
    Calls Tryz.prog 32 #[.string (strOf l)] W fun e w' => ∃ v, e = .returned (.tuple #[v, .bool (lettersB l)]) ∧ (lettersB l = true → Reads w' v (readN l)) ∧ NewV W.heap.size v ∧ Below W.heap.size W w' := by
  have h := readTerm_fresh (strOf l) (by rw [strOf_size]; exact hl) W
  rw [strOf_list] at h
  refine h.mono fun e w' h => ?_
  cases hb : lettersB l with
  | true =>
    obtain ⟨v, h1, h2, h3⟩ := h.1 hb
    exact ⟨v, h1, fun _ => h2, h3, h.2.2⟩
  | false => exact ⟨_, h.2.1 hb, fun h' => (by cases h'), ⟨_, _, _, rfl, fun p hp => (by cases hp)⟩, h.2.2⟩


set_option maxHeartbeats 4000000 in
theorem readAtom_none (s x : ByteArray) (ws : List (List UInt8)) (w : World) (h0 : 0 < ws.length) (hx : strOf (ws.getD 0 []) = x) (q1 : (x.toList == [115, 117, 98]) = false) (q2 : (x.toList == [115, 97, 109, 101]) = false) (q3 : (x.toList == [108, 101, 97, 115, 116]) = false) (q4 : (x.toList == [109, 111, 115, 116]) = false) (q5 : (x.toList == [110, 111, 109, 111, 114, 101]) = false)
    (hC : ∀ W, Below w.heap.size w W → Calls Tryz.prog 31 #[.string s, .int .u8 32] W fun e w' => ∃ v, e = .returned v ∧ ReadsS w' v ws ∧ Below W.heap.size W w') :
    Calls Tryz.prog 13 #[.string s] w fun e w' => e = .returned (.tuple #[.agg #[.int .i64 0, .slice none 0 0, .slice none 0 0, .int .i64 0], .int .i64 2]) ∧ Below w.heap.size w w' := by
  obtain ⟨w1, hw1⟩ : ∃ w1, w1 = w.alloc (.cells #[.int .i64 0, .slice none 0 0, .slice none 0 0, .int .i64 0] 24) := ⟨_, rfl⟩
  have HB1 : Hid (Below w.heap.size w w1) := by unfold Hid; rw [hw1]; exact below_alloc1 w _
  have HR1 : Hid (OneA w1 w.heap.size (.int .i64 0) (.slice none 0 0) (.slice none 0 0) (.int .i64 0)) := by unfold Hid; rw [hw1]; exact oneA_alloc _ _ _ _ _ _
  have HC : Hid (Calls Tryz.prog 31 #[.string s, .int .u8 32] w1 fun e w' => ∃ v, e = .returned v ∧ ReadsS w' v ws ∧ Below w1.heap.size w1 w') := hC w1 HB1.out
  clear hC
  go_enter Tryz.func13, Tryz.ntmps13
  go_wp2_with fail
  rw [← hw1]
  clear hw1
  go_at_call 31
  refine HC.out.mono ?_
  rintro e w2 ⟨v, rfl, hR, hb⟩
  obtain ⟨wb, cap, rfl, hwb, hcap, hcell⟩ := hR
  obtain ⟨w3, hw3⟩ : ∃ w3, w3 = w2.alloc (.cells #[.int .i64 0, .slice none 0 0, .slice none 0 0, .int .i64 0] 24) := ⟨_, rfl⟩
  have HS3 : Hid (StA w w3 w2.heap.size wb ws (.int .i64 0) (.slice none 0 0) (.slice none 0 0) (.int .i64 0)) := by unfold Hid; rw [hw3]; exact stA_start HB1.out HR1.out hb hwb hcell _ _
  clear hb hcell hwb hcap
  have c0 := HS3.out.word 0 h0
  rw [hx] at c0
  obtain ⟨⟨a0, a1, a2, a3⟩, _, _⟩ := HS3.out.own
  obtain ⟨⟨r0, r1, r2, r3⟩, rf, _⟩ := HS3.out.res
  have p0 := rf 0
  have p1 := rf 1
  have p2 := rf 2
  have p3 := rf 3
  clear rf
  rw [hw3] at c0 r0 r1 r2 r3 p0 p1 p2 p3 a0 a1 a2 a3
  go_wp2_with fail
  rw [← hw3]
  have hA := HS3.out.res.all (.int .i64 0) (.slice none 0 0) (.slice none 0 0) (.int .i64 0)
  have hld := load_atom hA.1.1 hA.1.2.1 hA.1.2.2.1 hA.1.2.2.2
  refine bodyPost_ret (v := .tuple #[.agg #[.int .i64 0, .slice none 0 0, .slice none 0 0, .int .i64 0], .int .i64 2]) ?_ rfl ⟨rfl, HS3.out.fin _ _ _ _⟩
  rw [results_cell_tmp rfl]
  simp [asAddr, Result.andThen, hld]

set_option maxHeartbeats 4000000 in
theorem readAtom_1_c (s x : ByteArray) (ws : List (List UInt8)) (w : World) (h0 : 0 < ws.length) (hx : strOf (ws.getD 0 []) = x) (q1 : (x.toList == [115, 117, 98]) = true) (hL : ¬ ws.length = 3)
    (hC : ∀ W, Below w.heap.size w W → Calls Tryz.prog 31 #[.string s, .int .u8 32] W fun e w' => ∃ v, e = .returned v ∧ ReadsS w' v ws ∧ Below W.heap.size W w') :
    Calls Tryz.prog 13 #[.string s] w fun e w' => e = .returned (.tuple #[.agg #[.int .i64 0, .slice none 0 0, .slice none 0 0, .int .i64 0], .int .i64 2]) ∧ Below w.heap.size w w' := by
  have hL' : ((ws.length : Int) != 3) = true := by simp; omega
  have hL2 : ¬ (ws.length : Int) = 3 := by omega
  obtain ⟨w1, hw1⟩ : ∃ w1, w1 = w.alloc (.cells #[.int .i64 0, .slice none 0 0, .slice none 0 0, .int .i64 0] 24) := ⟨_, rfl⟩
  have HB1 : Hid (Below w.heap.size w w1) := by unfold Hid; rw [hw1]; exact below_alloc1 w _
  have HR1 : Hid (OneA w1 w.heap.size (.int .i64 0) (.slice none 0 0) (.slice none 0 0) (.int .i64 0)) := by unfold Hid; rw [hw1]; exact oneA_alloc _ _ _ _ _ _
  have HC : Hid (Calls Tryz.prog 31 #[.string s, .int .u8 32] w1 fun e w' => ∃ v, e = .returned v ∧ ReadsS w' v ws ∧ Below w1.heap.size w1 w') := hC w1 HB1.out
  clear hC
  go_enter Tryz.func13, Tryz.ntmps13
  go_wp2_with fail
  rw [← hw1]
  clear hw1
  go_at_call 31
  refine HC.out.mono ?_
  rintro e w2 ⟨v, rfl, hR, hb⟩
  obtain ⟨wb, cap, rfl, hwb, hcap, hcell⟩ := hR
  obtain ⟨w3, hw3⟩ : ∃ w3, w3 = w2.alloc (.cells #[.int .i64 0, .slice none 0 0, .slice none 0 0, .int .i64 0] 24) := ⟨_, rfl⟩
  have HS3 : Hid (StA w w3 w2.heap.size wb ws (.int .i64 0) (.slice none 0 0) (.slice none 0 0) (.int .i64 0)) := by unfold Hid; rw [hw3]; exact stA_start HB1.out HR1.out hb hwb hcell _ _
  obtain ⟨w4, hw4⟩ : ∃ w4, w4 = w2.alloc (.cells #[.int .i64 1, .slice none 0 0, .slice none 0 0, .int .i64 0] 24) := ⟨_, rfl⟩
  have HS4 : Hid (StA w w4 w2.heap.size wb ws (.int .i64 1) (.slice none 0 0) (.slice none 0 0) (.int .i64 0)) := by unfold Hid; rw [hw4]; exact stA_start HB1.out HR1.out hb hwb hcell _ _
  clear hb hcell hwb hcap
  have c0 := HS3.out.word 0 h0
  rw [hx] at c0
  obtain ⟨⟨r0, r1, r2, r3⟩, rf, _⟩ := HS4.out.res
  have p0 := rf 0
  have p1 := rf 1
  have p2 := rf 2
  have p3 := rf 3
  clear rf
  rw [hw3] at c0
  rw [hw4] at r0 r1 r2 r3 p0 p1 p2 p3
  go_wp2_with fail
  rw [← hw4]
  have hA := HS4.out.res.all (.int .i64 0) (.slice none 0 0) (.slice none 0 0) (.int .i64 0)
  have hld := load_atom hA.1.1 hA.1.2.1 hA.1.2.2.1 hA.1.2.2.2
  refine bodyPost_ret (v := .tuple #[.agg #[.int .i64 0, .slice none 0 0, .slice none 0 0, .int .i64 0], .int .i64 2]) ?_ rfl ⟨rfl, HS4.out.fin _ _ _ _⟩
  rw [results_cell_tmp rfl]
  simp [asAddr, Result.andThen, hld]

set_option maxHeartbeats 4000000 in
theorem readAtom_2_c (s x : ByteArray) (ws : List (List UInt8)) (w : World) (h0 : 0 < ws.length) (hx : strOf (ws.getD 0 []) = x) (q1 : (x.toList == [115, 117, 98]) = false) (q2 : (x.toList == [115, 97, 109, 101]) = true) (hL : ¬ ws.length = 3)
    (hC : ∀ W, Below w.heap.size w W → Calls Tryz.prog 31 #[.string s, .int .u8 32] W fun e w' => ∃ v, e = .returned v ∧ ReadsS w' v ws ∧ Below W.heap.size W w') :
    Calls Tryz.prog 13 #[.string s] w fun e w' => e = .returned (.tuple #[.agg #[.int .i64 0, .slice none 0 0, .slice none 0 0, .int .i64 0], .int .i64 2]) ∧ Below w.heap.size w w' := by
  have hL' : ((ws.length : Int) != 3) = true := by simp; omega
  have hL2 : ¬ (ws.length : Int) = 3 := by omega
  obtain ⟨w1, hw1⟩ : ∃ w1, w1 = w.alloc (.cells #[.int .i64 0, .slice none 0 0, .slice none 0 0, .int .i64 0] 24) := ⟨_, rfl⟩
  have HB1 : Hid (Below w.heap.size w w1) := by unfold Hid; rw [hw1]; exact below_alloc1 w _
  have HR1 : Hid (OneA w1 w.heap.size (.int .i64 0) (.slice none 0 0) (.slice none 0 0) (.int .i64 0)) := by unfold Hid; rw [hw1]; exact oneA_alloc _ _ _ _ _ _
  have HC : Hid (Calls Tryz.prog 31 #[.string s, .int .u8 32] w1 fun e w' => ∃ v, e = .returned v ∧ ReadsS w' v ws ∧ Below w1.heap.size w1 w') := hC w1 HB1.out
  clear hC
  go_enter Tryz.func13, Tryz.ntmps13
  go_wp2_with fail
  rw [← hw1]
  clear hw1
  go_at_call 31
  refine HC.out.mono ?_
  rintro e w2 ⟨v, rfl, hR, hb⟩
  obtain ⟨wb, cap, rfl, hwb, hcap, hcell⟩ := hR
  obtain ⟨w3, hw3⟩ : ∃ w3, w3 = w2.alloc (.cells #[.int .i64 0, .slice none 0 0, .slice none 0 0, .int .i64 0] 24) := ⟨_, rfl⟩
  have HS3 : Hid (StA w w3 w2.heap.size wb ws (.int .i64 0) (.slice none 0 0) (.slice none 0 0) (.int .i64 0)) := by unfold Hid; rw [hw3]; exact stA_start HB1.out HR1.out hb hwb hcell _ _
  obtain ⟨w4, hw4⟩ : ∃ w4, w4 = w2.alloc (.cells #[.int .i64 2, .slice none 0 0, .slice none 0 0, .int .i64 0] 24) := ⟨_, rfl⟩
  have HS4 : Hid (StA w w4 w2.heap.size wb ws (.int .i64 2) (.slice none 0 0) (.slice none 0 0) (.int .i64 0)) := by unfold Hid; rw [hw4]; exact stA_start HB1.out HR1.out hb hwb hcell _ _
  clear hb hcell hwb hcap
  have c0 := HS3.out.word 0 h0
  rw [hx] at c0
  obtain ⟨⟨r0, r1, r2, r3⟩, rf, _⟩ := HS4.out.res
  have p0 := rf 0
  have p1 := rf 1
  have p2 := rf 2
  have p3 := rf 3
  clear rf
  rw [hw3] at c0
  rw [hw4] at r0 r1 r2 r3 p0 p1 p2 p3
  go_wp2_with fail
  rw [← hw4]
  have hA := HS4.out.res.all (.int .i64 0) (.slice none 0 0) (.slice none 0 0) (.int .i64 0)
  have hld := load_atom hA.1.1 hA.1.2.1 hA.1.2.2.1 hA.1.2.2.2
  refine bodyPost_ret (v := .tuple #[.agg #[.int .i64 0, .slice none 0 0, .slice none 0 0, .int .i64 0], .int .i64 2]) ?_ rfl ⟨rfl, HS4.out.fin _ _ _ _⟩
  rw [results_cell_tmp rfl]
  simp [asAddr, Result.andThen, hld]

set_option maxHeartbeats 4000000 in
theorem readAtom_3_c (s x : ByteArray) (ws : List (List UInt8)) (w : World) (h0 : 0 < ws.length) (hx : strOf (ws.getD 0 []) = x) (q1 : (x.toList == [115, 117, 98]) = false) (q2 : (x.toList == [115, 97, 109, 101]) = false) (q3 : (x.toList == [108, 101, 97, 115, 116]) = true) (hL : ¬ ws.length = 3)
    (hC : ∀ W, Below w.heap.size w W → Calls Tryz.prog 31 #[.string s, .int .u8 32] W fun e w' => ∃ v, e = .returned v ∧ ReadsS w' v ws ∧ Below W.heap.size W w') :
    Calls Tryz.prog 13 #[.string s] w fun e w' => e = .returned (.tuple #[.agg #[.int .i64 0, .slice none 0 0, .slice none 0 0, .int .i64 0], .int .i64 2]) ∧ Below w.heap.size w w' := by
  have hL' : ((ws.length : Int) != 3) = true := by simp; omega
  have hL2 : ¬ (ws.length : Int) = 3 := by omega
  obtain ⟨w1, hw1⟩ : ∃ w1, w1 = w.alloc (.cells #[.int .i64 0, .slice none 0 0, .slice none 0 0, .int .i64 0] 24) := ⟨_, rfl⟩
  have HB1 : Hid (Below w.heap.size w w1) := by unfold Hid; rw [hw1]; exact below_alloc1 w _
  have HR1 : Hid (OneA w1 w.heap.size (.int .i64 0) (.slice none 0 0) (.slice none 0 0) (.int .i64 0)) := by unfold Hid; rw [hw1]; exact oneA_alloc _ _ _ _ _ _
  have HC : Hid (Calls Tryz.prog 31 #[.string s, .int .u8 32] w1 fun e w' => ∃ v, e = .returned v ∧ ReadsS w' v ws ∧ Below w1.heap.size w1 w') := hC w1 HB1.out
  clear hC
  go_enter Tryz.func13, Tryz.ntmps13
  go_wp2_with fail
  rw [← hw1]
  clear hw1
  go_at_call 31
  refine HC.out.mono ?_
  rintro e w2 ⟨v, rfl, hR, hb⟩
  obtain ⟨wb, cap, rfl, hwb, hcap, hcell⟩ := hR
  obtain ⟨w3, hw3⟩ : ∃ w3, w3 = w2.alloc (.cells #[.int .i64 0, .slice none 0 0, .slice none 0 0, .int .i64 0] 24) := ⟨_, rfl⟩
  have HS3 : Hid (StA w w3 w2.heap.size wb ws (.int .i64 0) (.slice none 0 0) (.slice none 0 0) (.int .i64 0)) := by unfold Hid; rw [hw3]; exact stA_start HB1.out HR1.out hb hwb hcell _ _
  obtain ⟨w4, hw4⟩ : ∃ w4, w4 = w2.alloc (.cells #[.int .i64 3, .slice none 0 0, .slice none 0 0, .int .i64 0] 24) := ⟨_, rfl⟩
  have HS4 : Hid (StA w w4 w2.heap.size wb ws (.int .i64 3) (.slice none 0 0) (.slice none 0 0) (.int .i64 0)) := by unfold Hid; rw [hw4]; exact stA_start HB1.out HR1.out hb hwb hcell _ _
  clear hb hcell hwb hcap
  have c0 := HS3.out.word 0 h0
  rw [hx] at c0
  obtain ⟨⟨r0, r1, r2, r3⟩, rf, _⟩ := HS4.out.res
  have p0 := rf 0
  have p1 := rf 1
  have p2 := rf 2
  have p3 := rf 3
  clear rf
  rw [hw3] at c0
  rw [hw4] at r0 r1 r2 r3 p0 p1 p2 p3
  go_wp2_with fail
  rw [← hw4]
  have hA := HS4.out.res.all (.int .i64 0) (.slice none 0 0) (.slice none 0 0) (.int .i64 0)
  have hld := load_atom hA.1.1 hA.1.2.1 hA.1.2.2.1 hA.1.2.2.2
  refine bodyPost_ret (v := .tuple #[.agg #[.int .i64 0, .slice none 0 0, .slice none 0 0, .int .i64 0], .int .i64 2]) ?_ rfl ⟨rfl, HS4.out.fin _ _ _ _⟩
  rw [results_cell_tmp rfl]
  simp [asAddr, Result.andThen, hld]

set_option maxHeartbeats 4000000 in
theorem readAtom_4_c (s x : ByteArray) (ws : List (List UInt8)) (w : World) (h0 : 0 < ws.length) (hx : strOf (ws.getD 0 []) = x) (q1 : (x.toList == [115, 117, 98]) = false) (q2 : (x.toList == [115, 97, 109, 101]) = false) (q3 : (x.toList == [108, 101, 97, 115, 116]) = false) (q4 : (x.toList == [109, 111, 115, 116]) = true) (hL : ¬ ws.length = 3)
    (hC : ∀ W, Below w.heap.size w W → Calls Tryz.prog 31 #[.string s, .int .u8 32] W fun e w' => ∃ v, e = .returned v ∧ ReadsS w' v ws ∧ Below W.heap.size W w') :
    Calls Tryz.prog 13 #[.string s] w fun e w' => e = .returned (.tuple #[.agg #[.int .i64 0, .slice none 0 0, .slice none 0 0, .int .i64 0], .int .i64 2]) ∧ Below w.heap.size w w' := by
  have hL' : ((ws.length : Int) != 3) = true := by simp; omega
  have hL2 : ¬ (ws.length : Int) = 3 := by omega
  obtain ⟨w1, hw1⟩ : ∃ w1, w1 = w.alloc (.cells #[.int .i64 0, .slice none 0 0, .slice none 0 0, .int .i64 0] 24) := ⟨_, rfl⟩
  have HB1 : Hid (Below w.heap.size w w1) := by unfold Hid; rw [hw1]; exact below_alloc1 w _
  have HR1 : Hid (OneA w1 w.heap.size (.int .i64 0) (.slice none 0 0) (.slice none 0 0) (.int .i64 0)) := by unfold Hid; rw [hw1]; exact oneA_alloc _ _ _ _ _ _
  have HC : Hid (Calls Tryz.prog 31 #[.string s, .int .u8 32] w1 fun e w' => ∃ v, e = .returned v ∧ ReadsS w' v ws ∧ Below w1.heap.size w1 w') := hC w1 HB1.out
  clear hC
  go_enter Tryz.func13, Tryz.ntmps13
  go_wp2_with fail
  rw [← hw1]
  clear hw1
  go_at_call 31
  refine HC.out.mono ?_
  rintro e w2 ⟨v, rfl, hR, hb⟩
  obtain ⟨wb, cap, rfl, hwb, hcap, hcell⟩ := hR
  obtain ⟨w3, hw3⟩ : ∃ w3, w3 = w2.alloc (.cells #[.int .i64 0, .slice none 0 0, .slice none 0 0, .int .i64 0] 24) := ⟨_, rfl⟩
  have HS3 : Hid (StA w w3 w2.heap.size wb ws (.int .i64 0) (.slice none 0 0) (.slice none 0 0) (.int .i64 0)) := by unfold Hid; rw [hw3]; exact stA_start HB1.out HR1.out hb hwb hcell _ _
  obtain ⟨w4, hw4⟩ : ∃ w4, w4 = w2.alloc (.cells #[.int .i64 4, .slice none 0 0, .slice none 0 0, .int .i64 0] 24) := ⟨_, rfl⟩
  have HS4 : Hid (StA w w4 w2.heap.size wb ws (.int .i64 4) (.slice none 0 0) (.slice none 0 0) (.int .i64 0)) := by unfold Hid; rw [hw4]; exact stA_start HB1.out HR1.out hb hwb hcell _ _
  clear hb hcell hwb hcap
  have c0 := HS3.out.word 0 h0
  rw [hx] at c0
  obtain ⟨⟨r0, r1, r2, r3⟩, rf, _⟩ := HS4.out.res
  have p0 := rf 0
  have p1 := rf 1
  have p2 := rf 2
  have p3 := rf 3
  clear rf
  rw [hw3] at c0
  rw [hw4] at r0 r1 r2 r3 p0 p1 p2 p3
  go_wp2_with fail
  rw [← hw4]
  have hA := HS4.out.res.all (.int .i64 0) (.slice none 0 0) (.slice none 0 0) (.int .i64 0)
  have hld := load_atom hA.1.1 hA.1.2.1 hA.1.2.2.1 hA.1.2.2.2
  refine bodyPost_ret (v := .tuple #[.agg #[.int .i64 0, .slice none 0 0, .slice none 0 0, .int .i64 0], .int .i64 2]) ?_ rfl ⟨rfl, HS4.out.fin _ _ _ _⟩
  rw [results_cell_tmp rfl]
  simp [asAddr, Result.andThen, hld]

set_option maxHeartbeats 4000000 in
theorem readAtom_5_c (s x : ByteArray) (ws : List (List UInt8)) (w : World) (h0 : 0 < ws.length) (hx : strOf (ws.getD 0 []) = x) (q1 : (x.toList == [115, 117, 98]) = false) (q2 : (x.toList == [115, 97, 109, 101]) = false) (q3 : (x.toList == [108, 101, 97, 115, 116]) = false) (q4 : (x.toList == [109, 111, 115, 116]) = false) (q5 : (x.toList == [110, 111, 109, 111, 114, 101]) = true) (hL : ¬ ws.length = 4)
    (hC : ∀ W, Below w.heap.size w W → Calls Tryz.prog 31 #[.string s, .int .u8 32] W fun e w' => ∃ v, e = .returned v ∧ ReadsS w' v ws ∧ Below W.heap.size W w') :
    Calls Tryz.prog 13 #[.string s] w fun e w' => e = .returned (.tuple #[.agg #[.int .i64 0, .slice none 0 0, .slice none 0 0, .int .i64 0], .int .i64 2]) ∧ Below w.heap.size w w' := by
  have hL' : ((ws.length : Int) != 4) = true := by simp; omega
  have hL2 : ¬ (ws.length : Int) = 4 := by omega
  obtain ⟨w1, hw1⟩ : ∃ w1, w1 = w.alloc (.cells #[.int .i64 0, .slice none 0 0, .slice none 0 0, .int .i64 0] 24) := ⟨_, rfl⟩
  have HB1 : Hid (Below w.heap.size w w1) := by unfold Hid; rw [hw1]; exact below_alloc1 w _
  have HR1 : Hid (OneA w1 w.heap.size (.int .i64 0) (.slice none 0 0) (.slice none 0 0) (.int .i64 0)) := by unfold Hid; rw [hw1]; exact oneA_alloc _ _ _ _ _ _
  have HC : Hid (Calls Tryz.prog 31 #[.string s, .int .u8 32] w1 fun e w' => ∃ v, e = .returned v ∧ ReadsS w' v ws ∧ Below w1.heap.size w1 w') := hC w1 HB1.out
  clear hC
  go_enter Tryz.func13, Tryz.ntmps13
  go_wp2_with fail
  rw [← hw1]
  clear hw1
  go_at_call 31
  refine HC.out.mono ?_
  rintro e w2 ⟨v, rfl, hR, hb⟩
  obtain ⟨wb, cap, rfl, hwb, hcap, hcell⟩ := hR
  obtain ⟨w3, hw3⟩ : ∃ w3, w3 = w2.alloc (.cells #[.int .i64 0, .slice none 0 0, .slice none 0 0, .int .i64 0] 24) := ⟨_, rfl⟩
  have HS3 : Hid (StA w w3 w2.heap.size wb ws (.int .i64 0) (.slice none 0 0) (.slice none 0 0) (.int .i64 0)) := by unfold Hid; rw [hw3]; exact stA_start HB1.out HR1.out hb hwb hcell _ _
  obtain ⟨w4, hw4⟩ : ∃ w4, w4 = w2.alloc (.cells #[.int .i64 5, .slice none 0 0, .slice none 0 0, .int .i64 0] 24) := ⟨_, rfl⟩
  have HS4 : Hid (StA w w4 w2.heap.size wb ws (.int .i64 5) (.slice none 0 0) (.slice none 0 0) (.int .i64 0)) := by unfold Hid; rw [hw4]; exact stA_start HB1.out HR1.out hb hwb hcell _ _
  clear hb hcell hwb hcap
  have c0 := HS3.out.word 0 h0
  rw [hx] at c0
  obtain ⟨⟨r0, r1, r2, r3⟩, rf, _⟩ := HS4.out.res
  have p0 := rf 0
  have p1 := rf 1
  have p2 := rf 2
  have p3 := rf 3
  clear rf
  rw [hw3] at c0
  rw [hw4] at r0 r1 r2 r3 p0 p1 p2 p3
  go_wp2_with fail
  rw [← hw4]
  have hA := HS4.out.res.all (.int .i64 0) (.slice none 0 0) (.slice none 0 0) (.int .i64 0)
  have hld := load_atom hA.1.1 hA.1.2.1 hA.1.2.2.1 hA.1.2.2.2
  refine bodyPost_ret (v := .tuple #[.agg #[.int .i64 0, .slice none 0 0, .slice none 0 0, .int .i64 0], .int .i64 2]) ?_ rfl ⟨rfl, HS4.out.fin _ _ _ _⟩
  rw [results_cell_tmp rfl]
  simp [asAddr, Result.andThen, hld]
end Go.Proofs.YtenmheenieifpabGreatDoor

namespace Go.Proofs.YtenmheenieifpabGreatDoor
open Go.ChangeShapes Go.WideShapes Go.ChangeAt Go.RowKit
set_option maxRecDepth 100000

set_option linter.unusedVariables false in
set_option maxHeartbeats 4000000 in
theorem readAtom_1_s (s x : ByteArray) (l0 l1 l2 : List UInt8) (w : World) (hx : strOf l0 = x) (q1 : (x.toList == [115, 117, 98]) = true) (z1 : l1.length ≤ 1048576) (z2 : l2.length ≤ 1048576) (b1 : lettersB l1 = false)
    (hC : ∀ W, Below w.heap.size w W → Calls Tryz.prog 31 #[.string s, .int .u8 32] W fun e w' => ∃ v, e = .returned v ∧ ReadsS w' v [l0, l1, l2] ∧ Below W.heap.size W w') :
    Calls Tryz.prog 13 #[.string s] w fun e w' => e = .returned (.tuple #[.agg #[.int .i64 0, .slice none 0 0, .slice none 0 0, .int .i64 0], .int .i64 2]) ∧ Below w.heap.size w w' := by
  have HRt : Hid (∀ l : List UInt8, l.length ≤ 1048576 → ∀ W, Calls Tryz.prog 32 #[.string (strOf l)] W fun e w' => ∃ v, e = .returned (.tuple #[v, .bool (lettersB l)]) ∧ (lettersB l = true → Reads w' v (readN l)) ∧ NewV W.heap.size v ∧ Below W.heap.size W w') := fun l hl W => readTerm_word l hl W
  have HRn : Hid (∀ l : List UInt8, l.length ≤ 1048576 → ∀ W, Calls Tryz.prog 33 #[.string (strOf l)] W fun e w' => e = .returned (.tuple #[.int .i64 ((numOf l).getD 0), .bool (numOf l).isSome]) ∧ W = w') := fun l hl W => by
    have := readNumber_any (strOf l) (by rw [strOf_size]; omega) W
    rw [strOf_list] at this
    exact this
  obtain ⟨w1, hw1⟩ : ∃ w1, w1 = w.alloc (.cells #[.int .i64 0, .slice none 0 0, .slice none 0 0, .int .i64 0] 24) := ⟨_, rfl⟩
  have HB1 : Hid (Below w.heap.size w w1) := by unfold Hid; rw [hw1]; exact below_alloc1 w _
  have HR1 : Hid (OneA w1 w.heap.size (.int .i64 0) (.slice none 0 0) (.slice none 0 0) (.int .i64 0)) := by unfold Hid; rw [hw1]; exact oneA_alloc _ _ _ _ _ _
  have HC : Hid (Calls Tryz.prog 31 #[.string s, .int .u8 32] w1 fun e w' => ∃ v, e = .returned v ∧ ReadsS w' v [l0, l1, l2] ∧ Below w1.heap.size w1 w') := hC w1 HB1.out
  clear hC
  go_enter Tryz.func13, Tryz.ntmps13
  go_wp2_with fail
  rw [← hw1]
  clear hw1
  go_at_call 31
  refine HC.out.mono ?_
  rintro e w2 ⟨v, rfl, hR, hb⟩
  obtain ⟨wb, cap, rfl, hwb, hcap, hcell⟩ := hR
  obtain ⟨w3, hw3⟩ : ∃ w3, w3 = w2.alloc (.cells #[.int .i64 0, .slice none 0 0, .slice none 0 0, .int .i64 0] 24) := ⟨_, rfl⟩
  have HS3 : Hid (StA w w3 w2.heap.size wb [l0, l1, l2] (.int .i64 0) (.slice none 0 0) (.slice none 0 0) (.int .i64 0)) := by unfold Hid; rw [hw3]; exact stA_start HB1.out HR1.out hb hwb hcell _ _
  obtain ⟨w4, hw4⟩ : ∃ w4, w4 = w2.alloc (.cells #[.int .i64 1, .slice none 0 0, .slice none 0 0, .int .i64 0] 24) := ⟨_, rfl⟩
  have HS4 : Hid (StA w w4 w2.heap.size wb [l0, l1, l2] (.int .i64 1) (.slice none 0 0) (.slice none 0 0) (.int .i64 0)) := by unfold Hid; rw [hw4]; exact stA_start HB1.out HR1.out hb hwb hcell _ _
  clear hb hcell hwb hcap
  have c0 : w3.cell? ⟨wb, 0, none⟩ = some (.string (strOf l0)) := HS3.out.word 0 (by simp)
  rw [hx] at c0
  have c1 : w4.cell? ⟨wb, 1, none⟩ = some (.string (strOf l1)) := HS4.out.word 1 (by simp)
  rw [hw3] at c0
  rw [hw4] at c1
  go_wp2_with fail
  rw [← hw4]
  clear hw4 hw3 c0 c1
  go_at_call 32
  refine (HRt.out l1 z1 w4).mono ?_
  rintro e w5 ⟨vv, rfl, hRd, ⟨ao1, n1, c1, rfl, hnew⟩, hb⟩
  rw [b1] at hRd
  rw [b1]
  have HS5 : Hid (StA w w5 w2.heap.size wb [l0, l1, l2] (.int .i64 1) (.slice none 0 0) (.slice none 0 0) (.int .i64 0)) := HS4.out.call hb
  clear hRd hb hnew
  obtain ⟨⟨r0, r1, r2, r3⟩, rf, _⟩ := HS5.out.res
  have p0 := rf 0
  have p1 := rf 1
  have p2 := rf 2
  have p3 := rf 3
  clear rf
  go_wp2_with fail
  have hA := HS5.out.res.all (.int .i64 0) (.slice none 0 0) (.slice none 0 0) (.int .i64 0)
  have hld := load_atom hA.1.1 hA.1.2.1 hA.1.2.2.1 hA.1.2.2.2
  refine bodyPost_ret (v := .tuple #[.agg #[.int .i64 0, .slice none 0 0, .slice none 0 0, .int .i64 0], .int .i64 2]) ?_ rfl ⟨rfl, HS5.out.fin _ _ _ _⟩
  rw [results_cell_tmp rfl]
  simp [asAddr, Result.andThen, hld]

set_option linter.unusedVariables false in
set_option maxHeartbeats 4000000 in
theorem readAtom_1_t (s x : ByteArray) (l0 l1 l2 : List UInt8) (w : World) (hx : strOf l0 = x) (q1 : (x.toList == [115, 117, 98]) = true) (z1 : l1.length ≤ 1048576) (z2 : l2.length ≤ 1048576) (b1 : lettersB l1 = true) (b2 : lettersB l2 = false)
    (hC : ∀ W, Below w.heap.size w W → Calls Tryz.prog 31 #[.string s, .int .u8 32] W fun e w' => ∃ v, e = .returned v ∧ ReadsS w' v [l0, l1, l2] ∧ Below W.heap.size W w') :
    Calls Tryz.prog 13 #[.string s] w fun e w' => e = .returned (.tuple #[.agg #[.int .i64 0, .slice none 0 0, .slice none 0 0, .int .i64 0], .int .i64 2]) ∧ Below w.heap.size w w' := by
  have HRt : Hid (∀ l : List UInt8, l.length ≤ 1048576 → ∀ W, Calls Tryz.prog 32 #[.string (strOf l)] W fun e w' => ∃ v, e = .returned (.tuple #[v, .bool (lettersB l)]) ∧ (lettersB l = true → Reads w' v (readN l)) ∧ NewV W.heap.size v ∧ Below W.heap.size W w') := fun l hl W => readTerm_word l hl W
  have HRn : Hid (∀ l : List UInt8, l.length ≤ 1048576 → ∀ W, Calls Tryz.prog 33 #[.string (strOf l)] W fun e w' => e = .returned (.tuple #[.int .i64 ((numOf l).getD 0), .bool (numOf l).isSome]) ∧ W = w') := fun l hl W => by
    have := readNumber_any (strOf l) (by rw [strOf_size]; omega) W
    rw [strOf_list] at this
    exact this
  obtain ⟨w1, hw1⟩ : ∃ w1, w1 = w.alloc (.cells #[.int .i64 0, .slice none 0 0, .slice none 0 0, .int .i64 0] 24) := ⟨_, rfl⟩
  have HB1 : Hid (Below w.heap.size w w1) := by unfold Hid; rw [hw1]; exact below_alloc1 w _
  have HR1 : Hid (OneA w1 w.heap.size (.int .i64 0) (.slice none 0 0) (.slice none 0 0) (.int .i64 0)) := by unfold Hid; rw [hw1]; exact oneA_alloc _ _ _ _ _ _
  have HC : Hid (Calls Tryz.prog 31 #[.string s, .int .u8 32] w1 fun e w' => ∃ v, e = .returned v ∧ ReadsS w' v [l0, l1, l2] ∧ Below w1.heap.size w1 w') := hC w1 HB1.out
  clear hC
  go_enter Tryz.func13, Tryz.ntmps13
  go_wp2_with fail
  rw [← hw1]
  clear hw1
  go_at_call 31
  refine HC.out.mono ?_
  rintro e w2 ⟨v, rfl, hR, hb⟩
  obtain ⟨wb, cap, rfl, hwb, hcap, hcell⟩ := hR
  obtain ⟨w3, hw3⟩ : ∃ w3, w3 = w2.alloc (.cells #[.int .i64 0, .slice none 0 0, .slice none 0 0, .int .i64 0] 24) := ⟨_, rfl⟩
  have HS3 : Hid (StA w w3 w2.heap.size wb [l0, l1, l2] (.int .i64 0) (.slice none 0 0) (.slice none 0 0) (.int .i64 0)) := by unfold Hid; rw [hw3]; exact stA_start HB1.out HR1.out hb hwb hcell _ _
  obtain ⟨w4, hw4⟩ : ∃ w4, w4 = w2.alloc (.cells #[.int .i64 1, .slice none 0 0, .slice none 0 0, .int .i64 0] 24) := ⟨_, rfl⟩
  have HS4 : Hid (StA w w4 w2.heap.size wb [l0, l1, l2] (.int .i64 1) (.slice none 0 0) (.slice none 0 0) (.int .i64 0)) := by unfold Hid; rw [hw4]; exact stA_start HB1.out HR1.out hb hwb hcell _ _
  clear hb hcell hwb hcap
  have c0 : w3.cell? ⟨wb, 0, none⟩ = some (.string (strOf l0)) := HS3.out.word 0 (by simp)
  rw [hx] at c0
  have c1 : w4.cell? ⟨wb, 1, none⟩ = some (.string (strOf l1)) := HS4.out.word 1 (by simp)
  rw [hw3] at c0
  rw [hw4] at c1
  go_wp2_with fail
  rw [← hw4]
  clear hw4 hw3 c0 c1
  go_at_call 32
  refine (HRt.out l1 z1 w4).mono ?_
  rintro e w5 ⟨vv, rfl, hRd, ⟨ao1, n1, c1, rfl, hnew⟩, hb⟩
  rw [b1] at hRd
  rw [b1]
  have HS5 : Hid (StA w w5 w2.heap.size wb [l0, l1, l2] (.int .i64 1) (.slice none 0 0) (.slice none 0 0) (.int .i64 0)) := HS4.out.call hb
  have HV1 : Hid (Reads w5 (.slice ao1 n1 c1) (readN l1) ∧ NewV w4.heap.size (.slice ao1 n1 c1)) := ⟨hRd rfl, ⟨ao1, n1, c1, rfl, hnew⟩⟩
  have HK1 : Hid (w2.heap.size < w4.heap.size ∧ w.heap.size < w4.heap.size) := HS4.out.lts
  obtain ⟨w6, hw6⟩ : ∃ W, W = w5.setCell ⟨w2.heap.size, 1, none⟩ (.slice ao1 n1 c1) := ⟨_, rfl⟩
  have HS6 : Hid (StA w w6 w2.heap.size wb [l0, l1, l2] (.int .i64 1) (.slice ao1 n1 c1) (.slice none 0 0) (.int .i64 0)) := by unfold Hid; rw [hw6]; exact HS5.out.s1 _
  have HV2 : Hid (Reads w6 (.slice ao1 n1 c1) (readN l1)) := by unfold Hid; rw [hw6]; exact HV1.out.1.storeNew HV1.out.2 HK1.out.1
  have g1 := HS5.out.own.1.2.1
  have f1 := HS5.out.own.2.1 1
  have a0 := HS6.out.own.1.1
  have c2 : w6.cell? ⟨wb, 2, none⟩ = some (.string (strOf l2)) := HS6.out.word 2 (by simp)
  rw [hw6] at a0 c2
  clear hRd hb hnew
  go_wp2_with fail
  rw [← hw6]
  clear hw6 g1 f1 a0 c2
  go_at_call 32
  refine (HRt.out l2 z2 w6).mono ?_
  rintro e w7 ⟨vv, rfl, hRd, ⟨ao2, n2, c2, rfl, hnew⟩, hb⟩
  rw [b2] at hRd
  rw [b2]
  have HS7 : Hid (StA w w7 w2.heap.size wb [l0, l1, l2] (.int .i64 1) (.slice ao1 n1 c1) (.slice none 0 0) (.int .i64 0)) := HS6.out.call hb
  have HV3 : Hid (Reads w7 (.slice ao1 n1 c1) (readN l1)) := HV2.out.below hb
  clear hRd hb hnew
  obtain ⟨⟨r0, r1, r2, r3⟩, rf, _⟩ := HS7.out.res
  have p0 := rf 0
  have p1 := rf 1
  have p2 := rf 2
  have p3 := rf 3
  clear rf
  go_wp2_with fail
  have hA := HS7.out.res.all (.int .i64 0) (.slice none 0 0) (.slice none 0 0) (.int .i64 0)
  have hld := load_atom hA.1.1 hA.1.2.1 hA.1.2.2.1 hA.1.2.2.2
  refine bodyPost_ret (v := .tuple #[.agg #[.int .i64 0, .slice none 0 0, .slice none 0 0, .int .i64 0], .int .i64 2]) ?_ rfl ⟨rfl, HS7.out.fin _ _ _ _⟩
  rw [results_cell_tmp rfl]
  simp [asAddr, Result.andThen, hld]

set_option linter.unusedVariables false in
set_option maxHeartbeats 4000000 in
theorem readAtom_1_f (s x : ByteArray) (l0 l1 l2 : List UInt8) (w : World) (hx : strOf l0 = x) (q1 : (x.toList == [115, 117, 98]) = true) (z1 : l1.length ≤ 1048576) (z2 : l2.length ≤ 1048576) (b1 : lettersB l1 = true) (b2 : lettersB l2 = true) (hF : ¬ (atomFault 1 (readN l1) (readN l2) 0) = 0)
    (hC : ∀ W, Below w.heap.size w W → Calls Tryz.prog 31 #[.string s, .int .u8 32] W fun e w' => ∃ v, e = .returned v ∧ ReadsS w' v [l0, l1, l2] ∧ Below W.heap.size W w') :
    Calls Tryz.prog 13 #[.string s] w fun e w' => e = .returned (.tuple #[.agg #[.int .i64 0, .slice none 0 0, .slice none 0 0, .int .i64 0], .int .i64 (atomFault 1 (readN l1) (readN l2) 0)]) ∧ Below w.heap.size w w' := by
  have HRt : Hid (∀ l : List UInt8, l.length ≤ 1048576 → ∀ W, Calls Tryz.prog 32 #[.string (strOf l)] W fun e w' => ∃ v, e = .returned (.tuple #[v, .bool (lettersB l)]) ∧ (lettersB l = true → Reads w' v (readN l)) ∧ NewV W.heap.size v ∧ Below W.heap.size W w') := fun l hl W => readTerm_word l hl W
  have HRn : Hid (∀ l : List UInt8, l.length ≤ 1048576 → ∀ W, Calls Tryz.prog 33 #[.string (strOf l)] W fun e w' => e = .returned (.tuple #[.int .i64 ((numOf l).getD 0), .bool (numOf l).isSome]) ∧ W = w') := fun l hl W => by
    have := readNumber_any (strOf l) (by rw [strOf_size]; omega) W
    rw [strOf_list] at this
    exact this
  obtain ⟨F, hFF⟩ : ∃ F, F = (atomFault 1 (readN l1) (readN l2) 0) := ⟨_, rfl⟩
  have HAt : Hid (∀ W vs vt, Reads W vs (readN l1) → Reads W vt (readN l2) → Calls Tryz.prog 5 #[.agg #[.int .i64 1, vs, vt, .int .i64 0]] W fun e w' => e = .returned (.int .i64 F) ∧ Below W.heap.size W w') := fun W vs vt h1 h2 => by
    rw [hFF]
    exact refAtom_any 1 0 vs vt _ _ W h1 h2
  rw [← hFF] at hF
  rw [← hFF]
  clear hFF
  obtain ⟨w1, hw1⟩ : ∃ w1, w1 = w.alloc (.cells #[.int .i64 0, .slice none 0 0, .slice none 0 0, .int .i64 0] 24) := ⟨_, rfl⟩
  have HB1 : Hid (Below w.heap.size w w1) := by unfold Hid; rw [hw1]; exact below_alloc1 w _
  have HR1 : Hid (OneA w1 w.heap.size (.int .i64 0) (.slice none 0 0) (.slice none 0 0) (.int .i64 0)) := by unfold Hid; rw [hw1]; exact oneA_alloc _ _ _ _ _ _
  have HC : Hid (Calls Tryz.prog 31 #[.string s, .int .u8 32] w1 fun e w' => ∃ v, e = .returned v ∧ ReadsS w' v [l0, l1, l2] ∧ Below w1.heap.size w1 w') := hC w1 HB1.out
  clear hC
  go_enter Tryz.func13, Tryz.ntmps13
  go_wp2_with fail
  rw [← hw1]
  clear hw1
  go_at_call 31
  refine HC.out.mono ?_
  rintro e w2 ⟨v, rfl, hR, hb⟩
  obtain ⟨wb, cap, rfl, hwb, hcap, hcell⟩ := hR
  obtain ⟨w3, hw3⟩ : ∃ w3, w3 = w2.alloc (.cells #[.int .i64 0, .slice none 0 0, .slice none 0 0, .int .i64 0] 24) := ⟨_, rfl⟩
  have HS3 : Hid (StA w w3 w2.heap.size wb [l0, l1, l2] (.int .i64 0) (.slice none 0 0) (.slice none 0 0) (.int .i64 0)) := by unfold Hid; rw [hw3]; exact stA_start HB1.out HR1.out hb hwb hcell _ _
  obtain ⟨w4, hw4⟩ : ∃ w4, w4 = w2.alloc (.cells #[.int .i64 1, .slice none 0 0, .slice none 0 0, .int .i64 0] 24) := ⟨_, rfl⟩
  have HS4 : Hid (StA w w4 w2.heap.size wb [l0, l1, l2] (.int .i64 1) (.slice none 0 0) (.slice none 0 0) (.int .i64 0)) := by unfold Hid; rw [hw4]; exact stA_start HB1.out HR1.out hb hwb hcell _ _
  clear hb hcell hwb hcap
  have c0 : w3.cell? ⟨wb, 0, none⟩ = some (.string (strOf l0)) := HS3.out.word 0 (by simp)
  rw [hx] at c0
  have c1 : w4.cell? ⟨wb, 1, none⟩ = some (.string (strOf l1)) := HS4.out.word 1 (by simp)
  rw [hw3] at c0
  rw [hw4] at c1
  go_wp2_with fail
  rw [← hw4]
  clear hw4 hw3 c0 c1
  go_at_call 32
  refine (HRt.out l1 z1 w4).mono ?_
  rintro e w5 ⟨vv, rfl, hRd, ⟨ao1, n1, c1, rfl, hnew⟩, hb⟩
  rw [b1] at hRd
  rw [b1]
  have HS5 : Hid (StA w w5 w2.heap.size wb [l0, l1, l2] (.int .i64 1) (.slice none 0 0) (.slice none 0 0) (.int .i64 0)) := HS4.out.call hb
  have HV1 : Hid (Reads w5 (.slice ao1 n1 c1) (readN l1) ∧ NewV w4.heap.size (.slice ao1 n1 c1)) := ⟨hRd rfl, ⟨ao1, n1, c1, rfl, hnew⟩⟩
  have HK1 : Hid (w2.heap.size < w4.heap.size ∧ w.heap.size < w4.heap.size) := HS4.out.lts
  obtain ⟨w6, hw6⟩ : ∃ W, W = w5.setCell ⟨w2.heap.size, 1, none⟩ (.slice ao1 n1 c1) := ⟨_, rfl⟩
  have HS6 : Hid (StA w w6 w2.heap.size wb [l0, l1, l2] (.int .i64 1) (.slice ao1 n1 c1) (.slice none 0 0) (.int .i64 0)) := by unfold Hid; rw [hw6]; exact HS5.out.s1 _
  have HV2 : Hid (Reads w6 (.slice ao1 n1 c1) (readN l1)) := by unfold Hid; rw [hw6]; exact HV1.out.1.storeNew HV1.out.2 HK1.out.1
  have g1 := HS5.out.own.1.2.1
  have f1 := HS5.out.own.2.1 1
  have a0 := HS6.out.own.1.1
  have c2 : w6.cell? ⟨wb, 2, none⟩ = some (.string (strOf l2)) := HS6.out.word 2 (by simp)
  rw [hw6] at a0 c2
  clear hRd hb hnew
  go_wp2_with fail
  rw [← hw6]
  clear hw6 g1 f1 a0 c2
  go_at_call 32
  refine (HRt.out l2 z2 w6).mono ?_
  rintro e w7 ⟨vv, rfl, hRd, ⟨ao2, n2, c2, rfl, hnew⟩, hb⟩
  rw [b2] at hRd
  rw [b2]
  have HS7 : Hid (StA w w7 w2.heap.size wb [l0, l1, l2] (.int .i64 1) (.slice ao1 n1 c1) (.slice none 0 0) (.int .i64 0)) := HS6.out.call hb
  have HV3 : Hid (Reads w7 (.slice ao1 n1 c1) (readN l1)) := HV2.out.below hb
  have HV4 : Hid (Reads w7 (.slice ao2 n2 c2) (readN l2) ∧ NewV w6.heap.size (.slice ao2 n2 c2)) := ⟨hRd rfl, ⟨ao2, n2, c2, rfl, hnew⟩⟩
  have HK2 : Hid (w2.heap.size < w6.heap.size ∧ w.heap.size < w6.heap.size) := HS6.out.lts
  obtain ⟨w8, hw8⟩ : ∃ W, W = w7.setCell ⟨w2.heap.size, 2, none⟩ (.slice ao2 n2 c2) := ⟨_, rfl⟩
  have HS8 : Hid (StA w w8 w2.heap.size wb [l0, l1, l2] (.int .i64 1) (.slice ao1 n1 c1) (.slice ao2 n2 c2) (.int .i64 0)) := by unfold Hid; rw [hw8]; exact HS7.out.s2 _
  have HV5 : Hid (Reads w8 (.slice ao1 n1 c1) (readN l1)) := by unfold Hid; rw [hw8]; exact HV3.out.storeNew HV1.out.2 HK1.out.1
  have HV6 : Hid (Reads w8 (.slice ao2 n2 c2) (readN l2)) := by unfold Hid; rw [hw8]; exact HV4.out.1.storeNew HV4.out.2 HK2.out.1
  have g1 := HS7.out.own.1.2.2.1
  have f1 := HS7.out.own.2.1 2
  have a0 := HS8.out.own.1.1
  clear hRd hb hnew
  have HV7 : Hid (Reads w8 (.slice ao1 n1 c1) (readN l1) ∧ Reads w8 (.slice ao2 n2 c2) (readN l2)) := ⟨HV5.out, HV6.out⟩
  have HV8 : Hid (Reads w8 (.slice ao1 n1 c1) (readN l1) ∧ Reads w8 (.slice ao2 n2 c2) (readN l2)) := HV7.out
  obtain ⟨⟨x0, x1, x2, x3⟩, _, _⟩ := HS8.out.own
  rw [hw8] at x0 x1 x2 x3
  clear a0
  go_wp2_with fail
  rw [← hw8]
  clear hw8 g1 f1 x0 x1 x2 x3
  go_at_call 5
  refine (HAt.out w8 _ _ HV8.out.1 HV8.out.2).mono ?_
  rintro e w9 ⟨rfl, hb⟩
  have HS9 : Hid (StA w w9 w2.heap.size wb [l0, l1, l2] (.int .i64 1) (.slice ao1 n1 c1) (.slice ao2 n2 c2) (.int .i64 0)) := HS8.out.call hb
  have HV9 : Hid (Reads w9 (.slice ao1 n1 c1) (readN l1) ∧ Reads w9 (.slice ao2 n2 c2) (readN l2)) := ⟨HV8.out.1.below hb, HV8.out.2.below hb⟩
  clear hb
  obtain ⟨⟨r0, r1, r2, r3⟩, rf, _⟩ := HS9.out.res
  have p0 := rf 0
  have p1 := rf 1
  have p2 := rf 2
  have p3 := rf 3
  clear rf
  have hF' : (F != 0) = true := by simpa using hF
  go_wp2_with fail
  have hA := HS9.out.res.all (.int .i64 0) (.slice none 0 0) (.slice none 0 0) (.int .i64 0)
  have hld := load_atom hA.1.1 hA.1.2.1 hA.1.2.2.1 hA.1.2.2.2
  refine bodyPost_ret (v := .tuple #[.agg #[.int .i64 0, .slice none 0 0, .slice none 0 0, .int .i64 0], .int .i64 F]) ?_ rfl ⟨rfl, HS9.out.fin _ _ _ _⟩
  rw [results_cell_tmp rfl]
  simp [asAddr, Result.andThen, hld]

set_option linter.unusedVariables false in
set_option maxHeartbeats 4000000 in
theorem readAtom_1_g (s x : ByteArray) (l0 l1 l2 : List UInt8) (w : World) (hx : strOf l0 = x) (q1 : (x.toList == [115, 117, 98]) = true) (z1 : l1.length ≤ 1048576) (z2 : l2.length ≤ 1048576) (b1 : lettersB l1 = true) (b2 : lettersB l2 = true) (hF : (atomFault 1 (readN l1) (readN l2) 0) = 0)
    (hC : ∀ W, Below w.heap.size w W → Calls Tryz.prog 31 #[.string s, .int .u8 32] W fun e w' => ∃ v, e = .returned v ∧ ReadsS w' v [l0, l1, l2] ∧ Below W.heap.size W w') :
    Calls Tryz.prog 13 #[.string s] w fun e w' => (∃ v0 v1, e = .returned (.tuple #[.agg #[.int .i64 1, v0, v1, .int .i64 0], .int .i64 0]) ∧ Reads w' v0 (readN l1) ∧ Reads w' v1 (readN l2)) ∧ Below w.heap.size w w' := by
  have HRt : Hid (∀ l : List UInt8, l.length ≤ 1048576 → ∀ W, Calls Tryz.prog 32 #[.string (strOf l)] W fun e w' => ∃ v, e = .returned (.tuple #[v, .bool (lettersB l)]) ∧ (lettersB l = true → Reads w' v (readN l)) ∧ NewV W.heap.size v ∧ Below W.heap.size W w') := fun l hl W => readTerm_word l hl W
  have HRn : Hid (∀ l : List UInt8, l.length ≤ 1048576 → ∀ W, Calls Tryz.prog 33 #[.string (strOf l)] W fun e w' => e = .returned (.tuple #[.int .i64 ((numOf l).getD 0), .bool (numOf l).isSome]) ∧ W = w') := fun l hl W => by
    have := readNumber_any (strOf l) (by rw [strOf_size]; omega) W
    rw [strOf_list] at this
    exact this
  obtain ⟨F, hFF⟩ : ∃ F, F = (atomFault 1 (readN l1) (readN l2) 0) := ⟨_, rfl⟩
  have HAt : Hid (∀ W vs vt, Reads W vs (readN l1) → Reads W vt (readN l2) → Calls Tryz.prog 5 #[.agg #[.int .i64 1, vs, vt, .int .i64 0]] W fun e w' => e = .returned (.int .i64 F) ∧ Below W.heap.size W w') := fun W vs vt h1 h2 => by
    rw [hFF]
    exact refAtom_any 1 0 vs vt _ _ W h1 h2
  rw [← hFF] at hF
  clear hFF
  obtain ⟨w1, hw1⟩ : ∃ w1, w1 = w.alloc (.cells #[.int .i64 0, .slice none 0 0, .slice none 0 0, .int .i64 0] 24) := ⟨_, rfl⟩
  have HB1 : Hid (Below w.heap.size w w1) := by unfold Hid; rw [hw1]; exact below_alloc1 w _
  have HR1 : Hid (OneA w1 w.heap.size (.int .i64 0) (.slice none 0 0) (.slice none 0 0) (.int .i64 0)) := by unfold Hid; rw [hw1]; exact oneA_alloc _ _ _ _ _ _
  have HC : Hid (Calls Tryz.prog 31 #[.string s, .int .u8 32] w1 fun e w' => ∃ v, e = .returned v ∧ ReadsS w' v [l0, l1, l2] ∧ Below w1.heap.size w1 w') := hC w1 HB1.out
  clear hC
  go_enter Tryz.func13, Tryz.ntmps13
  go_wp2_with fail
  rw [← hw1]
  clear hw1
  go_at_call 31
  refine HC.out.mono ?_
  rintro e w2 ⟨v, rfl, hR, hb⟩
  obtain ⟨wb, cap, rfl, hwb, hcap, hcell⟩ := hR
  obtain ⟨w3, hw3⟩ : ∃ w3, w3 = w2.alloc (.cells #[.int .i64 0, .slice none 0 0, .slice none 0 0, .int .i64 0] 24) := ⟨_, rfl⟩
  have HS3 : Hid (StA w w3 w2.heap.size wb [l0, l1, l2] (.int .i64 0) (.slice none 0 0) (.slice none 0 0) (.int .i64 0)) := by unfold Hid; rw [hw3]; exact stA_start HB1.out HR1.out hb hwb hcell _ _
  obtain ⟨w4, hw4⟩ : ∃ w4, w4 = w2.alloc (.cells #[.int .i64 1, .slice none 0 0, .slice none 0 0, .int .i64 0] 24) := ⟨_, rfl⟩
  have HS4 : Hid (StA w w4 w2.heap.size wb [l0, l1, l2] (.int .i64 1) (.slice none 0 0) (.slice none 0 0) (.int .i64 0)) := by unfold Hid; rw [hw4]; exact stA_start HB1.out HR1.out hb hwb hcell _ _
  clear hb hcell hwb hcap
  have c0 : w3.cell? ⟨wb, 0, none⟩ = some (.string (strOf l0)) := HS3.out.word 0 (by simp)
  rw [hx] at c0
  have c1 : w4.cell? ⟨wb, 1, none⟩ = some (.string (strOf l1)) := HS4.out.word 1 (by simp)
  rw [hw3] at c0
  rw [hw4] at c1
  go_wp2_with fail
  rw [← hw4]
  clear hw4 hw3 c0 c1
  go_at_call 32
  refine (HRt.out l1 z1 w4).mono ?_
  rintro e w5 ⟨vv, rfl, hRd, ⟨ao1, n1, c1, rfl, hnew⟩, hb⟩
  rw [b1] at hRd
  rw [b1]
  have HS5 : Hid (StA w w5 w2.heap.size wb [l0, l1, l2] (.int .i64 1) (.slice none 0 0) (.slice none 0 0) (.int .i64 0)) := HS4.out.call hb
  have HV1 : Hid (Reads w5 (.slice ao1 n1 c1) (readN l1) ∧ NewV w4.heap.size (.slice ao1 n1 c1)) := ⟨hRd rfl, ⟨ao1, n1, c1, rfl, hnew⟩⟩
  have HK1 : Hid (w2.heap.size < w4.heap.size ∧ w.heap.size < w4.heap.size) := HS4.out.lts
  obtain ⟨w6, hw6⟩ : ∃ W, W = w5.setCell ⟨w2.heap.size, 1, none⟩ (.slice ao1 n1 c1) := ⟨_, rfl⟩
  have HS6 : Hid (StA w w6 w2.heap.size wb [l0, l1, l2] (.int .i64 1) (.slice ao1 n1 c1) (.slice none 0 0) (.int .i64 0)) := by unfold Hid; rw [hw6]; exact HS5.out.s1 _
  have HV2 : Hid (Reads w6 (.slice ao1 n1 c1) (readN l1)) := by unfold Hid; rw [hw6]; exact HV1.out.1.storeNew HV1.out.2 HK1.out.1
  have g1 := HS5.out.own.1.2.1
  have f1 := HS5.out.own.2.1 1
  have a0 := HS6.out.own.1.1
  have c2 : w6.cell? ⟨wb, 2, none⟩ = some (.string (strOf l2)) := HS6.out.word 2 (by simp)
  rw [hw6] at a0 c2
  clear hRd hb hnew
  go_wp2_with fail
  rw [← hw6]
  clear hw6 g1 f1 a0 c2
  go_at_call 32
  refine (HRt.out l2 z2 w6).mono ?_
  rintro e w7 ⟨vv, rfl, hRd, ⟨ao2, n2, c2, rfl, hnew⟩, hb⟩
  rw [b2] at hRd
  rw [b2]
  have HS7 : Hid (StA w w7 w2.heap.size wb [l0, l1, l2] (.int .i64 1) (.slice ao1 n1 c1) (.slice none 0 0) (.int .i64 0)) := HS6.out.call hb
  have HV3 : Hid (Reads w7 (.slice ao1 n1 c1) (readN l1)) := HV2.out.below hb
  have HV4 : Hid (Reads w7 (.slice ao2 n2 c2) (readN l2) ∧ NewV w6.heap.size (.slice ao2 n2 c2)) := ⟨hRd rfl, ⟨ao2, n2, c2, rfl, hnew⟩⟩
  have HK2 : Hid (w2.heap.size < w6.heap.size ∧ w.heap.size < w6.heap.size) := HS6.out.lts
  obtain ⟨w8, hw8⟩ : ∃ W, W = w7.setCell ⟨w2.heap.size, 2, none⟩ (.slice ao2 n2 c2) := ⟨_, rfl⟩
  have HS8 : Hid (StA w w8 w2.heap.size wb [l0, l1, l2] (.int .i64 1) (.slice ao1 n1 c1) (.slice ao2 n2 c2) (.int .i64 0)) := by unfold Hid; rw [hw8]; exact HS7.out.s2 _
  have HV5 : Hid (Reads w8 (.slice ao1 n1 c1) (readN l1)) := by unfold Hid; rw [hw8]; exact HV3.out.storeNew HV1.out.2 HK1.out.1
  have HV6 : Hid (Reads w8 (.slice ao2 n2 c2) (readN l2)) := by unfold Hid; rw [hw8]; exact HV4.out.1.storeNew HV4.out.2 HK2.out.1
  have g1 := HS7.out.own.1.2.2.1
  have f1 := HS7.out.own.2.1 2
  have a0 := HS8.out.own.1.1
  clear hRd hb hnew
  have HV7 : Hid (Reads w8 (.slice ao1 n1 c1) (readN l1) ∧ Reads w8 (.slice ao2 n2 c2) (readN l2)) := ⟨HV5.out, HV6.out⟩
  have HV8 : Hid (Reads w8 (.slice ao1 n1 c1) (readN l1) ∧ Reads w8 (.slice ao2 n2 c2) (readN l2)) := HV7.out
  obtain ⟨⟨x0, x1, x2, x3⟩, _, _⟩ := HS8.out.own
  rw [hw8] at x0 x1 x2 x3
  clear a0
  go_wp2_with fail
  rw [← hw8]
  clear hw8 g1 f1 x0 x1 x2 x3
  go_at_call 5
  refine (HAt.out w8 _ _ HV8.out.1 HV8.out.2).mono ?_
  rintro e w9 ⟨rfl, hb⟩
  have HS9 : Hid (StA w w9 w2.heap.size wb [l0, l1, l2] (.int .i64 1) (.slice ao1 n1 c1) (.slice ao2 n2 c2) (.int .i64 0)) := HS8.out.call hb
  have HV9 : Hid (Reads w9 (.slice ao1 n1 c1) (readN l1) ∧ Reads w9 (.slice ao2 n2 c2) (readN l2)) := ⟨HV8.out.1.below hb, HV8.out.2.below hb⟩
  clear hb
  obtain ⟨⟨r0, r1, r2, r3⟩, rf, _⟩ := HS9.out.res
  have p0 := rf 0
  have p1 := rf 1
  have p2 := rf 2
  have p3 := rf 3
  clear rf
  obtain ⟨⟨x0, x1, x2, x3⟩, _, _⟩ := HS9.out.own
  subst hF
  go_wp2_with fail
  have hA := HS9.out.res.all (.int .i64 1) (.slice ao1 n1 c1) (.slice ao2 n2 c2) (.int .i64 0)
  have hld := load_atom hA.1.1 hA.1.2.1 hA.1.2.2.1 hA.1.2.2.2
  refine bodyPost_ret (v := .tuple #[.agg #[.int .i64 1, .slice ao1 n1 c1, .slice ao2 n2 c2, .int .i64 0], .int .i64 0]) ?_ rfl ⟨⟨_, _, rfl, HV9.out.1.storeAll HV1.out.2 HK1.out.2, HV9.out.2.storeAll HV4.out.2 HK2.out.2⟩, HS9.out.fin _ _ _ _⟩
  rw [results_cell_tmp rfl]
  simp [asAddr, Result.andThen, hld]
end Go.Proofs.YtenmheenieifpabGreatDoor

namespace Go.Proofs.YtenmheenieifpabGreatDoor
open Go.ChangeShapes Go.WideShapes Go.ChangeAt Go.RowKit
set_option maxRecDepth 100000

set_option linter.unusedVariables false in
set_option maxHeartbeats 4000000 in
theorem readAtom_2_s (s x : ByteArray) (l0 l1 l2 : List UInt8) (w : World) (hx : strOf l0 = x) (q1 : (x.toList == [115, 117, 98]) = false) (q2 : (x.toList == [115, 97, 109, 101]) = true) (z1 : l1.length ≤ 1048576) (z2 : l2.length ≤ 1048576) (b1 : lettersB l1 = false)
    (hC : ∀ W, Below w.heap.size w W → Calls Tryz.prog 31 #[.string s, .int .u8 32] W fun e w' => ∃ v, e = .returned v ∧ ReadsS w' v [l0, l1, l2] ∧ Below W.heap.size W w') :
    Calls Tryz.prog 13 #[.string s] w fun e w' => e = .returned (.tuple #[.agg #[.int .i64 0, .slice none 0 0, .slice none 0 0, .int .i64 0], .int .i64 2]) ∧ Below w.heap.size w w' := by
  have HRt : Hid (∀ l : List UInt8, l.length ≤ 1048576 → ∀ W, Calls Tryz.prog 32 #[.string (strOf l)] W fun e w' => ∃ v, e = .returned (.tuple #[v, .bool (lettersB l)]) ∧ (lettersB l = true → Reads w' v (readN l)) ∧ NewV W.heap.size v ∧ Below W.heap.size W w') := fun l hl W => readTerm_word l hl W
  have HRn : Hid (∀ l : List UInt8, l.length ≤ 1048576 → ∀ W, Calls Tryz.prog 33 #[.string (strOf l)] W fun e w' => e = .returned (.tuple #[.int .i64 ((numOf l).getD 0), .bool (numOf l).isSome]) ∧ W = w') := fun l hl W => by
    have := readNumber_any (strOf l) (by rw [strOf_size]; omega) W
    rw [strOf_list] at this
    exact this
  obtain ⟨w1, hw1⟩ : ∃ w1, w1 = w.alloc (.cells #[.int .i64 0, .slice none 0 0, .slice none 0 0, .int .i64 0] 24) := ⟨_, rfl⟩
  have HB1 : Hid (Below w.heap.size w w1) := by unfold Hid; rw [hw1]; exact below_alloc1 w _
  have HR1 : Hid (OneA w1 w.heap.size (.int .i64 0) (.slice none 0 0) (.slice none 0 0) (.int .i64 0)) := by unfold Hid; rw [hw1]; exact oneA_alloc _ _ _ _ _ _
  have HC : Hid (Calls Tryz.prog 31 #[.string s, .int .u8 32] w1 fun e w' => ∃ v, e = .returned v ∧ ReadsS w' v [l0, l1, l2] ∧ Below w1.heap.size w1 w') := hC w1 HB1.out
  clear hC
  go_enter Tryz.func13, Tryz.ntmps13
  go_wp2_with fail
  rw [← hw1]
  clear hw1
  go_at_call 31
  refine HC.out.mono ?_
  rintro e w2 ⟨v, rfl, hR, hb⟩
  obtain ⟨wb, cap, rfl, hwb, hcap, hcell⟩ := hR
  obtain ⟨w3, hw3⟩ : ∃ w3, w3 = w2.alloc (.cells #[.int .i64 0, .slice none 0 0, .slice none 0 0, .int .i64 0] 24) := ⟨_, rfl⟩
  have HS3 : Hid (StA w w3 w2.heap.size wb [l0, l1, l2] (.int .i64 0) (.slice none 0 0) (.slice none 0 0) (.int .i64 0)) := by unfold Hid; rw [hw3]; exact stA_start HB1.out HR1.out hb hwb hcell _ _
  obtain ⟨w4, hw4⟩ : ∃ w4, w4 = w2.alloc (.cells #[.int .i64 2, .slice none 0 0, .slice none 0 0, .int .i64 0] 24) := ⟨_, rfl⟩
  have HS4 : Hid (StA w w4 w2.heap.size wb [l0, l1, l2] (.int .i64 2) (.slice none 0 0) (.slice none 0 0) (.int .i64 0)) := by unfold Hid; rw [hw4]; exact stA_start HB1.out HR1.out hb hwb hcell _ _
  clear hb hcell hwb hcap
  have c0 : w3.cell? ⟨wb, 0, none⟩ = some (.string (strOf l0)) := HS3.out.word 0 (by simp)
  rw [hx] at c0
  have c1 : w4.cell? ⟨wb, 1, none⟩ = some (.string (strOf l1)) := HS4.out.word 1 (by simp)
  rw [hw3] at c0
  rw [hw4] at c1
  go_wp2_with fail
  rw [← hw4]
  clear hw4 hw3 c0 c1
  go_at_call 32
  refine (HRt.out l1 z1 w4).mono ?_
  rintro e w5 ⟨vv, rfl, hRd, ⟨ao1, n1, c1, rfl, hnew⟩, hb⟩
  rw [b1] at hRd
  rw [b1]
  have HS5 : Hid (StA w w5 w2.heap.size wb [l0, l1, l2] (.int .i64 2) (.slice none 0 0) (.slice none 0 0) (.int .i64 0)) := HS4.out.call hb
  clear hRd hb hnew
  obtain ⟨⟨r0, r1, r2, r3⟩, rf, _⟩ := HS5.out.res
  have p0 := rf 0
  have p1 := rf 1
  have p2 := rf 2
  have p3 := rf 3
  clear rf
  go_wp2_with fail
  have hA := HS5.out.res.all (.int .i64 0) (.slice none 0 0) (.slice none 0 0) (.int .i64 0)
  have hld := load_atom hA.1.1 hA.1.2.1 hA.1.2.2.1 hA.1.2.2.2
  refine bodyPost_ret (v := .tuple #[.agg #[.int .i64 0, .slice none 0 0, .slice none 0 0, .int .i64 0], .int .i64 2]) ?_ rfl ⟨rfl, HS5.out.fin _ _ _ _⟩
  rw [results_cell_tmp rfl]
  simp [asAddr, Result.andThen, hld]

set_option linter.unusedVariables false in
set_option maxHeartbeats 4000000 in
theorem readAtom_2_t (s x : ByteArray) (l0 l1 l2 : List UInt8) (w : World) (hx : strOf l0 = x) (q1 : (x.toList == [115, 117, 98]) = false) (q2 : (x.toList == [115, 97, 109, 101]) = true) (z1 : l1.length ≤ 1048576) (z2 : l2.length ≤ 1048576) (b1 : lettersB l1 = true) (b2 : lettersB l2 = false)
    (hC : ∀ W, Below w.heap.size w W → Calls Tryz.prog 31 #[.string s, .int .u8 32] W fun e w' => ∃ v, e = .returned v ∧ ReadsS w' v [l0, l1, l2] ∧ Below W.heap.size W w') :
    Calls Tryz.prog 13 #[.string s] w fun e w' => e = .returned (.tuple #[.agg #[.int .i64 0, .slice none 0 0, .slice none 0 0, .int .i64 0], .int .i64 2]) ∧ Below w.heap.size w w' := by
  have HRt : Hid (∀ l : List UInt8, l.length ≤ 1048576 → ∀ W, Calls Tryz.prog 32 #[.string (strOf l)] W fun e w' => ∃ v, e = .returned (.tuple #[v, .bool (lettersB l)]) ∧ (lettersB l = true → Reads w' v (readN l)) ∧ NewV W.heap.size v ∧ Below W.heap.size W w') := fun l hl W => readTerm_word l hl W
  have HRn : Hid (∀ l : List UInt8, l.length ≤ 1048576 → ∀ W, Calls Tryz.prog 33 #[.string (strOf l)] W fun e w' => e = .returned (.tuple #[.int .i64 ((numOf l).getD 0), .bool (numOf l).isSome]) ∧ W = w') := fun l hl W => by
    have := readNumber_any (strOf l) (by rw [strOf_size]; omega) W
    rw [strOf_list] at this
    exact this
  obtain ⟨w1, hw1⟩ : ∃ w1, w1 = w.alloc (.cells #[.int .i64 0, .slice none 0 0, .slice none 0 0, .int .i64 0] 24) := ⟨_, rfl⟩
  have HB1 : Hid (Below w.heap.size w w1) := by unfold Hid; rw [hw1]; exact below_alloc1 w _
  have HR1 : Hid (OneA w1 w.heap.size (.int .i64 0) (.slice none 0 0) (.slice none 0 0) (.int .i64 0)) := by unfold Hid; rw [hw1]; exact oneA_alloc _ _ _ _ _ _
  have HC : Hid (Calls Tryz.prog 31 #[.string s, .int .u8 32] w1 fun e w' => ∃ v, e = .returned v ∧ ReadsS w' v [l0, l1, l2] ∧ Below w1.heap.size w1 w') := hC w1 HB1.out
  clear hC
  go_enter Tryz.func13, Tryz.ntmps13
  go_wp2_with fail
  rw [← hw1]
  clear hw1
  go_at_call 31
  refine HC.out.mono ?_
  rintro e w2 ⟨v, rfl, hR, hb⟩
  obtain ⟨wb, cap, rfl, hwb, hcap, hcell⟩ := hR
  obtain ⟨w3, hw3⟩ : ∃ w3, w3 = w2.alloc (.cells #[.int .i64 0, .slice none 0 0, .slice none 0 0, .int .i64 0] 24) := ⟨_, rfl⟩
  have HS3 : Hid (StA w w3 w2.heap.size wb [l0, l1, l2] (.int .i64 0) (.slice none 0 0) (.slice none 0 0) (.int .i64 0)) := by unfold Hid; rw [hw3]; exact stA_start HB1.out HR1.out hb hwb hcell _ _
  obtain ⟨w4, hw4⟩ : ∃ w4, w4 = w2.alloc (.cells #[.int .i64 2, .slice none 0 0, .slice none 0 0, .int .i64 0] 24) := ⟨_, rfl⟩
  have HS4 : Hid (StA w w4 w2.heap.size wb [l0, l1, l2] (.int .i64 2) (.slice none 0 0) (.slice none 0 0) (.int .i64 0)) := by unfold Hid; rw [hw4]; exact stA_start HB1.out HR1.out hb hwb hcell _ _
  clear hb hcell hwb hcap
  have c0 : w3.cell? ⟨wb, 0, none⟩ = some (.string (strOf l0)) := HS3.out.word 0 (by simp)
  rw [hx] at c0
  have c1 : w4.cell? ⟨wb, 1, none⟩ = some (.string (strOf l1)) := HS4.out.word 1 (by simp)
  rw [hw3] at c0
  rw [hw4] at c1
  go_wp2_with fail
  rw [← hw4]
  clear hw4 hw3 c0 c1
  go_at_call 32
  refine (HRt.out l1 z1 w4).mono ?_
  rintro e w5 ⟨vv, rfl, hRd, ⟨ao1, n1, c1, rfl, hnew⟩, hb⟩
  rw [b1] at hRd
  rw [b1]
  have HS5 : Hid (StA w w5 w2.heap.size wb [l0, l1, l2] (.int .i64 2) (.slice none 0 0) (.slice none 0 0) (.int .i64 0)) := HS4.out.call hb
  have HV1 : Hid (Reads w5 (.slice ao1 n1 c1) (readN l1) ∧ NewV w4.heap.size (.slice ao1 n1 c1)) := ⟨hRd rfl, ⟨ao1, n1, c1, rfl, hnew⟩⟩
  have HK1 : Hid (w2.heap.size < w4.heap.size ∧ w.heap.size < w4.heap.size) := HS4.out.lts
  obtain ⟨w6, hw6⟩ : ∃ W, W = w5.setCell ⟨w2.heap.size, 1, none⟩ (.slice ao1 n1 c1) := ⟨_, rfl⟩
  have HS6 : Hid (StA w w6 w2.heap.size wb [l0, l1, l2] (.int .i64 2) (.slice ao1 n1 c1) (.slice none 0 0) (.int .i64 0)) := by unfold Hid; rw [hw6]; exact HS5.out.s1 _
  have HV2 : Hid (Reads w6 (.slice ao1 n1 c1) (readN l1)) := by unfold Hid; rw [hw6]; exact HV1.out.1.storeNew HV1.out.2 HK1.out.1
  have g1 := HS5.out.own.1.2.1
  have f1 := HS5.out.own.2.1 1
  have a0 := HS6.out.own.1.1
  have c2 : w6.cell? ⟨wb, 2, none⟩ = some (.string (strOf l2)) := HS6.out.word 2 (by simp)
  rw [hw6] at a0 c2
  clear hRd hb hnew
  go_wp2_with fail
  rw [← hw6]
  clear hw6 g1 f1 a0 c2
  go_at_call 32
  refine (HRt.out l2 z2 w6).mono ?_
  rintro e w7 ⟨vv, rfl, hRd, ⟨ao2, n2, c2, rfl, hnew⟩, hb⟩
  rw [b2] at hRd
  rw [b2]
  have HS7 : Hid (StA w w7 w2.heap.size wb [l0, l1, l2] (.int .i64 2) (.slice ao1 n1 c1) (.slice none 0 0) (.int .i64 0)) := HS6.out.call hb
  have HV3 : Hid (Reads w7 (.slice ao1 n1 c1) (readN l1)) := HV2.out.below hb
  clear hRd hb hnew
  obtain ⟨⟨r0, r1, r2, r3⟩, rf, _⟩ := HS7.out.res
  have p0 := rf 0
  have p1 := rf 1
  have p2 := rf 2
  have p3 := rf 3
  clear rf
  go_wp2_with fail
  have hA := HS7.out.res.all (.int .i64 0) (.slice none 0 0) (.slice none 0 0) (.int .i64 0)
  have hld := load_atom hA.1.1 hA.1.2.1 hA.1.2.2.1 hA.1.2.2.2
  refine bodyPost_ret (v := .tuple #[.agg #[.int .i64 0, .slice none 0 0, .slice none 0 0, .int .i64 0], .int .i64 2]) ?_ rfl ⟨rfl, HS7.out.fin _ _ _ _⟩
  rw [results_cell_tmp rfl]
  simp [asAddr, Result.andThen, hld]

set_option linter.unusedVariables false in
set_option maxHeartbeats 4000000 in
theorem readAtom_2_f (s x : ByteArray) (l0 l1 l2 : List UInt8) (w : World) (hx : strOf l0 = x) (q1 : (x.toList == [115, 117, 98]) = false) (q2 : (x.toList == [115, 97, 109, 101]) = true) (z1 : l1.length ≤ 1048576) (z2 : l2.length ≤ 1048576) (b1 : lettersB l1 = true) (b2 : lettersB l2 = true) (hF : ¬ (atomFault 2 (readN l1) (readN l2) 0) = 0)
    (hC : ∀ W, Below w.heap.size w W → Calls Tryz.prog 31 #[.string s, .int .u8 32] W fun e w' => ∃ v, e = .returned v ∧ ReadsS w' v [l0, l1, l2] ∧ Below W.heap.size W w') :
    Calls Tryz.prog 13 #[.string s] w fun e w' => e = .returned (.tuple #[.agg #[.int .i64 0, .slice none 0 0, .slice none 0 0, .int .i64 0], .int .i64 (atomFault 2 (readN l1) (readN l2) 0)]) ∧ Below w.heap.size w w' := by
  have HRt : Hid (∀ l : List UInt8, l.length ≤ 1048576 → ∀ W, Calls Tryz.prog 32 #[.string (strOf l)] W fun e w' => ∃ v, e = .returned (.tuple #[v, .bool (lettersB l)]) ∧ (lettersB l = true → Reads w' v (readN l)) ∧ NewV W.heap.size v ∧ Below W.heap.size W w') := fun l hl W => readTerm_word l hl W
  have HRn : Hid (∀ l : List UInt8, l.length ≤ 1048576 → ∀ W, Calls Tryz.prog 33 #[.string (strOf l)] W fun e w' => e = .returned (.tuple #[.int .i64 ((numOf l).getD 0), .bool (numOf l).isSome]) ∧ W = w') := fun l hl W => by
    have := readNumber_any (strOf l) (by rw [strOf_size]; omega) W
    rw [strOf_list] at this
    exact this
  obtain ⟨F, hFF⟩ : ∃ F, F = (atomFault 2 (readN l1) (readN l2) 0) := ⟨_, rfl⟩
  have HAt : Hid (∀ W vs vt, Reads W vs (readN l1) → Reads W vt (readN l2) → Calls Tryz.prog 5 #[.agg #[.int .i64 2, vs, vt, .int .i64 0]] W fun e w' => e = .returned (.int .i64 F) ∧ Below W.heap.size W w') := fun W vs vt h1 h2 => by
    rw [hFF]
    exact refAtom_any 2 0 vs vt _ _ W h1 h2
  rw [← hFF] at hF
  rw [← hFF]
  clear hFF
  obtain ⟨w1, hw1⟩ : ∃ w1, w1 = w.alloc (.cells #[.int .i64 0, .slice none 0 0, .slice none 0 0, .int .i64 0] 24) := ⟨_, rfl⟩
  have HB1 : Hid (Below w.heap.size w w1) := by unfold Hid; rw [hw1]; exact below_alloc1 w _
  have HR1 : Hid (OneA w1 w.heap.size (.int .i64 0) (.slice none 0 0) (.slice none 0 0) (.int .i64 0)) := by unfold Hid; rw [hw1]; exact oneA_alloc _ _ _ _ _ _
  have HC : Hid (Calls Tryz.prog 31 #[.string s, .int .u8 32] w1 fun e w' => ∃ v, e = .returned v ∧ ReadsS w' v [l0, l1, l2] ∧ Below w1.heap.size w1 w') := hC w1 HB1.out
  clear hC
  go_enter Tryz.func13, Tryz.ntmps13
  go_wp2_with fail
  rw [← hw1]
  clear hw1
  go_at_call 31
  refine HC.out.mono ?_
  rintro e w2 ⟨v, rfl, hR, hb⟩
  obtain ⟨wb, cap, rfl, hwb, hcap, hcell⟩ := hR
  obtain ⟨w3, hw3⟩ : ∃ w3, w3 = w2.alloc (.cells #[.int .i64 0, .slice none 0 0, .slice none 0 0, .int .i64 0] 24) := ⟨_, rfl⟩
  have HS3 : Hid (StA w w3 w2.heap.size wb [l0, l1, l2] (.int .i64 0) (.slice none 0 0) (.slice none 0 0) (.int .i64 0)) := by unfold Hid; rw [hw3]; exact stA_start HB1.out HR1.out hb hwb hcell _ _
  obtain ⟨w4, hw4⟩ : ∃ w4, w4 = w2.alloc (.cells #[.int .i64 2, .slice none 0 0, .slice none 0 0, .int .i64 0] 24) := ⟨_, rfl⟩
  have HS4 : Hid (StA w w4 w2.heap.size wb [l0, l1, l2] (.int .i64 2) (.slice none 0 0) (.slice none 0 0) (.int .i64 0)) := by unfold Hid; rw [hw4]; exact stA_start HB1.out HR1.out hb hwb hcell _ _
  clear hb hcell hwb hcap
  have c0 : w3.cell? ⟨wb, 0, none⟩ = some (.string (strOf l0)) := HS3.out.word 0 (by simp)
  rw [hx] at c0
  have c1 : w4.cell? ⟨wb, 1, none⟩ = some (.string (strOf l1)) := HS4.out.word 1 (by simp)
  rw [hw3] at c0
  rw [hw4] at c1
  go_wp2_with fail
  rw [← hw4]
  clear hw4 hw3 c0 c1
  go_at_call 32
  refine (HRt.out l1 z1 w4).mono ?_
  rintro e w5 ⟨vv, rfl, hRd, ⟨ao1, n1, c1, rfl, hnew⟩, hb⟩
  rw [b1] at hRd
  rw [b1]
  have HS5 : Hid (StA w w5 w2.heap.size wb [l0, l1, l2] (.int .i64 2) (.slice none 0 0) (.slice none 0 0) (.int .i64 0)) := HS4.out.call hb
  have HV1 : Hid (Reads w5 (.slice ao1 n1 c1) (readN l1) ∧ NewV w4.heap.size (.slice ao1 n1 c1)) := ⟨hRd rfl, ⟨ao1, n1, c1, rfl, hnew⟩⟩
  have HK1 : Hid (w2.heap.size < w4.heap.size ∧ w.heap.size < w4.heap.size) := HS4.out.lts
  obtain ⟨w6, hw6⟩ : ∃ W, W = w5.setCell ⟨w2.heap.size, 1, none⟩ (.slice ao1 n1 c1) := ⟨_, rfl⟩
  have HS6 : Hid (StA w w6 w2.heap.size wb [l0, l1, l2] (.int .i64 2) (.slice ao1 n1 c1) (.slice none 0 0) (.int .i64 0)) := by unfold Hid; rw [hw6]; exact HS5.out.s1 _
  have HV2 : Hid (Reads w6 (.slice ao1 n1 c1) (readN l1)) := by unfold Hid; rw [hw6]; exact HV1.out.1.storeNew HV1.out.2 HK1.out.1
  have g1 := HS5.out.own.1.2.1
  have f1 := HS5.out.own.2.1 1
  have a0 := HS6.out.own.1.1
  have c2 : w6.cell? ⟨wb, 2, none⟩ = some (.string (strOf l2)) := HS6.out.word 2 (by simp)
  rw [hw6] at a0 c2
  clear hRd hb hnew
  go_wp2_with fail
  rw [← hw6]
  clear hw6 g1 f1 a0 c2
  go_at_call 32
  refine (HRt.out l2 z2 w6).mono ?_
  rintro e w7 ⟨vv, rfl, hRd, ⟨ao2, n2, c2, rfl, hnew⟩, hb⟩
  rw [b2] at hRd
  rw [b2]
  have HS7 : Hid (StA w w7 w2.heap.size wb [l0, l1, l2] (.int .i64 2) (.slice ao1 n1 c1) (.slice none 0 0) (.int .i64 0)) := HS6.out.call hb
  have HV3 : Hid (Reads w7 (.slice ao1 n1 c1) (readN l1)) := HV2.out.below hb
  have HV4 : Hid (Reads w7 (.slice ao2 n2 c2) (readN l2) ∧ NewV w6.heap.size (.slice ao2 n2 c2)) := ⟨hRd rfl, ⟨ao2, n2, c2, rfl, hnew⟩⟩
  have HK2 : Hid (w2.heap.size < w6.heap.size ∧ w.heap.size < w6.heap.size) := HS6.out.lts
  obtain ⟨w8, hw8⟩ : ∃ W, W = w7.setCell ⟨w2.heap.size, 2, none⟩ (.slice ao2 n2 c2) := ⟨_, rfl⟩
  have HS8 : Hid (StA w w8 w2.heap.size wb [l0, l1, l2] (.int .i64 2) (.slice ao1 n1 c1) (.slice ao2 n2 c2) (.int .i64 0)) := by unfold Hid; rw [hw8]; exact HS7.out.s2 _
  have HV5 : Hid (Reads w8 (.slice ao1 n1 c1) (readN l1)) := by unfold Hid; rw [hw8]; exact HV3.out.storeNew HV1.out.2 HK1.out.1
  have HV6 : Hid (Reads w8 (.slice ao2 n2 c2) (readN l2)) := by unfold Hid; rw [hw8]; exact HV4.out.1.storeNew HV4.out.2 HK2.out.1
  have g1 := HS7.out.own.1.2.2.1
  have f1 := HS7.out.own.2.1 2
  have a0 := HS8.out.own.1.1
  clear hRd hb hnew
  have HV7 : Hid (Reads w8 (.slice ao1 n1 c1) (readN l1) ∧ Reads w8 (.slice ao2 n2 c2) (readN l2)) := ⟨HV5.out, HV6.out⟩
  have HV8 : Hid (Reads w8 (.slice ao1 n1 c1) (readN l1) ∧ Reads w8 (.slice ao2 n2 c2) (readN l2)) := HV7.out
  obtain ⟨⟨x0, x1, x2, x3⟩, _, _⟩ := HS8.out.own
  rw [hw8] at x0 x1 x2 x3
  clear a0
  go_wp2_with fail
  rw [← hw8]
  clear hw8 g1 f1 x0 x1 x2 x3
  go_at_call 5
  refine (HAt.out w8 _ _ HV8.out.1 HV8.out.2).mono ?_
  rintro e w9 ⟨rfl, hb⟩
  have HS9 : Hid (StA w w9 w2.heap.size wb [l0, l1, l2] (.int .i64 2) (.slice ao1 n1 c1) (.slice ao2 n2 c2) (.int .i64 0)) := HS8.out.call hb
  have HV9 : Hid (Reads w9 (.slice ao1 n1 c1) (readN l1) ∧ Reads w9 (.slice ao2 n2 c2) (readN l2)) := ⟨HV8.out.1.below hb, HV8.out.2.below hb⟩
  clear hb
  obtain ⟨⟨r0, r1, r2, r3⟩, rf, _⟩ := HS9.out.res
  have p0 := rf 0
  have p1 := rf 1
  have p2 := rf 2
  have p3 := rf 3
  clear rf
  have hF' : (F != 0) = true := by simpa using hF
  go_wp2_with fail
  have hA := HS9.out.res.all (.int .i64 0) (.slice none 0 0) (.slice none 0 0) (.int .i64 0)
  have hld := load_atom hA.1.1 hA.1.2.1 hA.1.2.2.1 hA.1.2.2.2
  refine bodyPost_ret (v := .tuple #[.agg #[.int .i64 0, .slice none 0 0, .slice none 0 0, .int .i64 0], .int .i64 F]) ?_ rfl ⟨rfl, HS9.out.fin _ _ _ _⟩
  rw [results_cell_tmp rfl]
  simp [asAddr, Result.andThen, hld]

set_option linter.unusedVariables false in
set_option maxHeartbeats 4000000 in
theorem readAtom_2_g (s x : ByteArray) (l0 l1 l2 : List UInt8) (w : World) (hx : strOf l0 = x) (q1 : (x.toList == [115, 117, 98]) = false) (q2 : (x.toList == [115, 97, 109, 101]) = true) (z1 : l1.length ≤ 1048576) (z2 : l2.length ≤ 1048576) (b1 : lettersB l1 = true) (b2 : lettersB l2 = true) (hF : (atomFault 2 (readN l1) (readN l2) 0) = 0)
    (hC : ∀ W, Below w.heap.size w W → Calls Tryz.prog 31 #[.string s, .int .u8 32] W fun e w' => ∃ v, e = .returned v ∧ ReadsS w' v [l0, l1, l2] ∧ Below W.heap.size W w') :
    Calls Tryz.prog 13 #[.string s] w fun e w' => (∃ v0 v1, e = .returned (.tuple #[.agg #[.int .i64 2, v0, v1, .int .i64 0], .int .i64 0]) ∧ Reads w' v0 (readN l1) ∧ Reads w' v1 (readN l2)) ∧ Below w.heap.size w w' := by
  have HRt : Hid (∀ l : List UInt8, l.length ≤ 1048576 → ∀ W, Calls Tryz.prog 32 #[.string (strOf l)] W fun e w' => ∃ v, e = .returned (.tuple #[v, .bool (lettersB l)]) ∧ (lettersB l = true → Reads w' v (readN l)) ∧ NewV W.heap.size v ∧ Below W.heap.size W w') := fun l hl W => readTerm_word l hl W
  have HRn : Hid (∀ l : List UInt8, l.length ≤ 1048576 → ∀ W, Calls Tryz.prog 33 #[.string (strOf l)] W fun e w' => e = .returned (.tuple #[.int .i64 ((numOf l).getD 0), .bool (numOf l).isSome]) ∧ W = w') := fun l hl W => by
    have := readNumber_any (strOf l) (by rw [strOf_size]; omega) W
    rw [strOf_list] at this
    exact this
  obtain ⟨F, hFF⟩ : ∃ F, F = (atomFault 2 (readN l1) (readN l2) 0) := ⟨_, rfl⟩
  have HAt : Hid (∀ W vs vt, Reads W vs (readN l1) → Reads W vt (readN l2) → Calls Tryz.prog 5 #[.agg #[.int .i64 2, vs, vt, .int .i64 0]] W fun e w' => e = .returned (.int .i64 F) ∧ Below W.heap.size W w') := fun W vs vt h1 h2 => by
    rw [hFF]
    exact refAtom_any 2 0 vs vt _ _ W h1 h2
  rw [← hFF] at hF
  clear hFF
  obtain ⟨w1, hw1⟩ : ∃ w1, w1 = w.alloc (.cells #[.int .i64 0, .slice none 0 0, .slice none 0 0, .int .i64 0] 24) := ⟨_, rfl⟩
  have HB1 : Hid (Below w.heap.size w w1) := by unfold Hid; rw [hw1]; exact below_alloc1 w _
  have HR1 : Hid (OneA w1 w.heap.size (.int .i64 0) (.slice none 0 0) (.slice none 0 0) (.int .i64 0)) := by unfold Hid; rw [hw1]; exact oneA_alloc _ _ _ _ _ _
  have HC : Hid (Calls Tryz.prog 31 #[.string s, .int .u8 32] w1 fun e w' => ∃ v, e = .returned v ∧ ReadsS w' v [l0, l1, l2] ∧ Below w1.heap.size w1 w') := hC w1 HB1.out
  clear hC
  go_enter Tryz.func13, Tryz.ntmps13
  go_wp2_with fail
  rw [← hw1]
  clear hw1
  go_at_call 31
  refine HC.out.mono ?_
  rintro e w2 ⟨v, rfl, hR, hb⟩
  obtain ⟨wb, cap, rfl, hwb, hcap, hcell⟩ := hR
  obtain ⟨w3, hw3⟩ : ∃ w3, w3 = w2.alloc (.cells #[.int .i64 0, .slice none 0 0, .slice none 0 0, .int .i64 0] 24) := ⟨_, rfl⟩
  have HS3 : Hid (StA w w3 w2.heap.size wb [l0, l1, l2] (.int .i64 0) (.slice none 0 0) (.slice none 0 0) (.int .i64 0)) := by unfold Hid; rw [hw3]; exact stA_start HB1.out HR1.out hb hwb hcell _ _
  obtain ⟨w4, hw4⟩ : ∃ w4, w4 = w2.alloc (.cells #[.int .i64 2, .slice none 0 0, .slice none 0 0, .int .i64 0] 24) := ⟨_, rfl⟩
  have HS4 : Hid (StA w w4 w2.heap.size wb [l0, l1, l2] (.int .i64 2) (.slice none 0 0) (.slice none 0 0) (.int .i64 0)) := by unfold Hid; rw [hw4]; exact stA_start HB1.out HR1.out hb hwb hcell _ _
  clear hb hcell hwb hcap
  have c0 : w3.cell? ⟨wb, 0, none⟩ = some (.string (strOf l0)) := HS3.out.word 0 (by simp)
  rw [hx] at c0
  have c1 : w4.cell? ⟨wb, 1, none⟩ = some (.string (strOf l1)) := HS4.out.word 1 (by simp)
  rw [hw3] at c0
  rw [hw4] at c1
  go_wp2_with fail
  rw [← hw4]
  clear hw4 hw3 c0 c1
  go_at_call 32
  refine (HRt.out l1 z1 w4).mono ?_
  rintro e w5 ⟨vv, rfl, hRd, ⟨ao1, n1, c1, rfl, hnew⟩, hb⟩
  rw [b1] at hRd
  rw [b1]
  have HS5 : Hid (StA w w5 w2.heap.size wb [l0, l1, l2] (.int .i64 2) (.slice none 0 0) (.slice none 0 0) (.int .i64 0)) := HS4.out.call hb
  have HV1 : Hid (Reads w5 (.slice ao1 n1 c1) (readN l1) ∧ NewV w4.heap.size (.slice ao1 n1 c1)) := ⟨hRd rfl, ⟨ao1, n1, c1, rfl, hnew⟩⟩
  have HK1 : Hid (w2.heap.size < w4.heap.size ∧ w.heap.size < w4.heap.size) := HS4.out.lts
  obtain ⟨w6, hw6⟩ : ∃ W, W = w5.setCell ⟨w2.heap.size, 1, none⟩ (.slice ao1 n1 c1) := ⟨_, rfl⟩
  have HS6 : Hid (StA w w6 w2.heap.size wb [l0, l1, l2] (.int .i64 2) (.slice ao1 n1 c1) (.slice none 0 0) (.int .i64 0)) := by unfold Hid; rw [hw6]; exact HS5.out.s1 _
  have HV2 : Hid (Reads w6 (.slice ao1 n1 c1) (readN l1)) := by unfold Hid; rw [hw6]; exact HV1.out.1.storeNew HV1.out.2 HK1.out.1
  have g1 := HS5.out.own.1.2.1
  have f1 := HS5.out.own.2.1 1
  have a0 := HS6.out.own.1.1
  have c2 : w6.cell? ⟨wb, 2, none⟩ = some (.string (strOf l2)) := HS6.out.word 2 (by simp)
  rw [hw6] at a0 c2
  clear hRd hb hnew
  go_wp2_with fail
  rw [← hw6]
  clear hw6 g1 f1 a0 c2
  go_at_call 32
  refine (HRt.out l2 z2 w6).mono ?_
  rintro e w7 ⟨vv, rfl, hRd, ⟨ao2, n2, c2, rfl, hnew⟩, hb⟩
  rw [b2] at hRd
  rw [b2]
  have HS7 : Hid (StA w w7 w2.heap.size wb [l0, l1, l2] (.int .i64 2) (.slice ao1 n1 c1) (.slice none 0 0) (.int .i64 0)) := HS6.out.call hb
  have HV3 : Hid (Reads w7 (.slice ao1 n1 c1) (readN l1)) := HV2.out.below hb
  have HV4 : Hid (Reads w7 (.slice ao2 n2 c2) (readN l2) ∧ NewV w6.heap.size (.slice ao2 n2 c2)) := ⟨hRd rfl, ⟨ao2, n2, c2, rfl, hnew⟩⟩
  have HK2 : Hid (w2.heap.size < w6.heap.size ∧ w.heap.size < w6.heap.size) := HS6.out.lts
  obtain ⟨w8, hw8⟩ : ∃ W, W = w7.setCell ⟨w2.heap.size, 2, none⟩ (.slice ao2 n2 c2) := ⟨_, rfl⟩
  have HS8 : Hid (StA w w8 w2.heap.size wb [l0, l1, l2] (.int .i64 2) (.slice ao1 n1 c1) (.slice ao2 n2 c2) (.int .i64 0)) := by unfold Hid; rw [hw8]; exact HS7.out.s2 _
  have HV5 : Hid (Reads w8 (.slice ao1 n1 c1) (readN l1)) := by unfold Hid; rw [hw8]; exact HV3.out.storeNew HV1.out.2 HK1.out.1
  have HV6 : Hid (Reads w8 (.slice ao2 n2 c2) (readN l2)) := by unfold Hid; rw [hw8]; exact HV4.out.1.storeNew HV4.out.2 HK2.out.1
  have g1 := HS7.out.own.1.2.2.1
  have f1 := HS7.out.own.2.1 2
  have a0 := HS8.out.own.1.1
  clear hRd hb hnew
  have HV7 : Hid (Reads w8 (.slice ao1 n1 c1) (readN l1) ∧ Reads w8 (.slice ao2 n2 c2) (readN l2)) := ⟨HV5.out, HV6.out⟩
  have HV8 : Hid (Reads w8 (.slice ao1 n1 c1) (readN l1) ∧ Reads w8 (.slice ao2 n2 c2) (readN l2)) := HV7.out
  obtain ⟨⟨x0, x1, x2, x3⟩, _, _⟩ := HS8.out.own
  rw [hw8] at x0 x1 x2 x3
  clear a0
  go_wp2_with fail
  rw [← hw8]
  clear hw8 g1 f1 x0 x1 x2 x3
  go_at_call 5
  refine (HAt.out w8 _ _ HV8.out.1 HV8.out.2).mono ?_
  rintro e w9 ⟨rfl, hb⟩
  have HS9 : Hid (StA w w9 w2.heap.size wb [l0, l1, l2] (.int .i64 2) (.slice ao1 n1 c1) (.slice ao2 n2 c2) (.int .i64 0)) := HS8.out.call hb
  have HV9 : Hid (Reads w9 (.slice ao1 n1 c1) (readN l1) ∧ Reads w9 (.slice ao2 n2 c2) (readN l2)) := ⟨HV8.out.1.below hb, HV8.out.2.below hb⟩
  clear hb
  obtain ⟨⟨r0, r1, r2, r3⟩, rf, _⟩ := HS9.out.res
  have p0 := rf 0
  have p1 := rf 1
  have p2 := rf 2
  have p3 := rf 3
  clear rf
  obtain ⟨⟨x0, x1, x2, x3⟩, _, _⟩ := HS9.out.own
  subst hF
  go_wp2_with fail
  have hA := HS9.out.res.all (.int .i64 2) (.slice ao1 n1 c1) (.slice ao2 n2 c2) (.int .i64 0)
  have hld := load_atom hA.1.1 hA.1.2.1 hA.1.2.2.1 hA.1.2.2.2
  refine bodyPost_ret (v := .tuple #[.agg #[.int .i64 2, .slice ao1 n1 c1, .slice ao2 n2 c2, .int .i64 0], .int .i64 0]) ?_ rfl ⟨⟨_, _, rfl, HV9.out.1.storeAll HV1.out.2 HK1.out.2, HV9.out.2.storeAll HV4.out.2 HK2.out.2⟩, HS9.out.fin _ _ _ _⟩
  rw [results_cell_tmp rfl]
  simp [asAddr, Result.andThen, hld]
end Go.Proofs.YtenmheenieifpabGreatDoor

namespace Go.Proofs.YtenmheenieifpabGreatDoor
open Go.ChangeShapes Go.WideShapes Go.ChangeAt Go.RowKit
set_option maxRecDepth 100000

set_option linter.unusedVariables false in
set_option maxHeartbeats 4000000 in
theorem readAtom_3_s (s x : ByteArray) (l0 l1 l2 : List UInt8) (w : World) (hx : strOf l0 = x) (q1 : (x.toList == [115, 117, 98]) = false) (q2 : (x.toList == [115, 97, 109, 101]) = false) (q3 : (x.toList == [108, 101, 97, 115, 116]) = true) (z1 : l1.length ≤ 1048576) (z2 : l2.length ≤ 1048576) (b1 : lettersB l1 = false)
    (hC : ∀ W, Below w.heap.size w W → Calls Tryz.prog 31 #[.string s, .int .u8 32] W fun e w' => ∃ v, e = .returned v ∧ ReadsS w' v [l0, l1, l2] ∧ Below W.heap.size W w') :
    Calls Tryz.prog 13 #[.string s] w fun e w' => e = .returned (.tuple #[.agg #[.int .i64 0, .slice none 0 0, .slice none 0 0, .int .i64 0], .int .i64 2]) ∧ Below w.heap.size w w' := by
  have HRt : Hid (∀ l : List UInt8, l.length ≤ 1048576 → ∀ W, Calls Tryz.prog 32 #[.string (strOf l)] W fun e w' => ∃ v, e = .returned (.tuple #[v, .bool (lettersB l)]) ∧ (lettersB l = true → Reads w' v (readN l)) ∧ NewV W.heap.size v ∧ Below W.heap.size W w') := fun l hl W => readTerm_word l hl W
  have HRn : Hid (∀ l : List UInt8, l.length ≤ 1048576 → ∀ W, Calls Tryz.prog 33 #[.string (strOf l)] W fun e w' => e = .returned (.tuple #[.int .i64 ((numOf l).getD 0), .bool (numOf l).isSome]) ∧ W = w') := fun l hl W => by
    have := readNumber_any (strOf l) (by rw [strOf_size]; omega) W
    rw [strOf_list] at this
    exact this
  obtain ⟨w1, hw1⟩ : ∃ w1, w1 = w.alloc (.cells #[.int .i64 0, .slice none 0 0, .slice none 0 0, .int .i64 0] 24) := ⟨_, rfl⟩
  have HB1 : Hid (Below w.heap.size w w1) := by unfold Hid; rw [hw1]; exact below_alloc1 w _
  have HR1 : Hid (OneA w1 w.heap.size (.int .i64 0) (.slice none 0 0) (.slice none 0 0) (.int .i64 0)) := by unfold Hid; rw [hw1]; exact oneA_alloc _ _ _ _ _ _
  have HC : Hid (Calls Tryz.prog 31 #[.string s, .int .u8 32] w1 fun e w' => ∃ v, e = .returned v ∧ ReadsS w' v [l0, l1, l2] ∧ Below w1.heap.size w1 w') := hC w1 HB1.out
  clear hC
  go_enter Tryz.func13, Tryz.ntmps13
  go_wp2_with fail
  rw [← hw1]
  clear hw1
  go_at_call 31
  refine HC.out.mono ?_
  rintro e w2 ⟨v, rfl, hR, hb⟩
  obtain ⟨wb, cap, rfl, hwb, hcap, hcell⟩ := hR
  obtain ⟨w3, hw3⟩ : ∃ w3, w3 = w2.alloc (.cells #[.int .i64 0, .slice none 0 0, .slice none 0 0, .int .i64 0] 24) := ⟨_, rfl⟩
  have HS3 : Hid (StA w w3 w2.heap.size wb [l0, l1, l2] (.int .i64 0) (.slice none 0 0) (.slice none 0 0) (.int .i64 0)) := by unfold Hid; rw [hw3]; exact stA_start HB1.out HR1.out hb hwb hcell _ _
  obtain ⟨w4, hw4⟩ : ∃ w4, w4 = w2.alloc (.cells #[.int .i64 3, .slice none 0 0, .slice none 0 0, .int .i64 0] 24) := ⟨_, rfl⟩
  have HS4 : Hid (StA w w4 w2.heap.size wb [l0, l1, l2] (.int .i64 3) (.slice none 0 0) (.slice none 0 0) (.int .i64 0)) := by unfold Hid; rw [hw4]; exact stA_start HB1.out HR1.out hb hwb hcell _ _
  clear hb hcell hwb hcap
  have c0 : w3.cell? ⟨wb, 0, none⟩ = some (.string (strOf l0)) := HS3.out.word 0 (by simp)
  rw [hx] at c0
  have c1 : w4.cell? ⟨wb, 1, none⟩ = some (.string (strOf l1)) := HS4.out.word 1 (by simp)
  rw [hw3] at c0
  rw [hw4] at c1
  go_wp2_with fail
  rw [← hw4]
  clear hw4 hw3 c0 c1
  go_at_call 32
  refine (HRt.out l1 z1 w4).mono ?_
  rintro e w5 ⟨vv, rfl, hRd, ⟨ao1, n1, c1, rfl, hnew⟩, hb⟩
  rw [b1] at hRd
  rw [b1]
  have HS5 : Hid (StA w w5 w2.heap.size wb [l0, l1, l2] (.int .i64 3) (.slice none 0 0) (.slice none 0 0) (.int .i64 0)) := HS4.out.call hb
  clear hRd hb hnew
  obtain ⟨⟨r0, r1, r2, r3⟩, rf, _⟩ := HS5.out.res
  have p0 := rf 0
  have p1 := rf 1
  have p2 := rf 2
  have p3 := rf 3
  clear rf
  go_wp2_with fail
  have hA := HS5.out.res.all (.int .i64 0) (.slice none 0 0) (.slice none 0 0) (.int .i64 0)
  have hld := load_atom hA.1.1 hA.1.2.1 hA.1.2.2.1 hA.1.2.2.2
  refine bodyPost_ret (v := .tuple #[.agg #[.int .i64 0, .slice none 0 0, .slice none 0 0, .int .i64 0], .int .i64 2]) ?_ rfl ⟨rfl, HS5.out.fin _ _ _ _⟩
  rw [results_cell_tmp rfl]
  simp [asAddr, Result.andThen, hld]

set_option linter.unusedVariables false in
set_option maxHeartbeats 4000000 in
theorem readAtom_3_n (s x : ByteArray) (l0 l1 l2 : List UInt8) (w : World) (hx : strOf l0 = x) (q1 : (x.toList == [115, 117, 98]) = false) (q2 : (x.toList == [115, 97, 109, 101]) = false) (q3 : (x.toList == [108, 101, 97, 115, 116]) = true) (z1 : l1.length ≤ 1048576) (z2 : l2.length ≤ 1048576) (b1 : lettersB l1 = true) (bn : (numOf l2).isSome = false)
    (hC : ∀ W, Below w.heap.size w W → Calls Tryz.prog 31 #[.string s, .int .u8 32] W fun e w' => ∃ v, e = .returned v ∧ ReadsS w' v [l0, l1, l2] ∧ Below W.heap.size W w') :
    Calls Tryz.prog 13 #[.string s] w fun e w' => e = .returned (.tuple #[.agg #[.int .i64 0, .slice none 0 0, .slice none 0 0, .int .i64 0], .int .i64 2]) ∧ Below w.heap.size w w' := by
  have HRt : Hid (∀ l : List UInt8, l.length ≤ 1048576 → ∀ W, Calls Tryz.prog 32 #[.string (strOf l)] W fun e w' => ∃ v, e = .returned (.tuple #[v, .bool (lettersB l)]) ∧ (lettersB l = true → Reads w' v (readN l)) ∧ NewV W.heap.size v ∧ Below W.heap.size W w') := fun l hl W => readTerm_word l hl W
  have HRn : Hid (∀ l : List UInt8, l.length ≤ 1048576 → ∀ W, Calls Tryz.prog 33 #[.string (strOf l)] W fun e w' => e = .returned (.tuple #[.int .i64 ((numOf l).getD 0), .bool (numOf l).isSome]) ∧ W = w') := fun l hl W => by
    have := readNumber_any (strOf l) (by rw [strOf_size]; omega) W
    rw [strOf_list] at this
    exact this
  obtain ⟨w1, hw1⟩ : ∃ w1, w1 = w.alloc (.cells #[.int .i64 0, .slice none 0 0, .slice none 0 0, .int .i64 0] 24) := ⟨_, rfl⟩
  have HB1 : Hid (Below w.heap.size w w1) := by unfold Hid; rw [hw1]; exact below_alloc1 w _
  have HR1 : Hid (OneA w1 w.heap.size (.int .i64 0) (.slice none 0 0) (.slice none 0 0) (.int .i64 0)) := by unfold Hid; rw [hw1]; exact oneA_alloc _ _ _ _ _ _
  have HC : Hid (Calls Tryz.prog 31 #[.string s, .int .u8 32] w1 fun e w' => ∃ v, e = .returned v ∧ ReadsS w' v [l0, l1, l2] ∧ Below w1.heap.size w1 w') := hC w1 HB1.out
  clear hC
  go_enter Tryz.func13, Tryz.ntmps13
  go_wp2_with fail
  rw [← hw1]
  clear hw1
  go_at_call 31
  refine HC.out.mono ?_
  rintro e w2 ⟨v, rfl, hR, hb⟩
  obtain ⟨wb, cap, rfl, hwb, hcap, hcell⟩ := hR
  obtain ⟨w3, hw3⟩ : ∃ w3, w3 = w2.alloc (.cells #[.int .i64 0, .slice none 0 0, .slice none 0 0, .int .i64 0] 24) := ⟨_, rfl⟩
  have HS3 : Hid (StA w w3 w2.heap.size wb [l0, l1, l2] (.int .i64 0) (.slice none 0 0) (.slice none 0 0) (.int .i64 0)) := by unfold Hid; rw [hw3]; exact stA_start HB1.out HR1.out hb hwb hcell _ _
  obtain ⟨w4, hw4⟩ : ∃ w4, w4 = w2.alloc (.cells #[.int .i64 3, .slice none 0 0, .slice none 0 0, .int .i64 0] 24) := ⟨_, rfl⟩
  have HS4 : Hid (StA w w4 w2.heap.size wb [l0, l1, l2] (.int .i64 3) (.slice none 0 0) (.slice none 0 0) (.int .i64 0)) := by unfold Hid; rw [hw4]; exact stA_start HB1.out HR1.out hb hwb hcell _ _
  clear hb hcell hwb hcap
  have c0 : w3.cell? ⟨wb, 0, none⟩ = some (.string (strOf l0)) := HS3.out.word 0 (by simp)
  rw [hx] at c0
  have c1 : w4.cell? ⟨wb, 1, none⟩ = some (.string (strOf l1)) := HS4.out.word 1 (by simp)
  rw [hw3] at c0
  rw [hw4] at c1
  go_wp2_with fail
  rw [← hw4]
  clear hw4 hw3 c0 c1
  go_at_call 32
  refine (HRt.out l1 z1 w4).mono ?_
  rintro e w5 ⟨vv, rfl, hRd, ⟨ao1, n1, c1, rfl, hnew⟩, hb⟩
  rw [b1] at hRd
  rw [b1]
  have HS5 : Hid (StA w w5 w2.heap.size wb [l0, l1, l2] (.int .i64 3) (.slice none 0 0) (.slice none 0 0) (.int .i64 0)) := HS4.out.call hb
  have HV1 : Hid (Reads w5 (.slice ao1 n1 c1) (readN l1) ∧ NewV w4.heap.size (.slice ao1 n1 c1)) := ⟨hRd rfl, ⟨ao1, n1, c1, rfl, hnew⟩⟩
  have HK1 : Hid (w2.heap.size < w4.heap.size ∧ w.heap.size < w4.heap.size) := HS4.out.lts
  obtain ⟨w6, hw6⟩ : ∃ W, W = w5.setCell ⟨w2.heap.size, 1, none⟩ (.slice ao1 n1 c1) := ⟨_, rfl⟩
  have HS6 : Hid (StA w w6 w2.heap.size wb [l0, l1, l2] (.int .i64 3) (.slice ao1 n1 c1) (.slice none 0 0) (.int .i64 0)) := by unfold Hid; rw [hw6]; exact HS5.out.s1 _
  have HV2 : Hid (Reads w6 (.slice ao1 n1 c1) (readN l1)) := by unfold Hid; rw [hw6]; exact HV1.out.1.storeNew HV1.out.2 HK1.out.1
  have g1 := HS5.out.own.1.2.1
  have f1 := HS5.out.own.2.1 1
  have a0 := HS6.out.own.1.1
  have c2 : w6.cell? ⟨wb, 2, none⟩ = some (.string (strOf l2)) := HS6.out.word 2 (by simp)
  rw [hw6] at a0 c2
  clear hRd hb hnew
  have HV7 : Hid (Reads w6 (.slice ao1 n1 c1) (readN l1) ∧ Reads w6 (.slice none 0 0) []) := ⟨HV2.out, Or.inl ⟨none, 0, rfl, rfl⟩⟩
  clear c2
  have cn : w6.cell? ⟨wb, 2, none⟩ = some (.string (strOf l2)) := HS6.out.word 2 (by simp)
  rw [hw6] at cn
  go_wp2_with fail
  rw [← hw6]
  clear hw6 g1 f1 a0 cn
  go_at_call 33
  refine (HRn.out l2 z2 w6).mono ?_
  rintro e wx ⟨rfl, rfl⟩
  rw [bn]
  obtain ⟨⟨r0, r1, r2, r3⟩, rf, _⟩ := HS6.out.res
  have p0 := rf 0
  have p1 := rf 1
  have p2 := rf 2
  have p3 := rf 3
  clear rf
  go_wp2_with fail
  have hA := HS6.out.res.all (.int .i64 0) (.slice none 0 0) (.slice none 0 0) (.int .i64 0)
  have hld := load_atom hA.1.1 hA.1.2.1 hA.1.2.2.1 hA.1.2.2.2
  refine bodyPost_ret (v := .tuple #[.agg #[.int .i64 0, .slice none 0 0, .slice none 0 0, .int .i64 0], .int .i64 2]) ?_ rfl ⟨rfl, HS6.out.fin _ _ _ _⟩
  rw [results_cell_tmp rfl]
  simp [asAddr, Result.andThen, hld]

set_option linter.unusedVariables false in
set_option maxHeartbeats 4000000 in
theorem readAtom_3_f (s x : ByteArray) (l0 l1 l2 : List UInt8) (w : World) (hx : strOf l0 = x) (q1 : (x.toList == [115, 117, 98]) = false) (q2 : (x.toList == [115, 97, 109, 101]) = false) (q3 : (x.toList == [108, 101, 97, 115, 116]) = true) (z1 : l1.length ≤ 1048576) (z2 : l2.length ≤ 1048576) (b1 : lettersB l1 = true) (bn : (numOf l2).isSome = true) (hF : ¬ (atomFault 3 (readN l1) [] ((numOf l2).getD 0)) = 0)
    (hC : ∀ W, Below w.heap.size w W → Calls Tryz.prog 31 #[.string s, .int .u8 32] W fun e w' => ∃ v, e = .returned v ∧ ReadsS w' v [l0, l1, l2] ∧ Below W.heap.size W w') :
    Calls Tryz.prog 13 #[.string s] w fun e w' => e = .returned (.tuple #[.agg #[.int .i64 0, .slice none 0 0, .slice none 0 0, .int .i64 0], .int .i64 (atomFault 3 (readN l1) [] ((numOf l2).getD 0))]) ∧ Below w.heap.size w w' := by
  have HRt : Hid (∀ l : List UInt8, l.length ≤ 1048576 → ∀ W, Calls Tryz.prog 32 #[.string (strOf l)] W fun e w' => ∃ v, e = .returned (.tuple #[v, .bool (lettersB l)]) ∧ (lettersB l = true → Reads w' v (readN l)) ∧ NewV W.heap.size v ∧ Below W.heap.size W w') := fun l hl W => readTerm_word l hl W
  have HRn : Hid (∀ l : List UInt8, l.length ≤ 1048576 → ∀ W, Calls Tryz.prog 33 #[.string (strOf l)] W fun e w' => e = .returned (.tuple #[.int .i64 ((numOf l).getD 0), .bool (numOf l).isSome]) ∧ W = w') := fun l hl W => by
    have := readNumber_any (strOf l) (by rw [strOf_size]; omega) W
    rw [strOf_list] at this
    exact this
  obtain ⟨N, hN⟩ : ∃ N, N = (numOf l2).getD 0 := ⟨_, rfl⟩
  rw [← hN] at hF ⊢
  have HN : Hid (N = (numOf l2).getD 0) := hN
  clear hN
  obtain ⟨F, hFF⟩ : ∃ F, F = (atomFault 3 (readN l1) [] N) := ⟨_, rfl⟩
  have HAt : Hid (∀ W vs vt, Reads W vs (readN l1) → Reads W vt [] → Calls Tryz.prog 5 #[.agg #[.int .i64 3, vs, vt, .int .i64 N]] W fun e w' => e = .returned (.int .i64 F) ∧ Below W.heap.size W w') := fun W vs vt h1 h2 => by
    rw [hFF]
    exact refAtom_any 3 N vs vt _ _ W h1 h2
  rw [← hFF] at hF
  rw [← hFF]
  clear hFF
  obtain ⟨w1, hw1⟩ : ∃ w1, w1 = w.alloc (.cells #[.int .i64 0, .slice none 0 0, .slice none 0 0, .int .i64 0] 24) := ⟨_, rfl⟩
  have HB1 : Hid (Below w.heap.size w w1) := by unfold Hid; rw [hw1]; exact below_alloc1 w _
  have HR1 : Hid (OneA w1 w.heap.size (.int .i64 0) (.slice none 0 0) (.slice none 0 0) (.int .i64 0)) := by unfold Hid; rw [hw1]; exact oneA_alloc _ _ _ _ _ _
  have HC : Hid (Calls Tryz.prog 31 #[.string s, .int .u8 32] w1 fun e w' => ∃ v, e = .returned v ∧ ReadsS w' v [l0, l1, l2] ∧ Below w1.heap.size w1 w') := hC w1 HB1.out
  clear hC
  go_enter Tryz.func13, Tryz.ntmps13
  go_wp2_with fail
  rw [← hw1]
  clear hw1
  go_at_call 31
  refine HC.out.mono ?_
  rintro e w2 ⟨v, rfl, hR, hb⟩
  obtain ⟨wb, cap, rfl, hwb, hcap, hcell⟩ := hR
  obtain ⟨w3, hw3⟩ : ∃ w3, w3 = w2.alloc (.cells #[.int .i64 0, .slice none 0 0, .slice none 0 0, .int .i64 0] 24) := ⟨_, rfl⟩
  have HS3 : Hid (StA w w3 w2.heap.size wb [l0, l1, l2] (.int .i64 0) (.slice none 0 0) (.slice none 0 0) (.int .i64 0)) := by unfold Hid; rw [hw3]; exact stA_start HB1.out HR1.out hb hwb hcell _ _
  obtain ⟨w4, hw4⟩ : ∃ w4, w4 = w2.alloc (.cells #[.int .i64 3, .slice none 0 0, .slice none 0 0, .int .i64 0] 24) := ⟨_, rfl⟩
  have HS4 : Hid (StA w w4 w2.heap.size wb [l0, l1, l2] (.int .i64 3) (.slice none 0 0) (.slice none 0 0) (.int .i64 0)) := by unfold Hid; rw [hw4]; exact stA_start HB1.out HR1.out hb hwb hcell _ _
  clear hb hcell hwb hcap
  have c0 : w3.cell? ⟨wb, 0, none⟩ = some (.string (strOf l0)) := HS3.out.word 0 (by simp)
  rw [hx] at c0
  have c1 : w4.cell? ⟨wb, 1, none⟩ = some (.string (strOf l1)) := HS4.out.word 1 (by simp)
  rw [hw3] at c0
  rw [hw4] at c1
  go_wp2_with fail
  rw [← hw4]
  clear hw4 hw3 c0 c1
  go_at_call 32
  refine (HRt.out l1 z1 w4).mono ?_
  rintro e w5 ⟨vv, rfl, hRd, ⟨ao1, n1, c1, rfl, hnew⟩, hb⟩
  rw [b1] at hRd
  rw [b1]
  have HS5 : Hid (StA w w5 w2.heap.size wb [l0, l1, l2] (.int .i64 3) (.slice none 0 0) (.slice none 0 0) (.int .i64 0)) := HS4.out.call hb
  have HV1 : Hid (Reads w5 (.slice ao1 n1 c1) (readN l1) ∧ NewV w4.heap.size (.slice ao1 n1 c1)) := ⟨hRd rfl, ⟨ao1, n1, c1, rfl, hnew⟩⟩
  have HK1 : Hid (w2.heap.size < w4.heap.size ∧ w.heap.size < w4.heap.size) := HS4.out.lts
  obtain ⟨w6, hw6⟩ : ∃ W, W = w5.setCell ⟨w2.heap.size, 1, none⟩ (.slice ao1 n1 c1) := ⟨_, rfl⟩
  have HS6 : Hid (StA w w6 w2.heap.size wb [l0, l1, l2] (.int .i64 3) (.slice ao1 n1 c1) (.slice none 0 0) (.int .i64 0)) := by unfold Hid; rw [hw6]; exact HS5.out.s1 _
  have HV2 : Hid (Reads w6 (.slice ao1 n1 c1) (readN l1)) := by unfold Hid; rw [hw6]; exact HV1.out.1.storeNew HV1.out.2 HK1.out.1
  have g1 := HS5.out.own.1.2.1
  have f1 := HS5.out.own.2.1 1
  have a0 := HS6.out.own.1.1
  have c2 : w6.cell? ⟨wb, 2, none⟩ = some (.string (strOf l2)) := HS6.out.word 2 (by simp)
  rw [hw6] at a0 c2
  clear hRd hb hnew
  have HV7 : Hid (Reads w6 (.slice ao1 n1 c1) (readN l1) ∧ Reads w6 (.slice none 0 0) []) := ⟨HV2.out, Or.inl ⟨none, 0, rfl, rfl⟩⟩
  clear c2
  have cn : w6.cell? ⟨wb, 2, none⟩ = some (.string (strOf l2)) := HS6.out.word 2 (by simp)
  rw [hw6] at cn
  go_wp2_with fail
  rw [← hw6]
  clear hw6 g1 f1 a0 cn
  go_at_call 33
  refine (HRn.out l2 z2 w6).mono ?_
  rintro e wx ⟨rfl, rfl⟩
  rw [bn]
  rw [← HN.out]
  obtain ⟨w7, hw7⟩ : ∃ W, W = w6.setCell ⟨w2.heap.size, 3, none⟩ (.int .i64 N) := ⟨_, rfl⟩
  have HS7 : Hid (StA w w7 w2.heap.size wb [l0, l1, l2] (.int .i64 3) (.slice ao1 n1 c1) (.slice none 0 0) (.int .i64 N)) := by unfold Hid; rw [hw7]; exact HS6.out.s3 _
  have HV8 : Hid (Reads w7 (.slice ao1 n1 c1) (readN l1) ∧ Reads w7 (.slice none 0 0) []) := by unfold Hid; rw [hw7]; exact ⟨HV7.out.1.storeNew HV1.out.2 HK1.out.1, Or.inl ⟨none, 0, rfl, rfl⟩⟩
  have g1 := HS6.out.own.1.2.2.2
  have f1 := HS6.out.own.2.1 3
  obtain ⟨⟨x0, x1, x2, x3⟩, _, _⟩ := HS7.out.own
  rw [hw7] at x0 x1 x2 x3
  go_wp2_with fail
  rw [← hw7]
  clear hw7 g1 f1 x0 x1 x2 x3
  go_at_call 5
  refine (HAt.out w7 _ _ HV8.out.1 HV8.out.2).mono ?_
  rintro e w8 ⟨rfl, hb⟩
  have HS8 : Hid (StA w w8 w2.heap.size wb [l0, l1, l2] (.int .i64 3) (.slice ao1 n1 c1) (.slice none 0 0) (.int .i64 N)) := HS7.out.call hb
  have HV9 : Hid (Reads w8 (.slice ao1 n1 c1) (readN l1) ∧ Reads w8 (.slice none 0 0) []) := ⟨HV8.out.1.below hb, HV8.out.2.below hb⟩
  clear hb
  obtain ⟨⟨r0, r1, r2, r3⟩, rf, _⟩ := HS8.out.res
  have p0 := rf 0
  have p1 := rf 1
  have p2 := rf 2
  have p3 := rf 3
  clear rf
  have hF' : (F != 0) = true := by simpa using hF
  go_wp2_with fail
  have hA := HS8.out.res.all (.int .i64 0) (.slice none 0 0) (.slice none 0 0) (.int .i64 0)
  have hld := load_atom hA.1.1 hA.1.2.1 hA.1.2.2.1 hA.1.2.2.2
  refine bodyPost_ret (v := .tuple #[.agg #[.int .i64 0, .slice none 0 0, .slice none 0 0, .int .i64 0], .int .i64 F]) ?_ rfl ⟨rfl, HS8.out.fin _ _ _ _⟩
  rw [results_cell_tmp rfl]
  simp [asAddr, Result.andThen, hld]

set_option linter.unusedVariables false in
set_option maxHeartbeats 4000000 in
theorem readAtom_3_g (s x : ByteArray) (l0 l1 l2 : List UInt8) (w : World) (hx : strOf l0 = x) (q1 : (x.toList == [115, 117, 98]) = false) (q2 : (x.toList == [115, 97, 109, 101]) = false) (q3 : (x.toList == [108, 101, 97, 115, 116]) = true) (z1 : l1.length ≤ 1048576) (z2 : l2.length ≤ 1048576) (b1 : lettersB l1 = true) (bn : (numOf l2).isSome = true) (hF : (atomFault 3 (readN l1) [] ((numOf l2).getD 0)) = 0)
    (hC : ∀ W, Below w.heap.size w W → Calls Tryz.prog 31 #[.string s, .int .u8 32] W fun e w' => ∃ v, e = .returned v ∧ ReadsS w' v [l0, l1, l2] ∧ Below W.heap.size W w') :
    Calls Tryz.prog 13 #[.string s] w fun e w' => (∃ v0 v1, e = .returned (.tuple #[.agg #[.int .i64 3, v0, v1, .int .i64 ((numOf l2).getD 0)], .int .i64 0]) ∧ Reads w' v0 (readN l1) ∧ Reads w' v1 []) ∧ Below w.heap.size w w' := by
  have HRt : Hid (∀ l : List UInt8, l.length ≤ 1048576 → ∀ W, Calls Tryz.prog 32 #[.string (strOf l)] W fun e w' => ∃ v, e = .returned (.tuple #[v, .bool (lettersB l)]) ∧ (lettersB l = true → Reads w' v (readN l)) ∧ NewV W.heap.size v ∧ Below W.heap.size W w') := fun l hl W => readTerm_word l hl W
  have HRn : Hid (∀ l : List UInt8, l.length ≤ 1048576 → ∀ W, Calls Tryz.prog 33 #[.string (strOf l)] W fun e w' => e = .returned (.tuple #[.int .i64 ((numOf l).getD 0), .bool (numOf l).isSome]) ∧ W = w') := fun l hl W => by
    have := readNumber_any (strOf l) (by rw [strOf_size]; omega) W
    rw [strOf_list] at this
    exact this
  obtain ⟨N, hN⟩ : ∃ N, N = (numOf l2).getD 0 := ⟨_, rfl⟩
  rw [← hN] at hF ⊢
  have HN : Hid (N = (numOf l2).getD 0) := hN
  clear hN
  obtain ⟨F, hFF⟩ : ∃ F, F = (atomFault 3 (readN l1) [] N) := ⟨_, rfl⟩
  have HAt : Hid (∀ W vs vt, Reads W vs (readN l1) → Reads W vt [] → Calls Tryz.prog 5 #[.agg #[.int .i64 3, vs, vt, .int .i64 N]] W fun e w' => e = .returned (.int .i64 F) ∧ Below W.heap.size W w') := fun W vs vt h1 h2 => by
    rw [hFF]
    exact refAtom_any 3 N vs vt _ _ W h1 h2
  rw [← hFF] at hF
  clear hFF
  obtain ⟨w1, hw1⟩ : ∃ w1, w1 = w.alloc (.cells #[.int .i64 0, .slice none 0 0, .slice none 0 0, .int .i64 0] 24) := ⟨_, rfl⟩
  have HB1 : Hid (Below w.heap.size w w1) := by unfold Hid; rw [hw1]; exact below_alloc1 w _
  have HR1 : Hid (OneA w1 w.heap.size (.int .i64 0) (.slice none 0 0) (.slice none 0 0) (.int .i64 0)) := by unfold Hid; rw [hw1]; exact oneA_alloc _ _ _ _ _ _
  have HC : Hid (Calls Tryz.prog 31 #[.string s, .int .u8 32] w1 fun e w' => ∃ v, e = .returned v ∧ ReadsS w' v [l0, l1, l2] ∧ Below w1.heap.size w1 w') := hC w1 HB1.out
  clear hC
  go_enter Tryz.func13, Tryz.ntmps13
  go_wp2_with fail
  rw [← hw1]
  clear hw1
  go_at_call 31
  refine HC.out.mono ?_
  rintro e w2 ⟨v, rfl, hR, hb⟩
  obtain ⟨wb, cap, rfl, hwb, hcap, hcell⟩ := hR
  obtain ⟨w3, hw3⟩ : ∃ w3, w3 = w2.alloc (.cells #[.int .i64 0, .slice none 0 0, .slice none 0 0, .int .i64 0] 24) := ⟨_, rfl⟩
  have HS3 : Hid (StA w w3 w2.heap.size wb [l0, l1, l2] (.int .i64 0) (.slice none 0 0) (.slice none 0 0) (.int .i64 0)) := by unfold Hid; rw [hw3]; exact stA_start HB1.out HR1.out hb hwb hcell _ _
  obtain ⟨w4, hw4⟩ : ∃ w4, w4 = w2.alloc (.cells #[.int .i64 3, .slice none 0 0, .slice none 0 0, .int .i64 0] 24) := ⟨_, rfl⟩
  have HS4 : Hid (StA w w4 w2.heap.size wb [l0, l1, l2] (.int .i64 3) (.slice none 0 0) (.slice none 0 0) (.int .i64 0)) := by unfold Hid; rw [hw4]; exact stA_start HB1.out HR1.out hb hwb hcell _ _
  clear hb hcell hwb hcap
  have c0 : w3.cell? ⟨wb, 0, none⟩ = some (.string (strOf l0)) := HS3.out.word 0 (by simp)
  rw [hx] at c0
  have c1 : w4.cell? ⟨wb, 1, none⟩ = some (.string (strOf l1)) := HS4.out.word 1 (by simp)
  rw [hw3] at c0
  rw [hw4] at c1
  go_wp2_with fail
  rw [← hw4]
  clear hw4 hw3 c0 c1
  go_at_call 32
  refine (HRt.out l1 z1 w4).mono ?_
  rintro e w5 ⟨vv, rfl, hRd, ⟨ao1, n1, c1, rfl, hnew⟩, hb⟩
  rw [b1] at hRd
  rw [b1]
  have HS5 : Hid (StA w w5 w2.heap.size wb [l0, l1, l2] (.int .i64 3) (.slice none 0 0) (.slice none 0 0) (.int .i64 0)) := HS4.out.call hb
  have HV1 : Hid (Reads w5 (.slice ao1 n1 c1) (readN l1) ∧ NewV w4.heap.size (.slice ao1 n1 c1)) := ⟨hRd rfl, ⟨ao1, n1, c1, rfl, hnew⟩⟩
  have HK1 : Hid (w2.heap.size < w4.heap.size ∧ w.heap.size < w4.heap.size) := HS4.out.lts
  obtain ⟨w6, hw6⟩ : ∃ W, W = w5.setCell ⟨w2.heap.size, 1, none⟩ (.slice ao1 n1 c1) := ⟨_, rfl⟩
  have HS6 : Hid (StA w w6 w2.heap.size wb [l0, l1, l2] (.int .i64 3) (.slice ao1 n1 c1) (.slice none 0 0) (.int .i64 0)) := by unfold Hid; rw [hw6]; exact HS5.out.s1 _
  have HV2 : Hid (Reads w6 (.slice ao1 n1 c1) (readN l1)) := by unfold Hid; rw [hw6]; exact HV1.out.1.storeNew HV1.out.2 HK1.out.1
  have g1 := HS5.out.own.1.2.1
  have f1 := HS5.out.own.2.1 1
  have a0 := HS6.out.own.1.1
  have c2 : w6.cell? ⟨wb, 2, none⟩ = some (.string (strOf l2)) := HS6.out.word 2 (by simp)
  rw [hw6] at a0 c2
  clear hRd hb hnew
  have HV7 : Hid (Reads w6 (.slice ao1 n1 c1) (readN l1) ∧ Reads w6 (.slice none 0 0) []) := ⟨HV2.out, Or.inl ⟨none, 0, rfl, rfl⟩⟩
  clear c2
  have cn : w6.cell? ⟨wb, 2, none⟩ = some (.string (strOf l2)) := HS6.out.word 2 (by simp)
  rw [hw6] at cn
  go_wp2_with fail
  rw [← hw6]
  clear hw6 g1 f1 a0 cn
  go_at_call 33
  refine (HRn.out l2 z2 w6).mono ?_
  rintro e wx ⟨rfl, rfl⟩
  rw [bn]
  rw [← HN.out]
  obtain ⟨w7, hw7⟩ : ∃ W, W = w6.setCell ⟨w2.heap.size, 3, none⟩ (.int .i64 N) := ⟨_, rfl⟩
  have HS7 : Hid (StA w w7 w2.heap.size wb [l0, l1, l2] (.int .i64 3) (.slice ao1 n1 c1) (.slice none 0 0) (.int .i64 N)) := by unfold Hid; rw [hw7]; exact HS6.out.s3 _
  have HV8 : Hid (Reads w7 (.slice ao1 n1 c1) (readN l1) ∧ Reads w7 (.slice none 0 0) []) := by unfold Hid; rw [hw7]; exact ⟨HV7.out.1.storeNew HV1.out.2 HK1.out.1, Or.inl ⟨none, 0, rfl, rfl⟩⟩
  have g1 := HS6.out.own.1.2.2.2
  have f1 := HS6.out.own.2.1 3
  obtain ⟨⟨x0, x1, x2, x3⟩, _, _⟩ := HS7.out.own
  rw [hw7] at x0 x1 x2 x3
  go_wp2_with fail
  rw [← hw7]
  clear hw7 g1 f1 x0 x1 x2 x3
  go_at_call 5
  refine (HAt.out w7 _ _ HV8.out.1 HV8.out.2).mono ?_
  rintro e w8 ⟨rfl, hb⟩
  have HS8 : Hid (StA w w8 w2.heap.size wb [l0, l1, l2] (.int .i64 3) (.slice ao1 n1 c1) (.slice none 0 0) (.int .i64 N)) := HS7.out.call hb
  have HV9 : Hid (Reads w8 (.slice ao1 n1 c1) (readN l1) ∧ Reads w8 (.slice none 0 0) []) := ⟨HV8.out.1.below hb, HV8.out.2.below hb⟩
  clear hb
  obtain ⟨⟨r0, r1, r2, r3⟩, rf, _⟩ := HS8.out.res
  have p0 := rf 0
  have p1 := rf 1
  have p2 := rf 2
  have p3 := rf 3
  clear rf
  obtain ⟨⟨x0, x1, x2, x3⟩, _, _⟩ := HS8.out.own
  subst hF
  go_wp2_with fail
  have hA := HS8.out.res.all (.int .i64 3) (.slice ao1 n1 c1) (.slice none 0 0) (.int .i64 N)
  have hld := load_atom hA.1.1 hA.1.2.1 hA.1.2.2.1 hA.1.2.2.2
  refine bodyPost_ret (v := .tuple #[.agg #[.int .i64 3, .slice ao1 n1 c1, .slice none 0 0, .int .i64 N], .int .i64 0]) ?_ rfl ⟨⟨_, _, rfl, HV9.out.1.storeAll HV1.out.2 HK1.out.2, Or.inl ⟨none, 0, rfl, rfl⟩⟩, HS8.out.fin _ _ _ _⟩
  rw [results_cell_tmp rfl]
  simp [asAddr, Result.andThen, hld]
end Go.Proofs.YtenmheenieifpabGreatDoor

namespace Go.Proofs.YtenmheenieifpabGreatDoor
open Go.ChangeShapes Go.WideShapes Go.ChangeAt Go.RowKit
set_option maxRecDepth 100000

set_option linter.unusedVariables false in
set_option maxHeartbeats 4000000 in
theorem readAtom_4_s (s x : ByteArray) (l0 l1 l2 : List UInt8) (w : World) (hx : strOf l0 = x) (q1 : (x.toList == [115, 117, 98]) = false) (q2 : (x.toList == [115, 97, 109, 101]) = false) (q3 : (x.toList == [108, 101, 97, 115, 116]) = false) (q4 : (x.toList == [109, 111, 115, 116]) = true) (z1 : l1.length ≤ 1048576) (z2 : l2.length ≤ 1048576) (b1 : lettersB l1 = false)
    (hC : ∀ W, Below w.heap.size w W → Calls Tryz.prog 31 #[.string s, .int .u8 32] W fun e w' => ∃ v, e = .returned v ∧ ReadsS w' v [l0, l1, l2] ∧ Below W.heap.size W w') :
    Calls Tryz.prog 13 #[.string s] w fun e w' => e = .returned (.tuple #[.agg #[.int .i64 0, .slice none 0 0, .slice none 0 0, .int .i64 0], .int .i64 2]) ∧ Below w.heap.size w w' := by
  have HRt : Hid (∀ l : List UInt8, l.length ≤ 1048576 → ∀ W, Calls Tryz.prog 32 #[.string (strOf l)] W fun e w' => ∃ v, e = .returned (.tuple #[v, .bool (lettersB l)]) ∧ (lettersB l = true → Reads w' v (readN l)) ∧ NewV W.heap.size v ∧ Below W.heap.size W w') := fun l hl W => readTerm_word l hl W
  have HRn : Hid (∀ l : List UInt8, l.length ≤ 1048576 → ∀ W, Calls Tryz.prog 33 #[.string (strOf l)] W fun e w' => e = .returned (.tuple #[.int .i64 ((numOf l).getD 0), .bool (numOf l).isSome]) ∧ W = w') := fun l hl W => by
    have := readNumber_any (strOf l) (by rw [strOf_size]; omega) W
    rw [strOf_list] at this
    exact this
  obtain ⟨w1, hw1⟩ : ∃ w1, w1 = w.alloc (.cells #[.int .i64 0, .slice none 0 0, .slice none 0 0, .int .i64 0] 24) := ⟨_, rfl⟩
  have HB1 : Hid (Below w.heap.size w w1) := by unfold Hid; rw [hw1]; exact below_alloc1 w _
  have HR1 : Hid (OneA w1 w.heap.size (.int .i64 0) (.slice none 0 0) (.slice none 0 0) (.int .i64 0)) := by unfold Hid; rw [hw1]; exact oneA_alloc _ _ _ _ _ _
  have HC : Hid (Calls Tryz.prog 31 #[.string s, .int .u8 32] w1 fun e w' => ∃ v, e = .returned v ∧ ReadsS w' v [l0, l1, l2] ∧ Below w1.heap.size w1 w') := hC w1 HB1.out
  clear hC
  go_enter Tryz.func13, Tryz.ntmps13
  go_wp2_with fail
  rw [← hw1]
  clear hw1
  go_at_call 31
  refine HC.out.mono ?_
  rintro e w2 ⟨v, rfl, hR, hb⟩
  obtain ⟨wb, cap, rfl, hwb, hcap, hcell⟩ := hR
  obtain ⟨w3, hw3⟩ : ∃ w3, w3 = w2.alloc (.cells #[.int .i64 0, .slice none 0 0, .slice none 0 0, .int .i64 0] 24) := ⟨_, rfl⟩
  have HS3 : Hid (StA w w3 w2.heap.size wb [l0, l1, l2] (.int .i64 0) (.slice none 0 0) (.slice none 0 0) (.int .i64 0)) := by unfold Hid; rw [hw3]; exact stA_start HB1.out HR1.out hb hwb hcell _ _
  obtain ⟨w4, hw4⟩ : ∃ w4, w4 = w2.alloc (.cells #[.int .i64 4, .slice none 0 0, .slice none 0 0, .int .i64 0] 24) := ⟨_, rfl⟩
  have HS4 : Hid (StA w w4 w2.heap.size wb [l0, l1, l2] (.int .i64 4) (.slice none 0 0) (.slice none 0 0) (.int .i64 0)) := by unfold Hid; rw [hw4]; exact stA_start HB1.out HR1.out hb hwb hcell _ _
  clear hb hcell hwb hcap
  have c0 : w3.cell? ⟨wb, 0, none⟩ = some (.string (strOf l0)) := HS3.out.word 0 (by simp)
  rw [hx] at c0
  have c1 : w4.cell? ⟨wb, 1, none⟩ = some (.string (strOf l1)) := HS4.out.word 1 (by simp)
  rw [hw3] at c0
  rw [hw4] at c1
  go_wp2_with fail
  rw [← hw4]
  clear hw4 hw3 c0 c1
  go_at_call 32
  refine (HRt.out l1 z1 w4).mono ?_
  rintro e w5 ⟨vv, rfl, hRd, ⟨ao1, n1, c1, rfl, hnew⟩, hb⟩
  rw [b1] at hRd
  rw [b1]
  have HS5 : Hid (StA w w5 w2.heap.size wb [l0, l1, l2] (.int .i64 4) (.slice none 0 0) (.slice none 0 0) (.int .i64 0)) := HS4.out.call hb
  clear hRd hb hnew
  obtain ⟨⟨r0, r1, r2, r3⟩, rf, _⟩ := HS5.out.res
  have p0 := rf 0
  have p1 := rf 1
  have p2 := rf 2
  have p3 := rf 3
  clear rf
  go_wp2_with fail
  have hA := HS5.out.res.all (.int .i64 0) (.slice none 0 0) (.slice none 0 0) (.int .i64 0)
  have hld := load_atom hA.1.1 hA.1.2.1 hA.1.2.2.1 hA.1.2.2.2
  refine bodyPost_ret (v := .tuple #[.agg #[.int .i64 0, .slice none 0 0, .slice none 0 0, .int .i64 0], .int .i64 2]) ?_ rfl ⟨rfl, HS5.out.fin _ _ _ _⟩
  rw [results_cell_tmp rfl]
  simp [asAddr, Result.andThen, hld]

set_option linter.unusedVariables false in
set_option maxHeartbeats 4000000 in
theorem readAtom_4_n (s x : ByteArray) (l0 l1 l2 : List UInt8) (w : World) (hx : strOf l0 = x) (q1 : (x.toList == [115, 117, 98]) = false) (q2 : (x.toList == [115, 97, 109, 101]) = false) (q3 : (x.toList == [108, 101, 97, 115, 116]) = false) (q4 : (x.toList == [109, 111, 115, 116]) = true) (z1 : l1.length ≤ 1048576) (z2 : l2.length ≤ 1048576) (b1 : lettersB l1 = true) (bn : (numOf l2).isSome = false)
    (hC : ∀ W, Below w.heap.size w W → Calls Tryz.prog 31 #[.string s, .int .u8 32] W fun e w' => ∃ v, e = .returned v ∧ ReadsS w' v [l0, l1, l2] ∧ Below W.heap.size W w') :
    Calls Tryz.prog 13 #[.string s] w fun e w' => e = .returned (.tuple #[.agg #[.int .i64 0, .slice none 0 0, .slice none 0 0, .int .i64 0], .int .i64 2]) ∧ Below w.heap.size w w' := by
  have HRt : Hid (∀ l : List UInt8, l.length ≤ 1048576 → ∀ W, Calls Tryz.prog 32 #[.string (strOf l)] W fun e w' => ∃ v, e = .returned (.tuple #[v, .bool (lettersB l)]) ∧ (lettersB l = true → Reads w' v (readN l)) ∧ NewV W.heap.size v ∧ Below W.heap.size W w') := fun l hl W => readTerm_word l hl W
  have HRn : Hid (∀ l : List UInt8, l.length ≤ 1048576 → ∀ W, Calls Tryz.prog 33 #[.string (strOf l)] W fun e w' => e = .returned (.tuple #[.int .i64 ((numOf l).getD 0), .bool (numOf l).isSome]) ∧ W = w') := fun l hl W => by
    have := readNumber_any (strOf l) (by rw [strOf_size]; omega) W
    rw [strOf_list] at this
    exact this
  obtain ⟨w1, hw1⟩ : ∃ w1, w1 = w.alloc (.cells #[.int .i64 0, .slice none 0 0, .slice none 0 0, .int .i64 0] 24) := ⟨_, rfl⟩
  have HB1 : Hid (Below w.heap.size w w1) := by unfold Hid; rw [hw1]; exact below_alloc1 w _
  have HR1 : Hid (OneA w1 w.heap.size (.int .i64 0) (.slice none 0 0) (.slice none 0 0) (.int .i64 0)) := by unfold Hid; rw [hw1]; exact oneA_alloc _ _ _ _ _ _
  have HC : Hid (Calls Tryz.prog 31 #[.string s, .int .u8 32] w1 fun e w' => ∃ v, e = .returned v ∧ ReadsS w' v [l0, l1, l2] ∧ Below w1.heap.size w1 w') := hC w1 HB1.out
  clear hC
  go_enter Tryz.func13, Tryz.ntmps13
  go_wp2_with fail
  rw [← hw1]
  clear hw1
  go_at_call 31
  refine HC.out.mono ?_
  rintro e w2 ⟨v, rfl, hR, hb⟩
  obtain ⟨wb, cap, rfl, hwb, hcap, hcell⟩ := hR
  obtain ⟨w3, hw3⟩ : ∃ w3, w3 = w2.alloc (.cells #[.int .i64 0, .slice none 0 0, .slice none 0 0, .int .i64 0] 24) := ⟨_, rfl⟩
  have HS3 : Hid (StA w w3 w2.heap.size wb [l0, l1, l2] (.int .i64 0) (.slice none 0 0) (.slice none 0 0) (.int .i64 0)) := by unfold Hid; rw [hw3]; exact stA_start HB1.out HR1.out hb hwb hcell _ _
  obtain ⟨w4, hw4⟩ : ∃ w4, w4 = w2.alloc (.cells #[.int .i64 4, .slice none 0 0, .slice none 0 0, .int .i64 0] 24) := ⟨_, rfl⟩
  have HS4 : Hid (StA w w4 w2.heap.size wb [l0, l1, l2] (.int .i64 4) (.slice none 0 0) (.slice none 0 0) (.int .i64 0)) := by unfold Hid; rw [hw4]; exact stA_start HB1.out HR1.out hb hwb hcell _ _
  clear hb hcell hwb hcap
  have c0 : w3.cell? ⟨wb, 0, none⟩ = some (.string (strOf l0)) := HS3.out.word 0 (by simp)
  rw [hx] at c0
  have c1 : w4.cell? ⟨wb, 1, none⟩ = some (.string (strOf l1)) := HS4.out.word 1 (by simp)
  rw [hw3] at c0
  rw [hw4] at c1
  go_wp2_with fail
  rw [← hw4]
  clear hw4 hw3 c0 c1
  go_at_call 32
  refine (HRt.out l1 z1 w4).mono ?_
  rintro e w5 ⟨vv, rfl, hRd, ⟨ao1, n1, c1, rfl, hnew⟩, hb⟩
  rw [b1] at hRd
  rw [b1]
  have HS5 : Hid (StA w w5 w2.heap.size wb [l0, l1, l2] (.int .i64 4) (.slice none 0 0) (.slice none 0 0) (.int .i64 0)) := HS4.out.call hb
  have HV1 : Hid (Reads w5 (.slice ao1 n1 c1) (readN l1) ∧ NewV w4.heap.size (.slice ao1 n1 c1)) := ⟨hRd rfl, ⟨ao1, n1, c1, rfl, hnew⟩⟩
  have HK1 : Hid (w2.heap.size < w4.heap.size ∧ w.heap.size < w4.heap.size) := HS4.out.lts
  obtain ⟨w6, hw6⟩ : ∃ W, W = w5.setCell ⟨w2.heap.size, 1, none⟩ (.slice ao1 n1 c1) := ⟨_, rfl⟩
  have HS6 : Hid (StA w w6 w2.heap.size wb [l0, l1, l2] (.int .i64 4) (.slice ao1 n1 c1) (.slice none 0 0) (.int .i64 0)) := by unfold Hid; rw [hw6]; exact HS5.out.s1 _
  have HV2 : Hid (Reads w6 (.slice ao1 n1 c1) (readN l1)) := by unfold Hid; rw [hw6]; exact HV1.out.1.storeNew HV1.out.2 HK1.out.1
  have g1 := HS5.out.own.1.2.1
  have f1 := HS5.out.own.2.1 1
  have a0 := HS6.out.own.1.1
  have c2 : w6.cell? ⟨wb, 2, none⟩ = some (.string (strOf l2)) := HS6.out.word 2 (by simp)
  rw [hw6] at a0 c2
  clear hRd hb hnew
  have HV7 : Hid (Reads w6 (.slice ao1 n1 c1) (readN l1) ∧ Reads w6 (.slice none 0 0) []) := ⟨HV2.out, Or.inl ⟨none, 0, rfl, rfl⟩⟩
  clear c2
  have cn : w6.cell? ⟨wb, 2, none⟩ = some (.string (strOf l2)) := HS6.out.word 2 (by simp)
  rw [hw6] at cn
  go_wp2_with fail
  rw [← hw6]
  clear hw6 g1 f1 a0 cn
  go_at_call 33
  refine (HRn.out l2 z2 w6).mono ?_
  rintro e wx ⟨rfl, rfl⟩
  rw [bn]
  obtain ⟨⟨r0, r1, r2, r3⟩, rf, _⟩ := HS6.out.res
  have p0 := rf 0
  have p1 := rf 1
  have p2 := rf 2
  have p3 := rf 3
  clear rf
  go_wp2_with fail
  have hA := HS6.out.res.all (.int .i64 0) (.slice none 0 0) (.slice none 0 0) (.int .i64 0)
  have hld := load_atom hA.1.1 hA.1.2.1 hA.1.2.2.1 hA.1.2.2.2
  refine bodyPost_ret (v := .tuple #[.agg #[.int .i64 0, .slice none 0 0, .slice none 0 0, .int .i64 0], .int .i64 2]) ?_ rfl ⟨rfl, HS6.out.fin _ _ _ _⟩
  rw [results_cell_tmp rfl]
  simp [asAddr, Result.andThen, hld]

set_option linter.unusedVariables false in
set_option maxHeartbeats 4000000 in
theorem readAtom_4_f (s x : ByteArray) (l0 l1 l2 : List UInt8) (w : World) (hx : strOf l0 = x) (q1 : (x.toList == [115, 117, 98]) = false) (q2 : (x.toList == [115, 97, 109, 101]) = false) (q3 : (x.toList == [108, 101, 97, 115, 116]) = false) (q4 : (x.toList == [109, 111, 115, 116]) = true) (z1 : l1.length ≤ 1048576) (z2 : l2.length ≤ 1048576) (b1 : lettersB l1 = true) (bn : (numOf l2).isSome = true) (hF : ¬ (atomFault 4 (readN l1) [] ((numOf l2).getD 0)) = 0)
    (hC : ∀ W, Below w.heap.size w W → Calls Tryz.prog 31 #[.string s, .int .u8 32] W fun e w' => ∃ v, e = .returned v ∧ ReadsS w' v [l0, l1, l2] ∧ Below W.heap.size W w') :
    Calls Tryz.prog 13 #[.string s] w fun e w' => e = .returned (.tuple #[.agg #[.int .i64 0, .slice none 0 0, .slice none 0 0, .int .i64 0], .int .i64 (atomFault 4 (readN l1) [] ((numOf l2).getD 0))]) ∧ Below w.heap.size w w' := by
  have HRt : Hid (∀ l : List UInt8, l.length ≤ 1048576 → ∀ W, Calls Tryz.prog 32 #[.string (strOf l)] W fun e w' => ∃ v, e = .returned (.tuple #[v, .bool (lettersB l)]) ∧ (lettersB l = true → Reads w' v (readN l)) ∧ NewV W.heap.size v ∧ Below W.heap.size W w') := fun l hl W => readTerm_word l hl W
  have HRn : Hid (∀ l : List UInt8, l.length ≤ 1048576 → ∀ W, Calls Tryz.prog 33 #[.string (strOf l)] W fun e w' => e = .returned (.tuple #[.int .i64 ((numOf l).getD 0), .bool (numOf l).isSome]) ∧ W = w') := fun l hl W => by
    have := readNumber_any (strOf l) (by rw [strOf_size]; omega) W
    rw [strOf_list] at this
    exact this
  obtain ⟨N, hN⟩ : ∃ N, N = (numOf l2).getD 0 := ⟨_, rfl⟩
  rw [← hN] at hF ⊢
  have HN : Hid (N = (numOf l2).getD 0) := hN
  clear hN
  obtain ⟨F, hFF⟩ : ∃ F, F = (atomFault 4 (readN l1) [] N) := ⟨_, rfl⟩
  have HAt : Hid (∀ W vs vt, Reads W vs (readN l1) → Reads W vt [] → Calls Tryz.prog 5 #[.agg #[.int .i64 4, vs, vt, .int .i64 N]] W fun e w' => e = .returned (.int .i64 F) ∧ Below W.heap.size W w') := fun W vs vt h1 h2 => by
    rw [hFF]
    exact refAtom_any 4 N vs vt _ _ W h1 h2
  rw [← hFF] at hF
  rw [← hFF]
  clear hFF
  obtain ⟨w1, hw1⟩ : ∃ w1, w1 = w.alloc (.cells #[.int .i64 0, .slice none 0 0, .slice none 0 0, .int .i64 0] 24) := ⟨_, rfl⟩
  have HB1 : Hid (Below w.heap.size w w1) := by unfold Hid; rw [hw1]; exact below_alloc1 w _
  have HR1 : Hid (OneA w1 w.heap.size (.int .i64 0) (.slice none 0 0) (.slice none 0 0) (.int .i64 0)) := by unfold Hid; rw [hw1]; exact oneA_alloc _ _ _ _ _ _
  have HC : Hid (Calls Tryz.prog 31 #[.string s, .int .u8 32] w1 fun e w' => ∃ v, e = .returned v ∧ ReadsS w' v [l0, l1, l2] ∧ Below w1.heap.size w1 w') := hC w1 HB1.out
  clear hC
  go_enter Tryz.func13, Tryz.ntmps13
  go_wp2_with fail
  rw [← hw1]
  clear hw1
  go_at_call 31
  refine HC.out.mono ?_
  rintro e w2 ⟨v, rfl, hR, hb⟩
  obtain ⟨wb, cap, rfl, hwb, hcap, hcell⟩ := hR
  obtain ⟨w3, hw3⟩ : ∃ w3, w3 = w2.alloc (.cells #[.int .i64 0, .slice none 0 0, .slice none 0 0, .int .i64 0] 24) := ⟨_, rfl⟩
  have HS3 : Hid (StA w w3 w2.heap.size wb [l0, l1, l2] (.int .i64 0) (.slice none 0 0) (.slice none 0 0) (.int .i64 0)) := by unfold Hid; rw [hw3]; exact stA_start HB1.out HR1.out hb hwb hcell _ _
  obtain ⟨w4, hw4⟩ : ∃ w4, w4 = w2.alloc (.cells #[.int .i64 4, .slice none 0 0, .slice none 0 0, .int .i64 0] 24) := ⟨_, rfl⟩
  have HS4 : Hid (StA w w4 w2.heap.size wb [l0, l1, l2] (.int .i64 4) (.slice none 0 0) (.slice none 0 0) (.int .i64 0)) := by unfold Hid; rw [hw4]; exact stA_start HB1.out HR1.out hb hwb hcell _ _
  clear hb hcell hwb hcap
  have c0 : w3.cell? ⟨wb, 0, none⟩ = some (.string (strOf l0)) := HS3.out.word 0 (by simp)
  rw [hx] at c0
  have c1 : w4.cell? ⟨wb, 1, none⟩ = some (.string (strOf l1)) := HS4.out.word 1 (by simp)
  rw [hw3] at c0
  rw [hw4] at c1
  go_wp2_with fail
  rw [← hw4]
  clear hw4 hw3 c0 c1
  go_at_call 32
  refine (HRt.out l1 z1 w4).mono ?_
  rintro e w5 ⟨vv, rfl, hRd, ⟨ao1, n1, c1, rfl, hnew⟩, hb⟩
  rw [b1] at hRd
  rw [b1]
  have HS5 : Hid (StA w w5 w2.heap.size wb [l0, l1, l2] (.int .i64 4) (.slice none 0 0) (.slice none 0 0) (.int .i64 0)) := HS4.out.call hb
  have HV1 : Hid (Reads w5 (.slice ao1 n1 c1) (readN l1) ∧ NewV w4.heap.size (.slice ao1 n1 c1)) := ⟨hRd rfl, ⟨ao1, n1, c1, rfl, hnew⟩⟩
  have HK1 : Hid (w2.heap.size < w4.heap.size ∧ w.heap.size < w4.heap.size) := HS4.out.lts
  obtain ⟨w6, hw6⟩ : ∃ W, W = w5.setCell ⟨w2.heap.size, 1, none⟩ (.slice ao1 n1 c1) := ⟨_, rfl⟩
  have HS6 : Hid (StA w w6 w2.heap.size wb [l0, l1, l2] (.int .i64 4) (.slice ao1 n1 c1) (.slice none 0 0) (.int .i64 0)) := by unfold Hid; rw [hw6]; exact HS5.out.s1 _
  have HV2 : Hid (Reads w6 (.slice ao1 n1 c1) (readN l1)) := by unfold Hid; rw [hw6]; exact HV1.out.1.storeNew HV1.out.2 HK1.out.1
  have g1 := HS5.out.own.1.2.1
  have f1 := HS5.out.own.2.1 1
  have a0 := HS6.out.own.1.1
  have c2 : w6.cell? ⟨wb, 2, none⟩ = some (.string (strOf l2)) := HS6.out.word 2 (by simp)
  rw [hw6] at a0 c2
  clear hRd hb hnew
  have HV7 : Hid (Reads w6 (.slice ao1 n1 c1) (readN l1) ∧ Reads w6 (.slice none 0 0) []) := ⟨HV2.out, Or.inl ⟨none, 0, rfl, rfl⟩⟩
  clear c2
  have cn : w6.cell? ⟨wb, 2, none⟩ = some (.string (strOf l2)) := HS6.out.word 2 (by simp)
  rw [hw6] at cn
  go_wp2_with fail
  rw [← hw6]
  clear hw6 g1 f1 a0 cn
  go_at_call 33
  refine (HRn.out l2 z2 w6).mono ?_
  rintro e wx ⟨rfl, rfl⟩
  rw [bn]
  rw [← HN.out]
  obtain ⟨w7, hw7⟩ : ∃ W, W = w6.setCell ⟨w2.heap.size, 3, none⟩ (.int .i64 N) := ⟨_, rfl⟩
  have HS7 : Hid (StA w w7 w2.heap.size wb [l0, l1, l2] (.int .i64 4) (.slice ao1 n1 c1) (.slice none 0 0) (.int .i64 N)) := by unfold Hid; rw [hw7]; exact HS6.out.s3 _
  have HV8 : Hid (Reads w7 (.slice ao1 n1 c1) (readN l1) ∧ Reads w7 (.slice none 0 0) []) := by unfold Hid; rw [hw7]; exact ⟨HV7.out.1.storeNew HV1.out.2 HK1.out.1, Or.inl ⟨none, 0, rfl, rfl⟩⟩
  have g1 := HS6.out.own.1.2.2.2
  have f1 := HS6.out.own.2.1 3
  obtain ⟨⟨x0, x1, x2, x3⟩, _, _⟩ := HS7.out.own
  rw [hw7] at x0 x1 x2 x3
  go_wp2_with fail
  rw [← hw7]
  clear hw7 g1 f1 x0 x1 x2 x3
  go_at_call 5
  refine (HAt.out w7 _ _ HV8.out.1 HV8.out.2).mono ?_
  rintro e w8 ⟨rfl, hb⟩
  have HS8 : Hid (StA w w8 w2.heap.size wb [l0, l1, l2] (.int .i64 4) (.slice ao1 n1 c1) (.slice none 0 0) (.int .i64 N)) := HS7.out.call hb
  have HV9 : Hid (Reads w8 (.slice ao1 n1 c1) (readN l1) ∧ Reads w8 (.slice none 0 0) []) := ⟨HV8.out.1.below hb, HV8.out.2.below hb⟩
  clear hb
  obtain ⟨⟨r0, r1, r2, r3⟩, rf, _⟩ := HS8.out.res
  have p0 := rf 0
  have p1 := rf 1
  have p2 := rf 2
  have p3 := rf 3
  clear rf
  have hF' : (F != 0) = true := by simpa using hF
  go_wp2_with fail
  have hA := HS8.out.res.all (.int .i64 0) (.slice none 0 0) (.slice none 0 0) (.int .i64 0)
  have hld := load_atom hA.1.1 hA.1.2.1 hA.1.2.2.1 hA.1.2.2.2
  refine bodyPost_ret (v := .tuple #[.agg #[.int .i64 0, .slice none 0 0, .slice none 0 0, .int .i64 0], .int .i64 F]) ?_ rfl ⟨rfl, HS8.out.fin _ _ _ _⟩
  rw [results_cell_tmp rfl]
  simp [asAddr, Result.andThen, hld]

set_option linter.unusedVariables false in
set_option maxHeartbeats 4000000 in
theorem readAtom_4_g (s x : ByteArray) (l0 l1 l2 : List UInt8) (w : World) (hx : strOf l0 = x) (q1 : (x.toList == [115, 117, 98]) = false) (q2 : (x.toList == [115, 97, 109, 101]) = false) (q3 : (x.toList == [108, 101, 97, 115, 116]) = false) (q4 : (x.toList == [109, 111, 115, 116]) = true) (z1 : l1.length ≤ 1048576) (z2 : l2.length ≤ 1048576) (b1 : lettersB l1 = true) (bn : (numOf l2).isSome = true) (hF : (atomFault 4 (readN l1) [] ((numOf l2).getD 0)) = 0)
    (hC : ∀ W, Below w.heap.size w W → Calls Tryz.prog 31 #[.string s, .int .u8 32] W fun e w' => ∃ v, e = .returned v ∧ ReadsS w' v [l0, l1, l2] ∧ Below W.heap.size W w') :
    Calls Tryz.prog 13 #[.string s] w fun e w' => (∃ v0 v1, e = .returned (.tuple #[.agg #[.int .i64 4, v0, v1, .int .i64 ((numOf l2).getD 0)], .int .i64 0]) ∧ Reads w' v0 (readN l1) ∧ Reads w' v1 []) ∧ Below w.heap.size w w' := by
  have HRt : Hid (∀ l : List UInt8, l.length ≤ 1048576 → ∀ W, Calls Tryz.prog 32 #[.string (strOf l)] W fun e w' => ∃ v, e = .returned (.tuple #[v, .bool (lettersB l)]) ∧ (lettersB l = true → Reads w' v (readN l)) ∧ NewV W.heap.size v ∧ Below W.heap.size W w') := fun l hl W => readTerm_word l hl W
  have HRn : Hid (∀ l : List UInt8, l.length ≤ 1048576 → ∀ W, Calls Tryz.prog 33 #[.string (strOf l)] W fun e w' => e = .returned (.tuple #[.int .i64 ((numOf l).getD 0), .bool (numOf l).isSome]) ∧ W = w') := fun l hl W => by
    have := readNumber_any (strOf l) (by rw [strOf_size]; omega) W
    rw [strOf_list] at this
    exact this
  obtain ⟨N, hN⟩ : ∃ N, N = (numOf l2).getD 0 := ⟨_, rfl⟩
  rw [← hN] at hF ⊢
  have HN : Hid (N = (numOf l2).getD 0) := hN
  clear hN
  obtain ⟨F, hFF⟩ : ∃ F, F = (atomFault 4 (readN l1) [] N) := ⟨_, rfl⟩
  have HAt : Hid (∀ W vs vt, Reads W vs (readN l1) → Reads W vt [] → Calls Tryz.prog 5 #[.agg #[.int .i64 4, vs, vt, .int .i64 N]] W fun e w' => e = .returned (.int .i64 F) ∧ Below W.heap.size W w') := fun W vs vt h1 h2 => by
    rw [hFF]
    exact refAtom_any 4 N vs vt _ _ W h1 h2
  rw [← hFF] at hF
  clear hFF
  obtain ⟨w1, hw1⟩ : ∃ w1, w1 = w.alloc (.cells #[.int .i64 0, .slice none 0 0, .slice none 0 0, .int .i64 0] 24) := ⟨_, rfl⟩
  have HB1 : Hid (Below w.heap.size w w1) := by unfold Hid; rw [hw1]; exact below_alloc1 w _
  have HR1 : Hid (OneA w1 w.heap.size (.int .i64 0) (.slice none 0 0) (.slice none 0 0) (.int .i64 0)) := by unfold Hid; rw [hw1]; exact oneA_alloc _ _ _ _ _ _
  have HC : Hid (Calls Tryz.prog 31 #[.string s, .int .u8 32] w1 fun e w' => ∃ v, e = .returned v ∧ ReadsS w' v [l0, l1, l2] ∧ Below w1.heap.size w1 w') := hC w1 HB1.out
  clear hC
  go_enter Tryz.func13, Tryz.ntmps13
  go_wp2_with fail
  rw [← hw1]
  clear hw1
  go_at_call 31
  refine HC.out.mono ?_
  rintro e w2 ⟨v, rfl, hR, hb⟩
  obtain ⟨wb, cap, rfl, hwb, hcap, hcell⟩ := hR
  obtain ⟨w3, hw3⟩ : ∃ w3, w3 = w2.alloc (.cells #[.int .i64 0, .slice none 0 0, .slice none 0 0, .int .i64 0] 24) := ⟨_, rfl⟩
  have HS3 : Hid (StA w w3 w2.heap.size wb [l0, l1, l2] (.int .i64 0) (.slice none 0 0) (.slice none 0 0) (.int .i64 0)) := by unfold Hid; rw [hw3]; exact stA_start HB1.out HR1.out hb hwb hcell _ _
  obtain ⟨w4, hw4⟩ : ∃ w4, w4 = w2.alloc (.cells #[.int .i64 4, .slice none 0 0, .slice none 0 0, .int .i64 0] 24) := ⟨_, rfl⟩
  have HS4 : Hid (StA w w4 w2.heap.size wb [l0, l1, l2] (.int .i64 4) (.slice none 0 0) (.slice none 0 0) (.int .i64 0)) := by unfold Hid; rw [hw4]; exact stA_start HB1.out HR1.out hb hwb hcell _ _
  clear hb hcell hwb hcap
  have c0 : w3.cell? ⟨wb, 0, none⟩ = some (.string (strOf l0)) := HS3.out.word 0 (by simp)
  rw [hx] at c0
  have c1 : w4.cell? ⟨wb, 1, none⟩ = some (.string (strOf l1)) := HS4.out.word 1 (by simp)
  rw [hw3] at c0
  rw [hw4] at c1
  go_wp2_with fail
  rw [← hw4]
  clear hw4 hw3 c0 c1
  go_at_call 32
  refine (HRt.out l1 z1 w4).mono ?_
  rintro e w5 ⟨vv, rfl, hRd, ⟨ao1, n1, c1, rfl, hnew⟩, hb⟩
  rw [b1] at hRd
  rw [b1]
  have HS5 : Hid (StA w w5 w2.heap.size wb [l0, l1, l2] (.int .i64 4) (.slice none 0 0) (.slice none 0 0) (.int .i64 0)) := HS4.out.call hb
  have HV1 : Hid (Reads w5 (.slice ao1 n1 c1) (readN l1) ∧ NewV w4.heap.size (.slice ao1 n1 c1)) := ⟨hRd rfl, ⟨ao1, n1, c1, rfl, hnew⟩⟩
  have HK1 : Hid (w2.heap.size < w4.heap.size ∧ w.heap.size < w4.heap.size) := HS4.out.lts
  obtain ⟨w6, hw6⟩ : ∃ W, W = w5.setCell ⟨w2.heap.size, 1, none⟩ (.slice ao1 n1 c1) := ⟨_, rfl⟩
  have HS6 : Hid (StA w w6 w2.heap.size wb [l0, l1, l2] (.int .i64 4) (.slice ao1 n1 c1) (.slice none 0 0) (.int .i64 0)) := by unfold Hid; rw [hw6]; exact HS5.out.s1 _
  have HV2 : Hid (Reads w6 (.slice ao1 n1 c1) (readN l1)) := by unfold Hid; rw [hw6]; exact HV1.out.1.storeNew HV1.out.2 HK1.out.1
  have g1 := HS5.out.own.1.2.1
  have f1 := HS5.out.own.2.1 1
  have a0 := HS6.out.own.1.1
  have c2 : w6.cell? ⟨wb, 2, none⟩ = some (.string (strOf l2)) := HS6.out.word 2 (by simp)
  rw [hw6] at a0 c2
  clear hRd hb hnew
  have HV7 : Hid (Reads w6 (.slice ao1 n1 c1) (readN l1) ∧ Reads w6 (.slice none 0 0) []) := ⟨HV2.out, Or.inl ⟨none, 0, rfl, rfl⟩⟩
  clear c2
  have cn : w6.cell? ⟨wb, 2, none⟩ = some (.string (strOf l2)) := HS6.out.word 2 (by simp)
  rw [hw6] at cn
  go_wp2_with fail
  rw [← hw6]
  clear hw6 g1 f1 a0 cn
  go_at_call 33
  refine (HRn.out l2 z2 w6).mono ?_
  rintro e wx ⟨rfl, rfl⟩
  rw [bn]
  rw [← HN.out]
  obtain ⟨w7, hw7⟩ : ∃ W, W = w6.setCell ⟨w2.heap.size, 3, none⟩ (.int .i64 N) := ⟨_, rfl⟩
  have HS7 : Hid (StA w w7 w2.heap.size wb [l0, l1, l2] (.int .i64 4) (.slice ao1 n1 c1) (.slice none 0 0) (.int .i64 N)) := by unfold Hid; rw [hw7]; exact HS6.out.s3 _
  have HV8 : Hid (Reads w7 (.slice ao1 n1 c1) (readN l1) ∧ Reads w7 (.slice none 0 0) []) := by unfold Hid; rw [hw7]; exact ⟨HV7.out.1.storeNew HV1.out.2 HK1.out.1, Or.inl ⟨none, 0, rfl, rfl⟩⟩
  have g1 := HS6.out.own.1.2.2.2
  have f1 := HS6.out.own.2.1 3
  obtain ⟨⟨x0, x1, x2, x3⟩, _, _⟩ := HS7.out.own
  rw [hw7] at x0 x1 x2 x3
  go_wp2_with fail
  rw [← hw7]
  clear hw7 g1 f1 x0 x1 x2 x3
  go_at_call 5
  refine (HAt.out w7 _ _ HV8.out.1 HV8.out.2).mono ?_
  rintro e w8 ⟨rfl, hb⟩
  have HS8 : Hid (StA w w8 w2.heap.size wb [l0, l1, l2] (.int .i64 4) (.slice ao1 n1 c1) (.slice none 0 0) (.int .i64 N)) := HS7.out.call hb
  have HV9 : Hid (Reads w8 (.slice ao1 n1 c1) (readN l1) ∧ Reads w8 (.slice none 0 0) []) := ⟨HV8.out.1.below hb, HV8.out.2.below hb⟩
  clear hb
  obtain ⟨⟨r0, r1, r2, r3⟩, rf, _⟩ := HS8.out.res
  have p0 := rf 0
  have p1 := rf 1
  have p2 := rf 2
  have p3 := rf 3
  clear rf
  obtain ⟨⟨x0, x1, x2, x3⟩, _, _⟩ := HS8.out.own
  subst hF
  go_wp2_with fail
  have hA := HS8.out.res.all (.int .i64 4) (.slice ao1 n1 c1) (.slice none 0 0) (.int .i64 N)
  have hld := load_atom hA.1.1 hA.1.2.1 hA.1.2.2.1 hA.1.2.2.2
  refine bodyPost_ret (v := .tuple #[.agg #[.int .i64 4, .slice ao1 n1 c1, .slice none 0 0, .int .i64 N], .int .i64 0]) ?_ rfl ⟨⟨_, _, rfl, HV9.out.1.storeAll HV1.out.2 HK1.out.2, Or.inl ⟨none, 0, rfl, rfl⟩⟩, HS8.out.fin _ _ _ _⟩
  rw [results_cell_tmp rfl]
  simp [asAddr, Result.andThen, hld]
end Go.Proofs.YtenmheenieifpabGreatDoor

namespace Go.Proofs.YtenmheenieifpabGreatDoor
open Go.ChangeShapes Go.WideShapes Go.ChangeAt Go.RowKit
set_option maxRecDepth 100000

set_option linter.unusedVariables false in
set_option maxHeartbeats 4000000 in
theorem readAtom_5_s (s x : ByteArray) (l0 l1 l2 l3 : List UInt8) (w : World) (hx : strOf l0 = x) (q1 : (x.toList == [115, 117, 98]) = false) (q2 : (x.toList == [115, 97, 109, 101]) = false) (q3 : (x.toList == [108, 101, 97, 115, 116]) = false) (q4 : (x.toList == [109, 111, 115, 116]) = false) (q5 : (x.toList == [110, 111, 109, 111, 114, 101]) = true) (z1 : l1.length ≤ 1048576) (z2 : l2.length ≤ 1048576) (z3 : l3.length ≤ 1048576) (b1 : lettersB l1 = false)
    (hC : ∀ W, Below w.heap.size w W → Calls Tryz.prog 31 #[.string s, .int .u8 32] W fun e w' => ∃ v, e = .returned v ∧ ReadsS w' v [l0, l1, l2, l3] ∧ Below W.heap.size W w') :
    Calls Tryz.prog 13 #[.string s] w fun e w' => e = .returned (.tuple #[.agg #[.int .i64 0, .slice none 0 0, .slice none 0 0, .int .i64 0], .int .i64 2]) ∧ Below w.heap.size w w' := by
  have HRt : Hid (∀ l : List UInt8, l.length ≤ 1048576 → ∀ W, Calls Tryz.prog 32 #[.string (strOf l)] W fun e w' => ∃ v, e = .returned (.tuple #[v, .bool (lettersB l)]) ∧ (lettersB l = true → Reads w' v (readN l)) ∧ NewV W.heap.size v ∧ Below W.heap.size W w') := fun l hl W => readTerm_word l hl W
  have HRn : Hid (∀ l : List UInt8, l.length ≤ 1048576 → ∀ W, Calls Tryz.prog 33 #[.string (strOf l)] W fun e w' => e = .returned (.tuple #[.int .i64 ((numOf l).getD 0), .bool (numOf l).isSome]) ∧ W = w') := fun l hl W => by
    have := readNumber_any (strOf l) (by rw [strOf_size]; omega) W
    rw [strOf_list] at this
    exact this
  obtain ⟨w1, hw1⟩ : ∃ w1, w1 = w.alloc (.cells #[.int .i64 0, .slice none 0 0, .slice none 0 0, .int .i64 0] 24) := ⟨_, rfl⟩
  have HB1 : Hid (Below w.heap.size w w1) := by unfold Hid; rw [hw1]; exact below_alloc1 w _
  have HR1 : Hid (OneA w1 w.heap.size (.int .i64 0) (.slice none 0 0) (.slice none 0 0) (.int .i64 0)) := by unfold Hid; rw [hw1]; exact oneA_alloc _ _ _ _ _ _
  have HC : Hid (Calls Tryz.prog 31 #[.string s, .int .u8 32] w1 fun e w' => ∃ v, e = .returned v ∧ ReadsS w' v [l0, l1, l2, l3] ∧ Below w1.heap.size w1 w') := hC w1 HB1.out
  clear hC
  go_enter Tryz.func13, Tryz.ntmps13
  go_wp2_with fail
  rw [← hw1]
  clear hw1
  go_at_call 31
  refine HC.out.mono ?_
  rintro e w2 ⟨v, rfl, hR, hb⟩
  obtain ⟨wb, cap, rfl, hwb, hcap, hcell⟩ := hR
  obtain ⟨w3, hw3⟩ : ∃ w3, w3 = w2.alloc (.cells #[.int .i64 0, .slice none 0 0, .slice none 0 0, .int .i64 0] 24) := ⟨_, rfl⟩
  have HS3 : Hid (StA w w3 w2.heap.size wb [l0, l1, l2, l3] (.int .i64 0) (.slice none 0 0) (.slice none 0 0) (.int .i64 0)) := by unfold Hid; rw [hw3]; exact stA_start HB1.out HR1.out hb hwb hcell _ _
  obtain ⟨w4, hw4⟩ : ∃ w4, w4 = w2.alloc (.cells #[.int .i64 5, .slice none 0 0, .slice none 0 0, .int .i64 0] 24) := ⟨_, rfl⟩
  have HS4 : Hid (StA w w4 w2.heap.size wb [l0, l1, l2, l3] (.int .i64 5) (.slice none 0 0) (.slice none 0 0) (.int .i64 0)) := by unfold Hid; rw [hw4]; exact stA_start HB1.out HR1.out hb hwb hcell _ _
  clear hb hcell hwb hcap
  have c0 : w3.cell? ⟨wb, 0, none⟩ = some (.string (strOf l0)) := HS3.out.word 0 (by simp)
  rw [hx] at c0
  have c1 : w4.cell? ⟨wb, 1, none⟩ = some (.string (strOf l1)) := HS4.out.word 1 (by simp)
  rw [hw3] at c0
  rw [hw4] at c1
  go_wp2_with fail
  rw [← hw4]
  clear hw4 hw3 c0 c1
  go_at_call 32
  refine (HRt.out l1 z1 w4).mono ?_
  rintro e w5 ⟨vv, rfl, hRd, ⟨ao1, n1, c1, rfl, hnew⟩, hb⟩
  rw [b1] at hRd
  rw [b1]
  have HS5 : Hid (StA w w5 w2.heap.size wb [l0, l1, l2, l3] (.int .i64 5) (.slice none 0 0) (.slice none 0 0) (.int .i64 0)) := HS4.out.call hb
  clear hRd hb hnew
  obtain ⟨⟨r0, r1, r2, r3⟩, rf, _⟩ := HS5.out.res
  have p0 := rf 0
  have p1 := rf 1
  have p2 := rf 2
  have p3 := rf 3
  clear rf
  go_wp2_with fail
  have hA := HS5.out.res.all (.int .i64 0) (.slice none 0 0) (.slice none 0 0) (.int .i64 0)
  have hld := load_atom hA.1.1 hA.1.2.1 hA.1.2.2.1 hA.1.2.2.2
  refine bodyPost_ret (v := .tuple #[.agg #[.int .i64 0, .slice none 0 0, .slice none 0 0, .int .i64 0], .int .i64 2]) ?_ rfl ⟨rfl, HS5.out.fin _ _ _ _⟩
  rw [results_cell_tmp rfl]
  simp [asAddr, Result.andThen, hld]

set_option linter.unusedVariables false in
set_option maxHeartbeats 4000000 in
theorem readAtom_5_t (s x : ByteArray) (l0 l1 l2 l3 : List UInt8) (w : World) (hx : strOf l0 = x) (q1 : (x.toList == [115, 117, 98]) = false) (q2 : (x.toList == [115, 97, 109, 101]) = false) (q3 : (x.toList == [108, 101, 97, 115, 116]) = false) (q4 : (x.toList == [109, 111, 115, 116]) = false) (q5 : (x.toList == [110, 111, 109, 111, 114, 101]) = true) (z1 : l1.length ≤ 1048576) (z2 : l2.length ≤ 1048576) (z3 : l3.length ≤ 1048576) (b1 : lettersB l1 = true) (b2 : lettersB l2 = false)
    (hC : ∀ W, Below w.heap.size w W → Calls Tryz.prog 31 #[.string s, .int .u8 32] W fun e w' => ∃ v, e = .returned v ∧ ReadsS w' v [l0, l1, l2, l3] ∧ Below W.heap.size W w') :
    Calls Tryz.prog 13 #[.string s] w fun e w' => e = .returned (.tuple #[.agg #[.int .i64 0, .slice none 0 0, .slice none 0 0, .int .i64 0], .int .i64 2]) ∧ Below w.heap.size w w' := by
  have HRt : Hid (∀ l : List UInt8, l.length ≤ 1048576 → ∀ W, Calls Tryz.prog 32 #[.string (strOf l)] W fun e w' => ∃ v, e = .returned (.tuple #[v, .bool (lettersB l)]) ∧ (lettersB l = true → Reads w' v (readN l)) ∧ NewV W.heap.size v ∧ Below W.heap.size W w') := fun l hl W => readTerm_word l hl W
  have HRn : Hid (∀ l : List UInt8, l.length ≤ 1048576 → ∀ W, Calls Tryz.prog 33 #[.string (strOf l)] W fun e w' => e = .returned (.tuple #[.int .i64 ((numOf l).getD 0), .bool (numOf l).isSome]) ∧ W = w') := fun l hl W => by
    have := readNumber_any (strOf l) (by rw [strOf_size]; omega) W
    rw [strOf_list] at this
    exact this
  obtain ⟨w1, hw1⟩ : ∃ w1, w1 = w.alloc (.cells #[.int .i64 0, .slice none 0 0, .slice none 0 0, .int .i64 0] 24) := ⟨_, rfl⟩
  have HB1 : Hid (Below w.heap.size w w1) := by unfold Hid; rw [hw1]; exact below_alloc1 w _
  have HR1 : Hid (OneA w1 w.heap.size (.int .i64 0) (.slice none 0 0) (.slice none 0 0) (.int .i64 0)) := by unfold Hid; rw [hw1]; exact oneA_alloc _ _ _ _ _ _
  have HC : Hid (Calls Tryz.prog 31 #[.string s, .int .u8 32] w1 fun e w' => ∃ v, e = .returned v ∧ ReadsS w' v [l0, l1, l2, l3] ∧ Below w1.heap.size w1 w') := hC w1 HB1.out
  clear hC
  go_enter Tryz.func13, Tryz.ntmps13
  go_wp2_with fail
  rw [← hw1]
  clear hw1
  go_at_call 31
  refine HC.out.mono ?_
  rintro e w2 ⟨v, rfl, hR, hb⟩
  obtain ⟨wb, cap, rfl, hwb, hcap, hcell⟩ := hR
  obtain ⟨w3, hw3⟩ : ∃ w3, w3 = w2.alloc (.cells #[.int .i64 0, .slice none 0 0, .slice none 0 0, .int .i64 0] 24) := ⟨_, rfl⟩
  have HS3 : Hid (StA w w3 w2.heap.size wb [l0, l1, l2, l3] (.int .i64 0) (.slice none 0 0) (.slice none 0 0) (.int .i64 0)) := by unfold Hid; rw [hw3]; exact stA_start HB1.out HR1.out hb hwb hcell _ _
  obtain ⟨w4, hw4⟩ : ∃ w4, w4 = w2.alloc (.cells #[.int .i64 5, .slice none 0 0, .slice none 0 0, .int .i64 0] 24) := ⟨_, rfl⟩
  have HS4 : Hid (StA w w4 w2.heap.size wb [l0, l1, l2, l3] (.int .i64 5) (.slice none 0 0) (.slice none 0 0) (.int .i64 0)) := by unfold Hid; rw [hw4]; exact stA_start HB1.out HR1.out hb hwb hcell _ _
  clear hb hcell hwb hcap
  have c0 : w3.cell? ⟨wb, 0, none⟩ = some (.string (strOf l0)) := HS3.out.word 0 (by simp)
  rw [hx] at c0
  have c1 : w4.cell? ⟨wb, 1, none⟩ = some (.string (strOf l1)) := HS4.out.word 1 (by simp)
  rw [hw3] at c0
  rw [hw4] at c1
  go_wp2_with fail
  rw [← hw4]
  clear hw4 hw3 c0 c1
  go_at_call 32
  refine (HRt.out l1 z1 w4).mono ?_
  rintro e w5 ⟨vv, rfl, hRd, ⟨ao1, n1, c1, rfl, hnew⟩, hb⟩
  rw [b1] at hRd
  rw [b1]
  have HS5 : Hid (StA w w5 w2.heap.size wb [l0, l1, l2, l3] (.int .i64 5) (.slice none 0 0) (.slice none 0 0) (.int .i64 0)) := HS4.out.call hb
  have HV1 : Hid (Reads w5 (.slice ao1 n1 c1) (readN l1) ∧ NewV w4.heap.size (.slice ao1 n1 c1)) := ⟨hRd rfl, ⟨ao1, n1, c1, rfl, hnew⟩⟩
  have HK1 : Hid (w2.heap.size < w4.heap.size ∧ w.heap.size < w4.heap.size) := HS4.out.lts
  obtain ⟨w6, hw6⟩ : ∃ W, W = w5.setCell ⟨w2.heap.size, 1, none⟩ (.slice ao1 n1 c1) := ⟨_, rfl⟩
  have HS6 : Hid (StA w w6 w2.heap.size wb [l0, l1, l2, l3] (.int .i64 5) (.slice ao1 n1 c1) (.slice none 0 0) (.int .i64 0)) := by unfold Hid; rw [hw6]; exact HS5.out.s1 _
  have HV2 : Hid (Reads w6 (.slice ao1 n1 c1) (readN l1)) := by unfold Hid; rw [hw6]; exact HV1.out.1.storeNew HV1.out.2 HK1.out.1
  have g1 := HS5.out.own.1.2.1
  have f1 := HS5.out.own.2.1 1
  have a0 := HS6.out.own.1.1
  have c2 : w6.cell? ⟨wb, 2, none⟩ = some (.string (strOf l2)) := HS6.out.word 2 (by simp)
  rw [hw6] at a0 c2
  clear hRd hb hnew
  go_wp2_with fail
  rw [← hw6]
  clear hw6 g1 f1 a0 c2
  go_at_call 32
  refine (HRt.out l2 z2 w6).mono ?_
  rintro e w7 ⟨vv, rfl, hRd, ⟨ao2, n2, c2, rfl, hnew⟩, hb⟩
  rw [b2] at hRd
  rw [b2]
  have HS7 : Hid (StA w w7 w2.heap.size wb [l0, l1, l2, l3] (.int .i64 5) (.slice ao1 n1 c1) (.slice none 0 0) (.int .i64 0)) := HS6.out.call hb
  have HV3 : Hid (Reads w7 (.slice ao1 n1 c1) (readN l1)) := HV2.out.below hb
  clear hRd hb hnew
  obtain ⟨⟨r0, r1, r2, r3⟩, rf, _⟩ := HS7.out.res
  have p0 := rf 0
  have p1 := rf 1
  have p2 := rf 2
  have p3 := rf 3
  clear rf
  go_wp2_with fail
  have hA := HS7.out.res.all (.int .i64 0) (.slice none 0 0) (.slice none 0 0) (.int .i64 0)
  have hld := load_atom hA.1.1 hA.1.2.1 hA.1.2.2.1 hA.1.2.2.2
  refine bodyPost_ret (v := .tuple #[.agg #[.int .i64 0, .slice none 0 0, .slice none 0 0, .int .i64 0], .int .i64 2]) ?_ rfl ⟨rfl, HS7.out.fin _ _ _ _⟩
  rw [results_cell_tmp rfl]
  simp [asAddr, Result.andThen, hld]

set_option linter.unusedVariables false in
set_option maxHeartbeats 4000000 in
theorem readAtom_5_n (s x : ByteArray) (l0 l1 l2 l3 : List UInt8) (w : World) (hx : strOf l0 = x) (q1 : (x.toList == [115, 117, 98]) = false) (q2 : (x.toList == [115, 97, 109, 101]) = false) (q3 : (x.toList == [108, 101, 97, 115, 116]) = false) (q4 : (x.toList == [109, 111, 115, 116]) = false) (q5 : (x.toList == [110, 111, 109, 111, 114, 101]) = true) (z1 : l1.length ≤ 1048576) (z2 : l2.length ≤ 1048576) (z3 : l3.length ≤ 1048576) (b1 : lettersB l1 = true) (b2 : lettersB l2 = true) (bn : (numOf l3).isSome = false)
    (hC : ∀ W, Below w.heap.size w W → Calls Tryz.prog 31 #[.string s, .int .u8 32] W fun e w' => ∃ v, e = .returned v ∧ ReadsS w' v [l0, l1, l2, l3] ∧ Below W.heap.size W w') :
    Calls Tryz.prog 13 #[.string s] w fun e w' => e = .returned (.tuple #[.agg #[.int .i64 0, .slice none 0 0, .slice none 0 0, .int .i64 0], .int .i64 2]) ∧ Below w.heap.size w w' := by
  have HRt : Hid (∀ l : List UInt8, l.length ≤ 1048576 → ∀ W, Calls Tryz.prog 32 #[.string (strOf l)] W fun e w' => ∃ v, e = .returned (.tuple #[v, .bool (lettersB l)]) ∧ (lettersB l = true → Reads w' v (readN l)) ∧ NewV W.heap.size v ∧ Below W.heap.size W w') := fun l hl W => readTerm_word l hl W
  have HRn : Hid (∀ l : List UInt8, l.length ≤ 1048576 → ∀ W, Calls Tryz.prog 33 #[.string (strOf l)] W fun e w' => e = .returned (.tuple #[.int .i64 ((numOf l).getD 0), .bool (numOf l).isSome]) ∧ W = w') := fun l hl W => by
    have := readNumber_any (strOf l) (by rw [strOf_size]; omega) W
    rw [strOf_list] at this
    exact this
  obtain ⟨w1, hw1⟩ : ∃ w1, w1 = w.alloc (.cells #[.int .i64 0, .slice none 0 0, .slice none 0 0, .int .i64 0] 24) := ⟨_, rfl⟩
  have HB1 : Hid (Below w.heap.size w w1) := by unfold Hid; rw [hw1]; exact below_alloc1 w _
  have HR1 : Hid (OneA w1 w.heap.size (.int .i64 0) (.slice none 0 0) (.slice none 0 0) (.int .i64 0)) := by unfold Hid; rw [hw1]; exact oneA_alloc _ _ _ _ _ _
  have HC : Hid (Calls Tryz.prog 31 #[.string s, .int .u8 32] w1 fun e w' => ∃ v, e = .returned v ∧ ReadsS w' v [l0, l1, l2, l3] ∧ Below w1.heap.size w1 w') := hC w1 HB1.out
  clear hC
  go_enter Tryz.func13, Tryz.ntmps13
  go_wp2_with fail
  rw [← hw1]
  clear hw1
  go_at_call 31
  refine HC.out.mono ?_
  rintro e w2 ⟨v, rfl, hR, hb⟩
  obtain ⟨wb, cap, rfl, hwb, hcap, hcell⟩ := hR
  obtain ⟨w3, hw3⟩ : ∃ w3, w3 = w2.alloc (.cells #[.int .i64 0, .slice none 0 0, .slice none 0 0, .int .i64 0] 24) := ⟨_, rfl⟩
  have HS3 : Hid (StA w w3 w2.heap.size wb [l0, l1, l2, l3] (.int .i64 0) (.slice none 0 0) (.slice none 0 0) (.int .i64 0)) := by unfold Hid; rw [hw3]; exact stA_start HB1.out HR1.out hb hwb hcell _ _
  obtain ⟨w4, hw4⟩ : ∃ w4, w4 = w2.alloc (.cells #[.int .i64 5, .slice none 0 0, .slice none 0 0, .int .i64 0] 24) := ⟨_, rfl⟩
  have HS4 : Hid (StA w w4 w2.heap.size wb [l0, l1, l2, l3] (.int .i64 5) (.slice none 0 0) (.slice none 0 0) (.int .i64 0)) := by unfold Hid; rw [hw4]; exact stA_start HB1.out HR1.out hb hwb hcell _ _
  clear hb hcell hwb hcap
  have c0 : w3.cell? ⟨wb, 0, none⟩ = some (.string (strOf l0)) := HS3.out.word 0 (by simp)
  rw [hx] at c0
  have c1 : w4.cell? ⟨wb, 1, none⟩ = some (.string (strOf l1)) := HS4.out.word 1 (by simp)
  rw [hw3] at c0
  rw [hw4] at c1
  go_wp2_with fail
  rw [← hw4]
  clear hw4 hw3 c0 c1
  go_at_call 32
  refine (HRt.out l1 z1 w4).mono ?_
  rintro e w5 ⟨vv, rfl, hRd, ⟨ao1, n1, c1, rfl, hnew⟩, hb⟩
  rw [b1] at hRd
  rw [b1]
  have HS5 : Hid (StA w w5 w2.heap.size wb [l0, l1, l2, l3] (.int .i64 5) (.slice none 0 0) (.slice none 0 0) (.int .i64 0)) := HS4.out.call hb
  have HV1 : Hid (Reads w5 (.slice ao1 n1 c1) (readN l1) ∧ NewV w4.heap.size (.slice ao1 n1 c1)) := ⟨hRd rfl, ⟨ao1, n1, c1, rfl, hnew⟩⟩
  have HK1 : Hid (w2.heap.size < w4.heap.size ∧ w.heap.size < w4.heap.size) := HS4.out.lts
  obtain ⟨w6, hw6⟩ : ∃ W, W = w5.setCell ⟨w2.heap.size, 1, none⟩ (.slice ao1 n1 c1) := ⟨_, rfl⟩
  have HS6 : Hid (StA w w6 w2.heap.size wb [l0, l1, l2, l3] (.int .i64 5) (.slice ao1 n1 c1) (.slice none 0 0) (.int .i64 0)) := by unfold Hid; rw [hw6]; exact HS5.out.s1 _
  have HV2 : Hid (Reads w6 (.slice ao1 n1 c1) (readN l1)) := by unfold Hid; rw [hw6]; exact HV1.out.1.storeNew HV1.out.2 HK1.out.1
  have g1 := HS5.out.own.1.2.1
  have f1 := HS5.out.own.2.1 1
  have a0 := HS6.out.own.1.1
  have c2 : w6.cell? ⟨wb, 2, none⟩ = some (.string (strOf l2)) := HS6.out.word 2 (by simp)
  rw [hw6] at a0 c2
  clear hRd hb hnew
  go_wp2_with fail
  rw [← hw6]
  clear hw6 g1 f1 a0 c2
  go_at_call 32
  refine (HRt.out l2 z2 w6).mono ?_
  rintro e w7 ⟨vv, rfl, hRd, ⟨ao2, n2, c2, rfl, hnew⟩, hb⟩
  rw [b2] at hRd
  rw [b2]
  have HS7 : Hid (StA w w7 w2.heap.size wb [l0, l1, l2, l3] (.int .i64 5) (.slice ao1 n1 c1) (.slice none 0 0) (.int .i64 0)) := HS6.out.call hb
  have HV3 : Hid (Reads w7 (.slice ao1 n1 c1) (readN l1)) := HV2.out.below hb
  have HV4 : Hid (Reads w7 (.slice ao2 n2 c2) (readN l2) ∧ NewV w6.heap.size (.slice ao2 n2 c2)) := ⟨hRd rfl, ⟨ao2, n2, c2, rfl, hnew⟩⟩
  have HK2 : Hid (w2.heap.size < w6.heap.size ∧ w.heap.size < w6.heap.size) := HS6.out.lts
  obtain ⟨w8, hw8⟩ : ∃ W, W = w7.setCell ⟨w2.heap.size, 2, none⟩ (.slice ao2 n2 c2) := ⟨_, rfl⟩
  have HS8 : Hid (StA w w8 w2.heap.size wb [l0, l1, l2, l3] (.int .i64 5) (.slice ao1 n1 c1) (.slice ao2 n2 c2) (.int .i64 0)) := by unfold Hid; rw [hw8]; exact HS7.out.s2 _
  have HV5 : Hid (Reads w8 (.slice ao1 n1 c1) (readN l1)) := by unfold Hid; rw [hw8]; exact HV3.out.storeNew HV1.out.2 HK1.out.1
  have HV6 : Hid (Reads w8 (.slice ao2 n2 c2) (readN l2)) := by unfold Hid; rw [hw8]; exact HV4.out.1.storeNew HV4.out.2 HK2.out.1
  have g1 := HS7.out.own.1.2.2.1
  have f1 := HS7.out.own.2.1 2
  have a0 := HS8.out.own.1.1
  clear hRd hb hnew
  have HV7 : Hid (Reads w8 (.slice ao1 n1 c1) (readN l1) ∧ Reads w8 (.slice ao2 n2 c2) (readN l2)) := ⟨HV5.out, HV6.out⟩
  have cn : w8.cell? ⟨wb, 3, none⟩ = some (.string (strOf l3)) := HS8.out.word 3 (by simp)
  rw [hw8] at a0 cn
  go_wp2_with fail
  rw [← hw8]
  clear hw8 g1 f1 a0 cn
  go_at_call 33
  refine (HRn.out l3 z3 w8).mono ?_
  rintro e wx ⟨rfl, rfl⟩
  rw [bn]
  obtain ⟨⟨r0, r1, r2, r3⟩, rf, _⟩ := HS8.out.res
  have p0 := rf 0
  have p1 := rf 1
  have p2 := rf 2
  have p3 := rf 3
  clear rf
  go_wp2_with fail
  have hA := HS8.out.res.all (.int .i64 0) (.slice none 0 0) (.slice none 0 0) (.int .i64 0)
  have hld := load_atom hA.1.1 hA.1.2.1 hA.1.2.2.1 hA.1.2.2.2
  refine bodyPost_ret (v := .tuple #[.agg #[.int .i64 0, .slice none 0 0, .slice none 0 0, .int .i64 0], .int .i64 2]) ?_ rfl ⟨rfl, HS8.out.fin _ _ _ _⟩
  rw [results_cell_tmp rfl]
  simp [asAddr, Result.andThen, hld]

set_option linter.unusedVariables false in
set_option maxHeartbeats 4000000 in
theorem readAtom_5_f (s x : ByteArray) (l0 l1 l2 l3 : List UInt8) (w : World) (hx : strOf l0 = x) (q1 : (x.toList == [115, 117, 98]) = false) (q2 : (x.toList == [115, 97, 109, 101]) = false) (q3 : (x.toList == [108, 101, 97, 115, 116]) = false) (q4 : (x.toList == [109, 111, 115, 116]) = false) (q5 : (x.toList == [110, 111, 109, 111, 114, 101]) = true) (z1 : l1.length ≤ 1048576) (z2 : l2.length ≤ 1048576) (z3 : l3.length ≤ 1048576) (b1 : lettersB l1 = true) (b2 : lettersB l2 = true) (bn : (numOf l3).isSome = true) (hF : ¬ (atomFault 5 (readN l1) (readN l2) ((numOf l3).getD 0)) = 0)
    (hC : ∀ W, Below w.heap.size w W → Calls Tryz.prog 31 #[.string s, .int .u8 32] W fun e w' => ∃ v, e = .returned v ∧ ReadsS w' v [l0, l1, l2, l3] ∧ Below W.heap.size W w') :
    Calls Tryz.prog 13 #[.string s] w fun e w' => e = .returned (.tuple #[.agg #[.int .i64 0, .slice none 0 0, .slice none 0 0, .int .i64 0], .int .i64 (atomFault 5 (readN l1) (readN l2) ((numOf l3).getD 0))]) ∧ Below w.heap.size w w' := by
  have HRt : Hid (∀ l : List UInt8, l.length ≤ 1048576 → ∀ W, Calls Tryz.prog 32 #[.string (strOf l)] W fun e w' => ∃ v, e = .returned (.tuple #[v, .bool (lettersB l)]) ∧ (lettersB l = true → Reads w' v (readN l)) ∧ NewV W.heap.size v ∧ Below W.heap.size W w') := fun l hl W => readTerm_word l hl W
  have HRn : Hid (∀ l : List UInt8, l.length ≤ 1048576 → ∀ W, Calls Tryz.prog 33 #[.string (strOf l)] W fun e w' => e = .returned (.tuple #[.int .i64 ((numOf l).getD 0), .bool (numOf l).isSome]) ∧ W = w') := fun l hl W => by
    have := readNumber_any (strOf l) (by rw [strOf_size]; omega) W
    rw [strOf_list] at this
    exact this
  obtain ⟨N, hN⟩ : ∃ N, N = (numOf l3).getD 0 := ⟨_, rfl⟩
  rw [← hN] at hF ⊢
  have HN : Hid (N = (numOf l3).getD 0) := hN
  clear hN
  obtain ⟨F, hFF⟩ : ∃ F, F = (atomFault 5 (readN l1) (readN l2) N) := ⟨_, rfl⟩
  have HAt : Hid (∀ W vs vt, Reads W vs (readN l1) → Reads W vt (readN l2) → Calls Tryz.prog 5 #[.agg #[.int .i64 5, vs, vt, .int .i64 N]] W fun e w' => e = .returned (.int .i64 F) ∧ Below W.heap.size W w') := fun W vs vt h1 h2 => by
    rw [hFF]
    exact refAtom_any 5 N vs vt _ _ W h1 h2
  rw [← hFF] at hF
  rw [← hFF]
  clear hFF
  obtain ⟨w1, hw1⟩ : ∃ w1, w1 = w.alloc (.cells #[.int .i64 0, .slice none 0 0, .slice none 0 0, .int .i64 0] 24) := ⟨_, rfl⟩
  have HB1 : Hid (Below w.heap.size w w1) := by unfold Hid; rw [hw1]; exact below_alloc1 w _
  have HR1 : Hid (OneA w1 w.heap.size (.int .i64 0) (.slice none 0 0) (.slice none 0 0) (.int .i64 0)) := by unfold Hid; rw [hw1]; exact oneA_alloc _ _ _ _ _ _
  have HC : Hid (Calls Tryz.prog 31 #[.string s, .int .u8 32] w1 fun e w' => ∃ v, e = .returned v ∧ ReadsS w' v [l0, l1, l2, l3] ∧ Below w1.heap.size w1 w') := hC w1 HB1.out
  clear hC
  go_enter Tryz.func13, Tryz.ntmps13
  go_wp2_with fail
  rw [← hw1]
  clear hw1
  go_at_call 31
  refine HC.out.mono ?_
  rintro e w2 ⟨v, rfl, hR, hb⟩
  obtain ⟨wb, cap, rfl, hwb, hcap, hcell⟩ := hR
  obtain ⟨w3, hw3⟩ : ∃ w3, w3 = w2.alloc (.cells #[.int .i64 0, .slice none 0 0, .slice none 0 0, .int .i64 0] 24) := ⟨_, rfl⟩
  have HS3 : Hid (StA w w3 w2.heap.size wb [l0, l1, l2, l3] (.int .i64 0) (.slice none 0 0) (.slice none 0 0) (.int .i64 0)) := by unfold Hid; rw [hw3]; exact stA_start HB1.out HR1.out hb hwb hcell _ _
  obtain ⟨w4, hw4⟩ : ∃ w4, w4 = w2.alloc (.cells #[.int .i64 5, .slice none 0 0, .slice none 0 0, .int .i64 0] 24) := ⟨_, rfl⟩
  have HS4 : Hid (StA w w4 w2.heap.size wb [l0, l1, l2, l3] (.int .i64 5) (.slice none 0 0) (.slice none 0 0) (.int .i64 0)) := by unfold Hid; rw [hw4]; exact stA_start HB1.out HR1.out hb hwb hcell _ _
  clear hb hcell hwb hcap
  have c0 : w3.cell? ⟨wb, 0, none⟩ = some (.string (strOf l0)) := HS3.out.word 0 (by simp)
  rw [hx] at c0
  have c1 : w4.cell? ⟨wb, 1, none⟩ = some (.string (strOf l1)) := HS4.out.word 1 (by simp)
  rw [hw3] at c0
  rw [hw4] at c1
  go_wp2_with fail
  rw [← hw4]
  clear hw4 hw3 c0 c1
  go_at_call 32
  refine (HRt.out l1 z1 w4).mono ?_
  rintro e w5 ⟨vv, rfl, hRd, ⟨ao1, n1, c1, rfl, hnew⟩, hb⟩
  rw [b1] at hRd
  rw [b1]
  have HS5 : Hid (StA w w5 w2.heap.size wb [l0, l1, l2, l3] (.int .i64 5) (.slice none 0 0) (.slice none 0 0) (.int .i64 0)) := HS4.out.call hb
  have HV1 : Hid (Reads w5 (.slice ao1 n1 c1) (readN l1) ∧ NewV w4.heap.size (.slice ao1 n1 c1)) := ⟨hRd rfl, ⟨ao1, n1, c1, rfl, hnew⟩⟩
  have HK1 : Hid (w2.heap.size < w4.heap.size ∧ w.heap.size < w4.heap.size) := HS4.out.lts
  obtain ⟨w6, hw6⟩ : ∃ W, W = w5.setCell ⟨w2.heap.size, 1, none⟩ (.slice ao1 n1 c1) := ⟨_, rfl⟩
  have HS6 : Hid (StA w w6 w2.heap.size wb [l0, l1, l2, l3] (.int .i64 5) (.slice ao1 n1 c1) (.slice none 0 0) (.int .i64 0)) := by unfold Hid; rw [hw6]; exact HS5.out.s1 _
  have HV2 : Hid (Reads w6 (.slice ao1 n1 c1) (readN l1)) := by unfold Hid; rw [hw6]; exact HV1.out.1.storeNew HV1.out.2 HK1.out.1
  have g1 := HS5.out.own.1.2.1
  have f1 := HS5.out.own.2.1 1
  have a0 := HS6.out.own.1.1
  have c2 : w6.cell? ⟨wb, 2, none⟩ = some (.string (strOf l2)) := HS6.out.word 2 (by simp)
  rw [hw6] at a0 c2
  clear hRd hb hnew
  go_wp2_with fail
  rw [← hw6]
  clear hw6 g1 f1 a0 c2
  go_at_call 32
  refine (HRt.out l2 z2 w6).mono ?_
  rintro e w7 ⟨vv, rfl, hRd, ⟨ao2, n2, c2, rfl, hnew⟩, hb⟩
  rw [b2] at hRd
  rw [b2]
  have HS7 : Hid (StA w w7 w2.heap.size wb [l0, l1, l2, l3] (.int .i64 5) (.slice ao1 n1 c1) (.slice none 0 0) (.int .i64 0)) := HS6.out.call hb
  have HV3 : Hid (Reads w7 (.slice ao1 n1 c1) (readN l1)) := HV2.out.below hb
  have HV4 : Hid (Reads w7 (.slice ao2 n2 c2) (readN l2) ∧ NewV w6.heap.size (.slice ao2 n2 c2)) := ⟨hRd rfl, ⟨ao2, n2, c2, rfl, hnew⟩⟩
  have HK2 : Hid (w2.heap.size < w6.heap.size ∧ w.heap.size < w6.heap.size) := HS6.out.lts
  obtain ⟨w8, hw8⟩ : ∃ W, W = w7.setCell ⟨w2.heap.size, 2, none⟩ (.slice ao2 n2 c2) := ⟨_, rfl⟩
  have HS8 : Hid (StA w w8 w2.heap.size wb [l0, l1, l2, l3] (.int .i64 5) (.slice ao1 n1 c1) (.slice ao2 n2 c2) (.int .i64 0)) := by unfold Hid; rw [hw8]; exact HS7.out.s2 _
  have HV5 : Hid (Reads w8 (.slice ao1 n1 c1) (readN l1)) := by unfold Hid; rw [hw8]; exact HV3.out.storeNew HV1.out.2 HK1.out.1
  have HV6 : Hid (Reads w8 (.slice ao2 n2 c2) (readN l2)) := by unfold Hid; rw [hw8]; exact HV4.out.1.storeNew HV4.out.2 HK2.out.1
  have g1 := HS7.out.own.1.2.2.1
  have f1 := HS7.out.own.2.1 2
  have a0 := HS8.out.own.1.1
  clear hRd hb hnew
  have HV7 : Hid (Reads w8 (.slice ao1 n1 c1) (readN l1) ∧ Reads w8 (.slice ao2 n2 c2) (readN l2)) := ⟨HV5.out, HV6.out⟩
  have cn : w8.cell? ⟨wb, 3, none⟩ = some (.string (strOf l3)) := HS8.out.word 3 (by simp)
  rw [hw8] at a0 cn
  go_wp2_with fail
  rw [← hw8]
  clear hw8 g1 f1 a0 cn
  go_at_call 33
  refine (HRn.out l3 z3 w8).mono ?_
  rintro e wx ⟨rfl, rfl⟩
  rw [bn]
  rw [← HN.out]
  obtain ⟨w9, hw9⟩ : ∃ W, W = w8.setCell ⟨w2.heap.size, 3, none⟩ (.int .i64 N) := ⟨_, rfl⟩
  have HS9 : Hid (StA w w9 w2.heap.size wb [l0, l1, l2, l3] (.int .i64 5) (.slice ao1 n1 c1) (.slice ao2 n2 c2) (.int .i64 N)) := by unfold Hid; rw [hw9]; exact HS8.out.s3 _
  have HV8 : Hid (Reads w9 (.slice ao1 n1 c1) (readN l1) ∧ Reads w9 (.slice ao2 n2 c2) (readN l2)) := by unfold Hid; rw [hw9]; exact ⟨HV7.out.1.storeNew HV1.out.2 HK1.out.1, HV7.out.2.storeNew HV4.out.2 HK2.out.1⟩
  have g1 := HS8.out.own.1.2.2.2
  have f1 := HS8.out.own.2.1 3
  obtain ⟨⟨x0, x1, x2, x3⟩, _, _⟩ := HS9.out.own
  rw [hw9] at x0 x1 x2 x3
  go_wp2_with fail
  rw [← hw9]
  clear hw9 g1 f1 x0 x1 x2 x3
  go_at_call 5
  refine (HAt.out w9 _ _ HV8.out.1 HV8.out.2).mono ?_
  rintro e w10 ⟨rfl, hb⟩
  have HS10 : Hid (StA w w10 w2.heap.size wb [l0, l1, l2, l3] (.int .i64 5) (.slice ao1 n1 c1) (.slice ao2 n2 c2) (.int .i64 N)) := HS9.out.call hb
  have HV9 : Hid (Reads w10 (.slice ao1 n1 c1) (readN l1) ∧ Reads w10 (.slice ao2 n2 c2) (readN l2)) := ⟨HV8.out.1.below hb, HV8.out.2.below hb⟩
  clear hb
  obtain ⟨⟨r0, r1, r2, r3⟩, rf, _⟩ := HS10.out.res
  have p0 := rf 0
  have p1 := rf 1
  have p2 := rf 2
  have p3 := rf 3
  clear rf
  have hF' : (F != 0) = true := by simpa using hF
  go_wp2_with fail
  have hA := HS10.out.res.all (.int .i64 0) (.slice none 0 0) (.slice none 0 0) (.int .i64 0)
  have hld := load_atom hA.1.1 hA.1.2.1 hA.1.2.2.1 hA.1.2.2.2
  refine bodyPost_ret (v := .tuple #[.agg #[.int .i64 0, .slice none 0 0, .slice none 0 0, .int .i64 0], .int .i64 F]) ?_ rfl ⟨rfl, HS10.out.fin _ _ _ _⟩
  rw [results_cell_tmp rfl]
  simp [asAddr, Result.andThen, hld]

set_option linter.unusedVariables false in
set_option maxHeartbeats 4000000 in
theorem readAtom_5_g (s x : ByteArray) (l0 l1 l2 l3 : List UInt8) (w : World) (hx : strOf l0 = x) (q1 : (x.toList == [115, 117, 98]) = false) (q2 : (x.toList == [115, 97, 109, 101]) = false) (q3 : (x.toList == [108, 101, 97, 115, 116]) = false) (q4 : (x.toList == [109, 111, 115, 116]) = false) (q5 : (x.toList == [110, 111, 109, 111, 114, 101]) = true) (z1 : l1.length ≤ 1048576) (z2 : l2.length ≤ 1048576) (z3 : l3.length ≤ 1048576) (b1 : lettersB l1 = true) (b2 : lettersB l2 = true) (bn : (numOf l3).isSome = true) (hF : (atomFault 5 (readN l1) (readN l2) ((numOf l3).getD 0)) = 0)
    (hC : ∀ W, Below w.heap.size w W → Calls Tryz.prog 31 #[.string s, .int .u8 32] W fun e w' => ∃ v, e = .returned v ∧ ReadsS w' v [l0, l1, l2, l3] ∧ Below W.heap.size W w') :
    Calls Tryz.prog 13 #[.string s] w fun e w' => (∃ v0 v1, e = .returned (.tuple #[.agg #[.int .i64 5, v0, v1, .int .i64 ((numOf l3).getD 0)], .int .i64 0]) ∧ Reads w' v0 (readN l1) ∧ Reads w' v1 (readN l2)) ∧ Below w.heap.size w w' := by
  have HRt : Hid (∀ l : List UInt8, l.length ≤ 1048576 → ∀ W, Calls Tryz.prog 32 #[.string (strOf l)] W fun e w' => ∃ v, e = .returned (.tuple #[v, .bool (lettersB l)]) ∧ (lettersB l = true → Reads w' v (readN l)) ∧ NewV W.heap.size v ∧ Below W.heap.size W w') := fun l hl W => readTerm_word l hl W
  have HRn : Hid (∀ l : List UInt8, l.length ≤ 1048576 → ∀ W, Calls Tryz.prog 33 #[.string (strOf l)] W fun e w' => e = .returned (.tuple #[.int .i64 ((numOf l).getD 0), .bool (numOf l).isSome]) ∧ W = w') := fun l hl W => by
    have := readNumber_any (strOf l) (by rw [strOf_size]; omega) W
    rw [strOf_list] at this
    exact this
  obtain ⟨N, hN⟩ : ∃ N, N = (numOf l3).getD 0 := ⟨_, rfl⟩
  rw [← hN] at hF ⊢
  have HN : Hid (N = (numOf l3).getD 0) := hN
  clear hN
  obtain ⟨F, hFF⟩ : ∃ F, F = (atomFault 5 (readN l1) (readN l2) N) := ⟨_, rfl⟩
  have HAt : Hid (∀ W vs vt, Reads W vs (readN l1) → Reads W vt (readN l2) → Calls Tryz.prog 5 #[.agg #[.int .i64 5, vs, vt, .int .i64 N]] W fun e w' => e = .returned (.int .i64 F) ∧ Below W.heap.size W w') := fun W vs vt h1 h2 => by
    rw [hFF]
    exact refAtom_any 5 N vs vt _ _ W h1 h2
  rw [← hFF] at hF
  clear hFF
  obtain ⟨w1, hw1⟩ : ∃ w1, w1 = w.alloc (.cells #[.int .i64 0, .slice none 0 0, .slice none 0 0, .int .i64 0] 24) := ⟨_, rfl⟩
  have HB1 : Hid (Below w.heap.size w w1) := by unfold Hid; rw [hw1]; exact below_alloc1 w _
  have HR1 : Hid (OneA w1 w.heap.size (.int .i64 0) (.slice none 0 0) (.slice none 0 0) (.int .i64 0)) := by unfold Hid; rw [hw1]; exact oneA_alloc _ _ _ _ _ _
  have HC : Hid (Calls Tryz.prog 31 #[.string s, .int .u8 32] w1 fun e w' => ∃ v, e = .returned v ∧ ReadsS w' v [l0, l1, l2, l3] ∧ Below w1.heap.size w1 w') := hC w1 HB1.out
  clear hC
  go_enter Tryz.func13, Tryz.ntmps13
  go_wp2_with fail
  rw [← hw1]
  clear hw1
  go_at_call 31
  refine HC.out.mono ?_
  rintro e w2 ⟨v, rfl, hR, hb⟩
  obtain ⟨wb, cap, rfl, hwb, hcap, hcell⟩ := hR
  obtain ⟨w3, hw3⟩ : ∃ w3, w3 = w2.alloc (.cells #[.int .i64 0, .slice none 0 0, .slice none 0 0, .int .i64 0] 24) := ⟨_, rfl⟩
  have HS3 : Hid (StA w w3 w2.heap.size wb [l0, l1, l2, l3] (.int .i64 0) (.slice none 0 0) (.slice none 0 0) (.int .i64 0)) := by unfold Hid; rw [hw3]; exact stA_start HB1.out HR1.out hb hwb hcell _ _
  obtain ⟨w4, hw4⟩ : ∃ w4, w4 = w2.alloc (.cells #[.int .i64 5, .slice none 0 0, .slice none 0 0, .int .i64 0] 24) := ⟨_, rfl⟩
  have HS4 : Hid (StA w w4 w2.heap.size wb [l0, l1, l2, l3] (.int .i64 5) (.slice none 0 0) (.slice none 0 0) (.int .i64 0)) := by unfold Hid; rw [hw4]; exact stA_start HB1.out HR1.out hb hwb hcell _ _
  clear hb hcell hwb hcap
  have c0 : w3.cell? ⟨wb, 0, none⟩ = some (.string (strOf l0)) := HS3.out.word 0 (by simp)
  rw [hx] at c0
  have c1 : w4.cell? ⟨wb, 1, none⟩ = some (.string (strOf l1)) := HS4.out.word 1 (by simp)
  rw [hw3] at c0
  rw [hw4] at c1
  go_wp2_with fail
  rw [← hw4]
  clear hw4 hw3 c0 c1
  go_at_call 32
  refine (HRt.out l1 z1 w4).mono ?_
  rintro e w5 ⟨vv, rfl, hRd, ⟨ao1, n1, c1, rfl, hnew⟩, hb⟩
  rw [b1] at hRd
  rw [b1]
  have HS5 : Hid (StA w w5 w2.heap.size wb [l0, l1, l2, l3] (.int .i64 5) (.slice none 0 0) (.slice none 0 0) (.int .i64 0)) := HS4.out.call hb
  have HV1 : Hid (Reads w5 (.slice ao1 n1 c1) (readN l1) ∧ NewV w4.heap.size (.slice ao1 n1 c1)) := ⟨hRd rfl, ⟨ao1, n1, c1, rfl, hnew⟩⟩
  have HK1 : Hid (w2.heap.size < w4.heap.size ∧ w.heap.size < w4.heap.size) := HS4.out.lts
  obtain ⟨w6, hw6⟩ : ∃ W, W = w5.setCell ⟨w2.heap.size, 1, none⟩ (.slice ao1 n1 c1) := ⟨_, rfl⟩
  have HS6 : Hid (StA w w6 w2.heap.size wb [l0, l1, l2, l3] (.int .i64 5) (.slice ao1 n1 c1) (.slice none 0 0) (.int .i64 0)) := by unfold Hid; rw [hw6]; exact HS5.out.s1 _
  have HV2 : Hid (Reads w6 (.slice ao1 n1 c1) (readN l1)) := by unfold Hid; rw [hw6]; exact HV1.out.1.storeNew HV1.out.2 HK1.out.1
  have g1 := HS5.out.own.1.2.1
  have f1 := HS5.out.own.2.1 1
  have a0 := HS6.out.own.1.1
  have c2 : w6.cell? ⟨wb, 2, none⟩ = some (.string (strOf l2)) := HS6.out.word 2 (by simp)
  rw [hw6] at a0 c2
  clear hRd hb hnew
  go_wp2_with fail
  rw [← hw6]
  clear hw6 g1 f1 a0 c2
  go_at_call 32
  refine (HRt.out l2 z2 w6).mono ?_
  rintro e w7 ⟨vv, rfl, hRd, ⟨ao2, n2, c2, rfl, hnew⟩, hb⟩
  rw [b2] at hRd
  rw [b2]
  have HS7 : Hid (StA w w7 w2.heap.size wb [l0, l1, l2, l3] (.int .i64 5) (.slice ao1 n1 c1) (.slice none 0 0) (.int .i64 0)) := HS6.out.call hb
  have HV3 : Hid (Reads w7 (.slice ao1 n1 c1) (readN l1)) := HV2.out.below hb
  have HV4 : Hid (Reads w7 (.slice ao2 n2 c2) (readN l2) ∧ NewV w6.heap.size (.slice ao2 n2 c2)) := ⟨hRd rfl, ⟨ao2, n2, c2, rfl, hnew⟩⟩
  have HK2 : Hid (w2.heap.size < w6.heap.size ∧ w.heap.size < w6.heap.size) := HS6.out.lts
  obtain ⟨w8, hw8⟩ : ∃ W, W = w7.setCell ⟨w2.heap.size, 2, none⟩ (.slice ao2 n2 c2) := ⟨_, rfl⟩
  have HS8 : Hid (StA w w8 w2.heap.size wb [l0, l1, l2, l3] (.int .i64 5) (.slice ao1 n1 c1) (.slice ao2 n2 c2) (.int .i64 0)) := by unfold Hid; rw [hw8]; exact HS7.out.s2 _
  have HV5 : Hid (Reads w8 (.slice ao1 n1 c1) (readN l1)) := by unfold Hid; rw [hw8]; exact HV3.out.storeNew HV1.out.2 HK1.out.1
  have HV6 : Hid (Reads w8 (.slice ao2 n2 c2) (readN l2)) := by unfold Hid; rw [hw8]; exact HV4.out.1.storeNew HV4.out.2 HK2.out.1
  have g1 := HS7.out.own.1.2.2.1
  have f1 := HS7.out.own.2.1 2
  have a0 := HS8.out.own.1.1
  clear hRd hb hnew
  have HV7 : Hid (Reads w8 (.slice ao1 n1 c1) (readN l1) ∧ Reads w8 (.slice ao2 n2 c2) (readN l2)) := ⟨HV5.out, HV6.out⟩
  have cn : w8.cell? ⟨wb, 3, none⟩ = some (.string (strOf l3)) := HS8.out.word 3 (by simp)
  rw [hw8] at a0 cn
  go_wp2_with fail
  rw [← hw8]
  clear hw8 g1 f1 a0 cn
  go_at_call 33
  refine (HRn.out l3 z3 w8).mono ?_
  rintro e wx ⟨rfl, rfl⟩
  rw [bn]
  rw [← HN.out]
  obtain ⟨w9, hw9⟩ : ∃ W, W = w8.setCell ⟨w2.heap.size, 3, none⟩ (.int .i64 N) := ⟨_, rfl⟩
  have HS9 : Hid (StA w w9 w2.heap.size wb [l0, l1, l2, l3] (.int .i64 5) (.slice ao1 n1 c1) (.slice ao2 n2 c2) (.int .i64 N)) := by unfold Hid; rw [hw9]; exact HS8.out.s3 _
  have HV8 : Hid (Reads w9 (.slice ao1 n1 c1) (readN l1) ∧ Reads w9 (.slice ao2 n2 c2) (readN l2)) := by unfold Hid; rw [hw9]; exact ⟨HV7.out.1.storeNew HV1.out.2 HK1.out.1, HV7.out.2.storeNew HV4.out.2 HK2.out.1⟩
  have g1 := HS8.out.own.1.2.2.2
  have f1 := HS8.out.own.2.1 3
  obtain ⟨⟨x0, x1, x2, x3⟩, _, _⟩ := HS9.out.own
  rw [hw9] at x0 x1 x2 x3
  go_wp2_with fail
  rw [← hw9]
  clear hw9 g1 f1 x0 x1 x2 x3
  go_at_call 5
  refine (HAt.out w9 _ _ HV8.out.1 HV8.out.2).mono ?_
  rintro e w10 ⟨rfl, hb⟩
  have HS10 : Hid (StA w w10 w2.heap.size wb [l0, l1, l2, l3] (.int .i64 5) (.slice ao1 n1 c1) (.slice ao2 n2 c2) (.int .i64 N)) := HS9.out.call hb
  have HV9 : Hid (Reads w10 (.slice ao1 n1 c1) (readN l1) ∧ Reads w10 (.slice ao2 n2 c2) (readN l2)) := ⟨HV8.out.1.below hb, HV8.out.2.below hb⟩
  clear hb
  obtain ⟨⟨r0, r1, r2, r3⟩, rf, _⟩ := HS10.out.res
  have p0 := rf 0
  have p1 := rf 1
  have p2 := rf 2
  have p3 := rf 3
  clear rf
  obtain ⟨⟨x0, x1, x2, x3⟩, _, _⟩ := HS10.out.own
  subst hF
  go_wp2_with fail
  have hA := HS10.out.res.all (.int .i64 5) (.slice ao1 n1 c1) (.slice ao2 n2 c2) (.int .i64 N)
  have hld := load_atom hA.1.1 hA.1.2.1 hA.1.2.2.1 hA.1.2.2.2
  refine bodyPost_ret (v := .tuple #[.agg #[.int .i64 5, .slice ao1 n1 c1, .slice ao2 n2 c2, .int .i64 N], .int .i64 0]) ?_ rfl ⟨⟨_, _, rfl, HV9.out.1.storeAll HV1.out.2 HK1.out.2, HV9.out.2.storeAll HV4.out.2 HK2.out.2⟩, HS10.out.fin _ _ _ _⟩
  rw [results_cell_tmp rfl]
  simp [asAddr, Result.andThen, hld]
end Go.Proofs.YtenmheenieifpabGreatDoor

namespace Go.Proofs.YtenmheenieifpabGreatDoor
open Go.ChangeShapes Go.WideShapes Go.ChangeAt Go.RowKit
set_option maxRecDepth 100000

theorem wordsKind_range (ws : List (List UInt8)) : wordsKind ws = 0 ∨ ((1 ≤ wordsKind ws ∧ wordsKind ws ≤ 5) ∧ ws.length = manyN (wordsKind ws)) := by
  unfold wordsKind
  have h : 0 ≤ kindOfN (ws.getD 0 []) ∧ kindOfN (ws.getD 0 []) ≤ 5 := by unfold kindOfN; repeat' split <;> omega
  by_cases hl : ws.length = manyN (kindOfN (ws.getD 0 []))
  · rw [if_pos hl]
    by_cases h0 : kindOfN (ws.getD 0 []) = 0
    · exact Or.inl h0
    · exact Or.inr ⟨by omega, hl⟩
  · rw [if_neg hl]; exact Or.inl rfl

/-- what Parse answers, of the words that it sees. -/
def Answers (ws : List (List UInt8)) (w : World) (e : Ending) (w' : World) : Prop :=
  ∃ a, e = .returned (.tuple #[a, errV (wordsFault ws)]) ∧ (wordsFault ws = 0 → ∃ v0 v1, a = .agg #[.int .i64 (wordsKind ws), v0, v1, .int .i64 (wordsN (wordsKind ws) ws)] ∧ Reads w' v0 (wordsS ws) ∧ Reads w' v1 (wordsT (wordsKind ws) ws)) ∧ (¬ wordsFault ws = 0 → a = .agg #[.int .i64 0, .slice none 0 0, .slice none 0 0, .int .i64 0]) ∧ Below w.heap.size w w'
theorem answers_bad {ws : List (List UInt8)} {w : World} {e : Ending} {w' : World} {F : Int} (hF : wordsFault ws = F) (h0 : ¬ F = 0) (h : e = .returned (.tuple #[.agg #[.int .i64 0, .slice none 0 0, .slice none 0 0, .int .i64 0], errV F]) ∧ Below w.heap.size w w') : Answers ws w e w' :=
  ⟨_, by rw [hF]; exact h.1, fun h' => absurd (hF.symm.trans h') h0, fun _ => rfl, h.2⟩


theorem aparse_k1 (s : ByteArray) (l0 l1 l2 : List UInt8) (hw : wordsKind [l0, l1, l2] = 1) (w : World) (hK : KindsLaid w) (hL : LibLaid w) (z1 : l1.length ≤ 9223372036854775807) (z2 : l2.length ≤ 9223372036854775807)
    (hSp : ∀ W, Below w.heap.size w W → Calls Tryz.prog 34 #[.string s, .string ⟨#[32]⟩, .int .i64 5] W fun e w' => ∃ v, e = .returned v ∧ ReadsS w' v [l0, l1, l2] ∧ Below W.heap.size W w')
    (hKo : ∀ W v, Below w.heap.size w W → ReadsS W v [l0, l1, l2] → Calls Tryz.prog 35 #[v] W fun e w' => e = .returned (.int .i64 1) ∧ Below W.heap.size W w') :
    Calls Tryz.prog 14 #[.string s] w (Answers [l0, l1, l2] w) := by
  obtain ⟨h1, h2⟩ := told_words (by decide : (1 : Int) ≤ 1 ∧ (1 : Int) ≤ 5) [l0, l1, l2] hw
  have e1 : partFaults 1 [l0, l1, l2] = toldN (textFault l1) (textFault l2) 0 := rfl
  rw [e1] at h1 h2
  have e2 : atomFault 1 (wordsS [l0, l1, l2]) (wordsT 1 [l0, l1, l2]) (wordsN 1 [l0, l1, l2]) = atomFault 1 (readN l1) (readN l2) 0 := rfl
  rw [e2] at h2
  by_cases f0 : textFault l1 = 0
  · by_cases f1 : textFault l2 = 0
    · have hz : toldN (textFault l1) (textFault l2) 0 = 0 := by unfold toldN; rw [if_neg (by omega), if_pos (by omega), if_pos (by omega)]; try omega
      have hF := h2 hz
      by_cases hA : atomFault 1 (readN l1) (readN l2) 0 = 0
      · refine (aparse_1_nnG s l0 l1 l2 w hK hL z1 z2 hSp hKo f0 f1 hA).mono ?_
        rintro e w' ⟨v0, v1, he, r0, r1, hb⟩
        exact ⟨_, by rw [hF, hA]; exact he, fun _ => ⟨v0, v1, by rw [hw]; rfl, r0, by rw [hw]; exact r1⟩, fun h' => absurd (hF.trans hA) h', hb⟩
      · exact (aparse_1_nnF s l0 l1 l2 w hK hL z1 z2 hSp hKo f0 f1 hA).mono fun e w' h => answers_bad hF hA (by rw [errV_no hA]; exact h)
    · have hne : ¬ toldN (textFault l1) (textFault l2) 0 = 0 := by unfold toldN; split <;> (try split) <;> (try split) <;> omega
      exact (aparse_1_ne s l0 l1 l2 w hK hL z1 z2 hSp hKo f0 f1).mono fun e w' h => answers_bad (h1 hne) hne h
  · by_cases f1 : textFault l2 = 0
    · have hne : ¬ toldN (textFault l1) (textFault l2) 0 = 0 := by unfold toldN; split <;> (try split) <;> (try split) <;> omega
      exact (aparse_1_en s l0 l1 l2 w hK hL z1 z2 hSp hKo f0 f1).mono fun e w' h => answers_bad (h1 hne) hne h
    · have hne : ¬ toldN (textFault l1) (textFault l2) 0 = 0 := by unfold toldN; split <;> (try split) <;> (try split) <;> omega
      exact (aparse_1_ee s l0 l1 l2 w hK hL z1 z2 hSp hKo f0 f1).mono fun e w' h => answers_bad (h1 hne) hne h

theorem aparse_k2 (s : ByteArray) (l0 l1 l2 : List UInt8) (hw : wordsKind [l0, l1, l2] = 2) (w : World) (hK : KindsLaid w) (hL : LibLaid w) (z1 : l1.length ≤ 9223372036854775807) (z2 : l2.length ≤ 9223372036854775807)
    (hSp : ∀ W, Below w.heap.size w W → Calls Tryz.prog 34 #[.string s, .string ⟨#[32]⟩, .int .i64 5] W fun e w' => ∃ v, e = .returned v ∧ ReadsS w' v [l0, l1, l2] ∧ Below W.heap.size W w')
    (hKo : ∀ W v, Below w.heap.size w W → ReadsS W v [l0, l1, l2] → Calls Tryz.prog 35 #[v] W fun e w' => e = .returned (.int .i64 2) ∧ Below W.heap.size W w') :
    Calls Tryz.prog 14 #[.string s] w (Answers [l0, l1, l2] w) := by
  obtain ⟨h1, h2⟩ := told_words (by decide : (1 : Int) ≤ 2 ∧ (2 : Int) ≤ 5) [l0, l1, l2] hw
  have e1 : partFaults 2 [l0, l1, l2] = toldN (textFault l1) (textFault l2) 0 := rfl
  rw [e1] at h1 h2
  have e2 : atomFault 2 (wordsS [l0, l1, l2]) (wordsT 2 [l0, l1, l2]) (wordsN 2 [l0, l1, l2]) = atomFault 2 (readN l1) (readN l2) 0 := rfl
  rw [e2] at h2
  by_cases f0 : textFault l1 = 0
  · by_cases f1 : textFault l2 = 0
    · have hz : toldN (textFault l1) (textFault l2) 0 = 0 := by unfold toldN; rw [if_neg (by omega), if_pos (by omega), if_pos (by omega)]; try omega
      have hF := h2 hz
      by_cases hA : atomFault 2 (readN l1) (readN l2) 0 = 0
      · refine (aparse_2_nnG s l0 l1 l2 w hK hL z1 z2 hSp hKo f0 f1 hA).mono ?_
        rintro e w' ⟨v0, v1, he, r0, r1, hb⟩
        exact ⟨_, by rw [hF, hA]; exact he, fun _ => ⟨v0, v1, by rw [hw]; rfl, r0, by rw [hw]; exact r1⟩, fun h' => absurd (hF.trans hA) h', hb⟩
      · exact (aparse_2_nnF s l0 l1 l2 w hK hL z1 z2 hSp hKo f0 f1 hA).mono fun e w' h => answers_bad hF hA (by rw [errV_no hA]; exact h)
    · have hne : ¬ toldN (textFault l1) (textFault l2) 0 = 0 := by unfold toldN; split <;> (try split) <;> (try split) <;> omega
      exact (aparse_2_ne s l0 l1 l2 w hK hL z1 z2 hSp hKo f0 f1).mono fun e w' h => answers_bad (h1 hne) hne h
  · by_cases f1 : textFault l2 = 0
    · have hne : ¬ toldN (textFault l1) (textFault l2) 0 = 0 := by unfold toldN; split <;> (try split) <;> (try split) <;> omega
      exact (aparse_2_en s l0 l1 l2 w hK hL z1 z2 hSp hKo f0 f1).mono fun e w' h => answers_bad (h1 hne) hne h
    · have hne : ¬ toldN (textFault l1) (textFault l2) 0 = 0 := by unfold toldN; split <;> (try split) <;> (try split) <;> omega
      exact (aparse_2_ee s l0 l1 l2 w hK hL z1 z2 hSp hKo f0 f1).mono fun e w' h => answers_bad (h1 hne) hne h

theorem aparse_k3 (s : ByteArray) (l0 l1 l2 : List UInt8) (hw : wordsKind [l0, l1, l2] = 3) (w : World) (hK : KindsLaid w) (hL : LibLaid w) (z1 : l1.length ≤ 9223372036854775807) (z2 : l2.length ≤ 9223372036854775807)
    (hSp : ∀ W, Below w.heap.size w W → Calls Tryz.prog 34 #[.string s, .string ⟨#[32]⟩, .int .i64 5] W fun e w' => ∃ v, e = .returned v ∧ ReadsS w' v [l0, l1, l2] ∧ Below W.heap.size W w')
    (hKo : ∀ W v, Below w.heap.size w W → ReadsS W v [l0, l1, l2] → Calls Tryz.prog 35 #[v] W fun e w' => e = .returned (.int .i64 3) ∧ Below W.heap.size W w') :
    Calls Tryz.prog 14 #[.string s] w (Answers [l0, l1, l2] w) := by
  obtain ⟨h1, h2⟩ := told_words (by decide : (1 : Int) ≤ 3 ∧ (3 : Int) ≤ 5) [l0, l1, l2] hw
  have e1 : partFaults 3 [l0, l1, l2] = toldN (textFault l1) 0 (numFault l2) := rfl
  rw [e1] at h1 h2
  have e2 : atomFault 3 (wordsS [l0, l1, l2]) (wordsT 3 [l0, l1, l2]) (wordsN 3 [l0, l1, l2]) = atomFault 3 (readN l1) [] (numIs l2) := rfl
  rw [e2] at h2
  by_cases f0 : textFault l1 = 0
  · by_cases f1 : numFault l2 = 0
    · have hz : toldN (textFault l1) 0 (numFault l2) = 0 := by unfold toldN; rw [if_neg (by omega), if_pos (by omega), if_pos (by omega)]; try omega
      have hF := h2 hz
      by_cases hA : atomFault 3 (readN l1) [] (numIs l2) = 0
      · refine (aparse_3_nnG s l0 l1 l2 w hK hL z1 z2 hSp hKo f0 f1 hA).mono ?_
        rintro e w' ⟨v0, v1, he, r0, r1, hb⟩
        exact ⟨_, by rw [hF, hA]; exact he, fun _ => ⟨v0, v1, by rw [hw]; rfl, r0, by rw [hw]; exact r1⟩, fun h' => absurd (hF.trans hA) h', hb⟩
      · exact (aparse_3_nnF s l0 l1 l2 w hK hL z1 z2 hSp hKo f0 f1 hA).mono fun e w' h => answers_bad hF hA (by rw [errV_no hA]; exact h)
    · have hne : ¬ toldN (textFault l1) 0 (numFault l2) = 0 := by unfold toldN; split <;> (try split) <;> (try split) <;> omega
      exact (aparse_3_ne s l0 l1 l2 w hK hL z1 z2 hSp hKo f0 f1).mono fun e w' h => answers_bad (h1 hne) hne h
  · by_cases f1 : numFault l2 = 0
    · have hne : ¬ toldN (textFault l1) 0 (numFault l2) = 0 := by unfold toldN; split <;> (try split) <;> (try split) <;> omega
      exact (aparse_3_en s l0 l1 l2 w hK hL z1 z2 hSp hKo f0 f1).mono fun e w' h => answers_bad (h1 hne) hne h
    · have hne : ¬ toldN (textFault l1) 0 (numFault l2) = 0 := by unfold toldN; split <;> (try split) <;> (try split) <;> omega
      exact (aparse_3_ee s l0 l1 l2 w hK hL z1 z2 hSp hKo f0 f1).mono fun e w' h => answers_bad (h1 hne) hne h

theorem aparse_k4 (s : ByteArray) (l0 l1 l2 : List UInt8) (hw : wordsKind [l0, l1, l2] = 4) (w : World) (hK : KindsLaid w) (hL : LibLaid w) (z1 : l1.length ≤ 9223372036854775807) (z2 : l2.length ≤ 9223372036854775807)
    (hSp : ∀ W, Below w.heap.size w W → Calls Tryz.prog 34 #[.string s, .string ⟨#[32]⟩, .int .i64 5] W fun e w' => ∃ v, e = .returned v ∧ ReadsS w' v [l0, l1, l2] ∧ Below W.heap.size W w')
    (hKo : ∀ W v, Below w.heap.size w W → ReadsS W v [l0, l1, l2] → Calls Tryz.prog 35 #[v] W fun e w' => e = .returned (.int .i64 4) ∧ Below W.heap.size W w') :
    Calls Tryz.prog 14 #[.string s] w (Answers [l0, l1, l2] w) := by
  obtain ⟨h1, h2⟩ := told_words (by decide : (1 : Int) ≤ 4 ∧ (4 : Int) ≤ 5) [l0, l1, l2] hw
  have e1 : partFaults 4 [l0, l1, l2] = toldN (textFault l1) 0 (numFault l2) := rfl
  rw [e1] at h1 h2
  have e2 : atomFault 4 (wordsS [l0, l1, l2]) (wordsT 4 [l0, l1, l2]) (wordsN 4 [l0, l1, l2]) = atomFault 4 (readN l1) [] (numIs l2) := rfl
  rw [e2] at h2
  by_cases f0 : textFault l1 = 0
  · by_cases f1 : numFault l2 = 0
    · have hz : toldN (textFault l1) 0 (numFault l2) = 0 := by unfold toldN; rw [if_neg (by omega), if_pos (by omega), if_pos (by omega)]; try omega
      have hF := h2 hz
      by_cases hA : atomFault 4 (readN l1) [] (numIs l2) = 0
      · refine (aparse_4_nnG s l0 l1 l2 w hK hL z1 z2 hSp hKo f0 f1 hA).mono ?_
        rintro e w' ⟨v0, v1, he, r0, r1, hb⟩
        exact ⟨_, by rw [hF, hA]; exact he, fun _ => ⟨v0, v1, by rw [hw]; rfl, r0, by rw [hw]; exact r1⟩, fun h' => absurd (hF.trans hA) h', hb⟩
      · exact (aparse_4_nnF s l0 l1 l2 w hK hL z1 z2 hSp hKo f0 f1 hA).mono fun e w' h => answers_bad hF hA (by rw [errV_no hA]; exact h)
    · have hne : ¬ toldN (textFault l1) 0 (numFault l2) = 0 := by unfold toldN; split <;> (try split) <;> (try split) <;> omega
      exact (aparse_4_ne s l0 l1 l2 w hK hL z1 z2 hSp hKo f0 f1).mono fun e w' h => answers_bad (h1 hne) hne h
  · by_cases f1 : numFault l2 = 0
    · have hne : ¬ toldN (textFault l1) 0 (numFault l2) = 0 := by unfold toldN; split <;> (try split) <;> (try split) <;> omega
      exact (aparse_4_en s l0 l1 l2 w hK hL z1 z2 hSp hKo f0 f1).mono fun e w' h => answers_bad (h1 hne) hne h
    · have hne : ¬ toldN (textFault l1) 0 (numFault l2) = 0 := by unfold toldN; split <;> (try split) <;> (try split) <;> omega
      exact (aparse_4_ee s l0 l1 l2 w hK hL z1 z2 hSp hKo f0 f1).mono fun e w' h => answers_bad (h1 hne) hne h

theorem aparse_k5 (s : ByteArray) (l0 l1 l2 l3 : List UInt8) (hw : wordsKind [l0, l1, l2, l3] = 5) (w : World) (hK : KindsLaid w) (hL : LibLaid w) (z1 : l1.length ≤ 9223372036854775807) (z2 : l2.length ≤ 9223372036854775807) (z3 : l3.length ≤ 9223372036854775807)
    (hSp : ∀ W, Below w.heap.size w W → Calls Tryz.prog 34 #[.string s, .string ⟨#[32]⟩, .int .i64 5] W fun e w' => ∃ v, e = .returned v ∧ ReadsS w' v [l0, l1, l2, l3] ∧ Below W.heap.size W w')
    (hKo : ∀ W v, Below w.heap.size w W → ReadsS W v [l0, l1, l2, l3] → Calls Tryz.prog 35 #[v] W fun e w' => e = .returned (.int .i64 5) ∧ Below W.heap.size W w') :
    Calls Tryz.prog 14 #[.string s] w (Answers [l0, l1, l2, l3] w) := by
  obtain ⟨h1, h2⟩ := told_words (by decide : (1 : Int) ≤ 5 ∧ (5 : Int) ≤ 5) [l0, l1, l2, l3] hw
  have e1 : partFaults 5 [l0, l1, l2, l3] = toldN (textFault l1) (textFault l2) (numFault l3) := rfl
  rw [e1] at h1 h2
  have e2 : atomFault 5 (wordsS [l0, l1, l2, l3]) (wordsT 5 [l0, l1, l2, l3]) (wordsN 5 [l0, l1, l2, l3]) = atomFault 5 (readN l1) (readN l2) (numIs l3) := rfl
  rw [e2] at h2
  by_cases f0 : textFault l1 = 0
  · by_cases f1 : textFault l2 = 0
    · by_cases f2 : numFault l3 = 0
      · have hz : toldN (textFault l1) (textFault l2) (numFault l3) = 0 := by unfold toldN; rw [if_neg (by omega), if_pos (by omega), if_pos (by omega)]; try omega
        have hF := h2 hz
        by_cases hA : atomFault 5 (readN l1) (readN l2) (numIs l3) = 0
        · refine (aparse_5_nnnG s l0 l1 l2 l3 w hK hL z1 z2 z3 hSp hKo f0 f1 f2 hA).mono ?_
          rintro e w' ⟨v0, v1, he, r0, r1, hb⟩
          exact ⟨_, by rw [hF, hA]; exact he, fun _ => ⟨v0, v1, by rw [hw]; rfl, r0, by rw [hw]; exact r1⟩, fun h' => absurd (hF.trans hA) h', hb⟩
        · exact (aparse_5_nnnF s l0 l1 l2 l3 w hK hL z1 z2 z3 hSp hKo f0 f1 f2 hA).mono fun e w' h => answers_bad hF hA (by rw [errV_no hA]; exact h)
      · have hne : ¬ toldN (textFault l1) (textFault l2) (numFault l3) = 0 := by unfold toldN; split <;> (try split) <;> (try split) <;> omega
        exact (aparse_5_nne s l0 l1 l2 l3 w hK hL z1 z2 z3 hSp hKo f0 f1 f2).mono fun e w' h => answers_bad (h1 hne) hne h
    · by_cases f2 : numFault l3 = 0
      · have hne : ¬ toldN (textFault l1) (textFault l2) (numFault l3) = 0 := by unfold toldN; split <;> (try split) <;> (try split) <;> omega
        exact (aparse_5_nen s l0 l1 l2 l3 w hK hL z1 z2 z3 hSp hKo f0 f1 f2).mono fun e w' h => answers_bad (h1 hne) hne h
      · have hne : ¬ toldN (textFault l1) (textFault l2) (numFault l3) = 0 := by unfold toldN; split <;> (try split) <;> (try split) <;> omega
        exact (aparse_5_nee s l0 l1 l2 l3 w hK hL z1 z2 z3 hSp hKo f0 f1 f2).mono fun e w' h => answers_bad (h1 hne) hne h
  · by_cases f1 : textFault l2 = 0
    · by_cases f2 : numFault l3 = 0
      · have hne : ¬ toldN (textFault l1) (textFault l2) (numFault l3) = 0 := by unfold toldN; split <;> (try split) <;> (try split) <;> omega
        exact (aparse_5_enn s l0 l1 l2 l3 w hK hL z1 z2 z3 hSp hKo f0 f1 f2).mono fun e w' h => answers_bad (h1 hne) hne h
      · have hne : ¬ toldN (textFault l1) (textFault l2) (numFault l3) = 0 := by unfold toldN; split <;> (try split) <;> (try split) <;> omega
        exact (aparse_5_ene s l0 l1 l2 l3 w hK hL z1 z2 z3 hSp hKo f0 f1 f2).mono fun e w' h => answers_bad (h1 hne) hne h
    · by_cases f2 : numFault l3 = 0
      · have hne : ¬ toldN (textFault l1) (textFault l2) (numFault l3) = 0 := by unfold toldN; split <;> (try split) <;> (try split) <;> omega
        exact (aparse_5_een s l0 l1 l2 l3 w hK hL z1 z2 z3 hSp hKo f0 f1 f2).mono fun e w' h => answers_bad (h1 hne) hne h
      · have hne : ¬ toldN (textFault l1) (textFault l2) (numFault l3) = 0 := by unfold toldN; split <;> (try split) <;> (try split) <;> omega
        exact (aparse_5_eee s l0 l1 l2 l3 w hK hL z1 z2 z3 hSp hKo f0 f1 f2).mono fun e w' h => answers_bad (h1 hne) hne h

/-- Parse, whatever the text. -/
theorem aparse_any (s : ByteArray) (hz : s.size ≤ 9223372036854775806) (w : World) (hK : KindsLaid w) (hL : LibLaid w) :
    Calls Tryz.prog 14 #[.string s] w (Answers (seen s) w) := by
  have hSp := fun (W : World) (_ : Below w.heap.size w W) => split_any s hz W
  have hKo := fun (W : World) (v : Value) (h : Below w.heap.size w W) (hR : ReadsS W v (seen s)) => kindOf_any (seen s) v W (hK.below h) hR (splitL_pos _ _)
  have hlen : ∀ x, x ∈ seen s → x.length ≤ 9223372036854775807 := fun x hx => by
    have h1 := splitL_len hx
    have h2 : s.data.toList.length = s.size := Array.length_toList
    omega
  have hSp' : ∀ W, Below w.heap.size w W → Calls Tryz.prog 34 #[.string s, .string ⟨#[32]⟩, .int .i64 5] W fun e w' => ∃ v, e = .returned v ∧ ReadsS w' v (seen s) ∧ Below W.heap.size W w' := hSp
  clear hSp
  obtain ⟨ws, hws⟩ : ∃ ws, ws = seen s := ⟨_, rfl⟩
  rw [← hws] at hSp' hKo hlen ⊢
  clear hws
  rcases wordsKind_range ws with h0 | ⟨hk, hl⟩
  · rw [h0] at hKo
    have hF : wordsFault ws = 2 := by unfold wordsFault; rw [if_pos h0]
    exact (aparse_zero s ws w hSp' hKo).mono fun e w' h => answers_bad hF (by decide) h
  · obtain ⟨k, hkk⟩ : ∃ k, k = wordsKind ws := ⟨_, rfl⟩
    rw [← hkk] at hKo hk hl
    rcases five hk.1 hk.2 with rfl | rfl | rfl | rfl | rfl
    · obtain ⟨l0, l1, l2, rfl⟩ : ∃ l0 l1 l2, ws = [l0, l1, l2] := by
        match ws, hl with
        | [a, b, c], _ => exact ⟨a, b, c, rfl⟩
      exact aparse_k1 s l0 l1 l2 hkk.symm w hK hL (hlen l1 (by simp)) (hlen l2 (by simp)) hSp' hKo
    · obtain ⟨l0, l1, l2, rfl⟩ : ∃ l0 l1 l2, ws = [l0, l1, l2] := by
        match ws, hl with
        | [a, b, c], _ => exact ⟨a, b, c, rfl⟩
      exact aparse_k2 s l0 l1 l2 hkk.symm w hK hL (hlen l1 (by simp)) (hlen l2 (by simp)) hSp' hKo
    · obtain ⟨l0, l1, l2, rfl⟩ : ∃ l0 l1 l2, ws = [l0, l1, l2] := by
        match ws, hl with
        | [a, b, c], _ => exact ⟨a, b, c, rfl⟩
      exact aparse_k3 s l0 l1 l2 hkk.symm w hK hL (hlen l1 (by simp)) (hlen l2 (by simp)) hSp' hKo
    · obtain ⟨l0, l1, l2, rfl⟩ : ∃ l0 l1 l2, ws = [l0, l1, l2] := by
        match ws, hl with
        | [a, b, c], _ => exact ⟨a, b, c, rfl⟩
      exact aparse_k4 s l0 l1 l2 hkk.symm w hK hL (hlen l1 (by simp)) (hlen l2 (by simp)) hSp' hKo
    · obtain ⟨l0, l1, l2, l3, rfl⟩ : ∃ l0 l1 l2 l3, ws = [l0, l1, l2, l3] := by
        match ws, hl with
        | [a, b, c, d], _ => exact ⟨a, b, c, d, rfl⟩
      exact aparse_k5 s l0 l1 l2 l3 hkk.symm w hK hL (hlen l1 (by simp)) (hlen l2 (by simp)) (hlen l3 (by simp)) hSp' hKo
end Go.Proofs.YtenmheenieifpabGreatDoor

namespace Go.Proofs.YtenmheenieifpabGreatDoor
open Go.ChangeShapes Go.WideShapes Go.ChangeAt Go.RowKit
set_option maxRecDepth 100000

/-- what the reference answers of words. -/
def AnswersR (ws : List (List UInt8)) (w : World) (e : Ending) (w' : World) : Prop :=
  ∃ a, e = .returned (.tuple #[a, .int .i64 (wordsFault ws)]) ∧ (wordsFault ws = 0 → ∃ v0 v1, a = .agg #[.int .i64 (wordsKind ws), v0, v1, .int .i64 (wordsN (wordsKind ws) ws)] ∧ Reads w' v0 (wordsS ws) ∧ Reads w' v1 (wordsT (wordsKind ws) ws)) ∧ (¬ wordsFault ws = 0 → a = .agg #[.int .i64 0, .slice none 0 0, .slice none 0 0, .int .i64 0]) ∧ Below w.heap.size w w'
theorem answersR_bad {ws : List (List UInt8)} {w : World} {e : Ending} {w' : World} {F : Int} (hF : wordsFault ws = F) (h0 : ¬ F = 0) (h : e = .returned (.tuple #[.agg #[.int .i64 0, .slice none 0 0, .slice none 0 0, .int .i64 0], .int .i64 F]) ∧ Below w.heap.size w w') : AnswersR ws w e w' :=
  ⟨_, by rw [hF]; exact h.1, fun h' => absurd (hF.symm.trans h') h0, fun _ => rfl, h.2⟩
theorem q_no {l m : List UInt8} (h : ¬ l = m) : ((strOf l).toList == m) = false := by
  rw [Lib.toList_data, strOf_list]
  simpa using h
theorem q_yes (l : List UInt8) : ((strOf l).toList == l) = true := by
  rw [Lib.toList_data, strOf_list]
  simp

theorem readAtom_k1 (s : ByteArray) (l1 l2 : List UInt8) (w : World) (z1 : l1.length ≤ 1048576) (z2 : l2.length ≤ 1048576)
    (hC : ∀ W, Below w.heap.size w W → Calls Tryz.prog 31 #[.string s, .int .u8 32] W fun e w' => ∃ v, e = .returned v ∧ ReadsS w' v [[115, 117, 98], l1, l2] ∧ Below W.heap.size W w') :
    Calls Tryz.prog 13 #[.string s] w (AnswersR [[115, 117, 98], l1, l2] w) := by
  have hw : wordsKind [[115, 117, 98], l1, l2] = 1 := rfl
  have hF : wordsFault [[115, 117, 98], l1, l2] = if partsBad 1 [[115, 117, 98], l1, l2] = true then 2 else atomFault 1 (readN l1) (readN l2) 0 := by
    unfold wordsFault; rw [hw, if_neg (by decide)]; rfl
  have hP : partsBad 1 [[115, 117, 98], l1, l2] = (!lettersB l1 || !lettersB l2 || false) := rfl
  cases b1 : lettersB l1 with
  | false => exact (readAtom_1_s s _ [115, 117, 98] l1 l2 w rfl  (q_yes _) z1 z2 b1 hC).mono fun e w' h => answersR_bad (by rw [hF, if_pos]; rw [hP, b1]; simp) (by decide) h
  | true =>
    cases b2 : lettersB l2 with
    | false => exact (readAtom_1_t s _ [115, 117, 98] l1 l2 w rfl  (q_yes _) z1 z2 b1 b2 hC).mono fun e w' h => answersR_bad (by rw [hF, if_pos]; rw [hP, b1, b2]; simp) (by decide) h
    | true =>
      have hp : ¬ partsBad 1 [[115, 117, 98], l1, l2] = true := by rw [hP, b1, b2]; simp
      rw [if_neg hp] at hF
      by_cases hA : atomFault 1 (readN l1) (readN l2) 0 = 0
      · refine (readAtom_1_g s _ [115, 117, 98] l1 l2 w rfl  (q_yes _) z1 z2 b1 b2 hA hC).mono ?_
        rintro e w' ⟨⟨v0, v1, he, r0, r1⟩, hb⟩
        exact ⟨_, by rw [hF, hA]; exact he, fun _ => ⟨v0, v1, by rw [hw]; rfl, r0, by rw [hw]; exact r1⟩, fun h' => absurd (hF.trans hA) h', hb⟩
      · exact (readAtom_1_f s _ [115, 117, 98] l1 l2 w rfl  (q_yes _) z1 z2 b1 b2 hA hC).mono fun e w' h => answersR_bad hF hA h

theorem readAtom_k2 (s : ByteArray) (l1 l2 : List UInt8) (w : World) (z1 : l1.length ≤ 1048576) (z2 : l2.length ≤ 1048576)
    (hC : ∀ W, Below w.heap.size w W → Calls Tryz.prog 31 #[.string s, .int .u8 32] W fun e w' => ∃ v, e = .returned v ∧ ReadsS w' v [[115, 97, 109, 101], l1, l2] ∧ Below W.heap.size W w') :
    Calls Tryz.prog 13 #[.string s] w (AnswersR [[115, 97, 109, 101], l1, l2] w) := by
  have hw : wordsKind [[115, 97, 109, 101], l1, l2] = 2 := rfl
  have hF : wordsFault [[115, 97, 109, 101], l1, l2] = if partsBad 2 [[115, 97, 109, 101], l1, l2] = true then 2 else atomFault 2 (readN l1) (readN l2) 0 := by
    unfold wordsFault; rw [hw, if_neg (by decide)]; rfl
  have hP : partsBad 2 [[115, 97, 109, 101], l1, l2] = (!lettersB l1 || !lettersB l2 || false) := rfl
  cases b1 : lettersB l1 with
  | false => exact (readAtom_2_s s _ [115, 97, 109, 101] l1 l2 w rfl (q_no (by decide)) (q_yes _) z1 z2 b1 hC).mono fun e w' h => answersR_bad (by rw [hF, if_pos]; rw [hP, b1]; simp) (by decide) h
  | true =>
    cases b2 : lettersB l2 with
    | false => exact (readAtom_2_t s _ [115, 97, 109, 101] l1 l2 w rfl (q_no (by decide)) (q_yes _) z1 z2 b1 b2 hC).mono fun e w' h => answersR_bad (by rw [hF, if_pos]; rw [hP, b1, b2]; simp) (by decide) h
    | true =>
      have hp : ¬ partsBad 2 [[115, 97, 109, 101], l1, l2] = true := by rw [hP, b1, b2]; simp
      rw [if_neg hp] at hF
      by_cases hA : atomFault 2 (readN l1) (readN l2) 0 = 0
      · refine (readAtom_2_g s _ [115, 97, 109, 101] l1 l2 w rfl (q_no (by decide)) (q_yes _) z1 z2 b1 b2 hA hC).mono ?_
        rintro e w' ⟨⟨v0, v1, he, r0, r1⟩, hb⟩
        exact ⟨_, by rw [hF, hA]; exact he, fun _ => ⟨v0, v1, by rw [hw]; rfl, r0, by rw [hw]; exact r1⟩, fun h' => absurd (hF.trans hA) h', hb⟩
      · exact (readAtom_2_f s _ [115, 97, 109, 101] l1 l2 w rfl (q_no (by decide)) (q_yes _) z1 z2 b1 b2 hA hC).mono fun e w' h => answersR_bad hF hA h

theorem readAtom_k3 (s : ByteArray) (l1 l2 : List UInt8) (w : World) (z1 : l1.length ≤ 1048576) (z2 : l2.length ≤ 1048576)
    (hC : ∀ W, Below w.heap.size w W → Calls Tryz.prog 31 #[.string s, .int .u8 32] W fun e w' => ∃ v, e = .returned v ∧ ReadsS w' v [[108, 101, 97, 115, 116], l1, l2] ∧ Below W.heap.size W w') :
    Calls Tryz.prog 13 #[.string s] w (AnswersR [[108, 101, 97, 115, 116], l1, l2] w) := by
  have hw : wordsKind [[108, 101, 97, 115, 116], l1, l2] = 3 := rfl
  have hF : wordsFault [[108, 101, 97, 115, 116], l1, l2] = if partsBad 3 [[108, 101, 97, 115, 116], l1, l2] = true then 2 else atomFault 3 (readN l1) [] ((numOf l2).getD 0) := by
    unfold wordsFault; rw [hw, if_neg (by decide)]; rfl
  have hP : partsBad 3 [[108, 101, 97, 115, 116], l1, l2] = (!lettersB l1 || false || (numOf l2).isNone) := rfl
  cases b1 : lettersB l1 with
  | false => exact (readAtom_3_s s _ [108, 101, 97, 115, 116] l1 l2 w rfl (q_no (by decide)) (q_no (by decide)) (q_yes _) z1 z2 b1 hC).mono fun e w' h => answersR_bad (by rw [hF, if_pos]; rw [hP, b1]; simp) (by decide) h
  | true =>
    cases bn : (numOf l2).isSome with
    | false => exact (readAtom_3_n s _ [108, 101, 97, 115, 116] l1 l2 w rfl (q_no (by decide)) (q_no (by decide)) (q_yes _) z1 z2 b1 bn hC).mono fun e w' h => answersR_bad (by rw [hF, if_pos]; rw [hP]; have hn : (numOf l2).isNone = true := (by cases h : numOf l2 <;> simp_all); rw [hn]; simp) (by decide) h
    | true =>
      have hp : ¬ partsBad 3 [[108, 101, 97, 115, 116], l1, l2] = true := by have hn : (numOf l2).isNone = false := (by cases h : numOf l2 <;> simp_all); rw [hP, b1, hn]; simp
      rw [if_neg hp] at hF
      by_cases hA : atomFault 3 (readN l1) [] ((numOf l2).getD 0) = 0
      · refine (readAtom_3_g s _ [108, 101, 97, 115, 116] l1 l2 w rfl (q_no (by decide)) (q_no (by decide)) (q_yes _) z1 z2 b1 bn hA hC).mono ?_
        rintro e w' ⟨⟨v0, v1, he, r0, r1⟩, hb⟩
        exact ⟨_, by rw [hF, hA]; exact he, fun _ => ⟨v0, v1, by rw [hw]; rfl, r0, by rw [hw]; exact r1⟩, fun h' => absurd (hF.trans hA) h', hb⟩
      · exact (readAtom_3_f s _ [108, 101, 97, 115, 116] l1 l2 w rfl (q_no (by decide)) (q_no (by decide)) (q_yes _) z1 z2 b1 bn hA hC).mono fun e w' h => answersR_bad hF hA h

theorem readAtom_k4 (s : ByteArray) (l1 l2 : List UInt8) (w : World) (z1 : l1.length ≤ 1048576) (z2 : l2.length ≤ 1048576)
    (hC : ∀ W, Below w.heap.size w W → Calls Tryz.prog 31 #[.string s, .int .u8 32] W fun e w' => ∃ v, e = .returned v ∧ ReadsS w' v [[109, 111, 115, 116], l1, l2] ∧ Below W.heap.size W w') :
    Calls Tryz.prog 13 #[.string s] w (AnswersR [[109, 111, 115, 116], l1, l2] w) := by
  have hw : wordsKind [[109, 111, 115, 116], l1, l2] = 4 := rfl
  have hF : wordsFault [[109, 111, 115, 116], l1, l2] = if partsBad 4 [[109, 111, 115, 116], l1, l2] = true then 2 else atomFault 4 (readN l1) [] ((numOf l2).getD 0) := by
    unfold wordsFault; rw [hw, if_neg (by decide)]; rfl
  have hP : partsBad 4 [[109, 111, 115, 116], l1, l2] = (!lettersB l1 || false || (numOf l2).isNone) := rfl
  cases b1 : lettersB l1 with
  | false => exact (readAtom_4_s s _ [109, 111, 115, 116] l1 l2 w rfl (q_no (by decide)) (q_no (by decide)) (q_no (by decide)) (q_yes _) z1 z2 b1 hC).mono fun e w' h => answersR_bad (by rw [hF, if_pos]; rw [hP, b1]; simp) (by decide) h
  | true =>
    cases bn : (numOf l2).isSome with
    | false => exact (readAtom_4_n s _ [109, 111, 115, 116] l1 l2 w rfl (q_no (by decide)) (q_no (by decide)) (q_no (by decide)) (q_yes _) z1 z2 b1 bn hC).mono fun e w' h => answersR_bad (by rw [hF, if_pos]; rw [hP]; have hn : (numOf l2).isNone = true := (by cases h : numOf l2 <;> simp_all); rw [hn]; simp) (by decide) h
    | true =>
      have hp : ¬ partsBad 4 [[109, 111, 115, 116], l1, l2] = true := by have hn : (numOf l2).isNone = false := (by cases h : numOf l2 <;> simp_all); rw [hP, b1, hn]; simp
      rw [if_neg hp] at hF
      by_cases hA : atomFault 4 (readN l1) [] ((numOf l2).getD 0) = 0
      · refine (readAtom_4_g s _ [109, 111, 115, 116] l1 l2 w rfl (q_no (by decide)) (q_no (by decide)) (q_no (by decide)) (q_yes _) z1 z2 b1 bn hA hC).mono ?_
        rintro e w' ⟨⟨v0, v1, he, r0, r1⟩, hb⟩
        exact ⟨_, by rw [hF, hA]; exact he, fun _ => ⟨v0, v1, by rw [hw]; rfl, r0, by rw [hw]; exact r1⟩, fun h' => absurd (hF.trans hA) h', hb⟩
      · exact (readAtom_4_f s _ [109, 111, 115, 116] l1 l2 w rfl (q_no (by decide)) (q_no (by decide)) (q_no (by decide)) (q_yes _) z1 z2 b1 bn hA hC).mono fun e w' h => answersR_bad hF hA h

theorem readAtom_k5 (s : ByteArray) (l1 l2 l3 : List UInt8) (w : World) (z1 : l1.length ≤ 1048576) (z2 : l2.length ≤ 1048576) (z3 : l3.length ≤ 1048576)
    (hC : ∀ W, Below w.heap.size w W → Calls Tryz.prog 31 #[.string s, .int .u8 32] W fun e w' => ∃ v, e = .returned v ∧ ReadsS w' v [[110, 111, 109, 111, 114, 101], l1, l2, l3] ∧ Below W.heap.size W w') :
    Calls Tryz.prog 13 #[.string s] w (AnswersR [[110, 111, 109, 111, 114, 101], l1, l2, l3] w) := by
  have hw : wordsKind [[110, 111, 109, 111, 114, 101], l1, l2, l3] = 5 := rfl
  have hF : wordsFault [[110, 111, 109, 111, 114, 101], l1, l2, l3] = if partsBad 5 [[110, 111, 109, 111, 114, 101], l1, l2, l3] = true then 2 else atomFault 5 (readN l1) (readN l2) ((numOf l3).getD 0) := by
    unfold wordsFault; rw [hw, if_neg (by decide)]; rfl
  have hP : partsBad 5 [[110, 111, 109, 111, 114, 101], l1, l2, l3] = (!lettersB l1 || !lettersB l2 || (numOf l3).isNone) := rfl
  cases b1 : lettersB l1 with
  | false => exact (readAtom_5_s s _ [110, 111, 109, 111, 114, 101] l1 l2 l3 w rfl (q_no (by decide)) (q_no (by decide)) (q_no (by decide)) (q_no (by decide)) (q_yes _) z1 z2 z3 b1 hC).mono fun e w' h => answersR_bad (by rw [hF, if_pos]; rw [hP, b1]; simp) (by decide) h
  | true =>
    cases b2 : lettersB l2 with
    | false => exact (readAtom_5_t s _ [110, 111, 109, 111, 114, 101] l1 l2 l3 w rfl (q_no (by decide)) (q_no (by decide)) (q_no (by decide)) (q_no (by decide)) (q_yes _) z1 z2 z3 b1 b2 hC).mono fun e w' h => answersR_bad (by rw [hF, if_pos]; rw [hP, b1, b2]; simp) (by decide) h
    | true =>
      cases bn : (numOf l3).isSome with
      | false => exact (readAtom_5_n s _ [110, 111, 109, 111, 114, 101] l1 l2 l3 w rfl (q_no (by decide)) (q_no (by decide)) (q_no (by decide)) (q_no (by decide)) (q_yes _) z1 z2 z3 b1 b2 bn hC).mono fun e w' h => answersR_bad (by rw [hF, if_pos]; rw [hP]; have hn : (numOf l3).isNone = true := (by cases h : numOf l3 <;> simp_all); rw [hn]; simp) (by decide) h
      | true =>
        have hp : ¬ partsBad 5 [[110, 111, 109, 111, 114, 101], l1, l2, l3] = true := by have hn : (numOf l3).isNone = false := (by cases h : numOf l3 <;> simp_all); rw [hP, b1, b2, hn]; simp
        rw [if_neg hp] at hF
        by_cases hA : atomFault 5 (readN l1) (readN l2) ((numOf l3).getD 0) = 0
        · refine (readAtom_5_g s _ [110, 111, 109, 111, 114, 101] l1 l2 l3 w rfl (q_no (by decide)) (q_no (by decide)) (q_no (by decide)) (q_no (by decide)) (q_yes _) z1 z2 z3 b1 b2 bn hA hC).mono ?_
          rintro e w' ⟨⟨v0, v1, he, r0, r1⟩, hb⟩
          exact ⟨_, by rw [hF, hA]; exact he, fun _ => ⟨v0, v1, by rw [hw]; rfl, r0, by rw [hw]; exact r1⟩, fun h' => absurd (hF.trans hA) h', hb⟩
        · exact (readAtom_5_f s _ [110, 111, 109, 111, 114, 101] l1 l2 l3 w rfl (q_no (by decide)) (q_no (by decide)) (q_no (by decide)) (q_no (by decide)) (q_yes _) z1 z2 z3 b1 b2 bn hA hC).mono fun e w' h => answersR_bad hF hA h

theorem readAtom_words (s : ByteArray) (ws : List (List UInt8)) (w : World) (h0 : 0 < ws.length) (hlen : ∀ x, x ∈ ws → x.length ≤ 1048576)
    (hC : ∀ W, Below w.heap.size w W → Calls Tryz.prog 31 #[.string s, .int .u8 32] W fun e w' => ∃ v, e = .returned v ∧ ReadsS w' v ws ∧ Below W.heap.size W w') :
    Calls Tryz.prog 13 #[.string s] w (AnswersR ws w) := by
  have hk : ∀ x, ws.getD 0 [] = x → wordsKind ws = if ws.length = manyN (kindOfN x) then kindOfN x else 0 := by
    intro x hx; unfold wordsKind; rw [hx]
  have hzero : wordsKind ws = 0 → wordsFault ws = 2 := fun h => by unfold wordsFault; rw [if_pos h]
  by_cases x1 : ws.getD 0 [] = [115, 117, 98]
  · have e := hk _ x1
    rw [show manyN (kindOfN [115, 117, 98]) = 3 by decide, show kindOfN [115, 117, 98] = 1 by decide] at e
    by_cases hl : ws.length = 3
    · obtain ⟨l1, l2, rfl⟩ : ∃ l1 l2, ws = [[115, 117, 98], l1, l2] := by
        match ws, hl, x1 with
        | [a, b, c], _, h => exact ⟨b, c, by rw [← (show a = [115, 117, 98] from h)]⟩
      exact readAtom_k1 s l1 l2 w (hlen l1 (by simp)) (hlen l2 (by simp)) hC
    · rw [if_neg hl] at e
      exact (readAtom_1_c s _ ws w h0 rfl  (by rw [x1]; exact q_yes _) hl hC).mono fun _ _ h => answersR_bad (hzero e) (by decide) h
  by_cases x2 : ws.getD 0 [] = [115, 97, 109, 101]
  · have e := hk _ x2
    rw [show manyN (kindOfN [115, 97, 109, 101]) = 3 by decide, show kindOfN [115, 97, 109, 101] = 2 by decide] at e
    by_cases hl : ws.length = 3
    · obtain ⟨l1, l2, rfl⟩ : ∃ l1 l2, ws = [[115, 97, 109, 101], l1, l2] := by
        match ws, hl, x2 with
        | [a, b, c], _, h => exact ⟨b, c, by rw [← (show a = [115, 97, 109, 101] from h)]⟩
      exact readAtom_k2 s l1 l2 w (hlen l1 (by simp)) (hlen l2 (by simp)) hC
    · rw [if_neg hl] at e
      exact (readAtom_2_c s _ ws w h0 rfl (by rw [x2]; exact q_no (by decide)) (by rw [x2]; exact q_yes _) hl hC).mono fun _ _ h => answersR_bad (hzero e) (by decide) h
  by_cases x3 : ws.getD 0 [] = [108, 101, 97, 115, 116]
  · have e := hk _ x3
    rw [show manyN (kindOfN [108, 101, 97, 115, 116]) = 3 by decide, show kindOfN [108, 101, 97, 115, 116] = 3 by decide] at e
    by_cases hl : ws.length = 3
    · obtain ⟨l1, l2, rfl⟩ : ∃ l1 l2, ws = [[108, 101, 97, 115, 116], l1, l2] := by
        match ws, hl, x3 with
        | [a, b, c], _, h => exact ⟨b, c, by rw [← (show a = [108, 101, 97, 115, 116] from h)]⟩
      exact readAtom_k3 s l1 l2 w (hlen l1 (by simp)) (hlen l2 (by simp)) hC
    · rw [if_neg hl] at e
      exact (readAtom_3_c s _ ws w h0 rfl (by rw [x3]; exact q_no (by decide)) (by rw [x3]; exact q_no (by decide)) (by rw [x3]; exact q_yes _) hl hC).mono fun _ _ h => answersR_bad (hzero e) (by decide) h
  by_cases x4 : ws.getD 0 [] = [109, 111, 115, 116]
  · have e := hk _ x4
    rw [show manyN (kindOfN [109, 111, 115, 116]) = 3 by decide, show kindOfN [109, 111, 115, 116] = 4 by decide] at e
    by_cases hl : ws.length = 3
    · obtain ⟨l1, l2, rfl⟩ : ∃ l1 l2, ws = [[109, 111, 115, 116], l1, l2] := by
        match ws, hl, x4 with
        | [a, b, c], _, h => exact ⟨b, c, by rw [← (show a = [109, 111, 115, 116] from h)]⟩
      exact readAtom_k4 s l1 l2 w (hlen l1 (by simp)) (hlen l2 (by simp)) hC
    · rw [if_neg hl] at e
      exact (readAtom_4_c s _ ws w h0 rfl (by rw [x4]; exact q_no (by decide)) (by rw [x4]; exact q_no (by decide)) (by rw [x4]; exact q_no (by decide)) (by rw [x4]; exact q_yes _) hl hC).mono fun _ _ h => answersR_bad (hzero e) (by decide) h
  by_cases x5 : ws.getD 0 [] = [110, 111, 109, 111, 114, 101]
  · have e := hk _ x5
    rw [show manyN (kindOfN [110, 111, 109, 111, 114, 101]) = 4 by decide, show kindOfN [110, 111, 109, 111, 114, 101] = 5 by decide] at e
    by_cases hl : ws.length = 4
    · obtain ⟨l1, l2, l3, rfl⟩ : ∃ l1 l2 l3, ws = [[110, 111, 109, 111, 114, 101], l1, l2, l3] := by
        match ws, hl, x5 with
        | [a, b, c, d], _, h => exact ⟨b, c, d, by rw [← (show a = [110, 111, 109, 111, 114, 101] from h)]⟩
      exact readAtom_k5 s l1 l2 l3 w (hlen l1 (by simp)) (hlen l2 (by simp)) (hlen l3 (by simp)) hC
    · rw [if_neg hl] at e
      exact (readAtom_5_c s _ ws w h0 rfl (by rw [x5]; exact q_no (by decide)) (by rw [x5]; exact q_no (by decide)) (by rw [x5]; exact q_no (by decide)) (by rw [x5]; exact q_no (by decide)) (by rw [x5]; exact q_yes _) hl hC).mono fun _ _ h => answersR_bad (hzero e) (by decide) h
  have e : wordsKind ws = 0 := by
    have e0 : kindOfN (ws.getD 0 []) = 0 := by unfold kindOfN; rw [if_neg x1, if_neg x2, if_neg x3, if_neg x4, if_neg x5]
    unfold wordsKind
    rw [e0]
    split <;> rfl
  exact (readAtom_none s _ ws w h0 rfl (q_no x1) (q_no x2) (q_no x3) (q_no x4) (q_no x5) hC).mono fun _ _ h => answersR_bad (hzero e) (by decide) h

/-- ReadAtom, of any text. -/
theorem readAtom_any (s : ByteArray) (hz : s.size ≤ 1048576) (w : World) :
    Calls Tryz.prog 13 #[.string s] w (AnswersR (cutL s.data.toList) w) := by
  refine readAtom_words s _ w (splitL_pos _ _) (fun x hx => ?_) (fun W _ => refCut_any s hz W)
  have h1 := splitL_len hx
  have h2 : s.data.toList.length = s.size := Array.length_toList
  omega
end Go.Proofs.YtenmheenieifpabGreatDoor
