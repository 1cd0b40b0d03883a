/-
  Proved: what vennref1.ReadAtom returns, of words that are no atom's by their first or by their number; what was in memory is as it was (a contract that the statements lean on).
-/
import Derived.Test.YtfnkbbpjfjendaiGreatDoorLibTX9
import Derived.Test.YtfnkbbpjfjendaiGreatDoorLibTX15
import Derived.Test.YtfnkbbpjfjendaiGreatDoorLibTX16
import Derived.Test.YtfnkbbpjfjendaiGreatDoorLibTX5
import Derived.Test.YtfnkbbpjfjendaiGreatDoorLibTX7
namespace Go.Proofs.YtfnkbbpjfjendaiGreatDoor
open Go.ChangeShapes Go.WideShapes Go.ChangeAt Go.RowKit
set_option maxRecDepth 100000
theorem newV_mono {K L : Nat} {v : Value} (h : NewV L v) (hK : K ≤ L) : NewV K v := by
  obtain ⟨ao, n, c, rfl, h⟩ := h
  exact ⟨ao, n, c, rfl, fun p hp => Nat.le_trans hK (h p hp)⟩
/-- an atom lies at A, and may be written. -/
def OneA (W : World) (A : Nat) (k vS vT n : Value) : Prop :=
  (W.cell? ⟨A, 0, none⟩ = some k ∧ W.cell? ⟨A, 1, none⟩ = some vS ∧ W.cell? ⟨A, 2, none⟩ = some vT ∧ W.cell? ⟨A, 3, none⟩ = some n) ∧ (∀ j, W.frozen? ⟨A, j, none⟩ = false) ∧ A < W.heap.size
theorem OneA.below {W W' : World} {A K : Nat} {k vS vT n : Value} (h : OneA W A k vS vT n) (hb : Below K W W') (hK : A < K) : OneA W' A k vS vT n := by
  obtain ⟨⟨a0, a1, a2, a3⟩, f0, hl⟩ := h
  exact ⟨⟨(hb.cell hK).trans a0, (hb.cell hK).trans a1, (hb.cell hK).trans a2, (hb.cell hK).trans a3⟩, fun j => (hb.frozen hK).trans (f0 j), Nat.lt_of_lt_of_le hl hb.size⟩
theorem OneA.far {W : World} {A B j : Nat} {k vS vT n v : Value} (h : OneA W A k vS vT n) (hB : B ≠ A) : OneA (W.setCell ⟨B, j, none⟩ v) A k vS vT n := by
  obtain ⟨⟨a0, a1, a2, a3⟩, f0, hl⟩ := h
  exact ⟨⟨(set_far (ne_blk hB)).trans a0, (set_far (ne_blk hB)).trans a1, (set_far (ne_blk hB)).trans a2, (set_far (ne_blk hB)).trans a3⟩, fun j => by simp [f0 j], by simpa using hl⟩
theorem OneA.s0 {W : World} {A : Nat} {k vS vT n : Value} (h : OneA W A k vS vT n) (v : Value) : OneA (W.setCell ⟨A, 0, none⟩ v) A v vS vT n := by
  obtain ⟨⟨a0, a1, a2, a3⟩, f0, hl⟩ := h
  exact ⟨⟨set_same a0, (set_far (ne_off (by decide))).trans a1, (set_far (ne_off (by decide))).trans a2, (set_far (ne_off (by decide))).trans a3⟩, fun j => by simp [f0 j], by simpa using hl⟩
theorem OneA.s1 {W : World} {A : Nat} {k vS vT n : Value} (h : OneA W A k vS vT n) (v : Value) : OneA (W.setCell ⟨A, 1, none⟩ v) A k v vT n := by
  obtain ⟨⟨a0, a1, a2, a3⟩, f0, hl⟩ := h
  exact ⟨⟨(set_far (ne_off (by decide))).trans a0, set_same a1, (set_far (ne_off (by decide))).trans a2, (set_far (ne_off (by decide))).trans a3⟩, fun j => by simp [f0 j], by simpa using hl⟩
theorem OneA.s2 {W : World} {A : Nat} {k vS vT n : Value} (h : OneA W A k vS vT n) (v : Value) : OneA (W.setCell ⟨A, 2, none⟩ v) A k vS v n := by
  obtain ⟨⟨a0, a1, a2, a3⟩, f0, hl⟩ := h
  exact ⟨⟨(set_far (ne_off (by decide))).trans a0, (set_far (ne_off (by decide))).trans a1, set_same a2, (set_far (ne_off (by decide))).trans a3⟩, fun j => by simp [f0 j], by simpa using hl⟩
theorem OneA.s3 {W : World} {A : Nat} {k vS vT n : Value} (h : OneA W A k vS vT n) (v : Value) : OneA (W.setCell ⟨A, 3, none⟩ v) A k vS vT v := by
  obtain ⟨⟨a0, a1, a2, a3⟩, f0, hl⟩ := h
  exact ⟨⟨(set_far (ne_off (by decide))).trans a0, (set_far (ne_off (by decide))).trans a1, (set_far (ne_off (by decide))).trans a2, set_same a3⟩, fun j => by simp [f0 j], by simpa using hl⟩
theorem oneA_alloc (w : World) (k vS vT n : Value) (ta : TypeId) : OneA (w.alloc (.cells #[k, vS, vT, n] ta)) w.heap.size k vS vT n := ⟨⟨by simp, by simp, by simp, by simp⟩, fun j => by simp, by simp⟩
/-- all four written anew. -/
theorem OneA.all {W : World} {A : Nat} {k vS vT n : Value} (h : OneA W A k vS vT n) (k' vS' vT' n' : Value) : OneA ((((W.setCell ⟨A, 0, none⟩ k').setCell ⟨A, 1, none⟩ vS').setCell ⟨A, 2, none⟩ vT').setCell ⟨A, 3, none⟩ n') A k' vS' vT' n' := (((h.s0 k').s1 vS').s2 vT').s3 n'

/-- while an atom is read: what was before w's end is as it was; the atom lies at A, the result at w's end, the words at wb. -/
def StA (w W : World) (A wb : Nat) (ws : List (List UInt8)) (k vS vT n : Value) : Prop :=
  Below w.heap.size w W ∧ OneA W A k vS vT n ∧ OneA W w.heap.size (.int .i64 0) (.slice none 0 0) (.slice none 0 0) (.int .i64 0) ∧ w.heap.size < A ∧ wb ≠ A ∧ wb < W.heap.size ∧ ∀ j, j < ws.length → W.cell? ⟨wb, j, none⟩ = some (.string (strOf (ws.getD j [])))
theorem stA_start {w w1 w2 : World} {wb : Nat} {ws : List (List UInt8)} (hB1 : Below w.heap.size w w1) (hR1 : OneA w1 w.heap.size (.int .i64 0) (.slice none 0 0) (.slice none 0 0) (.int .i64 0)) (hb : Below w1.heap.size w1 w2) (hwb : wb < w2.heap.size) (hcell : ∀ j, j < ws.length → w2.cell? ⟨wb, j, none⟩ = some (.string (strOf (ws.getD j [])))) (k : Value) (ta : TypeId) :
    StA w (w2.alloc (.cells #[k, .slice none 0 0, .slice none 0 0, .int .i64 0] ta)) w2.heap.size wb ws k (.slice none 0 0) (.slice none 0 0) (.int .i64 0) := by
  have hb3 : Below w2.heap.size w2 (w2.alloc (.cells #[k, .slice none 0 0, .slice none 0 0, .int .i64 0] ta)) := below_alloc1 w2 _
  have hR2 := hR1.below hb hR1.2.2
  have h12 := hb.size
  have h01 := hB1.size
  have hl := hR1.2.2
  refine ⟨(hB1.trans (hb.mono h01)).trans (hb3.mono (by omega)), oneA_alloc _ _ _ _ _ _, hR2.below hb3 hR2.2.2, by omega, by omega, Nat.lt_of_lt_of_le hwb hb3.size, fun j hj => (hb3.cell hwb).trans (hcell j hj)⟩
theorem StA.own {w W : World} {A wb : Nat} {ws : List (List UInt8)} {k vS vT n : Value} (h : StA w W A wb ws k vS vT n) : OneA W A k vS vT n := h.2.1
theorem StA.res {w W : World} {A wb : Nat} {ws : List (List UInt8)} {k vS vT n : Value} (h : StA w W A wb ws k vS vT n) : OneA W w.heap.size (.int .i64 0) (.slice none 0 0) (.slice none 0 0) (.int .i64 0) := h.2.2.1
theorem StA.word {w W : World} {A wb : Nat} {ws : List (List UInt8)} {k vS vT n : Value} (h : StA w W A wb ws k vS vT n) (j : Nat) (hj : j < ws.length) : W.cell? ⟨wb, j, none⟩ = some (.string (strOf (ws.getD j []))) := h.2.2.2.2.2.2 j hj
theorem StA.lts {w W : World} {A wb : Nat} {ws : List (List UInt8)} {k vS vT n : Value} (h : StA w W A wb ws k vS vT n) : A < W.heap.size ∧ w.heap.size < W.heap.size := ⟨h.2.1.2.2, h.2.2.1.2.2⟩
theorem StA.call {w W W' : World} {A wb : Nat} {ws : List (List UInt8)} {k vS vT n : Value} (h : StA w W A wb ws k vS vT n) (hb : Below W.heap.size W W') : StA w W' A wb ws k vS vT n := by
  obtain ⟨h1, h2, h3, h4, h5, h6, h7⟩ := h
  exact ⟨h1.trans (hb.mono h1.size), h2.below hb h2.2.2, h3.below hb h3.2.2, h4, h5, Nat.lt_of_lt_of_le h6 hb.size, fun j hj => (hb.cell h6).trans (h7 j hj)⟩
theorem StA.s1 {w W : World} {A wb : Nat} {ws : List (List UInt8)} {k vS vT n : Value} (h : StA w W A wb ws k vS vT n) (v : Value) : StA w (W.setCell ⟨A, 1, none⟩ v) A wb ws k v vT n := by
  obtain ⟨h1, h2, h3, h4, h5, h6, h7⟩ := h
  exact ⟨h1.setCell (Nat.le_of_lt h4) _, h2.s1 v, h3.far (by omega), h4, h5, by simpa using h6, fun j hj => (set_far (ne_blk h5.symm)).trans (h7 j hj)⟩
theorem StA.s2 {w W : World} {A wb : Nat} {ws : List (List UInt8)} {k vS vT n : Value} (h : StA w W A wb ws k vS vT n) (v : Value) : StA w (W.setCell ⟨A, 2, none⟩ v) A wb ws k vS v n := by
  obtain ⟨h1, h2, h3, h4, h5, h6, h7⟩ := h
  exact ⟨h1.setCell (Nat.le_of_lt h4) _, h2.s2 v, h3.far (by omega), h4, h5, by simpa using h6, fun j hj => (set_far (ne_blk h5.symm)).trans (h7 j hj)⟩
theorem StA.s3 {w W : World} {A wb : Nat} {ws : List (List UInt8)} {k vS vT n : Value} (h : StA w W A wb ws k vS vT n) (v : Value) : StA w (W.setCell ⟨A, 3, none⟩ v) A wb ws k vS vT v := by
  obtain ⟨h1, h2, h3, h4, h5, h6, h7⟩ := h
  exact ⟨h1.setCell (Nat.le_of_lt h4) _, h2.s3 v, h3.far (by omega), h4, h5, by simpa using h6, fun j hj => (set_far (ne_blk h5.symm)).trans (h7 j hj)⟩
theorem StA.fin {w W : World} {A wb : Nat} {ws : List (List UInt8)} {k vS vT n : Value} (h : StA w W A wb ws k vS vT n) (b0 b1 b2 b3 : Value) : Below w.heap.size w ((((W.setCell ⟨w.heap.size, 0, none⟩ b0).setCell ⟨w.heap.size, 1, none⟩ b1).setCell ⟨w.heap.size, 2, none⟩ b2).setCell ⟨w.heap.size, 3, none⟩ b3) :=
  (((h.1.setCell (Nat.le_refl _) _).setCell (Nat.le_refl _) _).setCell (Nat.le_refl _) _).setCell (Nat.le_refl _) _
/-- a new row reads as it did behind a store before it. -/
theorem Reads.storeNew {W : World} {K : Nat} {v : Value} {t : List Int} {B j : Nat} {x : Value} (h : Reads W v t) (hn : NewV K v) (hB : B < K) : Reads (W.setCell ⟨B, j, none⟩ x) v t := by
  rcases h with h | ⟨b, off, cap, e, h2, h3, h4, h5⟩
  · exact Or.inl h
  · obtain ⟨ao, n, c, e', hp⟩ := hn
    rw [e] at e'
    injection e' with e1 _ _
    have hb : K ≤ b := hp _ e1.symm
    refine Or.inr ⟨b, off, cap, e, by simpa using h2, h3, h4, fun k hk => ?_⟩
    rw [set_far (ne_blk (by omega))]
    exact h5 k hk
theorem Reads.storeAll {W : World} {K : Nat} {v : Value} {t : List Int} {B : Nat} {x0 x1 x2 x3 : Value} (h : Reads W v t) (hn : NewV K v) (hB : B < K) : Reads ((((W.setCell ⟨B, 0, none⟩ x0).setCell ⟨B, 1, none⟩ x1).setCell ⟨B, 2, none⟩ x2).setCell ⟨B, 3, none⟩ x3) v t :=
  (((h.storeNew hn hB).storeNew hn hB).storeNew hn hB).storeNew hn hB
theorem readTerm_word (l : List UInt8) (hl : l.length ≤ 1048576) (W : World) :
    Calls Tryz.prog 42 #[.string (strOf l)] W fun e w' => ∃ v, e = .returned (.tuple #[v, .bool (lettersB l)]) ∧ (lettersB l = true → Reads w' v (readN l)) ∧ NewV W.heap.size v ∧ Below W.heap.size W w' := by
  have h := readTerm_fresh (strOf l) (by rw [strOf_size]; exact hl) W
  rw [strOf_list] at h
  refine h.mono fun e w' h => ?_
  cases hb : lettersB l with
  | true =>
    obtain ⟨v, h1, h2, h3⟩ := h.1 hb
    exact ⟨v, h1, fun _ => h2, h3, h.2.2⟩
  | false => exact ⟨_, h.2.1 hb, fun h' => (by cases h'), ⟨_, _, _, rfl, fun p hp => (by cases hp)⟩, h.2.2⟩


set_option maxHeartbeats 4000000 in
theorem readAtom_none (s x : ByteArray) (ws : List (List UInt8)) (w : World) (h0 : 0 < ws.length) (hx : strOf (ws.getD 0 []) = x) (q1 : (x.toList == [115, 117, 98]) = false) (q2 : (x.toList == [115, 97, 109, 101]) = false) (q3 : (x.toList == [108, 101, 97, 115, 116]) = false) (q4 : (x.toList == [109, 111, 115, 116]) = false) (q5 : (x.toList == [110, 111, 109, 111, 114, 101]) = false)
    (hC : ∀ W, Below w.heap.size w W → Calls Tryz.prog 21 #[.string s, .int .u8 32] W fun e w' => ∃ v, e = .returned v ∧ ReadsS w' v ws ∧ Below W.heap.size W w') :
    Calls Tryz.prog 22 #[.string s] w fun e w' => e = .returned (.tuple #[.agg #[.int .i64 0, .slice none 0 0, .slice none 0 0, .int .i64 0], .int .i64 2]) ∧ Below w.heap.size w w' := by
  obtain ⟨w1, hw1⟩ : ∃ w1, w1 = w.alloc (.cells #[.int .i64 0, .slice none 0 0, .slice none 0 0, .int .i64 0] 40) := ⟨_, rfl⟩
  have HB1 : Hid (Below w.heap.size w w1) := by unfold Hid; rw [hw1]; exact below_alloc1 w _
  have HR1 : Hid (OneA w1 w.heap.size (.int .i64 0) (.slice none 0 0) (.slice none 0 0) (.int .i64 0)) := by unfold Hid; rw [hw1]; exact oneA_alloc _ _ _ _ _ _
  have HC : Hid (Calls Tryz.prog 21 #[.string s, .int .u8 32] w1 fun e w' => ∃ v, e = .returned v ∧ ReadsS w' v ws ∧ Below w1.heap.size w1 w') := hC w1 HB1.out
  clear hC
  go_enter Tryz.func22, Tryz.ntmps22
  go_wp2_with fail
  rw [← hw1]
  clear hw1
  go_at_call 21
  refine HC.out.mono ?_
  rintro e w2 ⟨v, rfl, hR, hb⟩
  obtain ⟨wb, cap, rfl, hwb, hcap, hcell⟩ := hR
  obtain ⟨w3, hw3⟩ : ∃ w3, w3 = w2.alloc (.cells #[.int .i64 0, .slice none 0 0, .slice none 0 0, .int .i64 0] 40) := ⟨_, rfl⟩
  have HS3 : Hid (StA w w3 w2.heap.size wb ws (.int .i64 0) (.slice none 0 0) (.slice none 0 0) (.int .i64 0)) := by unfold Hid; rw [hw3]; exact stA_start HB1.out HR1.out hb hwb hcell _ _
  clear hb hcell hwb hcap
  have c0 := HS3.out.word 0 h0
  rw [hx] at c0
  obtain ⟨⟨a0, a1, a2, a3⟩, _, _⟩ := HS3.out.own
  obtain ⟨⟨r0, r1, r2, r3⟩, rf, _⟩ := HS3.out.res
  have p0 := rf 0
  have p1 := rf 1
  have p2 := rf 2
  have p3 := rf 3
  clear rf
  rw [hw3] at c0 r0 r1 r2 r3 p0 p1 p2 p3 a0 a1 a2 a3
  go_wp2_with fail
  rw [← hw3]
  have hA := HS3.out.res.all (.int .i64 0) (.slice none 0 0) (.slice none 0 0) (.int .i64 0)
  have hld := load_atom hA.1.1 hA.1.2.1 hA.1.2.2.1 hA.1.2.2.2
  refine bodyPost_ret (v := .tuple #[.agg #[.int .i64 0, .slice none 0 0, .slice none 0 0, .int .i64 0], .int .i64 2]) ?_ rfl ⟨rfl, HS3.out.fin _ _ _ _⟩
  rw [results_cell_tmp rfl]
  simp [asAddr, Result.andThen, hld]

set_option maxHeartbeats 4000000 in
theorem readAtom_1_c (s x : ByteArray) (ws : List (List UInt8)) (w : World) (h0 : 0 < ws.length) (hx : strOf (ws.getD 0 []) = x) (q1 : (x.toList == [115, 117, 98]) = true) (hL : ¬ ws.length = 3)
    (hC : ∀ W, Below w.heap.size w W → Calls Tryz.prog 21 #[.string s, .int .u8 32] W fun e w' => ∃ v, e = .returned v ∧ ReadsS w' v ws ∧ Below W.heap.size W w') :
    Calls Tryz.prog 22 #[.string s] w fun e w' => e = .returned (.tuple #[.agg #[.int .i64 0, .slice none 0 0, .slice none 0 0, .int .i64 0], .int .i64 2]) ∧ Below w.heap.size w w' := by
  have hL' : ((ws.length : Int) != 3) = true := by simp; omega
  have hL2 : ¬ (ws.length : Int) = 3 := by omega
  obtain ⟨w1, hw1⟩ : ∃ w1, w1 = w.alloc (.cells #[.int .i64 0, .slice none 0 0, .slice none 0 0, .int .i64 0] 40) := ⟨_, rfl⟩
  have HB1 : Hid (Below w.heap.size w w1) := by unfold Hid; rw [hw1]; exact below_alloc1 w _
  have HR1 : Hid (OneA w1 w.heap.size (.int .i64 0) (.slice none 0 0) (.slice none 0 0) (.int .i64 0)) := by unfold Hid; rw [hw1]; exact oneA_alloc _ _ _ _ _ _
  have HC : Hid (Calls Tryz.prog 21 #[.string s, .int .u8 32] w1 fun e w' => ∃ v, e = .returned v ∧ ReadsS w' v ws ∧ Below w1.heap.size w1 w') := hC w1 HB1.out
  clear hC
  go_enter Tryz.func22, Tryz.ntmps22
  go_wp2_with fail
  rw [← hw1]
  clear hw1
  go_at_call 21
  refine HC.out.mono ?_
  rintro e w2 ⟨v, rfl, hR, hb⟩
  obtain ⟨wb, cap, rfl, hwb, hcap, hcell⟩ := hR
  obtain ⟨w3, hw3⟩ : ∃ w3, w3 = w2.alloc (.cells #[.int .i64 0, .slice none 0 0, .slice none 0 0, .int .i64 0] 40) := ⟨_, rfl⟩
  have HS3 : Hid (StA w w3 w2.heap.size wb ws (.int .i64 0) (.slice none 0 0) (.slice none 0 0) (.int .i64 0)) := by unfold Hid; rw [hw3]; exact stA_start HB1.out HR1.out hb hwb hcell _ _
  obtain ⟨w4, hw4⟩ : ∃ w4, w4 = w2.alloc (.cells #[.int .i64 1, .slice none 0 0, .slice none 0 0, .int .i64 0] 40) := ⟨_, rfl⟩
  have HS4 : Hid (StA w w4 w2.heap.size wb ws (.int .i64 1) (.slice none 0 0) (.slice none 0 0) (.int .i64 0)) := by unfold Hid; rw [hw4]; exact stA_start HB1.out HR1.out hb hwb hcell _ _
  clear hb hcell hwb hcap
  have c0 := HS3.out.word 0 h0
  rw [hx] at c0
  obtain ⟨⟨r0, r1, r2, r3⟩, rf, _⟩ := HS4.out.res
  have p0 := rf 0
  have p1 := rf 1
  have p2 := rf 2
  have p3 := rf 3
  clear rf
  rw [hw3] at c0
  rw [hw4] at r0 r1 r2 r3 p0 p1 p2 p3
  go_wp2_with fail
  rw [← hw4]
  have hA := HS4.out.res.all (.int .i64 0) (.slice none 0 0) (.slice none 0 0) (.int .i64 0)
  have hld := load_atom hA.1.1 hA.1.2.1 hA.1.2.2.1 hA.1.2.2.2
  refine bodyPost_ret (v := .tuple #[.agg #[.int .i64 0, .slice none 0 0, .slice none 0 0, .int .i64 0], .int .i64 2]) ?_ rfl ⟨rfl, HS4.out.fin _ _ _ _⟩
  rw [results_cell_tmp rfl]
  simp [asAddr, Result.andThen, hld]

set_option maxHeartbeats 4000000 in
theorem readAtom_2_c (s x : ByteArray) (ws : List (List UInt8)) (w : World) (h0 : 0 < ws.length) (hx : strOf (ws.getD 0 []) = x) (q1 : (x.toList == [115, 117, 98]) = false) (q2 : (x.toList == [115, 97, 109, 101]) = true) (hL : ¬ ws.length = 3)
    (hC : ∀ W, Below w.heap.size w W → Calls Tryz.prog 21 #[.string s, .int .u8 32] W fun e w' => ∃ v, e = .returned v ∧ ReadsS w' v ws ∧ Below W.heap.size W w') :
    Calls Tryz.prog 22 #[.string s] w fun e w' => e = .returned (.tuple #[.agg #[.int .i64 0, .slice none 0 0, .slice none 0 0, .int .i64 0], .int .i64 2]) ∧ Below w.heap.size w w' := by
  have hL' : ((ws.length : Int) != 3) = true := by simp; omega
  have hL2 : ¬ (ws.length : Int) = 3 := by omega
  obtain ⟨w1, hw1⟩ : ∃ w1, w1 = w.alloc (.cells #[.int .i64 0, .slice none 0 0, .slice none 0 0, .int .i64 0] 40) := ⟨_, rfl⟩
  have HB1 : Hid (Below w.heap.size w w1) := by unfold Hid; rw [hw1]; exact below_alloc1 w _
  have HR1 : Hid (OneA w1 w.heap.size (.int .i64 0) (.slice none 0 0) (.slice none 0 0) (.int .i64 0)) := by unfold Hid; rw [hw1]; exact oneA_alloc _ _ _ _ _ _
  have HC : Hid (Calls Tryz.prog 21 #[.string s, .int .u8 32] w1 fun e w' => ∃ v, e = .returned v ∧ ReadsS w' v ws ∧ Below w1.heap.size w1 w') := hC w1 HB1.out
  clear hC
  go_enter Tryz.func22, Tryz.ntmps22
  go_wp2_with fail
  rw [← hw1]
  clear hw1
  go_at_call 21
  refine HC.out.mono ?_
  rintro e w2 ⟨v, rfl, hR, hb⟩
  obtain ⟨wb, cap, rfl, hwb, hcap, hcell⟩ := hR
  obtain ⟨w3, hw3⟩ : ∃ w3, w3 = w2.alloc (.cells #[.int .i64 0, .slice none 0 0, .slice none 0 0, .int .i64 0] 40) := ⟨_, rfl⟩
  have HS3 : Hid (StA w w3 w2.heap.size wb ws (.int .i64 0) (.slice none 0 0) (.slice none 0 0) (.int .i64 0)) := by unfold Hid; rw [hw3]; exact stA_start HB1.out HR1.out hb hwb hcell _ _
  obtain ⟨w4, hw4⟩ : ∃ w4, w4 = w2.alloc (.cells #[.int .i64 2, .slice none 0 0, .slice none 0 0, .int .i64 0] 40) := ⟨_, rfl⟩
  have HS4 : Hid (StA w w4 w2.heap.size wb ws (.int .i64 2) (.slice none 0 0) (.slice none 0 0) (.int .i64 0)) := by unfold Hid; rw [hw4]; exact stA_start HB1.out HR1.out hb hwb hcell _ _
  clear hb hcell hwb hcap
  have c0 := HS3.out.word 0 h0
  rw [hx] at c0
  obtain ⟨⟨r0, r1, r2, r3⟩, rf, _⟩ := HS4.out.res
  have p0 := rf 0
  have p1 := rf 1
  have p2 := rf 2
  have p3 := rf 3
  clear rf
  rw [hw3] at c0
  rw [hw4] at r0 r1 r2 r3 p0 p1 p2 p3
  go_wp2_with fail
  rw [← hw4]
  have hA := HS4.out.res.all (.int .i64 0) (.slice none 0 0) (.slice none 0 0) (.int .i64 0)
  have hld := load_atom hA.1.1 hA.1.2.1 hA.1.2.2.1 hA.1.2.2.2
  refine bodyPost_ret (v := .tuple #[.agg #[.int .i64 0, .slice none 0 0, .slice none 0 0, .int .i64 0], .int .i64 2]) ?_ rfl ⟨rfl, HS4.out.fin _ _ _ _⟩
  rw [results_cell_tmp rfl]
  simp [asAddr, Result.andThen, hld]

set_option maxHeartbeats 4000000 in
theorem readAtom_3_c (s x : ByteArray) (ws : List (List UInt8)) (w : World) (h0 : 0 < ws.length) (hx : strOf (ws.getD 0 []) = x) (q1 : (x.toList == [115, 117, 98]) = false) (q2 : (x.toList == [115, 97, 109, 101]) = false) (q3 : (x.toList == [108, 101, 97, 115, 116]) = true) (hL : ¬ ws.length = 3)
    (hC : ∀ W, Below w.heap.size w W → Calls Tryz.prog 21 #[.string s, .int .u8 32] W fun e w' => ∃ v, e = .returned v ∧ ReadsS w' v ws ∧ Below W.heap.size W w') :
    Calls Tryz.prog 22 #[.string s] w fun e w' => e = .returned (.tuple #[.agg #[.int .i64 0, .slice none 0 0, .slice none 0 0, .int .i64 0], .int .i64 2]) ∧ Below w.heap.size w w' := by
  have hL' : ((ws.length : Int) != 3) = true := by simp; omega
  have hL2 : ¬ (ws.length : Int) = 3 := by omega
  obtain ⟨w1, hw1⟩ : ∃ w1, w1 = w.alloc (.cells #[.int .i64 0, .slice none 0 0, .slice none 0 0, .int .i64 0] 40) := ⟨_, rfl⟩
  have HB1 : Hid (Below w.heap.size w w1) := by unfold Hid; rw [hw1]; exact below_alloc1 w _
  have HR1 : Hid (OneA w1 w.heap.size (.int .i64 0) (.slice none 0 0) (.slice none 0 0) (.int .i64 0)) := by unfold Hid; rw [hw1]; exact oneA_alloc _ _ _ _ _ _
  have HC : Hid (Calls Tryz.prog 21 #[.string s, .int .u8 32] w1 fun e w' => ∃ v, e = .returned v ∧ ReadsS w' v ws ∧ Below w1.heap.size w1 w') := hC w1 HB1.out
  clear hC
  go_enter Tryz.func22, Tryz.ntmps22
  go_wp2_with fail
  rw [← hw1]
  clear hw1
  go_at_call 21
  refine HC.out.mono ?_
  rintro e w2 ⟨v, rfl, hR, hb⟩
  obtain ⟨wb, cap, rfl, hwb, hcap, hcell⟩ := hR
  obtain ⟨w3, hw3⟩ : ∃ w3, w3 = w2.alloc (.cells #[.int .i64 0, .slice none 0 0, .slice none 0 0, .int .i64 0] 40) := ⟨_, rfl⟩
  have HS3 : Hid (StA w w3 w2.heap.size wb ws (.int .i64 0) (.slice none 0 0) (.slice none 0 0) (.int .i64 0)) := by unfold Hid; rw [hw3]; exact stA_start HB1.out HR1.out hb hwb hcell _ _
  obtain ⟨w4, hw4⟩ : ∃ w4, w4 = w2.alloc (.cells #[.int .i64 3, .slice none 0 0, .slice none 0 0, .int .i64 0] 40) := ⟨_, rfl⟩
  have HS4 : Hid (StA w w4 w2.heap.size wb ws (.int .i64 3) (.slice none 0 0) (.slice none 0 0) (.int .i64 0)) := by unfold Hid; rw [hw4]; exact stA_start HB1.out HR1.out hb hwb hcell _ _
  clear hb hcell hwb hcap
  have c0 := HS3.out.word 0 h0
  rw [hx] at c0
  obtain ⟨⟨r0, r1, r2, r3⟩, rf, _⟩ := HS4.out.res
  have p0 := rf 0
  have p1 := rf 1
  have p2 := rf 2
  have p3 := rf 3
  clear rf
  rw [hw3] at c0
  rw [hw4] at r0 r1 r2 r3 p0 p1 p2 p3
  go_wp2_with fail
  rw [← hw4]
  have hA := HS4.out.res.all (.int .i64 0) (.slice none 0 0) (.slice none 0 0) (.int .i64 0)
  have hld := load_atom hA.1.1 hA.1.2.1 hA.1.2.2.1 hA.1.2.2.2
  refine bodyPost_ret (v := .tuple #[.agg #[.int .i64 0, .slice none 0 0, .slice none 0 0, .int .i64 0], .int .i64 2]) ?_ rfl ⟨rfl, HS4.out.fin _ _ _ _⟩
  rw [results_cell_tmp rfl]
  simp [asAddr, Result.andThen, hld]

set_option maxHeartbeats 4000000 in
theorem readAtom_4_c (s x : ByteArray) (ws : List (List UInt8)) (w : World) (h0 : 0 < ws.length) (hx : strOf (ws.getD 0 []) = x) (q1 : (x.toList == [115, 117, 98]) = false) (q2 : (x.toList == [115, 97, 109, 101]) = false) (q3 : (x.toList == [108, 101, 97, 115, 116]) = false) (q4 : (x.toList == [109, 111, 115, 116]) = true) (hL : ¬ ws.length = 3)
    (hC : ∀ W, Below w.heap.size w W → Calls Tryz.prog 21 #[.string s, .int .u8 32] W fun e w' => ∃ v, e = .returned v ∧ ReadsS w' v ws ∧ Below W.heap.size W w') :
    Calls Tryz.prog 22 #[.string s] w fun e w' => e = .returned (.tuple #[.agg #[.int .i64 0, .slice none 0 0, .slice none 0 0, .int .i64 0], .int .i64 2]) ∧ Below w.heap.size w w' := by
  have hL' : ((ws.length : Int) != 3) = true := by simp; omega
  have hL2 : ¬ (ws.length : Int) = 3 := by omega
  obtain ⟨w1, hw1⟩ : ∃ w1, w1 = w.alloc (.cells #[.int .i64 0, .slice none 0 0, .slice none 0 0, .int .i64 0] 40) := ⟨_, rfl⟩
  have HB1 : Hid (Below w.heap.size w w1) := by unfold Hid; rw [hw1]; exact below_alloc1 w _
  have HR1 : Hid (OneA w1 w.heap.size (.int .i64 0) (.slice none 0 0) (.slice none 0 0) (.int .i64 0)) := by unfold Hid; rw [hw1]; exact oneA_alloc _ _ _ _ _ _
  have HC : Hid (Calls Tryz.prog 21 #[.string s, .int .u8 32] w1 fun e w' => ∃ v, e = .returned v ∧ ReadsS w' v ws ∧ Below w1.heap.size w1 w') := hC w1 HB1.out
  clear hC
  go_enter Tryz.func22, Tryz.ntmps22
  go_wp2_with fail
  rw [← hw1]
  clear hw1
  go_at_call 21
  refine HC.out.mono ?_
  rintro e w2 ⟨v, rfl, hR, hb⟩
  obtain ⟨wb, cap, rfl, hwb, hcap, hcell⟩ := hR
  obtain ⟨w3, hw3⟩ : ∃ w3, w3 = w2.alloc (.cells #[.int .i64 0, .slice none 0 0, .slice none 0 0, .int .i64 0] 40) := ⟨_, rfl⟩
  have HS3 : Hid (StA w w3 w2.heap.size wb ws (.int .i64 0) (.slice none 0 0) (.slice none 0 0) (.int .i64 0)) := by unfold Hid; rw [hw3]; exact stA_start HB1.out HR1.out hb hwb hcell _ _
  obtain ⟨w4, hw4⟩ : ∃ w4, w4 = w2.alloc (.cells #[.int .i64 4, .slice none 0 0, .slice none 0 0, .int .i64 0] 40) := ⟨_, rfl⟩
  have HS4 : Hid (StA w w4 w2.heap.size wb ws (.int .i64 4) (.slice none 0 0) (.slice none 0 0) (.int .i64 0)) := by unfold Hid; rw [hw4]; exact stA_start HB1.out HR1.out hb hwb hcell _ _
  clear hb hcell hwb hcap
  have c0 := HS3.out.word 0 h0
  rw [hx] at c0
  obtain ⟨⟨r0, r1, r2, r3⟩, rf, _⟩ := HS4.out.res
  have p0 := rf 0
  have p1 := rf 1
  have p2 := rf 2
  have p3 := rf 3
  clear rf
  rw [hw3] at c0
  rw [hw4] at r0 r1 r2 r3 p0 p1 p2 p3
  go_wp2_with fail
  rw [← hw4]
  have hA := HS4.out.res.all (.int .i64 0) (.slice none 0 0) (.slice none 0 0) (.int .i64 0)
  have hld := load_atom hA.1.1 hA.1.2.1 hA.1.2.2.1 hA.1.2.2.2
  refine bodyPost_ret (v := .tuple #[.agg #[.int .i64 0, .slice none 0 0, .slice none 0 0, .int .i64 0], .int .i64 2]) ?_ rfl ⟨rfl, HS4.out.fin _ _ _ _⟩
  rw [results_cell_tmp rfl]
  simp [asAddr, Result.andThen, hld]

set_option maxHeartbeats 4000000 in
theorem readAtom_5_c (s x : ByteArray) (ws : List (List UInt8)) (w : World) (h0 : 0 < ws.length) (hx : strOf (ws.getD 0 []) = x) (q1 : (x.toList == [115, 117, 98]) = false) (q2 : (x.toList == [115, 97, 109, 101]) = false) (q3 : (x.toList == [108, 101, 97, 115, 116]) = false) (q4 : (x.toList == [109, 111, 115, 116]) = false) (q5 : (x.toList == [110, 111, 109, 111, 114, 101]) = true) (hL : ¬ ws.length = 4)
    (hC : ∀ W, Below w.heap.size w W → Calls Tryz.prog 21 #[.string s, .int .u8 32] W fun e w' => ∃ v, e = .returned v ∧ ReadsS w' v ws ∧ Below W.heap.size W w') :
    Calls Tryz.prog 22 #[.string s] w fun e w' => e = .returned (.tuple #[.agg #[.int .i64 0, .slice none 0 0, .slice none 0 0, .int .i64 0], .int .i64 2]) ∧ Below w.heap.size w w' := by
  have hL' : ((ws.length : Int) != 4) = true := by simp; omega
  have hL2 : ¬ (ws.length : Int) = 4 := by omega
  obtain ⟨w1, hw1⟩ : ∃ w1, w1 = w.alloc (.cells #[.int .i64 0, .slice none 0 0, .slice none 0 0, .int .i64 0] 40) := ⟨_, rfl⟩
  have HB1 : Hid (Below w.heap.size w w1) := by unfold Hid; rw [hw1]; exact below_alloc1 w _
  have HR1 : Hid (OneA w1 w.heap.size (.int .i64 0) (.slice none 0 0) (.slice none 0 0) (.int .i64 0)) := by unfold Hid; rw [hw1]; exact oneA_alloc _ _ _ _ _ _
  have HC : Hid (Calls Tryz.prog 21 #[.string s, .int .u8 32] w1 fun e w' => ∃ v, e = .returned v ∧ ReadsS w' v ws ∧ Below w1.heap.size w1 w') := hC w1 HB1.out
  clear hC
  go_enter Tryz.func22, Tryz.ntmps22
  go_wp2_with fail
  rw [← hw1]
  clear hw1
  go_at_call 21
  refine HC.out.mono ?_
  rintro e w2 ⟨v, rfl, hR, hb⟩
  obtain ⟨wb, cap, rfl, hwb, hcap, hcell⟩ := hR
  obtain ⟨w3, hw3⟩ : ∃ w3, w3 = w2.alloc (.cells #[.int .i64 0, .slice none 0 0, .slice none 0 0, .int .i64 0] 40) := ⟨_, rfl⟩
  have HS3 : Hid (StA w w3 w2.heap.size wb ws (.int .i64 0) (.slice none 0 0) (.slice none 0 0) (.int .i64 0)) := by unfold Hid; rw [hw3]; exact stA_start HB1.out HR1.out hb hwb hcell _ _
  obtain ⟨w4, hw4⟩ : ∃ w4, w4 = w2.alloc (.cells #[.int .i64 5, .slice none 0 0, .slice none 0 0, .int .i64 0] 40) := ⟨_, rfl⟩
  have HS4 : Hid (StA w w4 w2.heap.size wb ws (.int .i64 5) (.slice none 0 0) (.slice none 0 0) (.int .i64 0)) := by unfold Hid; rw [hw4]; exact stA_start HB1.out HR1.out hb hwb hcell _ _
  clear hb hcell hwb hcap
  have c0 := HS3.out.word 0 h0
  rw [hx] at c0
  obtain ⟨⟨r0, r1, r2, r3⟩, rf, _⟩ := HS4.out.res
  have p0 := rf 0
  have p1 := rf 1
  have p2 := rf 2
  have p3 := rf 3
  clear rf
  rw [hw3] at c0
  rw [hw4] at r0 r1 r2 r3 p0 p1 p2 p3
  go_wp2_with fail
  rw [← hw4]
  have hA := HS4.out.res.all (.int .i64 0) (.slice none 0 0) (.slice none 0 0) (.int .i64 0)
  have hld := load_atom hA.1.1 hA.1.2.1 hA.1.2.2.1 hA.1.2.2.2
  refine bodyPost_ret (v := .tuple #[.agg #[.int .i64 0, .slice none 0 0, .slice none 0 0, .int .i64 0], .int .i64 2]) ?_ rfl ⟨rfl, HS4.out.fin _ _ _ _⟩
  rw [results_cell_tmp rfl]
  simp [asAddr, Result.andThen, hld]
end Go.Proofs.YtfnkbbpjfjendaiGreatDoor
