/-
  Facts and contracts that the statement leans on.
-/
import Derived.Test.YtnoohlibgaeklaaGreatDoorLibQ8
import Derived.Test.YtnoohlibgaeklaaGreatDoorLibQ14
import Derived.Test.YtnoohlibgaeklaaGreatDoorLibQ12
import Derived.Test.YtnoohlibgaeklaaGreatDoorLibQ3
import Derived.Test.YtnoohlibgaeklaaGreatDoorLibQ4
namespace Go.Proofs.YtnoohlibgaeklaaGreatDoor
open Go.ChangeShapes Go.WideShapes Go.ChangeAt Go.RowKit
set_option maxRecDepth 100000
set_option maxHeartbeats 16000000
theorem newV_mono {K L : Nat} {v : Value} (h : NewV L v) (hK : K ≤ L) : NewV K v := by
 obtain ⟨ao, n, c, rfl, h⟩ := h
 exact ⟨ao, n, c, rfl, fun p hp => Nat.le_trans hK (h p hp)⟩
def OneA (W : World) (A : Nat) (k vS vT n : Value) : Prop :=
 (W.cell? ⟨A, 0, none⟩ = some k ∧ W.cell? ⟨A, 1, none⟩ = some vS ∧ W.cell? ⟨A, 2, none⟩ = some vT ∧ W.cell? ⟨A, 3, none⟩ = some n) ∧ (∀ j, W.frozen? ⟨A, j, none⟩ = false) ∧ A < W.heap.size
theorem OneA.below {W W' : World} {A K : Nat} {k vS vT n : Value} (h : OneA W A k vS vT n) (hb : Below K W W') (hK : A < K) : OneA W' A k vS vT n := by
 obtain ⟨⟨a0, a1, a2, a3⟩, f0, hl⟩ := h
 exact ⟨⟨(hb.cell hK).trans a0, (hb.cell hK).trans a1, (hb.cell hK).trans a2, (hb.cell hK).trans a3⟩, fun j => (hb.frozen hK).trans (f0 j), Nat.lt_of_lt_of_le hl hb.size⟩
theorem OneA.far {W : World} {A B j : Nat} {k vS vT n v : Value} (h : OneA W A k vS vT n) (hB : B ≠ A) : OneA (W.setCell ⟨B, j, none⟩ v) A k vS vT n := by
 obtain ⟨⟨a0, a1, a2, a3⟩, f0, hl⟩ := h
 exact ⟨⟨(set_far (ne_blk hB)).trans a0, (set_far (ne_blk hB)).trans a1, (set_far (ne_blk hB)).trans a2, (set_far (ne_blk hB)).trans a3⟩, fun j => by simp [f0 j], by simpa using hl⟩
theorem OneA.s0 {W : World} {A : Nat} {k vS vT n : Value} (h : OneA W A k vS vT n) (v : Value) : OneA (W.setCell ⟨A, 0, none⟩ v) A v vS vT n := by
 obtain ⟨⟨a0, a1, a2, a3⟩, f0, hl⟩ := h
 exact ⟨⟨set_same a0, (set_far (ne_off (by decide))).trans a1, (set_far (ne_off (by decide))).trans a2, (set_far (ne_off (by decide))).trans a3⟩, fun j => by simp [f0 j], by simpa using hl⟩
theorem OneA.s1 {W : World} {A : Nat} {k vS vT n : Value} (h : OneA W A k vS vT n) (v : Value) : OneA (W.setCell ⟨A, 1, none⟩ v) A k v vT n := by
 obtain ⟨⟨a0, a1, a2, a3⟩, f0, hl⟩ := h
 exact ⟨⟨(set_far (ne_off (by decide))).trans a0, set_same a1, (set_far (ne_off (by decide))).trans a2, (set_far (ne_off (by decide))).trans a3⟩, fun j => by simp [f0 j], by simpa using hl⟩
theorem OneA.s2 {W : World} {A : Nat} {k vS vT n : Value} (h : OneA W A k vS vT n) (v : Value) : OneA (W.setCell ⟨A, 2, none⟩ v) A k vS v n := by
 obtain ⟨⟨a0, a1, a2, a3⟩, f0, hl⟩ := h
 exact ⟨⟨(set_far (ne_off (by decide))).trans a0, (set_far (ne_off (by decide))).trans a1, set_same a2, (set_far (ne_off (by decide))).trans a3⟩, fun j => by simp [f0 j], by simpa using hl⟩
theorem OneA.s3 {W : World} {A : Nat} {k vS vT n : Value} (h : OneA W A k vS vT n) (v : Value) : OneA (W.setCell ⟨A, 3, none⟩ v) A k vS vT v := by
 obtain ⟨⟨a0, a1, a2, a3⟩, f0, hl⟩ := h
 exact ⟨⟨(set_far (ne_off (by decide))).trans a0, (set_far (ne_off (by decide))).trans a1, (set_far (ne_off (by decide))).trans a2, set_same a3⟩, fun j => by simp [f0 j], by simpa using hl⟩
theorem oneA_alloc (w : World) (k vS vT n : Value) (ta : TypeId) : OneA (w.alloc (.cells #[k, vS, vT, n] ta)) w.heap.size k vS vT n := ⟨⟨by simp, by simp, by simp, by simp⟩, fun j => by simp, by simp⟩
theorem OneA.all {W : World} {A : Nat} {k vS vT n : Value} (h : OneA W A k vS vT n) (k' vS' vT' n' : Value) : OneA ((((W.setCell ⟨A, 0, none⟩ k').setCell ⟨A, 1, none⟩ vS').setCell ⟨A, 2, none⟩ vT').setCell ⟨A, 3, none⟩ n') A k' vS' vT' n' := (((h.s0 k').s1 vS').s2 vT').s3 n'
def StA (w W : World) (A wb : Nat) (ws : List (List UInt8)) (k vS vT n : Value) : Prop :=
 Bw w W ∧ OneA W A k vS vT n ∧ OneA W w.heap.size (.int .i64 0) (.slice none 0 0) (.slice none 0 0) (.int .i64 0) ∧ w.heap.size < A ∧ wb ≠ A ∧ wb < W.heap.size ∧ ∀ j, j < ws.length → W.cell? ⟨wb, j, none⟩ = some (.string (strOf (ws.getD j [])))
theorem stA_start {w w1 w2 : World} {wb : Nat} {ws : List (List UInt8)} (hB1 : Bw w w1) (hR1 : OneA w1 w.heap.size (.int .i64 0) (.slice none 0 0) (.slice none 0 0) (.int .i64 0)) (hb : Bw w1 w2) (hwb : wb < w2.heap.size) (hcell : ∀ j, j < ws.length → w2.cell? ⟨wb, j, none⟩ = some (.string (strOf (ws.getD j [])))) (k : Value) (ta : TypeId) :
    StA w (w2.alloc (.cells #[k, .slice none 0 0, .slice none 0 0, .int .i64 0] ta)) w2.heap.size wb ws k (.slice none 0 0) (.slice none 0 0) (.int .i64 0) := by
 have hb3 : Bw w2 (w2.alloc (.cells #[k, .slice none 0 0, .slice none 0 0, .int .i64 0] ta)) := below_alloc1 w2 _
 have hR2 := hR1.below hb hR1.2.2
 have h12 := hb.size
 have h01 := hB1.size
 have hl := hR1.2.2
 refine ⟨(hB1.trans (hb.mono h01)).trans (hb3.mono (by omega)), oneA_alloc _ _ _ _ _ _, hR2.below hb3 hR2.2.2, by omega, by omega, Nat.lt_of_lt_of_le hwb hb3.size, fun j hj => (hb3.cell hwb).trans (hcell j hj)⟩
theorem StA.own {w W : World} {A wb : Nat} {ws : List (List UInt8)} {k vS vT n : Value} (h : StA w W A wb ws k vS vT n) : OneA W A k vS vT n := h.2.1
theorem StA.res {w W : World} {A wb : Nat} {ws : List (List UInt8)} {k vS vT n : Value} (h : StA w W A wb ws k vS vT n) : OneA W w.heap.size (.int .i64 0) (.slice none 0 0) (.slice none 0 0) (.int .i64 0) := h.2.2.1
theorem StA.word {w W : World} {A wb : Nat} {ws : List (List UInt8)} {k vS vT n : Value} (h : StA w W A wb ws k vS vT n) (j : Nat) (hj : j < ws.length) : W.cell? ⟨wb, j, none⟩ = some (.string (strOf (ws.getD j []))) := h.2.2.2.2.2.2 j hj
theorem StA.lts {w W : World} {A wb : Nat} {ws : List (List UInt8)} {k vS vT n : Value} (h : StA w W A wb ws k vS vT n) : A < W.heap.size ∧ w.heap.size < W.heap.size := ⟨h.2.1.2.2, h.2.2.1.2.2⟩
theorem StA.call {w W W' : World} {A wb : Nat} {ws : List (List UInt8)} {k vS vT n : Value} (h : StA w W A wb ws k vS vT n) (hb : Bw W W') : StA w W' A wb ws k vS vT n := by
 obtain ⟨h1, h2, h3, h4, h5, h6, h7⟩ := h
 exact ⟨h1.trans (hb.mono h1.size), h2.below hb h2.2.2, h3.below hb h3.2.2, h4, h5, Nat.lt_of_lt_of_le h6 hb.size, fun j hj => (hb.cell h6).trans (h7 j hj)⟩
theorem StA.s1 {w W : World} {A wb : Nat} {ws : List (List UInt8)} {k vS vT n : Value} (h : StA w W A wb ws k vS vT n) (v : Value) : StA w (W.setCell ⟨A, 1, none⟩ v) A wb ws k v vT n := by
 obtain ⟨h1, h2, h3, h4, h5, h6, h7⟩ := h
 exact ⟨h1.setCell (Nat.le_of_lt h4) _, h2.s1 v, h3.far (by omega), h4, h5, by simpa using h6, fun j hj => (set_far (ne_blk h5.symm)).trans (h7 j hj)⟩
theorem StA.s2 {w W : World} {A wb : Nat} {ws : List (List UInt8)} {k vS vT n : Value} (h : StA w W A wb ws k vS vT n) (v : Value) : StA w (W.setCell ⟨A, 2, none⟩ v) A wb ws k vS v n := by
 obtain ⟨h1, h2, h3, h4, h5, h6, h7⟩ := h
 exact ⟨h1.setCell (Nat.le_of_lt h4) _, h2.s2 v, h3.far (by omega), h4, h5, by simpa using h6, fun j hj => (set_far (ne_blk h5.symm)).trans (h7 j hj)⟩
theorem StA.s3 {w W : World} {A wb : Nat} {ws : List (List UInt8)} {k vS vT n : Value} (h : StA w W A wb ws k vS vT n) (v : Value) : StA w (W.setCell ⟨A, 3, none⟩ v) A wb ws k vS vT v := by
 obtain ⟨h1, h2, h3, h4, h5, h6, h7⟩ := h
 exact ⟨h1.setCell (Nat.le_of_lt h4) _, h2.s3 v, h3.far (by omega), h4, h5, by simpa using h6, fun j hj => (set_far (ne_blk h5.symm)).trans (h7 j hj)⟩
theorem StA.fin {w W : World} {A wb : Nat} {ws : List (List UInt8)} {k vS vT n : Value} (h : StA w W A wb ws k vS vT n) (b0 b1 b2 b3 : Value) : Bw w ((((W.setCell ⟨w.heap.size, 0, none⟩ b0).setCell ⟨w.heap.size, 1, none⟩ b1).setCell ⟨w.heap.size, 2, none⟩ b2).setCell ⟨w.heap.size, 3, none⟩ b3) :=
 (((h.1.setCell (Nat.le_refl _) _).setCell (Nat.le_refl _) _).setCell (Nat.le_refl _) _).setCell (Nat.le_refl _) _
theorem Reads.storeNew {W : World} {K : Nat} {v : Value} {t : List Int} {B j : Nat} {x : Value} (h : Reads W v t) (hn : NewV K v) (hB : B < K) : Reads (W.setCell ⟨B, j, none⟩ x) v t := by
 rcases h with h | ⟨b, off, cap, e, h2, h3, h4, h5⟩
 ·exact Or.inl h
 ·obtain ⟨ao, n, c, e', hp⟩ := hn
  rw [e] at e'
  injection e' with e1 _ _
  have hb : K ≤ b := hp _ e1.symm
  refine Or.inr ⟨b, off, cap, e, by simpa using h2, h3, h4, fun k hk => ?_⟩
  rw [set_far (ne_blk (by omega))]
  exact h5 k hk
theorem Reads.storeAll {W : World} {K : Nat} {v : Value} {t : List Int} {B : Nat} {x0 x1 x2 x3 : Value} (h : Reads W v t) (hn : NewV K v) (hB : B < K) : Reads ((((W.setCell ⟨B, 0, none⟩ x0).setCell ⟨B, 1, none⟩ x1).setCell ⟨B, 2, none⟩ x2).setCell ⟨B, 3, none⟩ x3) v t :=
 (((h.storeNew hn hB).storeNew hn hB).storeNew hn hB).storeNew hn hB
theorem readTerm_word (l : List UInt8) (hl : l.length ≤ 1048576) (W : World) :
    Calls Tryz.prog 21 #[.string (strOf l)] W fun e w' => ∃ v, e = .returned (.tuple #[v, .bool (lettersB l)]) ∧ (lettersB l = true → Reads w' v (readN l)) ∧ NewV W.heap.size v ∧ Bw W w' := by
 have h := readTerm_fresh (strOf l) (by rw [strOf_size]; exact hl) W
 rw [strOf_list] at h
 refine h.mono fun e w' h => ?_
 cases hb : lettersB l with
 | true =>
  obtain ⟨v, h1, h2, h3⟩ := h.1 hb
  exact ⟨v, h1, fun _ => h2, h3, h.2.2⟩
 | false => exact ⟨_, h.2.1 hb, fun h' => (by cases h'), ⟨_, _, _, rfl, fun p hp => (by cases hp)⟩, h.2.2⟩
theorem readAtom_none (s x : ByteArray) (ws : List (List UInt8)) (w : World) (h0 : 0 < ws.length) (hx : strOf (ws.getD 0 []) = x) (q1 : (x.toList == [115, 117, 98]) = false) (q2 : (x.toList == [115, 97, 109, 101]) = false) (q3 : (x.toList == [108, 101, 97, 115, 116]) = false) (q4 : (x.toList == [109, 111, 115, 116]) = false) (q5 : (x.toList == [110, 111, 109, 111, 114, 101]) = false)
    (hC : ∀ W, Bw w W → Calls Tryz.prog 7 #[.string s, .int .u8 32] W fun e w' => ∃ v, e = .returned v ∧ ReadsS w' v ws ∧ Bw W w') :
    Calls Tryz.prog 26 #[.string s] w (Bk w (.tuple #[.agg #[.int .i64 0, .slice none 0 0, .slice none 0 0, .int .i64 0], .int .i64 2])) := by
 obtain ⟨w1, hw1⟩ := nm (w.alloc (.cells #[.int .i64 0, .slice none 0 0, .slice none 0 0, .int .i64 0] 71))
 have HB1 : Hid (Bw w w1) := by unfold Hid; rw [hw1]; exact below_alloc1 w _
 have HR1 : Hid (OneA w1 w.heap.size (.int .i64 0) (.slice none 0 0) (.slice none 0 0) (.int .i64 0)) := by unfold Hid; rw [hw1]; exact oneA_alloc _ _ _ _ _ _
 have HC := hide (hC w1 HB1.out)
 clear hC
 go_enter Tryz.func26, Tryz.ntmps26
 go_wp2_with fail
 rw [← hw1]
 clear hw1
 go_at_call 7
 refine HC.out.mono ?_
 rintro e w2 ⟨v, rfl, hR, hb⟩
 obtain ⟨wb, cap, rfl, hwb, hcap, hcell⟩ := hR
 obtain ⟨w3, hw3⟩ := nm (w2.alloc (.cells #[.int .i64 0, .slice none 0 0, .slice none 0 0, .int .i64 0] 71))
 have HS3 : Hid (StA w w3 w2.heap.size wb ws (.int .i64 0) (.slice none 0 0) (.slice none 0 0) (.int .i64 0)) := by unfold Hid; rw [hw3]; exact stA_start HB1.out HR1.out hb hwb hcell _ _
 clear hb hcell hwb hcap
 have c0 := HS3.out.word 0 h0
 rw [hx] at c0
 obtain ⟨⟨a0, a1, a2, a3⟩, _, _⟩ := HS3.out.own
 obtain ⟨⟨r0, r1, r2, r3⟩, rf, _⟩ := HS3.out.res
 have p0 := rf 0
 have p1 := rf 1
 have p2 := rf 2
 have p3 := rf 3
 clear rf
 rw [hw3] at c0 r0 r1 r2 r3 p0 p1 p2 p3 a0 a1 a2 a3
 go_wp2_with fail
 rw [← hw3]
 have hA := HS3.out.res.all (.int .i64 0) (.slice none 0 0) (.slice none 0 0) (.int .i64 0)
 have hld := load_atom hA.1.1 hA.1.2.1 hA.1.2.2.1 hA.1.2.2.2
 refine bodyPost_ret (v := .tuple #[.agg #[.int .i64 0, .slice none 0 0, .slice none 0 0, .int .i64 0], .int .i64 2]) ?_ rfl ⟨rfl, HS3.out.fin _ _ _ _⟩
 rw [results_cell_tmp rfl]
 simp [asAddr, Result.andThen, hld]
def Answers (ws : List (List UInt8)) (w : World) (e : Ending) (w' : World) : Prop :=
 ∃ a, e = .returned (.tuple #[a, errV (wordsFault ws)]) ∧ (wordsFault ws = 0 → ∃ v0 v1, a = .agg #[.int .i64 (wordsKind ws), v0, v1, .int .i64 (wordsN (wordsKind ws) ws)] ∧ Reads w' v0 (wordsS ws) ∧ Reads w' v1 (wordsT (wordsKind ws) ws)) ∧ (¬ wordsFault ws = 0 → a = .agg #[.int .i64 0, .slice none 0 0, .slice none 0 0, .int .i64 0]) ∧ Bw w w'
def AnswersW (ws : List (List UInt8)) (w : World) (e : Ending) (w' : World) : Prop :=
 ∃ a, e = .returned (.tuple #[a, errV (wordsFault ws)]) ∧ (wordsFault ws = 0 → ∃ v0 v1, a = .agg #[.int .i64 (wordsKind ws), v0, v1, .int .i64 (wordsN (wordsKind ws) ws)] ∧ Reads w' v0 (wordsS ws) ∧ Reads w' v1 (wordsT (wordsKind ws) ws) ∧ NewV w.heap.size v0 ∧ NewV w.heap.size v1) ∧ (¬ wordsFault ws = 0 → a = .agg #[.int .i64 0, .slice none 0 0, .slice none 0 0, .int .i64 0]) ∧ Bw w w'
theorem answers_bad {ws : List (List UInt8)} {w : World} {e : Ending} {w' : World} {F : Int} (hF : wordsFault ws = F) (h0 : ¬ F = 0) (h : e = .returned (.tuple #[.agg #[.int .i64 0, .slice none 0 0, .slice none 0 0, .int .i64 0], errV F]) ∧ Bw w w') : AnswersW ws w e w' :=
 ⟨_, by rw [hF]; exact h.1, fun h' => absurd (hF.symm.trans h') h0, fun _ => rfl, h.2⟩
def Rd (K : Nat) (w : World) (v : Value) (l : List UInt8) : Prop := textFault l = 0 → ∃ g c, v = .slice (some ⟨g, 0, none⟩) c c ∧ K ≤ g ∧ Reads w v (readN l)
theorem Rd.below {K : Nat} {w w' : World} {v : Value} {l : List UInt8} (h : Rd K w v l) (hb : Bw w w') : Rd K w' v l := fun h0 => by
 obtain ⟨g, c, e, hK, hR⟩ := h h0
 exact ⟨g, c, e, hK, hR.below hb⟩
theorem Rd.set {K b j : Nat} {w : World} {u v : Value} {l : List UInt8} (h : Rd K w v l) (hb : b < K) : Rd K (w.setCell ⟨b, j, none⟩ u) v l := fun h0 => by
 obtain ⟨g, c, rfl, hK, hR⟩ := h h0
 exact ⟨g, c, rfl, hK, Reads.store hR (by show b ≠ g; omega)⟩
theorem Rd.mono {K K' : Nat} {w : World} {v : Value} {l : List UInt8} (h : Rd K w v l) (hK : K' ≤ K) : Rd K' w v l := fun h0 => by
 obtain ⟨g, c, e, hg, hR⟩ := h h0
 exact ⟨g, c, e, Nat.le_trans hK hg, hR⟩
theorem parse_rd (l : List UInt8) (hl : l.length ≤ 9223372036854775807) {E : Value} (hE : E = errV (textFault l)) (W : World) :
    Calls Tryz.prog 66 #[.string (strOf l)] W fun e w' => ∃ ao n c, e = .returned (.tuple #[.slice ao n c, E]) ∧ Rd W.heap.size w' (.slice ao n c) l ∧ Bw W w' := by
 have h := parse_fresh (strOf l) (by rw [strOf_size]; exact hl) W
 rw [strOf_list] at h
 refine h.mono ?_
 rintro e w' ⟨v, rfl, h1, h2, hb⟩
 by_cases h0 : textFault l = 0
 ·obtain ⟨hR, g, c, rfl, hg⟩ := h1 h0
  exact ⟨_, _, _, by rw [hE], fun _ => ⟨g, c, rfl, hg, hR⟩, hb⟩
 ·obtain rfl := h2 h0
  exact ⟨_, _, _, by rw [hE], fun h' => absurd h' h0, hb⟩
theorem errV_agg (n : Int) (cs : Array Value) : ¬ errV n = .agg cs := by unfold errV; split <;> (intro h; cases h)
theorem errV_one (n : Int) : (errV n).oneCell' = true := by unfold errV; split <;> rfl
theorem errV_two (n : Int) : (n = 0 ∧ errV n = .nilIface) ∨ (¬ n = 0 ∧ errV n = .iface 91 (.int .i64 n)) := by
 by_cases h : n = 0
 ·exact Or.inl ⟨h, by rw [h]; rfl⟩
 ·exact Or.inr ⟨h, errV_no h⟩
theorem store_one {W : World} {p : Addr} {u v : Value} (h1 : v.oneCell' = true) (hc : W.cell? p = some u) (hf : W.frozen? p = false) : (store p v).run Tryz.prog W = .ok () (W.setCell p v) := by
 rw [run_store _ _ _ _ _ h1]
 simp [hc, hf]
theorem told_zero {a b c : Int} (h : toldN a b c = 0) : a = 0 ∧ b = 0 ∧ c = 0 := by
 unfold toldN at h
 split at h
 ·omega
 ·split at h
  ·split at h <;> omega
  ·omega
def Res (W : World) (R : Nat) : Prop := (W.cell? ⟨R, 0, none⟩ = some (.int .i64 0) ∧ W.cell? ⟨R, 1, none⟩ = some (.slice none 0 0) ∧ W.cell? ⟨R, 2, none⟩ = some (.slice none 0 0) ∧ W.cell? ⟨R, 3, none⟩ = some (.int .i64 0)) ∧ (∀ j, W.frozen? ⟨R, j, none⟩ = false) ∧ R < W.heap.size
theorem res_new (w : World) (t : TypeId) : Res (w.alloc (.cells #[.int .i64 0, .slice none 0 0, .slice none 0 0, .int .i64 0] t)) w.heap.size := ⟨⟨by simp, by simp, by simp, by simp⟩, fun j => by simp, by simp⟩
theorem Res.below {W W' : World} {R : Nat} (h : Res W R) (hb : Bw W W') : Res W' R :=
 ⟨⟨(hb.cell h.2.2).trans h.1.1, (hb.cell h.2.2).trans h.1.2.1, (hb.cell h.2.2).trans h.1.2.2.1, (hb.cell h.2.2).trans h.1.2.2.2⟩, fun j => (hb.frozen h.2.2).trans (h.2.1 j), Nat.lt_of_lt_of_le h.2.2 hb.size⟩
theorem Res.load {W : World} {R : Nat} (h : Res W R) (c0 c1 c2 c3 : Value) : (loadVar 71 ⟨R, 0, none⟩).run Tryz.prog ((((W.setCell ⟨R, 0, none⟩ c0).setCell ⟨R, 1, none⟩ c1).setCell ⟨R, 2, none⟩ c2).setCell ⟨R, 3, none⟩ c3) = .ok (.agg #[c0, c1, c2, c3]) ((((W.setCell ⟨R, 0, none⟩ c0).setCell ⟨R, 1, none⟩ c1).setCell ⟨R, 2, none⟩ c2).setCell ⟨R, 3, none⟩ c3) := by
 obtain ⟨⟨r0, r1, r2, r3⟩, _⟩ := h
 refine load_atom ?_ ?_ ?_ ?_
 ·rw [set_far (ne_off (by decide)), set_far (ne_off (by decide)), set_far (ne_off (by decide))]; exact set_same r0
 ·rw [set_far (ne_off (by decide)), set_far (ne_off (by decide))]; exact set_same ((set_far (ne_off (by decide))).trans r1)
 ·rw [set_far (ne_off (by decide))]; exact set_same ((set_far (ne_off (by decide))).trans ((set_far (ne_off (by decide))).trans r2))
 ·exact set_same ((set_far (ne_off (by decide))).trans ((set_far (ne_off (by decide))).trans ((set_far (ne_off (by decide))).trans r3)))
theorem below4 {B : Nat} {w W : World} (h : Below B w W) (c0 c1 c2 c3 : Value) : Below B w ((((W.setCell ⟨B, 0, none⟩ c0).setCell ⟨B, 1, none⟩ c1).setCell ⟨B, 2, none⟩ c2).setCell ⟨B, 3, none⟩ c3) :=
 (((h.setCell (Nat.le_refl _) _).setCell (Nat.le_refl _) _).setCell (Nat.le_refl _) _).setCell (Nat.le_refl _) _
theorem Rd.set4 {K b : Nat} {w : World} {v : Value} {l : List UInt8} (h : Rd K w v l) (hb : b < K) (c0 c1 c2 c3 : Value) : Rd K ((((w.setCell ⟨b, 0, none⟩ c0).setCell ⟨b, 1, none⟩ c1).setCell ⟨b, 2, none⟩ c2).setCell ⟨b, 3, none⟩ c3) v l := (((h.set hb).set hb).set hb).set hb
theorem Rd.new {K : Nat} {w : World} {v : Value} {l : List UInt8} (h : Rd K w v l) (h0 : textFault l = 0) {B : Nat} (hB : B ≤ K) : NewV B v := by
 obtain ⟨g, c, rfl, hK, _⟩ := h h0
 exact ⟨_, _, _, rfl, fun p hp => by cases hp; exact Nat.le_trans hB hK⟩
theorem Rd.reads {K : Nat} {w : World} {v : Value} {l : List UInt8} (h : Rd K w v l) (h0 : textFault l = 0) : Reads w v (readN l) := by obtain ⟨_, _, _, _, hR⟩ := h h0; exact hR
theorem aparse_two (k : Nat) (hk : k = 1 ∨ k = 2) (s : ByteArray) (l0 l1 l2 : List UInt8) (hw : wordsKind [l0, l1, l2] = (k : Int)) (w : World) (hK : KindsLaid w) (hL : LibLaid w) (z1 : l1.length ≤ 9223372036854775807) (z2 : l2.length ≤ 9223372036854775807)
    (hSp : ∀ W, Bw w W → Calls Tryz.prog 88 #[.string s, .string ⟨#[32]⟩, .int .i64 5] W fun e w' => ∃ v, e = .returned v ∧ ReadsS w' v [l0, l1, l2] ∧ Bw W w')
    (hKo : ∀ W v, Bw w W → ReadsS W v [l0, l1, l2] → Calls Tryz.prog 89 #[v] W (Bk W (.int .i64 (k : Int)))) :
    Calls Tryz.prog 61 #[.string s] w (AnswersW [l0, l1, l2] w) := by
 have HW : Hid ((¬ (toldN (textFault l1) (textFault l2) 0) = 0 → wordsFault [l0, l1, l2] = (toldN (textFault l1) (textFault l2) 0)) ∧ ((toldN (textFault l1) (textFault l2) 0) = 0 → wordsFault [l0, l1, l2] = (atomFault (k : Int) (readN l1) (readN l2) 0)) ∧ wordsKind [l0, l1, l2] = (k : Int) ∧ wordsS [l0, l1, l2] = (readN l1) ∧ wordsT (k : Int) [l0, l1, l2] = (readN l2) ∧ wordsN (k : Int) [l0, l1, l2] = 0) := by
  obtain ⟨h1, h2⟩ := told_words (k := (k : Int)) (by omega) [l0, l1, l2] hw
  rcases hk with rfl | rfl <;> exact ⟨h1, h2, hw, rfl, rfl, rfl⟩
 have HKc : Hid (∀ W, KindsLaid W → W.cell? ⟨1, k * 3 + 1, none⟩ = some (.bool true) ∧ W.cell? ⟨1, k * 3 + 2, none⟩ = some (.bool false)) := fun W h => by
  rcases hk with rfl | rfl <;> exact ⟨h _ (by decide), h _ (by decide)⟩
 have hk6 : k < 6 := by omega
 have hk0 : 0 < k := by omega
 have hkz : ((k : Int) == 0) = false := by simp; omega
 clear hk hw
 obtain ⟨w1, hw1⟩ := nm (w.alloc (.cells #[.int .i64 0, .slice none 0 0, .slice none 0 0, .int .i64 0] 71))
 have HB1 : Hid (Bw w w1) := by unfold Hid; rw [hw1]; exact below_alloc1 w _
 have HRc : Hid (Res w1 w.heap.size) := by unfold Hid; rw [hw1]; exact res_new _ _
 have HSp := hide (hSp w1 HB1.out)
 have HKo := hide hKo
 have HKL : Hid (KindsLaid w ∧ LibLaid w) := ⟨hK, hL⟩
 obtain ⟨E0, hE0⟩ := nm (errV (textFault l1))
 have x0 : ∀ cs, ¬ E0 = .agg cs := fun cs => by rw [hE0]; exact errV_agg _ cs
 have y0 : E0.oneCell' = true := by rw [hE0]; exact errV_one _
 have HPa0 : Hid (∀ W, Calls Tryz.prog 66 #[.string (strOf l1)] W fun e w' => ∃ ao n c, e = .returned (.tuple #[.slice ao n c, E0]) ∧ Rd W.heap.size w' (.slice ao n c) l1 ∧ Bw W w') := fun W => parse_rd l1 z1 hE0 W
 obtain ⟨E1, hE1⟩ := nm (errV (textFault l2))
 have x1 : ∀ cs, ¬ E1 = .agg cs := fun cs => by rw [hE1]; exact errV_agg _ cs
 have y1 : E1.oneCell' = true := by rw [hE1]; exact errV_one _
 have HPa1 : Hid (∀ W, Calls Tryz.prog 66 #[.string (strOf l2)] W fun e w' => ∃ ao n c, e = .returned (.tuple #[.slice ao n c, E1]) ∧ Rd W.heap.size w' (.slice ao n c) l2 ∧ Bw W w') := fun W => parse_rd l2 z2 hE1 W
 obtain ⟨TT, hTT⟩ := nm ((toldN (textFault l1) (textFault l2) 0))
 obtain ⟨RT, hRT⟩ := nm (errV TT)
 have HTo : Hid (∀ W, Calls Tryz.prog 91 #[.agg #[E0, E1, .nilIface]] W (Bk W RT)) := fun W => by
  have h := told_any (textFault l1) (textFault l2) 0 (textFault_range _).1 (textFault_range _).2 (textFault_range _).1 (textFault_range _).2 (by decide) (by decide) W
  rw [← hTT, ← hRT, ← hE0, ← hE1] at h
  exact h
 have HT0 : Hid (TT = 0 → (textFault l1) = 0 ∧ (textFault l2) = 0) := fun h => by
  obtain ⟨a, b, c⟩ := told_zero (hTT.symm.trans h)
  exact ⟨a, b⟩
 have HRT : Hid ((TT = 0 ∧ RT = .nilIface) ∨ (¬ TT = 0 ∧ RT = .iface 91 (.int .i64 TT))) := by unfold Hid; rw [hRT]; exact errV_two TT
 rw [← hTT] at HW
 obtain ⟨FF, hFF⟩ := nm ((atomFault (k : Int) (readN l1) (readN l2) 0))
 rw [← hFF] at HW
 obtain ⟨CE, hCE⟩ := nm (errV FF)
 have HCE : Hid ((FF = 0 ∧ CE = .nilIface) ∨ (¬ FF = 0 ∧ CE = .iface 91 (.int .i64 FF))) := by unfold Hid; rw [hCE]; exact errV_two FF
 have HCk : Hid (∀ (W : World) (v0 v1 : Value), Reads W v0 (readN l1) → Reads W v1 (readN l2) → KindsLaid W → Calls Tryz.prog 92 #[.agg #[.int .i64 (k : Int), v0, v1, .int .i64 0]] W (Bk W CE)) := fun W v0 v1 h0 h1 hk => by
  have h := acheck_any (k : Int) 0 v0 v1 (readN l1) (readN l2) W h0 h1 hk
  rw [← hFF, ← hCE] at h
  exact h
 clear hTT hRT hFF hCE hE0 hE1 hSp hKo hK hL
 go_enter Tryz.func61, Tryz.ntmps61
 go_wp2_with fail
 rw [← hw1]
 clear hw1
 go_at_call 88
 refine HSp.out.mono ?_
 rintro e w2 ⟨v, rfl, hR, hb⟩
 have HZ2 := hide hb
 have HR2 := hide hR
 clear hb hR
 go_wp2_with fail
 go_at_call 89
 refine (HKo.out _ _ (HB1.out.trans (HZ2.out.mono HB1.out.size)) HR2.out).mono ?_
 rintro e w3 ⟨rfl, hb⟩
 have HZ3 := bt HZ2 hb
 have hR3 := HR2.out.below hb
 clear hb
 obtain ⟨wb, cap, rfl, hwb, hcap, hcell⟩ := hR3
 have HC : Hid (∀ j, j < 3 → w3.cell? ⟨wb, j, none⟩ = some (.string (strOf (List.getD [l0, l1, l2] j [])))) := hcell
 have HWb := hide hwb
 have HBw : Hid (∀ W, Bw w3 W → Bw w W ∧ Bw w1 W) := fun W h => ⟨(HB1.out.trans (HZ3.out.mono HB1.out.size)).trans (h.mono (Nat.le_trans HB1.out.size HZ3.out.size)), HZ3.out.trans (h.mono HZ3.out.size)⟩
 have HKd : Hid (∀ W, Bw w3 W → KindsLaid W) := fun W h => HKL.out.1.below (HBw.out W h).1
 have HRA : Hid (w.heap.size < w3.heap.size) := Nat.lt_of_lt_of_le HRc.out.2.2 HZ3.out.size
 clear hcell hcap hwb
 obtain ⟨W4, hW4⟩ := nm (((w3.alloc (.cells #[.int .i64 (k : Int), .slice none 0 0, .slice none 0 0, .int .i64 0] 71)).alloc (.cells #[.nilIface, .nilIface, .nilIface] 152)))
 have HP4 : Hid (PS W4 w3.heap.size (.int .i64 (k : Int)) (.slice none 0 0) (.slice none 0 0) (.int .i64 0) .nilIface .nilIface .nilIface) := by unfold Hid; rw [hW4]; exact ps_alloc _ _ _ _
 have HB4 : Hid (Bw w3 W4) := by unfold Hid; rw [hW4]; exact ((Below.refl _ _).alloc (Nat.le_refl _) _).alloc (by simp) _
 have c1 : W4.cell? ⟨wb, 1, none⟩ = some (.string (strOf l1)) := (HB4.out.cell HWb.out).trans (HC.out 1 (by decide))
 rw [hW4] at c1
 go_wp2_with fail
 rw [← hW4]
 clear hW4 c1
 go_at_call 66
 refine (HPa0.out _).mono ?_
 rintro e w5 ⟨ao0, sn0, sc0, rfl, hd, hb⟩
 have HD0_5 : Hid (Rd (w3.heap.size + 2) w5 (.slice ao0 sn0 sc0) l1) := hd.mono (by have := HP4.out.2.2.2.2; omega)
 clear hd
 have HP5 := hide (HP4.out.below hb)
 have HB5 := bt HB4 hb
 clear hb
 have f0 := HP5.out.2.2.1 1
 have f1 := HP5.out.2.2.2.1 0
 have g0 := HP5.out.1.2.1
 have g1 := HP5.out.2.1.1
 obtain ⟨W6, hW6⟩ := nm ((w5.setCell ⟨w3.heap.size, 1, none⟩ (.slice ao0 sn0 sc0)).setCell ⟨w3.heap.size + 1, 0, none⟩ E0)
 have HP6 : Hid (PS W6 w3.heap.size (.int .i64 (k : Int)) (.slice ao0 sn0 sc0) (.slice none 0 0) (.int .i64 0) E0 .nilIface .nilIface) := by unfold Hid; rw [hW6]; exact HP5.out.storeS _ _
 have HB6 : Hid (Bw w3 W6) := by unfold Hid; rw [hW6]; exact (HB5.out.setCell (Nat.le_refl _) _).setCell (by simp) _
 have HD0_6 : Hid (Rd (w3.heap.size + 2) W6 (.slice ao0 sn0 sc0) l1) := by unfold Hid; rw [hW6]; exact (HD0_5.out.set (by omega)).set (by omega)
 obtain ⟨k6, k7⟩ := HKc.out _ (HKd.out _ HB6.out)
 have q6 := HP6.out.1.1
 obtain ⟨q7, q8, q9⟩ := HP6.out.2.1
 have c2 : W6.cell? ⟨wb, 2, none⟩ = some (.string (strOf l2)) := (HB6.out.cell HWb.out).trans (HC.out 2 (by decide))
 rw [hW6] at k6 k7 q6 q7 q8 q9 c2
 go_wp2_with fail
 all_goals try exact absurd rfl (x0 _)
 rw [store_one y0 (by rw [set_far (ne_blk (by omega))]; exact g1) (by rw [World.frozen?_setCell]; exact f1)]
 go_wp2_with fail
 rw [← hW6]
 clear hW6 f0 f1 g0 g1 k6 k7 q6 q7 q8 q9 c2
 go_at_call 66
 refine (HPa1.out _).mono ?_
 rintro e w7 ⟨ao1, sn1, sc1, rfl, hd, hb⟩
 have HD1_7 : Hid (Rd (w3.heap.size + 2) w7 (.slice ao1 sn1 sc1) l2) := hd.mono (by have := HP6.out.2.2.2.2; omega)
 clear hd
 have HP7 := hide (HP6.out.below hb)
 have HB7 := bt HB6 hb
 have HD0_7 := hide (HD0_6.out.below hb)
 clear hb
 have f0 := HP7.out.2.2.1 2
 have f1 := HP7.out.2.2.2.1 1
 have g0 := HP7.out.1.2.2.1
 have g1 := HP7.out.2.1.2.1
 obtain ⟨W8, hW8⟩ := nm ((w7.setCell ⟨w3.heap.size, 2, none⟩ (.slice ao1 sn1 sc1)).setCell ⟨w3.heap.size + 1, 1, none⟩ E1)
 have HP8 : Hid (PS W8 w3.heap.size (.int .i64 (k : Int)) (.slice ao0 sn0 sc0) (.slice ao1 sn1 sc1) (.int .i64 0) E0 E1 .nilIface) := by unfold Hid; rw [hW8]; exact HP7.out.storeT _ _
 have HB8 : Hid (Bw w3 W8) := by unfold Hid; rw [hW8]; exact (HB7.out.setCell (Nat.le_refl _) _).setCell (by simp) _
 have HD0_8 : Hid (Rd (w3.heap.size + 2) W8 (.slice ao0 sn0 sc0) l1) := by unfold Hid; rw [hW8]; exact (HD0_7.out.set (by omega)).set (by omega)
 have HD1_8 : Hid (Rd (w3.heap.size + 2) W8 (.slice ao1 sn1 sc1) l2) := by unfold Hid; rw [hW8]; exact (HD1_7.out.set (by omega)).set (by omega)
 obtain ⟨k6, k7⟩ := HKc.out _ (HKd.out _ HB8.out)
 have q6 := HP8.out.1.1
 obtain ⟨q7, q8, q9⟩ := HP8.out.2.1
 rw [hW8] at k6 k7 q6 q7 q8 q9
 go_wp2_with fail
 all_goals try exact absurd rfl (x1 _)
 rw [store_one y1 (by rw [set_far (ne_blk (by omega))]; exact g1) (by rw [World.frozen?_setCell]; exact f1)]
 go_wp2_with fail
 rw [← hW8]
 clear hW8 f0 f1 g0 g1 k6 k7 q6 q7 q8 q9
 go_at_call 91
 refine (HTo.out _).mono ?_
 rintro e w20 ⟨rfl, hb⟩
 have HB20 := bt HB8 hb
 rcases HRT.out with ⟨ht, rfl⟩ | ⟨ht, rfl⟩
 ·have HT := hide ht
  have HF := HT0.out ht
  have HF' : Hid _ := HF
  have HP20 := hide (HP8.out.below hb)
  have HD0 := hide (HD0_8.out.below hb)
  have HD1 := hide (HD1_8.out.below hb)
  have HCk2 : Hid (Calls Tryz.prog 92 #[.agg #[.int .i64 (k : Int), .slice ao0 sn0 sc0, .slice ao1 sn1 sc1, .int .i64 0]] w20 (Bk w20 CE)) := HCk.out w20 (.slice ao0 sn0 sc0) (.slice ao1 sn1 sc1) (HD0.out.reads HF.1) (HD1.out.reads HF.2) (HKd.out _ HB20.out)
  clear hb ht HF
  obtain ⟨a0, a1, a2, a3⟩ := HP20.out.1
  go_wp2_with fail
  go_at_call 92
  refine HCk2.out.mono ?_
  rintro e w21 ⟨rfl, hb⟩
  have HB21 := bt HB20 hb
  have HP21 := hide (HP20.out.below hb)
  have HR21 : Hid (Res w21 w.heap.size) := HRc.out.below (HBw.out _ HB21.out).2
  have HD0_21 := hide (HD0.out.below hb)
  have HD1_21 := hide (HD1.out.below hb)
  clear hb a0 a1 a2 a3
  obtain ⟨⟨r0, r1, r2, r3⟩, hp, _⟩ := HR21.out
  have p0 := hp 0
  have p1 := hp 1
  have p2 := hp 2
  have p3 := hp 3
  clear hp
  rcases HCE.out with ⟨hf, rfl⟩ | ⟨hf, rfl⟩
  ·have HFF := hide hf
   clear hf
   obtain ⟨a0, a1, a2, a3⟩ := HP21.out.1
   go_wp2_with fail
   refine bodyPost_ret (v := .tuple #[.agg #[.int .i64 (k : Int), .slice ao0 sn0 sc0, .slice ao1 sn1 sc1, .int .i64 0], .nilIface]) ?_ rfl ?_
   ·rw [results_cell_tmp rfl]
    simp [asAddr, Result.andThen, HR21.out.load (.int .i64 (k : Int)) (.slice ao0 sn0 sc0) (.slice ao1 sn1 sc1) (.int .i64 0)]
   ·obtain ⟨_, hg, e1, e2, e3, e4⟩ := HW.out
    have hz := (hg HT.out).trans HFF.out
    refine ⟨_, by rw [hz]; rfl, fun _ => ⟨.slice ao0 sn0 sc0, .slice ao1 sn1 sc1, by rw [e1, e4], ?_, ?_, ?_, ?_⟩, fun h => absurd hz h, below4 (HBw.out _ HB21.out).1 _ _ _ _⟩
    ·rw [e2]; exact ((HD0_21.out.set4 (by have := HRA.out; omega) _ _ _ _).reads HF'.out.1)
    ·rw [e1, e3]; exact ((HD1_21.out.set4 (by have := HRA.out; omega) _ _ _ _).reads HF'.out.2)
    ·exact HD0_21.out.new HF'.out.1 (by have := HRA.out; omega)
    ·exact HD1_21.out.new HF'.out.2 (by have := HRA.out; omega)
  ·have HFF := hide hf
   clear hf
   go_wp2_with fail
   refine bodyPost_ret (v := .tuple #[.agg #[.int .i64 0, .slice none 0 0, .slice none 0 0, .int .i64 0], .iface 91 (.int .i64 FF)]) ?_ rfl ?_
   ·rw [results_cell_tmp rfl]
    simp [asAddr, Result.andThen, HR21.out.load (.int .i64 0) (.slice none 0 0) (.slice none 0 0) (.int .i64 0)]
   ·exact answers_bad (HW.out.2.1 HT.out) HFF.out ⟨by rw [errV_no HFF.out], below4 (HBw.out _ HB21.out).1 _ _ _ _⟩
 ·have HT := hide ht
  have HR20 : Hid (Res w20 w.heap.size) := HRc.out.below (HBw.out _ HB20.out).2
  clear hb ht
  obtain ⟨⟨r0, r1, r2, r3⟩, hp, _⟩ := HR20.out
  have p0 := hp 0
  have p1 := hp 1
  have p2 := hp 2
  have p3 := hp 3
  clear hp
  go_wp2_with fail
  refine bodyPost_ret (v := .tuple #[.agg #[.int .i64 0, .slice none 0 0, .slice none 0 0, .int .i64 0], .iface 91 (.int .i64 TT)]) ?_ rfl ?_
  ·rw [results_cell_tmp rfl]
   simp [asAddr, Result.andThen, HR20.out.load (.int .i64 0) (.slice none 0 0) (.slice none 0 0) (.int .i64 0)]
  ·exact answers_bad (HW.out.1 HT.out) HT.out ⟨by rw [errV_no HT.out], below4 (HBw.out _ HB20.out).1 _ _ _ _⟩
theorem aparse_num (k : Nat) (hk : k = 3 ∨ k = 4) (s : ByteArray) (l0 l1 l2 : List UInt8) (hw : wordsKind [l0, l1, l2] = (k : Int)) (w : World) (hK : KindsLaid w) (hL : LibLaid w) (z1 : l1.length ≤ 9223372036854775807) (z2 : l2.length ≤ 9223372036854775807)
    (hSp : ∀ W, Bw w W → Calls Tryz.prog 88 #[.string s, .string ⟨#[32]⟩, .int .i64 5] W fun e w' => ∃ v, e = .returned v ∧ ReadsS w' v [l0, l1, l2] ∧ Bw W w')
    (hKo : ∀ W v, Bw w W → ReadsS W v [l0, l1, l2] → Calls Tryz.prog 89 #[v] W (Bk W (.int .i64 (k : Int)))) :
    Calls Tryz.prog 61 #[.string s] w (AnswersW [l0, l1, l2] w) := by
 have HW : Hid ((¬ (toldN (textFault l1) 0 (numFault l2)) = 0 → wordsFault [l0, l1, l2] = (toldN (textFault l1) 0 (numFault l2))) ∧ ((toldN (textFault l1) 0 (numFault l2)) = 0 → wordsFault [l0, l1, l2] = (atomFault (k : Int) (readN l1) [] (numIs l2))) ∧ wordsKind [l0, l1, l2] = (k : Int) ∧ wordsS [l0, l1, l2] = (readN l1) ∧ wordsT (k : Int) [l0, l1, l2] = [] ∧ wordsN (k : Int) [l0, l1, l2] = (numIs l2)) := by
  obtain ⟨h1, h2⟩ := told_words (k := (k : Int)) (by omega) [l0, l1, l2] hw
  rcases hk with rfl | rfl <;> exact ⟨h1, h2, hw, rfl, rfl, rfl⟩
 have HKc : Hid (∀ W, KindsLaid W → W.cell? ⟨1, k * 3 + 1, none⟩ = some (.bool false) ∧ W.cell? ⟨1, k * 3 + 2, none⟩ = some (.bool true)) := fun W h => by
  rcases hk with rfl | rfl <;> exact ⟨h _ (by decide), h _ (by decide)⟩
 have hk6 : k < 6 := by omega
 have hk0 : 0 < k := by omega
 have hkz : ((k : Int) == 0) = false := by simp; omega
 clear hk hw
 obtain ⟨w1, hw1⟩ := nm (w.alloc (.cells #[.int .i64 0, .slice none 0 0, .slice none 0 0, .int .i64 0] 71))
 have HB1 : Hid (Bw w w1) := by unfold Hid; rw [hw1]; exact below_alloc1 w _
 have HRc : Hid (Res w1 w.heap.size) := by unfold Hid; rw [hw1]; exact res_new _ _
 have HSp := hide (hSp w1 HB1.out)
 have HKo := hide hKo
 have HKL : Hid (KindsLaid w ∧ LibLaid w) := ⟨hK, hL⟩
 obtain ⟨E0, hE0⟩ := nm (errV (textFault l1))
 have x0 : ∀ cs, ¬ E0 = .agg cs := fun cs => by rw [hE0]; exact errV_agg _ cs
 have y0 : E0.oneCell' = true := by rw [hE0]; exact errV_one _
 have HPa0 : Hid (∀ W, Calls Tryz.prog 66 #[.string (strOf l1)] W fun e w' => ∃ ao n c, e = .returned (.tuple #[.slice ao n c, E0]) ∧ Rd W.heap.size w' (.slice ao n c) l1 ∧ Bw W w') := fun W => parse_rd l1 z1 hE0 W
 obtain ⟨E2, hE2⟩ := nm (errV (numFault l2))
 have x2 : ∀ cs, ¬ E2 = .agg cs := fun cs => by rw [hE2]; exact errV_agg _ cs
 have y2 : E2.oneCell' = true := by rw [hE2]; exact errV_one _
 have HNu : Hid (∀ W, Bw w W → Calls Tryz.prog 90 #[.string (strOf l2)] W (Bk W (.tuple #[.int .i64 (numIs l2), E2]))) := fun W h => by
  have h2 := number_any (strOf l2) (by rw [strOf_size]; exact z2) W (hL.below h)
  rw [strOf_list, ← hE2] at h2
  exact h2
 obtain ⟨TT, hTT⟩ := nm ((toldN (textFault l1) 0 (numFault l2)))
 obtain ⟨RT, hRT⟩ := nm (errV TT)
 have HTo : Hid (∀ W, Calls Tryz.prog 91 #[.agg #[E0, .nilIface, E2]] W (Bk W RT)) := fun W => by
  have h := told_any (textFault l1) 0 (numFault l2) (textFault_range _).1 (textFault_range _).2 (by decide) (by decide) (numFault_range _).1 (numFault_range _).2 W
  rw [← hTT, ← hRT, ← hE0, ← hE2] at h
  exact h
 have HT0 : Hid (TT = 0 → (textFault l1) = 0 ∧ (numFault l2) = 0) := fun h => by
  obtain ⟨a, b, c⟩ := told_zero (hTT.symm.trans h)
  exact ⟨a, c⟩
 have HRT : Hid ((TT = 0 ∧ RT = .nilIface) ∨ (¬ TT = 0 ∧ RT = .iface 91 (.int .i64 TT))) := by unfold Hid; rw [hRT]; exact errV_two TT
 rw [← hTT] at HW
 obtain ⟨FF, hFF⟩ := nm ((atomFault (k : Int) (readN l1) [] (numIs l2)))
 rw [← hFF] at HW
 obtain ⟨CE, hCE⟩ := nm (errV FF)
 have HCE : Hid ((FF = 0 ∧ CE = .nilIface) ∨ (¬ FF = 0 ∧ CE = .iface 91 (.int .i64 FF))) := by unfold Hid; rw [hCE]; exact errV_two FF
 have HCk : Hid (∀ (W : World) (v0 v1 : Value), Reads W v0 (readN l1) → Reads W v1 [] → KindsLaid W → Calls Tryz.prog 92 #[.agg #[.int .i64 (k : Int), v0, v1, .int .i64 (numIs l2)]] W (Bk W CE)) := fun W v0 v1 h0 h1 hk => by
  have h := acheck_any (k : Int) (numIs l2) v0 v1 (readN l1) [] W h0 h1 hk
  rw [← hFF, ← hCE] at h
  exact h
 clear hTT hRT hFF hCE hE0 hE2 hSp hKo hK hL
 go_enter Tryz.func61, Tryz.ntmps61
 go_wp2_with fail
 rw [← hw1]
 clear hw1
 go_at_call 88
 refine HSp.out.mono ?_
 rintro e w2 ⟨v, rfl, hR, hb⟩
 have HZ2 := hide hb
 have HR2 := hide hR
 clear hb hR
 go_wp2_with fail
 go_at_call 89
 refine (HKo.out _ _ (HB1.out.trans (HZ2.out.mono HB1.out.size)) HR2.out).mono ?_
 rintro e w3 ⟨rfl, hb⟩
 have HZ3 := bt HZ2 hb
 have hR3 := HR2.out.below hb
 clear hb
 obtain ⟨wb, cap, rfl, hwb, hcap, hcell⟩ := hR3
 have HC : Hid (∀ j, j < 3 → w3.cell? ⟨wb, j, none⟩ = some (.string (strOf (List.getD [l0, l1, l2] j [])))) := hcell
 have HWb := hide hwb
 have HBw : Hid (∀ W, Bw w3 W → Bw w W ∧ Bw w1 W) := fun W h => ⟨(HB1.out.trans (HZ3.out.mono HB1.out.size)).trans (h.mono (Nat.le_trans HB1.out.size HZ3.out.size)), HZ3.out.trans (h.mono HZ3.out.size)⟩
 have HKd : Hid (∀ W, Bw w3 W → KindsLaid W) := fun W h => HKL.out.1.below (HBw.out W h).1
 have HRA : Hid (w.heap.size < w3.heap.size) := Nat.lt_of_lt_of_le HRc.out.2.2 HZ3.out.size
 clear hcell hcap hwb
 obtain ⟨W4, hW4⟩ := nm (((w3.alloc (.cells #[.int .i64 (k : Int), .slice none 0 0, .slice none 0 0, .int .i64 0] 71)).alloc (.cells #[.nilIface, .nilIface, .nilIface] 152)))
 have HP4 : Hid (PS W4 w3.heap.size (.int .i64 (k : Int)) (.slice none 0 0) (.slice none 0 0) (.int .i64 0) .nilIface .nilIface .nilIface) := by unfold Hid; rw [hW4]; exact ps_alloc _ _ _ _
 have HB4 : Hid (Bw w3 W4) := by unfold Hid; rw [hW4]; exact ((Below.refl _ _).alloc (Nat.le_refl _) _).alloc (by simp) _
 have c1 : W4.cell? ⟨wb, 1, none⟩ = some (.string (strOf l1)) := (HB4.out.cell HWb.out).trans (HC.out 1 (by decide))
 rw [hW4] at c1
 go_wp2_with fail
 rw [← hW4]
 clear hW4 c1
 go_at_call 66
 refine (HPa0.out _).mono ?_
 rintro e w5 ⟨ao0, sn0, sc0, rfl, hd, hb⟩
 have HD0_5 : Hid (Rd (w3.heap.size + 2) w5 (.slice ao0 sn0 sc0) l1) := hd.mono (by have := HP4.out.2.2.2.2; omega)
 clear hd
 have HP5 := hide (HP4.out.below hb)
 have HB5 := bt HB4 hb
 clear hb
 have f0 := HP5.out.2.2.1 1
 have f1 := HP5.out.2.2.2.1 0
 have g0 := HP5.out.1.2.1
 have g1 := HP5.out.2.1.1
 obtain ⟨W6, hW6⟩ := nm ((w5.setCell ⟨w3.heap.size, 1, none⟩ (.slice ao0 sn0 sc0)).setCell ⟨w3.heap.size + 1, 0, none⟩ E0)
 have HP6 : Hid (PS W6 w3.heap.size (.int .i64 (k : Int)) (.slice ao0 sn0 sc0) (.slice none 0 0) (.int .i64 0) E0 .nilIface .nilIface) := by unfold Hid; rw [hW6]; exact HP5.out.storeS _ _
 have HB6 : Hid (Bw w3 W6) := by unfold Hid; rw [hW6]; exact (HB5.out.setCell (Nat.le_refl _) _).setCell (by simp) _
 have HD0_6 : Hid (Rd (w3.heap.size + 2) W6 (.slice ao0 sn0 sc0) l1) := by unfold Hid; rw [hW6]; exact (HD0_5.out.set (by omega)).set (by omega)
 obtain ⟨k6, k7⟩ := HKc.out _ (HKd.out _ HB6.out)
 have q6 := HP6.out.1.1
 obtain ⟨q7, q8, q9⟩ := HP6.out.2.1
 have c2 : W6.cell? ⟨wb, 2, none⟩ = some (.string (strOf l2)) := (HB6.out.cell HWb.out).trans (HC.out 2 (by decide))
 rw [hW6] at k6 k7 q6 q7 q8 q9 c2
 go_wp2_with fail
 all_goals try exact absurd rfl (x0 _)
 rw [store_one y0 (by rw [set_far (ne_blk (by omega))]; exact g1) (by rw [World.frozen?_setCell]; exact f1)]
 go_wp2_with fail
 rw [← hW6]
 clear hW6 f0 f1 g0 g1 k6 k7 q6 q7 q8 q9 c2
 go_at_call 90
 refine (HNu.out _ (HBw.out _ HB6.out).1).mono ?_
 rintro e w7 ⟨rfl, hb⟩
 have HP7 := hide (HP6.out.below hb)
 have HB7 := bt HB6 hb
 have HD0_7 := hide (HD0_6.out.below hb)
 clear hb
 have f0 := HP7.out.2.2.1 3
 have f1 := HP7.out.2.2.2.1 2
 have g0 := HP7.out.1.2.2.2
 have g1 := HP7.out.2.1.2.2
 obtain ⟨W8, hW8⟩ := nm ((w7.setCell ⟨w3.heap.size, 3, none⟩ (.int .i64 (numIs l2))).setCell ⟨w3.heap.size + 1, 2, none⟩ E2)
 have HP8 : Hid (PS W8 w3.heap.size (.int .i64 (k : Int)) (.slice ao0 sn0 sc0) (.slice none 0 0) (.int .i64 (numIs l2)) E0 .nilIface E2) := by unfold Hid; rw [hW8]; exact HP7.out.storeN _ _
 have HB8 : Hid (Bw w3 W8) := by unfold Hid; rw [hW8]; exact (HB7.out.setCell (Nat.le_refl _) _).setCell (by simp) _
 have HD0_8 : Hid (Rd (w3.heap.size + 2) W8 (.slice ao0 sn0 sc0) l1) := by unfold Hid; rw [hW8]; exact (HD0_7.out.set (by omega)).set (by omega)
 obtain ⟨k6, k7⟩ := HKc.out _ (HKd.out _ HB8.out)
 have q6 := HP8.out.1.1
 obtain ⟨q7, q8, q9⟩ := HP8.out.2.1
 rw [hW8] at k6 k7 q6 q7 q8 q9
 go_wp2_with fail
 all_goals try exact absurd rfl (x2 _)
 rw [store_one y2 (by rw [set_far (ne_blk (by omega))]; exact g1) (by rw [World.frozen?_setCell]; exact f1)]
 go_wp2_with fail
 rw [← hW8]
 clear hW8 f0 f1 g0 g1 k6 k7 q6 q7 q8 q9
 go_at_call 91
 refine (HTo.out _).mono ?_
 rintro e w20 ⟨rfl, hb⟩
 have HB20 := bt HB8 hb
 rcases HRT.out with ⟨ht, rfl⟩ | ⟨ht, rfl⟩
 ·have HT := hide ht
  have HF := HT0.out ht
  have HF' : Hid _ := HF
  have HP20 := hide (HP8.out.below hb)
  have HD0 := hide (HD0_8.out.below hb)
  have HCk2 : Hid (Calls Tryz.prog 92 #[.agg #[.int .i64 (k : Int), .slice ao0 sn0 sc0, .slice none 0 0, .int .i64 (numIs l2)]] w20 (Bk w20 CE)) := HCk.out w20 (.slice ao0 sn0 sc0) (.slice none 0 0) (HD0.out.reads HF.1) (Or.inl ⟨none, 0, rfl, rfl⟩) (HKd.out _ HB20.out)
  clear hb ht HF
  obtain ⟨a0, a1, a2, a3⟩ := HP20.out.1
  go_wp2_with fail
  go_at_call 92
  refine HCk2.out.mono ?_
  rintro e w21 ⟨rfl, hb⟩
  have HB21 := bt HB20 hb
  have HP21 := hide (HP20.out.below hb)
  have HR21 : Hid (Res w21 w.heap.size) := HRc.out.below (HBw.out _ HB21.out).2
  have HD0_21 := hide (HD0.out.below hb)
  clear hb a0 a1 a2 a3
  obtain ⟨⟨r0, r1, r2, r3⟩, hp, _⟩ := HR21.out
  have p0 := hp 0
  have p1 := hp 1
  have p2 := hp 2
  have p3 := hp 3
  clear hp
  rcases HCE.out with ⟨hf, rfl⟩ | ⟨hf, rfl⟩
  ·have HFF := hide hf
   clear hf
   obtain ⟨a0, a1, a2, a3⟩ := HP21.out.1
   go_wp2_with fail
   refine bodyPost_ret (v := .tuple #[.agg #[.int .i64 (k : Int), .slice ao0 sn0 sc0, .slice none 0 0, .int .i64 (numIs l2)], .nilIface]) ?_ rfl ?_
   ·rw [results_cell_tmp rfl]
    simp [asAddr, Result.andThen, HR21.out.load (.int .i64 (k : Int)) (.slice ao0 sn0 sc0) (.slice none 0 0) (.int .i64 (numIs l2))]
   ·obtain ⟨_, hg, e1, e2, e3, e4⟩ := HW.out
    have hz := (hg HT.out).trans HFF.out
    refine ⟨_, by rw [hz]; rfl, fun _ => ⟨.slice ao0 sn0 sc0, .slice none 0 0, by rw [e1, e4], ?_, ?_, ?_, ?_⟩, fun h => absurd hz h, below4 (HBw.out _ HB21.out).1 _ _ _ _⟩
    ·rw [e2]; exact ((HD0_21.out.set4 (by have := HRA.out; omega) _ _ _ _).reads HF'.out.1)
    ·rw [e1, e3]; exact (Or.inl ⟨none, 0, rfl, rfl⟩)
    ·exact HD0_21.out.new HF'.out.1 (by have := HRA.out; omega)
    ·exact ⟨none, 0, 0, rfl, fun p hp => by cases hp⟩
  ·have HFF := hide hf
   clear hf
   go_wp2_with fail
   refine bodyPost_ret (v := .tuple #[.agg #[.int .i64 0, .slice none 0 0, .slice none 0 0, .int .i64 0], .iface 91 (.int .i64 FF)]) ?_ rfl ?_
   ·rw [results_cell_tmp rfl]
    simp [asAddr, Result.andThen, HR21.out.load (.int .i64 0) (.slice none 0 0) (.slice none 0 0) (.int .i64 0)]
   ·exact answers_bad (HW.out.2.1 HT.out) HFF.out ⟨by rw [errV_no HFF.out], below4 (HBw.out _ HB21.out).1 _ _ _ _⟩
 ·have HT := hide ht
  have HR20 : Hid (Res w20 w.heap.size) := HRc.out.below (HBw.out _ HB20.out).2
  clear hb ht
  obtain ⟨⟨r0, r1, r2, r3⟩, hp, _⟩ := HR20.out
  have p0 := hp 0
  have p1 := hp 1
  have p2 := hp 2
  have p3 := hp 3
  clear hp
  go_wp2_with fail
  refine bodyPost_ret (v := .tuple #[.agg #[.int .i64 0, .slice none 0 0, .slice none 0 0, .int .i64 0], .iface 91 (.int .i64 TT)]) ?_ rfl ?_
  ·rw [results_cell_tmp rfl]
   simp [asAddr, Result.andThen, HR20.out.load (.int .i64 0) (.slice none 0 0) (.slice none 0 0) (.int .i64 0)]
  ·exact answers_bad (HW.out.1 HT.out) HT.out ⟨by rw [errV_no HT.out], below4 (HBw.out _ HB20.out).1 _ _ _ _⟩
theorem aparse_all (k : Nat) (hk : k = 5) (s : ByteArray) (l0 l1 l2 l3 : List UInt8) (hw : wordsKind [l0, l1, l2, l3] = (k : Int)) (w : World) (hK : KindsLaid w) (hL : LibLaid w) (z1 : l1.length ≤ 9223372036854775807) (z2 : l2.length ≤ 9223372036854775807) (z3 : l3.length ≤ 9223372036854775807)
    (hSp : ∀ W, Bw w W → Calls Tryz.prog 88 #[.string s, .string ⟨#[32]⟩, .int .i64 5] W fun e w' => ∃ v, e = .returned v ∧ ReadsS w' v [l0, l1, l2, l3] ∧ Bw W w')
    (hKo : ∀ W v, Bw w W → ReadsS W v [l0, l1, l2, l3] → Calls Tryz.prog 89 #[v] W (Bk W (.int .i64 (k : Int)))) :
    Calls Tryz.prog 61 #[.string s] w (AnswersW [l0, l1, l2, l3] w) := by
 have HW : Hid ((¬ (toldN (textFault l1) (textFault l2) (numFault l3)) = 0 → wordsFault [l0, l1, l2, l3] = (toldN (textFault l1) (textFault l2) (numFault l3))) ∧ ((toldN (textFault l1) (textFault l2) (numFault l3)) = 0 → wordsFault [l0, l1, l2, l3] = (atomFault (k : Int) (readN l1) (readN l2) (numIs l3))) ∧ wordsKind [l0, l1, l2, l3] = (k : Int) ∧ wordsS [l0, l1, l2, l3] = (readN l1) ∧ wordsT (k : Int) [l0, l1, l2, l3] = (readN l2) ∧ wordsN (k : Int) [l0, l1, l2, l3] = (numIs l3)) := by
  obtain ⟨h1, h2⟩ := told_words (k := (k : Int)) (by omega) [l0, l1, l2, l3] hw
  rcases hk with rfl <;> exact ⟨h1, h2, hw, rfl, rfl, rfl⟩
 have HKc : Hid (∀ W, KindsLaid W → W.cell? ⟨1, k * 3 + 1, none⟩ = some (.bool true) ∧ W.cell? ⟨1, k * 3 + 2, none⟩ = some (.bool true)) := fun W h => by
  rcases hk with rfl <;> exact ⟨h _ (by decide), h _ (by decide)⟩
 have hk6 : k < 6 := by omega
 have hk0 : 0 < k := by omega
 have hkz : ((k : Int) == 0) = false := by simp; omega
 clear hk hw
 obtain ⟨w1, hw1⟩ := nm (w.alloc (.cells #[.int .i64 0, .slice none 0 0, .slice none 0 0, .int .i64 0] 71))
 have HB1 : Hid (Bw w w1) := by unfold Hid; rw [hw1]; exact below_alloc1 w _
 have HRc : Hid (Res w1 w.heap.size) := by unfold Hid; rw [hw1]; exact res_new _ _
 have HSp := hide (hSp w1 HB1.out)
 have HKo := hide hKo
 have HKL : Hid (KindsLaid w ∧ LibLaid w) := ⟨hK, hL⟩
 obtain ⟨E0, hE0⟩ := nm (errV (textFault l1))
 have x0 : ∀ cs, ¬ E0 = .agg cs := fun cs => by rw [hE0]; exact errV_agg _ cs
 have y0 : E0.oneCell' = true := by rw [hE0]; exact errV_one _
 have HPa0 : Hid (∀ W, Calls Tryz.prog 66 #[.string (strOf l1)] W fun e w' => ∃ ao n c, e = .returned (.tuple #[.slice ao n c, E0]) ∧ Rd W.heap.size w' (.slice ao n c) l1 ∧ Bw W w') := fun W => parse_rd l1 z1 hE0 W
 obtain ⟨E1, hE1⟩ := nm (errV (textFault l2))
 have x1 : ∀ cs, ¬ E1 = .agg cs := fun cs => by rw [hE1]; exact errV_agg _ cs
 have y1 : E1.oneCell' = true := by rw [hE1]; exact errV_one _
 have HPa1 : Hid (∀ W, Calls Tryz.prog 66 #[.string (strOf l2)] W fun e w' => ∃ ao n c, e = .returned (.tuple #[.slice ao n c, E1]) ∧ Rd W.heap.size w' (.slice ao n c) l2 ∧ Bw W w') := fun W => parse_rd l2 z2 hE1 W
 obtain ⟨E2, hE2⟩ := nm (errV (numFault l3))
 have x2 : ∀ cs, ¬ E2 = .agg cs := fun cs => by rw [hE2]; exact errV_agg _ cs
 have y2 : E2.oneCell' = true := by rw [hE2]; exact errV_one _
 have HNu : Hid (∀ W, Bw w W → Calls Tryz.prog 90 #[.string (strOf l3)] W (Bk W (.tuple #[.int .i64 (numIs l3), E2]))) := fun W h => by
  have h2 := number_any (strOf l3) (by rw [strOf_size]; exact z3) W (hL.below h)
  rw [strOf_list, ← hE2] at h2
  exact h2
 obtain ⟨TT, hTT⟩ := nm ((toldN (textFault l1) (textFault l2) (numFault l3)))
 obtain ⟨RT, hRT⟩ := nm (errV TT)
 have HTo : Hid (∀ W, Calls Tryz.prog 91 #[.agg #[E0, E1, E2]] W (Bk W RT)) := fun W => by
  have h := told_any (textFault l1) (textFault l2) (numFault l3) (textFault_range _).1 (textFault_range _).2 (textFault_range _).1 (textFault_range _).2 (numFault_range _).1 (numFault_range _).2 W
  rw [← hTT, ← hRT, ← hE0, ← hE1, ← hE2] at h
  exact h
 have HT0 : Hid (TT = 0 → (textFault l1) = 0 ∧ (textFault l2) = 0 ∧ (numFault l3) = 0) := fun h => by
  obtain ⟨a, b, c⟩ := told_zero (hTT.symm.trans h)
  exact ⟨a, b, c⟩
 have HRT : Hid ((TT = 0 ∧ RT = .nilIface) ∨ (¬ TT = 0 ∧ RT = .iface 91 (.int .i64 TT))) := by unfold Hid; rw [hRT]; exact errV_two TT
 rw [← hTT] at HW
 obtain ⟨FF, hFF⟩ := nm ((atomFault (k : Int) (readN l1) (readN l2) (numIs l3)))
 rw [← hFF] at HW
 obtain ⟨CE, hCE⟩ := nm (errV FF)
 have HCE : Hid ((FF = 0 ∧ CE = .nilIface) ∨ (¬ FF = 0 ∧ CE = .iface 91 (.int .i64 FF))) := by unfold Hid; rw [hCE]; exact errV_two FF
 have HCk : Hid (∀ (W : World) (v0 v1 : Value), Reads W v0 (readN l1) → Reads W v1 (readN l2) → KindsLaid W → Calls Tryz.prog 92 #[.agg #[.int .i64 (k : Int), v0, v1, .int .i64 (numIs l3)]] W (Bk W CE)) := fun W v0 v1 h0 h1 hk => by
  have h := acheck_any (k : Int) (numIs l3) v0 v1 (readN l1) (readN l2) W h0 h1 hk
  rw [← hFF, ← hCE] at h
  exact h
 clear hTT hRT hFF hCE hE0 hE1 hE2 hSp hKo hK hL
 go_enter Tryz.func61, Tryz.ntmps61
 go_wp2_with fail
 rw [← hw1]
 clear hw1
 go_at_call 88
 refine HSp.out.mono ?_
 rintro e w2 ⟨v, rfl, hR, hb⟩
 have HZ2 := hide hb
 have HR2 := hide hR
 clear hb hR
 go_wp2_with fail
 go_at_call 89
 refine (HKo.out _ _ (HB1.out.trans (HZ2.out.mono HB1.out.size)) HR2.out).mono ?_
 rintro e w3 ⟨rfl, hb⟩
 have HZ3 := bt HZ2 hb
 have hR3 := HR2.out.below hb
 clear hb
 obtain ⟨wb, cap, rfl, hwb, hcap, hcell⟩ := hR3
 have HC : Hid (∀ j, j < 4 → w3.cell? ⟨wb, j, none⟩ = some (.string (strOf (List.getD [l0, l1, l2, l3] j [])))) := hcell
 have HWb := hide hwb
 have HBw : Hid (∀ W, Bw w3 W → Bw w W ∧ Bw w1 W) := fun W h => ⟨(HB1.out.trans (HZ3.out.mono HB1.out.size)).trans (h.mono (Nat.le_trans HB1.out.size HZ3.out.size)), HZ3.out.trans (h.mono HZ3.out.size)⟩
 have HKd : Hid (∀ W, Bw w3 W → KindsLaid W) := fun W h => HKL.out.1.below (HBw.out W h).1
 have HRA : Hid (w.heap.size < w3.heap.size) := Nat.lt_of_lt_of_le HRc.out.2.2 HZ3.out.size
 clear hcell hcap hwb
 obtain ⟨W4, hW4⟩ := nm (((w3.alloc (.cells #[.int .i64 (k : Int), .slice none 0 0, .slice none 0 0, .int .i64 0] 71)).alloc (.cells #[.nilIface, .nilIface, .nilIface] 152)))
 have HP4 : Hid (PS W4 w3.heap.size (.int .i64 (k : Int)) (.slice none 0 0) (.slice none 0 0) (.int .i64 0) .nilIface .nilIface .nilIface) := by unfold Hid; rw [hW4]; exact ps_alloc _ _ _ _
 have HB4 : Hid (Bw w3 W4) := by unfold Hid; rw [hW4]; exact ((Below.refl _ _).alloc (Nat.le_refl _) _).alloc (by simp) _
 have c1 : W4.cell? ⟨wb, 1, none⟩ = some (.string (strOf l1)) := (HB4.out.cell HWb.out).trans (HC.out 1 (by decide))
 rw [hW4] at c1
 go_wp2_with fail
 rw [← hW4]
 clear hW4 c1
 go_at_call 66
 refine (HPa0.out _).mono ?_
 rintro e w5 ⟨ao0, sn0, sc0, rfl, hd, hb⟩
 have HD0_5 : Hid (Rd (w3.heap.size + 2) w5 (.slice ao0 sn0 sc0) l1) := hd.mono (by have := HP4.out.2.2.2.2; omega)
 clear hd
 have HP5 := hide (HP4.out.below hb)
 have HB5 := bt HB4 hb
 clear hb
 have f0 := HP5.out.2.2.1 1
 have f1 := HP5.out.2.2.2.1 0
 have g0 := HP5.out.1.2.1
 have g1 := HP5.out.2.1.1
 obtain ⟨W6, hW6⟩ := nm ((w5.setCell ⟨w3.heap.size, 1, none⟩ (.slice ao0 sn0 sc0)).setCell ⟨w3.heap.size + 1, 0, none⟩ E0)
 have HP6 : Hid (PS W6 w3.heap.size (.int .i64 (k : Int)) (.slice ao0 sn0 sc0) (.slice none 0 0) (.int .i64 0) E0 .nilIface .nilIface) := by unfold Hid; rw [hW6]; exact HP5.out.storeS _ _
 have HB6 : Hid (Bw w3 W6) := by unfold Hid; rw [hW6]; exact (HB5.out.setCell (Nat.le_refl _) _).setCell (by simp) _
 have HD0_6 : Hid (Rd (w3.heap.size + 2) W6 (.slice ao0 sn0 sc0) l1) := by unfold Hid; rw [hW6]; exact (HD0_5.out.set (by omega)).set (by omega)
 obtain ⟨k6, k7⟩ := HKc.out _ (HKd.out _ HB6.out)
 have q6 := HP6.out.1.1
 obtain ⟨q7, q8, q9⟩ := HP6.out.2.1
 have c2 : W6.cell? ⟨wb, 2, none⟩ = some (.string (strOf l2)) := (HB6.out.cell HWb.out).trans (HC.out 2 (by decide))
 rw [hW6] at k6 k7 q6 q7 q8 q9 c2
 go_wp2_with fail
 all_goals try exact absurd rfl (x0 _)
 rw [store_one y0 (by rw [set_far (ne_blk (by omega))]; exact g1) (by rw [World.frozen?_setCell]; exact f1)]
 go_wp2_with fail
 rw [← hW6]
 clear hW6 f0 f1 g0 g1 k6 k7 q6 q7 q8 q9 c2
 go_at_call 66
 refine (HPa1.out _).mono ?_
 rintro e w7 ⟨ao1, sn1, sc1, rfl, hd, hb⟩
 have HD1_7 : Hid (Rd (w3.heap.size + 2) w7 (.slice ao1 sn1 sc1) l2) := hd.mono (by have := HP6.out.2.2.2.2; omega)
 clear hd
 have HP7 := hide (HP6.out.below hb)
 have HB7 := bt HB6 hb
 have HD0_7 := hide (HD0_6.out.below hb)
 clear hb
 have f0 := HP7.out.2.2.1 2
 have f1 := HP7.out.2.2.2.1 1
 have g0 := HP7.out.1.2.2.1
 have g1 := HP7.out.2.1.2.1
 obtain ⟨W8, hW8⟩ := nm ((w7.setCell ⟨w3.heap.size, 2, none⟩ (.slice ao1 sn1 sc1)).setCell ⟨w3.heap.size + 1, 1, none⟩ E1)
 have HP8 : Hid (PS W8 w3.heap.size (.int .i64 (k : Int)) (.slice ao0 sn0 sc0) (.slice ao1 sn1 sc1) (.int .i64 0) E0 E1 .nilIface) := by unfold Hid; rw [hW8]; exact HP7.out.storeT _ _
 have HB8 : Hid (Bw w3 W8) := by unfold Hid; rw [hW8]; exact (HB7.out.setCell (Nat.le_refl _) _).setCell (by simp) _
 have HD0_8 : Hid (Rd (w3.heap.size + 2) W8 (.slice ao0 sn0 sc0) l1) := by unfold Hid; rw [hW8]; exact (HD0_7.out.set (by omega)).set (by omega)
 have HD1_8 : Hid (Rd (w3.heap.size + 2) W8 (.slice ao1 sn1 sc1) l2) := by unfold Hid; rw [hW8]; exact (HD1_7.out.set (by omega)).set (by omega)
 obtain ⟨k6, k7⟩ := HKc.out _ (HKd.out _ HB8.out)
 have q6 := HP8.out.1.1
 obtain ⟨q7, q8, q9⟩ := HP8.out.2.1
 have c2 : W8.cell? ⟨wb, 3, none⟩ = some (.string (strOf l3)) := (HB8.out.cell HWb.out).trans (HC.out 3 (by decide))
 rw [hW8] at k6 k7 q6 q7 q8 q9 c2
 go_wp2_with fail
 all_goals try exact absurd rfl (x1 _)
 rw [store_one y1 (by rw [set_far (ne_blk (by omega))]; exact g1) (by rw [World.frozen?_setCell]; exact f1)]
 go_wp2_with fail
 rw [← hW8]
 clear hW8 f0 f1 g0 g1 k6 k7 q6 q7 q8 q9 c2
 go_at_call 90
 refine (HNu.out _ (HBw.out _ HB8.out).1).mono ?_
 rintro e w9 ⟨rfl, hb⟩
 have HP9 := hide (HP8.out.below hb)
 have HB9 := bt HB8 hb
 have HD0_9 := hide (HD0_8.out.below hb)
 have HD1_9 := hide (HD1_8.out.below hb)
 clear hb
 have f0 := HP9.out.2.2.1 3
 have f1 := HP9.out.2.2.2.1 2
 have g0 := HP9.out.1.2.2.2
 have g1 := HP9.out.2.1.2.2
 obtain ⟨W10, hW10⟩ := nm ((w9.setCell ⟨w3.heap.size, 3, none⟩ (.int .i64 (numIs l3))).setCell ⟨w3.heap.size + 1, 2, none⟩ E2)
 have HP10 : Hid (PS W10 w3.heap.size (.int .i64 (k : Int)) (.slice ao0 sn0 sc0) (.slice ao1 sn1 sc1) (.int .i64 (numIs l3)) E0 E1 E2) := by unfold Hid; rw [hW10]; exact HP9.out.storeN _ _
 have HB10 : Hid (Bw w3 W10) := by unfold Hid; rw [hW10]; exact (HB9.out.setCell (Nat.le_refl _) _).setCell (by simp) _
 have HD0_10 : Hid (Rd (w3.heap.size + 2) W10 (.slice ao0 sn0 sc0) l1) := by unfold Hid; rw [hW10]; exact (HD0_9.out.set (by omega)).set (by omega)
 have HD1_10 : Hid (Rd (w3.heap.size + 2) W10 (.slice ao1 sn1 sc1) l2) := by unfold Hid; rw [hW10]; exact (HD1_9.out.set (by omega)).set (by omega)
 obtain ⟨k6, k7⟩ := HKc.out _ (HKd.out _ HB10.out)
 have q6 := HP10.out.1.1
 obtain ⟨q7, q8, q9⟩ := HP10.out.2.1
 rw [hW10] at k6 k7 q6 q7 q8 q9
 go_wp2_with fail
 all_goals try exact absurd rfl (x2 _)
 rw [store_one y2 (by rw [set_far (ne_blk (by omega))]; exact g1) (by rw [World.frozen?_setCell]; exact f1)]
 go_wp2_with fail
 rw [← hW10]
 clear hW10 f0 f1 g0 g1 k6 k7 q6 q7 q8 q9
 go_at_call 91
 refine (HTo.out _).mono ?_
 rintro e w20 ⟨rfl, hb⟩
 have HB20 := bt HB10 hb
 rcases HRT.out with ⟨ht, rfl⟩ | ⟨ht, rfl⟩
 ·have HT := hide ht
  have HF := HT0.out ht
  have HF' : Hid _ := HF
  have HP20 := hide (HP10.out.below hb)
  have HD0 := hide (HD0_10.out.below hb)
  have HD1 := hide (HD1_10.out.below hb)
  have HCk2 : Hid (Calls Tryz.prog 92 #[.agg #[.int .i64 (k : Int), .slice ao0 sn0 sc0, .slice ao1 sn1 sc1, .int .i64 (numIs l3)]] w20 (Bk w20 CE)) := HCk.out w20 (.slice ao0 sn0 sc0) (.slice ao1 sn1 sc1) (HD0.out.reads HF.1) (HD1.out.reads HF.2.1) (HKd.out _ HB20.out)
  clear hb ht HF
  obtain ⟨a0, a1, a2, a3⟩ := HP20.out.1
  go_wp2_with fail
  go_at_call 92
  refine HCk2.out.mono ?_
  rintro e w21 ⟨rfl, hb⟩
  have HB21 := bt HB20 hb
  have HP21 := hide (HP20.out.below hb)
  have HR21 : Hid (Res w21 w.heap.size) := HRc.out.below (HBw.out _ HB21.out).2
  have HD0_21 := hide (HD0.out.below hb)
  have HD1_21 := hide (HD1.out.below hb)
  clear hb a0 a1 a2 a3
  obtain ⟨⟨r0, r1, r2, r3⟩, hp, _⟩ := HR21.out
  have p0 := hp 0
  have p1 := hp 1
  have p2 := hp 2
  have p3 := hp 3
  clear hp
  rcases HCE.out with ⟨hf, rfl⟩ | ⟨hf, rfl⟩
  ·have HFF := hide hf
   clear hf
   obtain ⟨a0, a1, a2, a3⟩ := HP21.out.1
   go_wp2_with fail
   refine bodyPost_ret (v := .tuple #[.agg #[.int .i64 (k : Int), .slice ao0 sn0 sc0, .slice ao1 sn1 sc1, .int .i64 (numIs l3)], .nilIface]) ?_ rfl ?_
   ·rw [results_cell_tmp rfl]
    simp [asAddr, Result.andThen, HR21.out.load (.int .i64 (k : Int)) (.slice ao0 sn0 sc0) (.slice ao1 sn1 sc1) (.int .i64 (numIs l3))]
   ·obtain ⟨_, hg, e1, e2, e3, e4⟩ := HW.out
    have hz := (hg HT.out).trans HFF.out
    refine ⟨_, by rw [hz]; rfl, fun _ => ⟨.slice ao0 sn0 sc0, .slice ao1 sn1 sc1, by rw [e1, e4], ?_, ?_, ?_, ?_⟩, fun h => absurd hz h, below4 (HBw.out _ HB21.out).1 _ _ _ _⟩
    ·rw [e2]; exact ((HD0_21.out.set4 (by have := HRA.out; omega) _ _ _ _).reads HF'.out.1)
    ·rw [e1, e3]; exact ((HD1_21.out.set4 (by have := HRA.out; omega) _ _ _ _).reads HF'.out.2.1)
    ·exact HD0_21.out.new HF'.out.1 (by have := HRA.out; omega)
    ·exact HD1_21.out.new HF'.out.2.1 (by have := HRA.out; omega)
  ·have HFF := hide hf
   clear hf
   go_wp2_with fail
   refine bodyPost_ret (v := .tuple #[.agg #[.int .i64 0, .slice none 0 0, .slice none 0 0, .int .i64 0], .iface 91 (.int .i64 FF)]) ?_ rfl ?_
   ·rw [results_cell_tmp rfl]
    simp [asAddr, Result.andThen, HR21.out.load (.int .i64 0) (.slice none 0 0) (.slice none 0 0) (.int .i64 0)]
   ·exact answers_bad (HW.out.2.1 HT.out) HFF.out ⟨by rw [errV_no HFF.out], below4 (HBw.out _ HB21.out).1 _ _ _ _⟩
 ·have HT := hide ht
  have HR20 : Hid (Res w20 w.heap.size) := HRc.out.below (HBw.out _ HB20.out).2
  clear hb ht
  obtain ⟨⟨r0, r1, r2, r3⟩, hp, _⟩ := HR20.out
  have p0 := hp 0
  have p1 := hp 1
  have p2 := hp 2
  have p3 := hp 3
  clear hp
  go_wp2_with fail
  refine bodyPost_ret (v := .tuple #[.agg #[.int .i64 0, .slice none 0 0, .slice none 0 0, .int .i64 0], .iface 91 (.int .i64 TT)]) ?_ rfl ?_
  ·rw [results_cell_tmp rfl]
   simp [asAddr, Result.andThen, HR20.out.load (.int .i64 0) (.slice none 0 0) (.slice none 0 0) (.int .i64 0)]
  ·exact answers_bad (HW.out.1 HT.out) HT.out ⟨by rw [errV_no HT.out], below4 (HBw.out _ HB20.out).1 _ _ _ _⟩
end Go.Proofs.YtnoohlibgaeklaaGreatDoor
