/-
  Facts and contracts that the statement leans on.
-/
import Derived.Test.YtnoohlibgaeklaaGreatDoorLibQ19
import Derived.Test.YtnoohlibgaeklaaGreatDoorLibQ14
import Derived.Test.YtnoohlibgaeklaaGreatDoorLibQ10
import Derived.Test.YtnoohlibgaeklaaGreatDoorLibQ16
import Derived.Laws.ResultCell
import Derived.Deep.CutRange
import Derived.Test.YtnoohlibgaeklaaGreatDoorLibQ17
import Derived.Maps.OwnIn
import Derived.Deep.AppendLies
import Derived.Test.YtnoohlibgaeklaaGreatDoorLibQ9
import Derived.Test.YtnoohlibgaeklaaGreatDoorLibQ1
import Derived.Deep.Onto
namespace Go.Proofs.YtnoohlibgaeklaaGreatDoor
open Go.ChangeShapes Go.WideShapes Go.ChangeAt Go.RowKit
set_option maxRecDepth 100000
set_option maxHeartbeats 16000000
def FormOn (Z : Nat → Prop) (W : World) (va vc : Value) (f : Fm) : Prop := ∀ X, W.heap.size ≤ X.heap.size → (∀ b, Z b → b < W.heap.size → X.heap[b]? = W.heap[b]?) → ReadsA X va f.ats ∧ Reads X vc f.c
theorem FormOn.now {Z : Nat → Prop} {W : World} {va vc : Value} {f : Fm} (h : FormOn Z W va vc f) : ReadsA W va f.ats ∧ Reads W vc f.c := h W (Nat.le_refl _) fun _ _ _ => rfl
theorem FormOn.step {Z Z' : Nat → Prop} {W W' : World} {va vc : Value} {f : Fm} (h : FormOn Z W va vc f) (hz : W.heap.size ≤ W'.heap.size) (hk : ∀ b, Z b → b < W.heap.size → W'.heap[b]? = W.heap[b]?) (hZ : ∀ b, Z b → b < W.heap.size → Z' b) : FormOn Z' W' va vc f :=
 fun X hX hs => h X (Nat.le_trans hz hX) fun b hb hl => (hs b (hZ b hb hl) (Nat.lt_of_lt_of_le hl hz)).trans (hk b hb hl)
theorem Reads.newer {K : Nat} {W X : World} {v : Value} {t : List Int} (h : Reads W v t) (hn : NewV K v) (hs : ∀ b, K ≤ b → b < W.heap.size → X.heap[b]? = W.heap[b]?) (hz : W.heap.size ≤ X.heap.size) : Reads X v t := by
 rcases h with h | ⟨b, off, cap, rfl, h2, h3, h4, h5⟩
 ·exact Or.inl h
 ·obtain ⟨ao, n, c, hv, hk⟩ := hn
  obtain ⟨e1, _, _⟩ := Value.slice.inj hv
  have e : X.heap[b]? = W.heap[b]? := hs b (hk _ e1.symm) h2
  exact Or.inr ⟨b, off, cap, rfl, Nat.lt_of_lt_of_le h2 hz, h3, h4, fun k hk => by rw [World.cell?_of_block (w := W) (a := ⟨b, off + k, none⟩) e]; exact h5 k hk⟩
theorem loadFmL {W : World} {R : Nat} {v u : Value} (h : Blk W R 78 #[v, u]) : (loadVar 78 ⟨R, 0, none⟩).run Tryz.prog W = .ok (.agg #[v, u]) W := by
 have hl := run_loadCells_list (P := Tryz.prog) W ⟨R, 0, none⟩ [v, u] (fun j x hj => by
  have := h.cell j
  rw [← Array.getElem?_toList] at this
  rw [hj] at this
  have ha : (⟨R, 0, none⟩ : Addr).add j = ⟨R, j, none⟩ := by unfold Addr.add; split <;> simp_all
  rw [ha]; exact this)
 simp [loadVar, Tryz.isAgg78, Tryz.sizeOf78, Result.andThen] at hl ⊢
 simp [hl]
theorem result_one {fn : Func} {p : Tmp} {ty : TypeId} (h : fn.results = #[.cell p ty]) (tmps : Array Value) (P : Program) (w : World) :
    (results fn tmps).run P w = ((asAddr (tmps.getD p undef)).run P w).andThen fun a w1 => (loadVar ty a).run P w1 := by
 simp only [results, h]
 simp [Sem.run_bind, Result.andThen]
theorem own_aside {X : World} {K n size : Nat} {e : TypeId} {v : Value} {xs : List Value} (h : X.ownsRow K e size v n xs) {p : Addr} (hp : ∀ b, v.ownBlock = some b → b ≠ p.block) (u : Value) : (X.setCell p u).ownsRow K e size v n xs := by
 refine ⟨h.1, ?_⟩
 rcases h.2 with h0 | ⟨g, cap, cur, hv, hb, hg, rest⟩
 ·exact Or.inl h0
 ·exact Or.inr ⟨g, cap, cur, hv, hb, (Below.heap_setCell _ _ _ _ (hp g (by rw [hv]; rfl))).trans hg, rest⟩
theorem parse_back {a : At} (h : a.fault = 0) (w : World) (hK : KindsLaid w) (hL : LibLaid w) :
    Calls Tryz.prog 61 #[.string (strOf a.text)] w fun e w' => (∃ v0 v1, e = .returned (.tuple #[.agg #[.int .i64 a.k, v0, v1, .int .i64 a.n], .nilIface]) ∧ Reads w' v0 a.s ∧ Reads w' v1 a.t ∧ NewV w.heap.size v0 ∧ NewV w.heap.size v1) ∧ Bw w w' := by
 have hl := text_small h
 refine (aparse_new (strOf a.text) (by rw [strOf_size]; omega) w hK hL).mono ?_
 rintro e w' ⟨x, rfl, h1, h2, hb⟩
 refine ⟨?_, hb⟩
 have e0 : seen (strOf a.text) = atomWords a.k a.s a.t a.n := seen_words h
 obtain ⟨g0, g1, g2, g3, g4⟩ := words_back h
 rw [e0] at h1 ⊢
 rw [g0] at h1 ⊢
 obtain ⟨v0, v1, rfl, r0, r1, n0, n1⟩ := h1 rfl
 rw [g1] at r1 ⊢
 rw [g2] at r0
 rw [g3] at r1
 rw [g4]
 exact ⟨v0, v1, rfl, r0, r1, n0, n1⟩
theorem text_head {a : At} (h : a.fault = 0) : ∃ x l, a.text = x :: l ∧ x ≠ 45 := by
 obtain ⟨hk, _⟩ := atomFault_zero.1 h
 unfold At.text atomText
 rcases five hk.1 hk.2 with e | e | e | e | e <;> (rw [e]; exact ⟨_, _, rfl, by decide⟩)
theorem rec_parts {a : At} (h : Bool) (ha : a.fault = 0) : ∃ T, (∀ W, Calls Tryz.prog 85 #[.string (strOf (recB (a, h))), .string ⟨#[43]⟩] W (Sk W (.tuple #[.string T, .bool h]))) ∧ ∀ W, Calls Tryz.prog 86 #[.string T, .string ⟨#[45]⟩] W (Sk W (.string (strOf a.text))) := by
 have hl := text_small ha
 cases h with
 | true =>
  obtain ⟨x, l, ht, hx⟩ := text_head ha
  refine ⟨strOf a.text, fun W => ?_, fun W => ?_⟩
  ·have := cutHead_any 43 43 a.text (by omega) W
   exact this
  ·have := trimHead_any x 45 l (by rw [ht] at hl; simp at hl; omega) W
   rw [if_neg hx, ← ht] at this
   exact this
 | false =>
  refine ⟨strOf (45 :: a.text), fun W => ?_, fun W => ?_⟩
  ·have := cutHead_any 45 43 a.text (by omega) W
   exact this
  ·have := trimHead_any 45 45 a.text (by omega) W
   exact this
theorem read_form {w w3 W : World} {G : Nat} {a : At} {h : Bool} {v0 v1 vc : Value} (r0 : Reads w3 v0 a.s) (r1 : Reads w3 v1 a.t) (n0 : NewV (w.heap.size + 1) v0) (n1 : NewV (w.heap.size + 1) v1) (hG : w3.heap.size = G) (hwG : w.heap.size ≤ G) (hz : G ≤ W.heap.size)
    (hold : ∀ b, w.heap.size + 1 ≤ b → b < G → W.heap[b]? = w3.heap[b]?) (hA : Blk W G 71 #[.int .i64 a.k, v0, v1, .int .i64 a.n])
    (hC : ∀ X, W.heap.size ≤ X.heap.size → (∀ b, w.heap.size ≤ b → b < W.heap.size → X.heap[b]? = W.heap[b]?) → Reads X vc (aloneF a h).c) : FormOn (fun b => w.heap.size ≤ b) W (.slice (some ⟨G, 0, none⟩) 1 1) vc (aloneF a h) := fun X hX hs => by
 have hk : Blk X G 71 #[.int .i64 a.k, v0, v1, .int .i64 a.n] := by unfold Blk; rw [hs G hwG hA.lt]; exact hA
 have ho : ∀ b, w.heap.size + 1 ≤ b → b < w3.heap.size → X.heap[b]? = w3.heap[b]? := fun b h1 h2 => (hs b (by omega) (by omega)).trans (hold b h1 (by omega))
 refine ⟨Or.inr ⟨G, 0, 1, rfl, hk.lt, by show 0 < 1; omega, ⟨by show 1 ≤ _; omega, Nat.le_refl _⟩, fun i b hb => ?_⟩, hC X hX hs⟩
 cases i with
 | zero =>
  obtain rfl : a = b := by simpa [aloneF] using hb
  exact ⟨v0, v1, hk.cell 0, hk.cell 1, hk.cell 2, hk.cell 3, r0.newer n0 ho (by omega), r1.newer n1 ho (by omega)⟩
 | succ i => simp [aloneF] at hb
theorem logRead_any (a : At) (h : Bool) (ha : a.fault = 0) (w : World) (hK : KindsLaid w) (hL : LibLaid w) :
    Calls Tryz.prog 59 #[.string (strOf (recB (a, h) ++ [10]))] w fun e w' => ∃ o1 l1 c1 o2 l2 c2, e = .returned (.agg #[.slice o1 l1 c1, .slice o2 l2 c2]) ∧ FormOn (fun b => w.heap.size ≤ b) w' (.slice o1 l1 c1) (.slice o2 l2 c2) (aloneF a h) ∧ Bw w w' := by
 have hl := text_small ha
 have HTr : Hid (∀ W, Calls Tryz.prog 13 #[.string (strOf (recB (a, h) ++ [10])), .string ⟨#[10]⟩] W (Sk W (.string (strOf (recB (a, h)))))) := fun W => trimEnd_hit _ (by have := rec_small (q := (a, h)) ha; omega) W
 obtain ⟨T, hT1, hT2⟩ := rec_parts h ha
 have HT1 := hide hT1
 have HT2 := hide hT2
 have HPa : Hid (∀ W, Bw w W → Calls Tryz.prog 61 #[.string (strOf a.text)] W fun e w' => (∃ v0 v1, e = .returned (.tuple #[.agg #[.int .i64 a.k, v0, v1, .int .i64 a.n], .nilIface]) ∧ Reads w' v0 a.s ∧ Reads w' v1 a.t ∧ NewV W.heap.size v0 ∧ NewV W.heap.size v1) ∧ Bw W w') := fun W hW => parse_back ha W (hK.below hW) (hL.below hW)
 obtain ⟨R0, hR0⟩ := nm (strOf (recB (a, h) ++ [10]))
 obtain ⟨R1, hR1⟩ := nm (strOf (recB (a, h)))
 obtain ⟨R2, hR2⟩ := nm (strOf a.text)
 rw [← hR0, ← hR1] at HTr
 rw [← hR1] at HT1
 rw [← hR2] at HT2 HPa
 rw [← hR0]
 clear hR0 hR1 hR2 hT1 hT2 hK hL hl ha
 obtain ⟨w1, hw1⟩ := nm (w.alloc (.cells #[.slice none 0 0, .slice none 0 0] 78))
 have HB1 : Hid (Bw w w1) := by unfold Hid; rw [hw1]; exact below_alloc1 _ _
 have HK1 : Hid (Blk w1 w.heap.size 78 #[.slice none 0 0, .slice none 0 0]) := by unfold Hid; rw [hw1]; exact Blk.new _ _ _
 have Hs1 : Hid (w1.heap.size = w.heap.size + 1) := by unfold Hid; rw [hw1, World.size_alloc]
 go_enter Tryz.func59, Tryz.ntmps59
 go_upto_region 1 with fail
 rw [← hw1]
 clear hw1
 go_wp2_with fail
 go_at_call 13
 refine (HTr.out _).mono ?_
 rintro e w2 ⟨rfl, rfl⟩
 go_wp2_with fail
 go_at_call 85
 refine (HT1.out _).mono ?_
 rintro e w2 ⟨rfl, rfl⟩
 go_wp2_with fail
 go_at_call 86
 refine (HT2.out _).mono ?_
 rintro e w2 ⟨rfl, rfl⟩
 go_wp2_with fail
 go_at_call 61
 refine (HPa.out _ HB1.out).mono ?_
 rintro e w2 ⟨⟨v0, v1, rfl, r0, r1, n0, n1⟩, hb2⟩
 obtain ⟨o0, m0, q0, rfl, k0⟩ := n0
 obtain ⟨o1, m1, q1, rfl, k1⟩ := n1
 have HR0 := hide r0
 have HR1 := hide r1
 have HN0 : Hid (NewV (w.heap.size + 1) (.slice o0 m0 q0)) := ⟨_, _, _, rfl, fun p hp => Nat.le_trans (Nat.le_of_eq Hs1.out.symm) (k0 p hp)⟩
 have HN1 : Hid (NewV (w.heap.size + 1) (.slice o1 m1 q1)) := ⟨_, _, _, rfl, fun p hp => Nat.le_trans (Nat.le_of_eq Hs1.out.symm) (k1 p hp)⟩
 have HB2 := bt HB1 hb2
 have HK2 := hide (HK1.out.below hb2)
 clear r0 r1 k0 k1 hb2
 obtain ⟨w3, hw3⟩ := nm (w2.alloc (.cells #[.int .i64 a.k, .slice o0 m0 q0, .slice o1 m1 q1, .int .i64 a.n] 71))
 obtain ⟨G3, hG3⟩ := nm w2.heap.size
 have b23 : Below w2.heap.size w2 w3 := by rw [hw3]; exact below_alloc1 _ _
 have HB3 := bt HB2 b23
 have HK3 := hide (HK2.out.below b23)
 have HA3 : Hid (Blk w3 G3 71 #[.int .i64 a.k, .slice o0 m0 q0, .slice o1 m1 q1, .int .i64 a.n]) := by unfold Hid; rw [hw3, hG3]; exact Blk.new _ _ _
 have HG3 : Hid (w.heap.size < G3) := by unfold Hid; rw [hG3]; exact HK2.out.lt
 have HR03 := hide (HR0.out.below b23)
 have HR13 := hide (HR1.out.below b23)
 clear b23
 go_upto_region 3 with fail
 rw [← hw3, ← hG3]
 clear hw3 hG3
 obtain ⟨G, hG⟩ := nm w3.heap.size
 obtain ⟨w4, hw4⟩ := nm (((w3.alloc (.cells #[.int .i64 a.k, .slice o0 m0 q0, .slice o1 m1 q1, .int .i64 a.n] 71)).alloc (.cells #[.int .i64 0] 3)).alloc (.cells #[.slice (some ⟨w3.heap.size, 0, none⟩) 1 1, .slice (some ⟨w3.heap.size + 1, 0, none⟩) 1 1] 78))
 have b34 : Below w3.heap.size w3 w4 := by rw [hw4]; exact ((below_alloc1 _ _).alloc (by simp) _).alloc (by simp; omega) _
 have HA4 : Hid (Blk w4 G 71 #[.int .i64 a.k, .slice o0 m0 q0, .slice o1 m1 q1, .int .i64 a.n]) := by unfold Hid; rw [hw4, hG]; exact ((Blk.new _ _ _).old _).old _
 have HC4 : Hid (Blk w4 (G + 1) 3 #[.int .i64 0]) := by
  unfold Hid; rw [hw4, hG]
  have := Blk.new (w3.alloc (.cells #[.int .i64 a.k, .slice o0 m0 q0, .slice o1 m1 q1, .int .i64 a.n] 71)) 3 #[.int .i64 0]
  rw [World.size_alloc] at this
  exact this.old _
 have HF4 : Hid (Blk w4 (G + 1 + 1) 78 #[.slice (some ⟨G, 0, none⟩) 1 1, .slice (some ⟨G + 1, 0, none⟩) 1 1]) := by
  unfold Hid; rw [hw4, hG]
  have := Blk.new ((w3.alloc (.cells #[.int .i64 a.k, .slice o0 m0 q0, .slice o1 m1 q1, .int .i64 a.n] 71)).alloc (.cells #[.int .i64 0] 3)) 78 #[.slice (some ⟨w3.heap.size, 0, none⟩) 1 1, .slice (some ⟨w3.heap.size + 1, 0, none⟩) 1 1]
  rw [World.size_alloc, World.size_alloc] at this
  exact this
 have HB4 := bt HB3 b34
 have HK4 := hide (HK3.out.below b34)
 have HG : Hid (w.heap.size + 2 ≤ G) := by unfold Hid; rw [hG]; have h1 := HA3.out.lt; have h2 := HG3.out; omega
 have HGs := hide (hG.symm)
 have Hold4 : Hid (∀ b, w.heap.size + 1 ≤ b → b < G → w4.heap[b]? = w3.heap[b]?) := fun b _ h2 => b34.block b (by rw [← hG]; exact h2)
 have a0 : w3.cell? ⟨G3, 0, none⟩ = some (.int .i64 a.k) := HA3.out.cell 0
 have a1 : w3.cell? ⟨G3, 1, none⟩ = some (.slice o0 m0 q0) := HA3.out.cell 1
 have a2 : w3.cell? ⟨G3, 2, none⟩ = some (.slice o1 m1 q1) := HA3.out.cell 2
 have a3 : w3.cell? ⟨G3, 3, none⟩ = some (.int .i64 a.n) := HA3.out.cell 3
 clear b34
 go_upto_region 4 with fail
 rw [← hw4, ← hG]
 clear hw4 hG a0 a1 a2 a3
 cases h with
 | true =>
  have y0 : w4.cell? ⟨G + 1 + 1, 0, none⟩ = some (.slice (some ⟨G, 0, none⟩) 1 1) := HF4.out.cell 0
  have y1 : w4.cell? ⟨G + 1 + 1, 1, none⟩ = some (.slice (some ⟨G + 1, 0, none⟩) 1 1) := HF4.out.cell 1
  have z0 : w4.cell? ⟨w.heap.size, 0, none⟩ = some (.slice none 0 0) := HK4.out.cell 0
  have z1 : w4.cell? ⟨w.heap.size, 1, none⟩ = some (.slice none 0 0) := HK4.out.cell 1
  have f0 : w4.frozen? ⟨w.heap.size, 0, none⟩ = false := HK4.out.frozen 0
  have f1 : w4.frozen? ⟨w.heap.size, 1, none⟩ = false := HK4.out.frozen 1
  go_wp2
  have hg := HG.out
  have r1 : Blk ((w4.setCell ⟨w.heap.size, 0, none⟩ (.slice (some ⟨G, 0, none⟩) 1 1)).setCell ⟨w.heap.size, 1, none⟩ (.slice (some ⟨G + 1, 0, none⟩) 1 1)) w.heap.size 78 #[.slice (some ⟨G, 0, none⟩) 1 1, .slice (some ⟨G + 1, 0, none⟩) 1 1] := (HK4.out.set 0 _).set 1 _
  have l1 := loadFmL r1
  have hB : Bw w ((w4.setCell ⟨w.heap.size, 0, none⟩ (.slice (some ⟨G, 0, none⟩) 1 1)).setCell ⟨w.heap.size, 1, none⟩ (.slice (some ⟨G + 1, 0, none⟩) 1 1)) := (HB4.out.setCell (Nat.le_refl _) _).setCell (Nat.le_refl _) _
  have q0 : Blk ((w4.setCell ⟨w.heap.size, 0, none⟩ (.slice (some ⟨G, 0, none⟩) 1 1)).setCell ⟨w.heap.size, 1, none⟩ (.slice (some ⟨G + 1, 0, none⟩) 1 1)) (G + 1) 3 #[.int .i64 0] := (HC4.out.far (by omega) _ _).far (by omega) _ _
  refine bodyPost_ret (v := .agg #[.slice (some ⟨G, 0, none⟩) 1 1, .slice (some ⟨G + 1, 0, none⟩) 1 1]) ?_ rfl ⟨_, _, _, _, _, _, rfl, read_form HR03.out HR13.out HN0.out HN1.out HGs.out (by omega) (by have := q0.lt; omega) (fun b h1 h2 => ?_) ((HA4.out.far (by omega) _ _).far (by omega) _ _) (fun X hX hs => ?_), hB⟩
  ·rw [result_one rfl]
   simp [asAddr, Result.andThen, l1]
  ·rw [Below.heap_setCell _ _ _ _ (show b ≠ w.heap.size by omega), Below.heap_setCell _ _ _ _ (show b ≠ w.heap.size by omega)]
   exact Hold4.out b h1 h2
  ·have q : Blk X (G + 1) 3 #[.int .i64 0] := by unfold Blk; rw [hs (G + 1) (by omega) q0.lt]; exact q0
   show Reads _ _ [0]
   refine Or.inr ⟨G + 1, 0, 1, rfl, q.lt, by simp, ⟨by simp, by simp⟩, fun j hj => ?_⟩
   obtain rfl : j = 0 := by have : j < 1 := hj; omega
   exact q.cell 0
 | false =>
  have HO4 : Hid (w4.ownsRow G 3 1 (.slice (some ⟨G + 1, 0, none⟩) 1 1) [(0 : Int)].length ([(0 : Int)].map (Value.int .i64))) := ⟨rfl, Or.inr ⟨G + 1, 1, #[.int .i64 0], rfl, by omega, HC4.out, by decide, by decide, rfl, rfl⟩⟩
  have HG4 := hide (HF4.out.lt)
  have y1 : w4.cell? ⟨G + 1 + 1, 1, none⟩ = some (.slice (some ⟨G + 1, 0, none⟩) 1 1) := HF4.out.cell 1
  go_wp2_with (at_builtin; refine append_long rfl _ _ rfl G (.slice (some ⟨G + 1, 0, none⟩) 1 1) rfl [0] 12 w4.heap.size 1 rfl (HO4.out.alloc _) (heap_alloc_new w4 _) (by have := HG4.out; simp; omega) (by decide) ?_)
  intro v9 w9 hown hgrow hat
  obtain ⟨vo, vn, vc, hv9⟩ : ∃ vo vn vc, v9 = .slice vo vn vc := by
   rcases hown.2 with ⟨rfl, _⟩ | ⟨g, cap, cur, rfl, _⟩
   ·exact ⟨_, _, _, rfl⟩
   ·exact ⟨_, _, _, rfl⟩
  subst hv9
  have hg4 := HG4.out
  have hg := HG.out
  have keep : ∀ g, g < w4.heap.size → g ≠ G + 1 → w9.heap[g]? = w4.heap[g]? := fun g hl hne => by
   rw [hgrow.block g (by simp; omega) fun e => hne (Option.some.inj e)]
   exact Below.heap_alloc _ _ _ hl
  have hB9 : Bw w w9 := (HB4.out.alloc HB4.out.size _).grown hgrow (by simp; have := HB4.out.size; omega) fun b e => by
   have : G + 1 = b := Option.some.inj e
   omega
  have HoB : Hid (∀ b, (Value.slice vo vn vc).ownBlock = some b → b = G + 1 ∨ b = w4.heap.size + 1) := fun b e => by
   rcases hat with h | h
   ·rw [h] at e; left; exact (Option.some.inj e).symm
   ·rw [h] at e; right; have := Option.some.inj e; first | omega | (simp at this; omega)
  have HK9 : Hid (Blk w9 w.heap.size 78 #[.slice none 0 0, .slice none 0 0]) := by unfold Hid Blk; rw [keep _ HK4.out.lt (by omega)]; exact HK4.out
  have HA9 : Hid (Blk w9 G 71 #[.int .i64 a.k, .slice o0 m0 q0, .slice o1 m1 q1, .int .i64 a.n]) := by unfold Hid Blk; rw [keep _ HA4.out.lt (by omega)]; exact HA4.out
  have HF9 : Hid (Blk w9 (G + 1 + 1) 78 #[.slice (some ⟨G, 0, none⟩) 1 1, .slice (some ⟨G + 1, 0, none⟩) 1 1]) := by unfold Hid Blk; rw [keep _ HF4.out.lt (by omega)]; exact HF4.out
  have HB9 := hide hB9
  have Hold9 : Hid (∀ b, w.heap.size + 1 ≤ b → b < G → w9.heap[b]? = w3.heap[b]?) := fun b h1 h2 => (keep b (by omega) (by omega)).trans (Hold4.out b h1 h2)
  have HO9 := hide hown
  clear hown hgrow hat keep hB9 y1 hg hg4
  obtain ⟨w10, hw10⟩ := nm (w9.setCell ⟨G + 1 + 1, 1, none⟩ (.slice vo vn vc))
  have HB10 : Hid (Bw w w10) := by unfold Hid; rw [hw10]; exact HB9.out.setCell (by have := HG.out; simp; omega) _
  have HK10 : Hid (Blk w10 w.heap.size 78 #[.slice none 0 0, .slice none 0 0]) := by unfold Hid; rw [hw10]; exact HK9.out.far (by have := HG.out; omega) _ _
  have HA10 : Hid (Blk w10 G 71 #[.int .i64 a.k, .slice o0 m0 q0, .slice o1 m1 q1, .int .i64 a.n]) := by unfold Hid; rw [hw10]; exact HA9.out.far (by omega) _ _
  have HF10 : Hid (Blk w10 (G + 1 + 1) 78 #[.slice (some ⟨G, 0, none⟩) 1 1, .slice vo vn vc]) := by unfold Hid; rw [hw10]; exact HF9.out.set 1 _
  have Hold10 : Hid (∀ b, w.heap.size + 1 ≤ b → b < G → w10.heap[b]? = w3.heap[b]?) := by unfold Hid; rw [hw10]; exact fun b h1 h2 => (Below.heap_setCell _ _ _ _ (show b ≠ G + 1 + 1 by omega)).trans (Hold9.out b h1 h2)
  have HO10 : Hid (w10.ownsRow G 3 1 (.slice vo vn vc) [(0 : Int), 12].length ([(0 : Int), 12].map (Value.int .i64))) := by
   unfold Hid; rw [hw10]
   exact own_aside HO9.out (fun b e => by have h1 := HoB.out b e; have h2 := HG4.out; show b ≠ G + 1 + 1; omega) _
  have y1 : w9.cell? ⟨G + 1 + 1, 1, none⟩ = some (.slice (some ⟨G + 1, 0, none⟩) 1 1) := HF9.out.cell 1
  have f9 : w9.frozen? ⟨G + 1 + 1, 1, none⟩ = false := HF9.out.frozen 1
  go_upto_region 6 with fail
  rw [← hw10]
  clear hw10 y1 f9
  have y0 : w10.cell? ⟨G + 1 + 1, 0, none⟩ = some (.slice (some ⟨G, 0, none⟩) 1 1) := HF10.out.cell 0
  have y1 : w10.cell? ⟨G + 1 + 1, 1, none⟩ = some (.slice vo vn vc) := HF10.out.cell 1
  have z0 : w10.cell? ⟨w.heap.size, 0, none⟩ = some (.slice none 0 0) := HK10.out.cell 0
  have z1 : w10.cell? ⟨w.heap.size, 1, none⟩ = some (.slice none 0 0) := HK10.out.cell 1
  have f0 : w10.frozen? ⟨w.heap.size, 0, none⟩ = false := HK10.out.frozen 0
  have f1 : w10.frozen? ⟨w.heap.size, 1, none⟩ = false := HK10.out.frozen 1
  go_wp2
  have hg := HG.out
  have hg4 := HG4.out
  have r1 : Blk ((w10.setCell ⟨w.heap.size, 0, none⟩ (.slice (some ⟨G, 0, none⟩) 1 1)).setCell ⟨w.heap.size, 1, none⟩ (.slice vo vn vc)) w.heap.size 78 #[.slice (some ⟨G, 0, none⟩) 1 1, .slice vo vn vc] := (HK10.out.set 0 _).set 1 _
  have l1 := loadFmL r1
  have hB : Bw w ((w10.setCell ⟨w.heap.size, 0, none⟩ (.slice (some ⟨G, 0, none⟩) 1 1)).setCell ⟨w.heap.size, 1, none⟩ (.slice vo vn vc)) := (HB10.out.setCell (Nat.le_refl _) _).setCell (Nat.le_refl _) _
  have hz10 : G ≤ w10.heap.size := by have := HA10.out.lt; omega
  have hne : ∀ b, (Value.slice vo vn vc).ownBlock = some b → b ≠ w.heap.size := fun b e => by have := HoB.out b e; omega
  have hown := own_aside (own_aside HO10.out hne (.slice (some ⟨G, 0, none⟩) 1 1) (p := ⟨w.heap.size, 0, none⟩)) hne (.slice vo vn vc) (p := ⟨w.heap.size, 1, none⟩)
  refine bodyPost_ret (v := .agg #[.slice (some ⟨G, 0, none⟩) 1 1, .slice vo vn vc]) ?_ rfl ⟨_, _, _, _, _, _, rfl, read_form HR03.out HR13.out HN0.out HN1.out HGs.out (by omega) (by simpa [World.setCell] using hz10) (fun b h1 h2 => ?_) ((HA10.out.far (by omega) _ _).far (by omega) _ _) (fun X hX hs => ?_), hB⟩
  ·rw [result_one rfl]
   simp [asAddr, Result.andThen, l1]
  ·rw [Below.heap_setCell _ _ _ _ (show b ≠ w.heap.size by omega), Below.heap_setCell _ _ _ _ (show b ≠ w.heap.size by omega)]
   exact Hold10.out b h1 h2
  ·show Reads _ _ [0, 12]
   exact own_readsL (own_keep hown fun g e => hs g (by have := (hown.lt g e).1; omega) (hown.lt g e).2) (by simp)
def MadeF (R : Nat → Prop) (K : Nat) (W : World) (v : Value) (fs : List Fm) : Prop :=
 ∃ xs, W.ownsRow K 78 2 v fs.length xs ∧ (∀ b, v.ownBlock = some b → R b) ∧ ∀ i f, fs[i]? = some f → ∃ va vc, xs[i * 2]? = some va ∧ xs[i * 2 + 1]? = some vc ∧ FormOn (fun b => R b ∧ v.ownBlock ≠ some b) W va vc f
theorem madeF_nil (R : Nat → Prop) (K : Nat) (W : World) : MadeF R K W (.slice none 0 0) [] := ⟨[], World.ownsRow_nil _ _ _ _, (fun b e => by cases e), fun i a h => by simp at h⟩
theorem MadeF.keep {R : Nat → Prop} {K : Nat} {W W' : World} {v : Value} {fs : List Fm} (h : MadeF R K W v fs) (hs : ∀ b, R b → b < W.heap.size → W'.heap[b]? = W.heap[b]?) (hz : W.heap.size ≤ W'.heap.size) : MadeF R K W' v fs := by
 obtain ⟨xs, h1, h2, h3⟩ := h
 refine ⟨xs, own_keep h1 fun b e => hs b (h2 b e) (h1.lt b e).2, h2, fun i f hf => ?_⟩
 obtain ⟨va, vc, c0, c1, r⟩ := h3 i f hf
 exact ⟨va, vc, c0, c1, r.step hz (fun b hb hl => hs b hb.1 hl) fun b hb _ => hb⟩
theorem MadeF.below {R : Nat → Prop} {K : Nat} {W W' : World} {v : Value} {fs : List Fm} (h : MadeF R K W v fs) (hb : Bw W W') : MadeF R K W' v fs := h.keep (fun b _ hl => hb.block b hl) hb.size
theorem MadeF.slice {R : Nat → Prop} {K : Nat} {W : World} {v : Value} {fs : List Fm} (h : MadeF R K W v fs) : ∃ ao c, v = .slice ao fs.length c := by
 obtain ⟨xs, h1, _⟩ := h
 rcases h1.2 with ⟨rfl, h0⟩ | ⟨g, cap, cur, rfl, _⟩
 ·exact ⟨_, _, by rw [h0]⟩
 ·exact ⟨_, _, rfl⟩
theorem MadeF.reads {R : Nat → Prop} {K : Nat} {W : World} {v : Value} {fs : List Fm} (h : MadeF R K W v fs) : ReadsF W v fs := by
 obtain ⟨xs, h1, _, h3⟩ := h
 rcases h1.2 with ⟨rfl, hn0⟩ | ⟨gb, cap, cur, rfl, hb, hgb, hcp, hmx, hs, ht⟩
 ·exact Or.inl ⟨none, 0, rfl, List.eq_nil_of_length_eq_zero hn0⟩
 ·rcases Nat.eq_zero_or_pos fs.length with hz | hz
  ·rw [hz]; exact Or.inl ⟨_, _, rfl, List.eq_nil_of_length_eq_zero hz⟩
  ·unfold maxLen at hmx
   refine Or.inr ⟨gb, 0, cap, rfl, (Array.getElem?_eq_some_iff.1 hgb).1, hz, ⟨by omega, hcp⟩, fun i f hf => ?_⟩
   have hil : i < fs.length := (List.getElem?_eq_some_iff.1 hf).1
   obtain ⟨va, vc, ca, cc, r⟩ := h3 i f hf
   refine ⟨va, vc, ?_, ?_, r.now.1, r.now.2⟩
   ·rw [cell_of_row W gb _ cur _ (0, 0) hgb, ← Array.getElem?_toList, show 0 + i * 2 = i * 2 by omega]
    rw [← ht, List.getElem?_take_of_lt (by omega)] at ca
    exact ca
   ·rw [cell_of_row W gb _ cur _ (0, 0) hgb, ← Array.getElem?_toList, show 0 + i * 2 + 1 = i * 2 + 1 by omega]
    rw [← ht, List.getElem?_take_of_lt (by omega)] at cc
    exact cc
theorem madeF_more {R R' : Nat → Prop} {K H : Nat} {W W' : World} {v v' : Value} {fs : List Fm} {xs : List Value} {f : Fm} {va vc : Value}
    (hRR : ∀ b, R b → R' b) (hN : ∀ b, H ≤ b → b < W'.heap.size → R' b) (hvH : ∀ b, v.ownBlock = some b → b < H) (hHW : H ≤ W.heap.size)
    (h1 : W.ownsRow K 78 2 v fs.length xs) (h2 : ∀ b, v.ownBlock = some b → R b) (h3 : ∀ i f, fs[i]? = some f → ∃ va vc, xs[i * 2]? = some va ∧ xs[i * 2 + 1]? = some vc ∧ FormOn (fun b => R b ∧ v.ownBlock ≠ some b) W va vc f)
    (hf : FormOn (fun b => H ≤ b) W va vc f)
    (own' : W'.ownsRow K 78 2 v' (fs.length + 1) (xs ++ [va, vc])) (hg : W.grownBy W' v.ownBlock) (hat : v'.ownBlock = v.ownBlock ∨ v'.ownBlock = some W.heap.size) : MadeF R' K W' v' (fs ++ [f]) := by
 have hl : xs.length = fs.length * 2 := h1.1
 have hne : ∀ b, b < W.heap.size → v.ownBlock ≠ some b → v'.ownBlock ≠ some b := fun b hb hn e => by
  rcases hat with h | h
  ·rw [h] at e; exact hn e
  ·rw [h] at e; have := Option.some.inj e; omega
 refine ⟨_, by rw [List.length_append]; exact own', fun b e => ?_, fun i g hi => ?_⟩
 ·rcases hat with h | h
  ·exact hRR b (h2 b (h ▸ e))
  ·have hb := (own'.lt b e).2
   rw [h] at e
   have e2 := Option.some.inj e
   exact hN b (by omega) hb
 ·rcases Nat.lt_or_ge i fs.length with hil | hil
  ·rw [List.getElem?_append_left hil] at hi
   obtain ⟨ua, uc, c0, c1, r⟩ := h3 i g hi
   refine ⟨ua, uc, by rw [List.getElem?_append_left (by omega)]; exact c0, by rw [List.getElem?_append_left (by omega)]; exact c1, ?_⟩
   exact r.step hg.size (fun b hb hl => hg.block b hl fun e => hb.2 e.symm) fun b hb hl => ⟨hRR b hb.1, hne b hl hb.2⟩
  ·rw [List.getElem?_append_right hil] at hi
   have h0 : i = fs.length := by
    rcases Nat.eq_zero_or_pos (i - fs.length) with h | h
    ·omega
    ·rw [List.getElem?_eq_none (by simp; omega)] at hi; cases hi
   subst h0
   rw [Nat.sub_self] at hi
   obtain rfl : f = g := by simpa using hi
   refine ⟨va, vc, ?_, ?_, ?_⟩
   ·rw [List.getElem?_append_right (by omega), hl, Nat.sub_self]; rfl
   ·rw [List.getElem?_append_right (by omega), hl, show fs.length * 2 + 1 - fs.length * 2 = 1 by omega]; rfl
   ·refine hf.step hg.size (fun b hb hl => hg.block b hl fun e => by have := hvH b e.symm; omega) fun b hb hl => ⟨hN b hb (Nat.lt_of_lt_of_le hl hg.size), hne b hl fun e => by have := hvH b e; omega⟩
theorem infoFm : (Tryz.prog.info? 78).isSome = true := by kernel_rfl
theorem zeroFm : (Tryz.prog.info? 78).bind (·.zero) = some (.agg #[.slice none 0 0, .slice none 0 0]) := by kernel_rfl
theorem sizeFm : (Tryz.prog.info? 78).map (·.size) = some 2 := by kernel_rfl
theorem bytesFm : (Tryz.prog.info? 78).map (·.bytes) = some 48 := by kernel_rfl
theorem stepIn_form {F : Fence} {nF : Nat} {w : World} {ops : Array Oper} {o : Oper} {a : Act} {K : Act → World → Prop} {Q : Exit → Act → World → Prop} {E : Prop} (hgd : o.guard = none) (s x : Operand)
    (ho : o.op = .call { callee := .builtin .append, args := #[s, x], argTypes := #[25, 25] }) (B : Nat) (v : Value) (hs : a.eval s = v) (n : Nat) (xs : List Value) (va vc : Value) (hva : va.oneCell' = true) (hvc : vc.oneCell' = true) (G c : Nat) (hx : a.eval x = .slice (some ⟨G, 0, none⟩) 1 c)
    (hown : w.ownsRow B 78 2 v n xs) (hG : w.heap[G]? = some (.cells #[va, vc] 78 (0, 0))) (hB : B ≤ w.heap.size) (h12 : n ≤ 1000000)
    (h : ∀ v' w', w'.ownsRow B 78 2 v' (n + 1) (xs ++ [va, vc]) → w.grownBy w' v.ownBlock → (v'.ownBlock = v.ownBlock ∨ v'.ownBlock = some w.heap.size) → K (a.put o.dst v') w') :
    if Region.wanted o (yielded ops a.tmps) = true then Oper.wpIn F nF Tryz.prog o a w K Q else E := by
 have hw : Region.wanted o (yielded ops a.tmps) = true := by simp [Region.wanted, hgd]
 rw [if_pos hw]
 obtain ⟨i1, hi⟩ : ∃ i, Tryz.prog.info? 78 = some i := Option.isSome_iff_exists.1 infoFm
 have hz0 : i1.zero = some (.agg #[.slice none 0 0, .slice none 0 0]) := by have := zeroFm; rw [hi] at this; simpa using this
 have hz1 : i1.size = 2 := by have := sizeFm; rw [hi] at this; simpa using this
 have hz2 : i1.bytes = 48 := by have := bytesFm; rw [hi] at this; simpa using this
 obtain ⟨v', w', hr, h2, h3, _, h5⟩ := run_append_own_at (P := Tryz.prog) w B 25 o.type 78 i1 _ 2 48 Tryz.underlying25 hi hz0 hz1 hz2 rfl (by decide) v n xs hown ⟨G, 0, none⟩ 1 c [va, vc] rfl (World.news_of_block hG) (by intro u hu; simp at hu; rcases hu with rfl | rfl; exact hva; exact hvc) (by unfold maxLen; omega) (by omega) hB
 unfold Oper.wpIn
 refine ⟨by simp [Oper.about, ho, resolve, Target.leads, Sem.run_pure], ?_⟩
 rw [Oper.semAt_plain F _ _ (by rw [ho]; intro c hc'; cases hc')]
 simp [execOp, ho, resolve, invoke, builtin, hs, hx, hr, Result.andThen]
 exact h v' w' h2 h3 h5
def lgC (u : Int) (r : ByteArray) (sf z : Int) (st : Bool) : Array Value := #[.int .i64 u, .string r, .int .i64 sf, .int .i64 z, .bool st]
theorem lkeep_set {W W' : World} {b : Nat} (h : LKeep (fun x => x = b) W W') (j : Nat) (u : Value) : LKeep (fun x => x = b) W (W'.setCell ⟨b, j, none⟩ u) :=
 ⟨h.os, h.tape, h.output, Nat.le_trans h.size (by simp [World.setCell]), fun k hk hb => (heap_setCell_other _ ⟨b, j, none⟩ k u hb).trans (h.block k hk hb)⟩
theorem lkeep_drew {W W' : World} {b : Nat} (h : LKeep (fun x => x = b) W W') : LKeep (fun x => x = b) W W'.drew := ⟨h.os, h.tape, h.output, h.size, h.block⟩
theorem things_ok {u : Int} (hu : 0 ≤ u ∧ u ≤ 6) : okB u 0 = true := by
 have h : ∀ n : Nat, n < 7 → okB (n : Int) 0 = true := by decide
 have := h u.toNat (by omega)
 rwa [Int.toNat_of_nonneg hu.1] at this
theorem logNew_ok (u : Int) (hu : 0 ≤ u ∧ u ≤ 6) (w : World) :
    Calls Tryz.prog 10 #[.int .i64 u] w fun e w' => e = .returned (.tuple #[.pointer (some ⟨w.heap.size, 0, none⟩), .nilIface]) ∧ w' = w.alloc (.cells (lgC u ⟨#[]⟩ 0 (-1) false) 84) := by
 have HC : Hid (∀ W, Calls Tryz.prog 32 #[.int .i64 u, .int .i64 0] W (Sk W .nilIface)) := fun W => check_ok _ _ (things_ok hu) W
 clear hu
 go_enter Tryz.func10, Tryz.ntmps10
 go_wp2_with fail
 go_at_call 32
 refine (HC.out _).mono ?_
 rintro e w1 ⟨rfl, rfl⟩
 go_wp2
 go_ret2
 exact ⟨rfl, rfl⟩
def stepZ (z : Int) : Int := if 0 < z then IntKind.i64.wrap (z - 1) else z
theorem logStops_any (b : Nat) (u sf z : Int) (r : ByteArray) (w : World) (h : Blk w b 84 (lgC u r sf z false)) :
    Calls Tryz.prog 95 #[.pointer (some ⟨b, 0, none⟩)] w fun e w' => e = .returned (.bool (decide (z = 0))) ∧ Blk w' b 84 (lgC u r sf (stepZ z) (decide (z = 0))) ∧ LKeep (fun x => x = b) w w' := by
 have HB : Hid (Blk w b 84 (lgC u r sf z false)) := h
 have c3 : w.cell? ⟨b, 3, none⟩ = some (.int .i64 z) := h.cell 3
 have f3 : w.frozen? ⟨b, 3, none⟩ = false := h.frozen 3
 have c4 : w.cell? ⟨b, 4, none⟩ = some (.bool false) := h.cell 4
 have f4 : w.frozen? ⟨b, 4, none⟩ = false := h.frozen 4
 clear h
 by_cases h0 : z = 0
 ·subst h0
  go_enter Tryz.func95, Tryz.ntmps95
  go_wp2
  go_ret
  exact ⟨rfl, HB.out.set 4 _, lkeep_set (LKeep.refl _ _) 4 _⟩
 ·have e0 : decide (z = 0) = false := decide_eq_false h0
  have b0 : (z == 0) = false := by simp; exact h0
  rw [e0]
  by_cases h1 : 0 < z
  ·have es : stepZ z = wrap64 (z - 1) := by rw [show stepZ z = IntKind.i64.wrap (z - 1) from if_pos h1, IntKind.wrap_i64]; unfold wrap64; rfl
   rw [es]
   clear e0 es
   go_enter Tryz.func95, Tryz.ntmps95
   go_wp2
   go_ret
   exact ⟨rfl, HB.out.set 3 _, lkeep_set (LKeep.refl _ _) 3 _⟩
  ·have es : stepZ z = z := if_neg h1
   rw [es]
   clear e0 es
   go_enter Tryz.func95, Tryz.ntmps95
   go_wp2
   go_ret
   exact ⟨rfl, HB.out, LKeep.refl _ _⟩
end Go.Proofs.YtnoohlibgaeklaaGreatDoor
namespace Go.Proofs.YtnoohlibgaeklaaGreatDoor
open Go.ChangeShapes Go.WideShapes Go.ChangeAt Go.RowKit
set_option maxRecDepth 100000
set_option maxHeartbeats 16000000
attribute [local go_sem] Oper.semAt_some
theorem recs_at {ps : List (At × Bool)} {k : Nat} {x : List UInt8} (h : (ps.map recB)[k]? = some x) : ∃ q, ps[k]? = some q ∧ x = recB q := by
 rw [List.getElem?_map] at h
 cases hq : ps[k]? with
 | none => rw [hq] at h; cases h
 | some q => rw [hq] at h; exact ⟨q, rfl, by simpa using h.symm⟩
theorem putFm {G l : Nat} {W : World} {T : TypeId} {cs : Array Value} (h : Blk W G T cs) (o : Obj) (hl : G ≠ l) : Blk (W.putObj l o) G T cs := by
 unfold Blk; rw [World.putObj_heap_other hl]; exact h
theorem logAll_any (ps : List (At × Bool)) (hps : ∀ q ∈ ps, q.1.fault = 0) (h6 : ps.length ≤ 6) (tail : List UInt8) (ht : plainC 10 tail = true) (ht2 : tail.length ≤ 200) (b : Nat) (u sf z : Int) (st : Bool) (w : World)
    (hB : Blk w b 84 (lgC u (strOf (linesT (ps.map recB) ++ tail)) sf z st)) (hK : KindsLaid w) (hLb : LibLaid w) :
    Calls Tryz.prog 37 #[.pointer (some ⟨b, 0, none⟩)] w fun e w' => ∃ v, e = .returned v ∧ MadeF (fun x => w.heap.size ≤ x) w.heap.size w' v (ps.map aloneP) ∧ Bw w w' := by
 have hsm := recs_small hps
 have hL : ∀ x ∈ ps.map recB, plainC 10 x = true := fun x hx => by
  obtain ⟨q, hq, rfl⟩ := List.mem_map.1 hx
  exact rec_plain (hps q hq)
 have HWh : Hid (∀ W, Calls Tryz.prog 58 #[.string (strOf (linesT (ps.map recB) ++ tail))] W (Sk W (.string (strOf (linesT (ps.map recB)))))) := fun W => logWhole_any _ _ ht (by rw [List.length_append]; omega) W
 have HSq : Hid (∀ (Bu : Nat) (W : World), Blk W Bu 9 #[.string (strOf (linesT (ps.map recB)))] → SeqS 2 Tryz.prog 33 #[.pointer (some ⟨Bu, 0, none⟩)] encL (ps.map recB) (fun b => b = Bu) W) := fun Bu W h => lines_iter _ hL (by omega) 2 (by omega) Bu W h
 have HRd : Hid (∀ (k : Nat) (q : At × Bool) (W : World), ps[k]? = some q → Bw w W → Calls Tryz.prog 59 #[.string (strOf (recB q ++ [10]))] W fun e w' => ∃ o1 l1 c1 o2 l2 c2, e = .returned (.agg #[.slice o1 l1 c1, .slice o2 l2 c2]) ∧ FormOn (fun b => W.heap.size ≤ b) w' (.slice o1 l1 c1) (.slice o2 l2 c2) (aloneP q) ∧ Bw W w') := fun k q W hq hW => logRead_any q.1 q.2 (hps q (List.mem_of_getElem? hq)) W (hK.below hW) (hLb.below hW)
 have HLl : Hid ((ps.map recB).length = ps.length) := List.length_map _
 have H6 := hide h6
 obtain ⟨S0, hS0⟩ := nm (strOf (linesT (ps.map recB)))
 obtain ⟨S1, hS1⟩ := nm (strOf (linesT (ps.map recB) ++ tail))
 rw [← hS0, ← hS1] at HWh
 rw [← hS0] at HSq
 rw [← hS1] at hB
 obtain ⟨L, hLd⟩ := nm (ps.map recB)
 have HLd := hide hLd
 rw [← hLd] at HSq HLl
 have HBg : Hid (Blk w b 84 (lgC u S1 sf z st)) := hB
 clear hS0 hS1 hsm hL hps h6 ht ht2 hK hLb hB hLd
 obtain ⟨w1, hw1⟩ := nm (w.alloc (.cells #[.slice none 0 0] 25))
 obtain ⟨wl, hwl⟩ := nm (w1.alloc (.cells #[.string S0] 9))
 have b1 : Bw w w1 := by rw [hw1]; exact below_alloc1 _ _
 have s1 : w1.heap.size = w.heap.size + 1 := by rw [hw1, World.size_alloc]
 have HB0 : Hid (Bw w wl) := by unfold Hid; rw [hwl]; exact b1.alloc b1.size _
 have Hsz : Hid (wl.heap.size = w.heap.size + 2) := by unfold Hid; rw [hwl, World.size_alloc, s1]
 have H0 : Hid (Blk wl w.heap.size 25 #[.slice none 0 0]) := by unfold Hid; rw [hwl, hw1]; exact (Blk.new _ _ _).old _
 have H1 : Hid (Blk wl (w.heap.size + 1) 9 #[.string S0]) := by
  unfold Hid; rw [hwl]
  have := Blk.new w1 9 #[.string S0]
  rw [s1] at this; exact this
 have c1 : w1.cell? ⟨b, 1, none⟩ = some (.string S1) := (HBg.out.below b1).cell 1
 clear b1
 refine (callsIn_wide (n := 3)).1 ?_
 refine callsIn_of_wp_marks Tryz.func37 rfl trivial ?_ rfl
 simp only [Tryz.ntmps37, List.size_toArray, List.length_cons, List.length_nil, Nat.reduceAdd, Nat.reduceSub, Array.replicate_succ, Array.replicate_zero, List.push_toArray, List.append_toArray, List.nil_append, List.cons_append]
 gi_upto_region 2 with fail
 rw [← hw1]
 clear hw1
 gi_wp2_with fail
 refine ⟨trivial, ?_⟩
 gi_at_call 58
 refine (callsIn_wide.2 (HWh.out _)).mono ?_
 rintro e w4 ⟨rfl, rfl⟩
 gi_wp2_with fail
 refine ⟨trivial, ?_⟩
 gi_at_call 11
 refine (callsIn_wide.2 (lines_made _ _)).mono ?_
 rintro e w4 ⟨rfl, rfl⟩
 gi_wp2_with fail
 rw [← hwl]
 clear hwl c1 s1
 refine wpIn_range_ownS (by omega) (gf := 33) (lb := #[.pointer (some ⟨w.heap.size + 1, 0, none⟩)]) rfl (enters_of Tryz.func33 (by kernel_rfl) rfl) (encs := encL) (A := L) (S := fun b => b = w.heap.size + 1)
  (fun b hb => by have := Hsz.out; omega) (fun W hW => HSq.out _ W (H1.out.below hW)) (fun _ => rfl)
  (fun k R W => Bw w W ∧ (∀ b, R b → w.heap.size + 2 ≤ b) ∧ ∃ v, Blk W w.heap.size 25 #[v] ∧ MadeF R (w.heap.size + 2) W v ((ps.take k).map aloneP))
  (fun _ _ => False)
  (fun k R X Y h hb => by
   obtain ⟨h1, h2, v, h3, h4⟩ := h
   have hz := Hsz.out
   refine ⟨h1.trans ⟨hb.rest.os, hb.rest.tape, hb.rest.output, hb.rest.size, fun b hb' => hb.old b (by omega) (by omega)⟩, h2, v, ?_, h4.keep hb.own hb.rest.size⟩
   unfold Blk; rw [hb.old _ (by omega) (by omega)]; exact h3)
  (fun _ _ _ h _ => h) ⟨HB0.out, fun b h => h.elim, .slice none 0 0, H0.out, madeF_nil _ _ _⟩ ?round ?done ?stop
 case round =>
  intro ln k x R W hx hl1 hl2 hlR ⟨hB, hR2, v, c0, hm⟩
  obtain ⟨q, hq, rfl⟩ := recs_at (by rw [HLd.out] at hx; exact hx)
  have HX := hide hq
  have HkL : Hid (k < ps.length) := (List.getElem?_eq_some_iff.1 hq).1
  have Hl1 : Hid (w.heap.size + 2 ≤ ln) := by unfold Hid; rw [← Hsz.out]; exact hl1
  have HR2 := hide hR2
  unfold encL
  gi_wp2
  refine ⟨OverS.refl _ _ _ _, fun o => ?_⟩
  obtain ⟨W2, hW2⟩ := nm (W.putObj ln o)
  have HB2 : Hid (Bw w W2) := by unfold Hid; rw [hW2]; exact hB.trans (below_putS _ _ (by have := Hl1.out; omega))
  have D0 : Hid (Blk W2 w.heap.size 25 #[v]) := by unfold Hid; rw [hW2]; exact putFm c0 _ (by have := Hl1.out; omega)
  have DM : Hid (MadeF R (w.heap.size + 2) W2 v ((ps.take k).map aloneP)) := by unfold Hid; rw [hW2]; exact hm.keep (fun b hb _ => World.putObj_heap_other fun e => hlR (e ▸ hb)) (by simp)
  have HS2 : Hid (w.heap.size + 2 ≤ W2.heap.size) := by unfold Hid; rw [hW2]; have := Hl1.out; simp; omega
  rw [← hW2]
  clear hW2 hx hl1 hl2 hlR hB c0 hR2 hm hq
  have HTk : Hid ((ps.take (k + 1)).map aloneP = (ps.take k).map aloneP ++ [aloneP q]) := by
   unfold Hid; rw [List.take_add_one, HX.out, List.map_append]; rfl
  obtain ⟨l, hl⟩ := nm ((ps.take k).map aloneP)
  have HLn : Hid (l.length ≤ 6) := by unfold Hid; rw [hl, List.length_map, List.length_take]; have := H6.out; omega
  rw [← hl] at DM HTk
  clear hl
  have HPk : Hid (∀ W, Bw w W → Calls Tryz.prog 59 #[.string (strOf (recB q ++ [10]))] W fun e w' => ∃ o1 l1 c1 o2 l2 c2, e = .returned (.agg #[.slice o1 l1 c1, .slice o2 l2 c2]) ∧ FormOn (fun b => W.heap.size ≤ b) w' (.slice o1 l1 c1) (.slice o2 l2 c2) (aloneP q) ∧ Bw W w') := fun W hW => HRd.out k q W HX.out hW
  obtain ⟨va, vc, hv⟩ := DM.out.slice
  subst hv
  have y2 : W2.drew.cell? ⟨w.heap.size, 0, none⟩ = some (.slice va l.length vc) := D0.out.cell 0
  gi_upto_region 4 with fail
  refine wpIn_region_any (by kernel_rfl) ?_
  change wpAnyIn _ _ _ _ _ _ _ _ _ (World.drew _)
  refine wpAnyIn_ready (rs := [0, 1]) (by kernel_rfl) (by simp) ?_
  refine AllReadyIn.cons rfl (fun K hK => ?pa) (AllReadyIn.cons rfl (fun K hK => ?pb) AllReadyIn.nil)
  case' pa =>
   go_simp
   refine hK _ _ ?_
   clear hK K
   refine wpAnyIn_ready (rs := [1]) (by kernel_rfl) (by simp) ?_
   refine AllReadyIn.cons rfl (fun K hK => ?_) AllReadyIn.nil
   go_simp
   refine hK _ _ ?_
   clear hK K
   refine wpAnyIn_ready (rs := [2]) (by kernel_rfl) (by simp) ?_
   refine AllReadyIn.cons rfl (fun K hK => ?_) AllReadyIn.nil
   go_simp
   refine ⟨trivial, ?_⟩
   refine (CallsIn.inRound ln (callsIn_wide.2 (HPk.out _ HB2.out.drew))).mono ?_
   rintro e W3 ⟨o1, l1, c1, o2, l2, c2, rfl, hf3, hb3⟩
   refine hK _ _ ?_
   have HF3 := hide hf3
   have HB3 : Hid (Bw W2 W3) := (Below.refl _ _).drew.trans hb3
   have y3 : W3.cell? ⟨w.heap.size, 0, none⟩ = some (.slice va l.length vc) := (D0.out.below HB3.out).cell 0
   clear hf3 hb3 hK K
   refine wpAnyIn_ready (rs := [3]) (by kernel_rfl) (by simp) ?_
   refine AllReadyIn.cons rfl (fun K hK => ?_) AllReadyIn.nil
   go_simp
   refine hK _ _ ?_
   clear hK K
  case' pb =>
   go_simp
   refine hK _ _ ?_
   clear hK K
   refine wpAnyIn_ready (rs := [0, 2]) (by kernel_rfl) (by simp) ?_
   refine AllReadyIn.cons rfl (fun K hK => ?pc) (AllReadyIn.cons rfl (fun K hK => ?pd) AllReadyIn.nil)
  case' pc =>
   go_simp
   refine hK _ _ ?_
   clear hK K
   refine wpAnyIn_ready (rs := [2]) (by kernel_rfl) (by simp) ?_
   refine AllReadyIn.cons rfl (fun K hK => ?_) AllReadyIn.nil
   go_simp
   refine ⟨trivial, ?_⟩
   refine (CallsIn.inRound ln (callsIn_wide.2 (HPk.out _ HB2.out.drew))).mono ?_
   rintro e W3 ⟨o1, l1, c1, o2, l2, c2, rfl, hf3, hb3⟩
   refine hK _ _ ?_
   have HF3 := hide hf3
   have HB3 : Hid (Bw W2 W3) := (Below.refl _ _).drew.trans hb3
   have y3 : W3.cell? ⟨w.heap.size, 0, none⟩ = some (.slice va l.length vc) := (D0.out.below HB3.out).cell 0
   clear hf3 hb3 hK K
   refine wpAnyIn_ready (rs := [3]) (by kernel_rfl) (by simp) ?_
   refine AllReadyIn.cons rfl (fun K hK => ?_) AllReadyIn.nil
   go_simp
   refine hK _ _ ?_
   clear hK K
  case' pd =>
   go_simp
   refine ⟨trivial, ?_⟩
   refine (CallsIn.inRound ln (callsIn_wide.2 (HPk.out _ HB2.out.drew))).mono ?_
   rintro e W3 ⟨o1, l1, c1, o2, l2, c2, rfl, hf3, hb3⟩
   refine hK _ _ ?_
   have HF3 := hide hf3
   have HB3 : Hid (Bw W2 W3) := (Below.refl _ _).drew.trans hb3
   have y3 : W3.cell? ⟨w.heap.size, 0, none⟩ = some (.slice va l.length vc) := (D0.out.below HB3.out).cell 0
   clear hf3 hb3 hK K
   refine wpAnyIn_ready (rs := [0, 3]) (by kernel_rfl) (by simp) ?_
   refine AllReadyIn.cons rfl (fun K hK => ?pe) (AllReadyIn.cons rfl (fun K hK => ?pf) AllReadyIn.nil)
  case' pe =>
   go_simp
   refine hK _ _ ?_
   clear hK K
   refine wpAnyIn_ready (rs := [3]) (by kernel_rfl) (by simp) ?_
   refine AllReadyIn.cons rfl (fun K hK => ?_) AllReadyIn.nil
   go_simp
   refine hK _ _ ?_
   clear hK K
  case' pf =>
   go_simp
   refine hK _ _ ?_
   clear hK K
   have y4 : (W3.alloc (.cells #[.slice o1 l1 c1, .slice o2 l2 c2] 78)).cell? ⟨w.heap.size, 0, none⟩ = some (.slice va l.length vc) := ((D0.out.below HB3.out).old _).cell 0
   refine wpAnyIn_ready (rs := [0]) (by kernel_rfl) (by simp) ?_
   refine AllReadyIn.cons rfl (fun K hK => ?_) AllReadyIn.nil
   go_simp
   refine hK _ _ ?_
   clear hK K
  all_goals
   clear y2 y3
   have HM3 := hide (DM.out.below HB3.out)
   obtain ⟨xs, hx1, hx2, hx3⟩ := HM3.out
   have HX1 := hide hx1
   have HX2 : Hid ((∀ b, (Value.slice va l.length vc).ownBlock = some b → R b) ∧ ∀ i f, l[i]? = some f → ∃ va' vc', xs[i * 2]? = some va' ∧ xs[i * 2 + 1]? = some vc' ∧ FormOn (fun b => R b ∧ (Value.slice va l.length vc).ownBlock ≠ some b) W3 va' vc' f) := ⟨hx2, hx3⟩
   clear hx1 hx2 hx3
   have HS3 := hide (HB3.out.size)
   have HvH : Hid (∀ b, (Value.slice va l.length vc).ownBlock = some b → b < W2.heap.size) := by
    obtain ⟨ys, h1, _⟩ := DM.out
    exact fun b e => (h1.lt b e).2
   refine wpAnyIn_ready (rs := [4]) (by kernel_rfl) (by simp) ?_
   refine AllReadyIn.cons rfl (fun K hK => ?_) AllReadyIn.nil
   refine stepIn_form rfl (.tmp 12) (.tmp 15) rfl (w.heap.size + 2) (.slice va l.length vc) rfl l.length xs (.slice o1 l1 c1) (.slice o2 l2 c2) rfl rfl W3.heap.size 1 rfl (HX1.out.alloc _) (heap_alloc_new W3 _) (by have := HS2.out; have := HS3.out; simp; omega) (by have := HLn.out; omega) ?_
   intro v9 W7 hown hgrow hat
   refine hK _ _ ?_
   clear hK K
   obtain ⟨W5, hW5⟩ := nm (W3.alloc (.cells #[.slice o1 l1 c1, .slice o2 l2 c2] 78))
   rw [← hW5] at hgrow
   have hat : v9.ownBlock = (Value.slice va l.length vc).ownBlock ∨ v9.ownBlock = some W5.heap.size := by rw [hW5]; exact hat
   have hb35 : Bw W3 W5 := by rw [hW5]; exact below_alloc1 _ _
   have hb5 : Bw W2 W5 := HB3.out.trans (hb35.mono HB3.out.size)
   have hge : ∀ b, (Value.slice va l.length vc).ownBlock = some b → w.heap.size + 2 ≤ b := fun b e => (HX1.out.lt b e).1
   have hnew : MadeF (fun b => R b ∨ W2.heap.size ≤ b) (w.heap.size + 2) W7 v9 (l ++ [aloneP q]) := by
    refine madeF_more (R := R) (H := W2.heap.size) (W := W5) (fun b h => Or.inl h) (fun b h _ => Or.inr h) HvH.out hb5.size ?_ HX2.out.1 (fun i f hf => ?_) (HF3.out.step hb35.size (fun b _ hl => hb35.block b hl) fun b hb _ => hb) hown hgrow hat
    ·rw [hW5]; exact HX1.out.alloc _
    ·obtain ⟨ua, uc, p0, p1, r⟩ := HX2.out.2 i f hf
     exact ⟨ua, uc, p0, p1, r.step hb35.size (fun b _ hl => hb35.block b hl) fun b hb _ => hb⟩
   have hO7 : OverS R (fun b => b = w.heap.size + 1) wl.heap.size W2 W7 := ⟨Nat.le_trans hb5.size hgrow.size, fun b hb hl hr => by
    rw [hgrow.block b (Nat.lt_of_lt_of_le hl hb5.size) fun e => hr (HX2.out.1 b e.symm)]
    exact hb5.block b hl⟩
   have hB7 : Bw w W7 := (HB2.out.trans (hb5.mono HB2.out.size)).grown hgrow (by have := hb5.size; have := HS2.out; omega) fun b e => by have := hge b e; omega
   have hD7 : Blk W7 w.heap.size 25 #[.slice va l.length vc] := by
    have h6 := D0.out.below hb5
    unfold Blk
    rw [hgrow.block _ h6.lt fun e => by have := hge _ e.symm; omega]
    exact h6
   obtain ⟨vo, vn, vx, hv9⟩ : ∃ vo vn vx, v9 = .slice vo vn vx := by
    rcases hown.2 with ⟨rfl, _⟩ | ⟨g, cap, cur, rfl, _⟩
    ·exact ⟨_, _, _, rfl⟩
    ·exact ⟨_, _, _, rfl⟩
   subst hv9
   have H7 : Hid (Bw w W7 ∧ Blk W7 w.heap.size 25 #[.slice va l.length vc] ∧ OverS R (fun b => b = w.heap.size + 1) wl.heap.size W2 W7) := ⟨hB7, hD7, hO7⟩
   have HM7 := hide hnew
   clear hown hgrow hat hW5 hb35 hb5 hge hnew hO7 hB7 hD7
   have y7 : W7.cell? ⟨w.heap.size, 0, none⟩ = some (.slice va l.length vc) := H7.out.2.1.cell 0
   have z7 : W7.frozen? ⟨w.heap.size, 0, none⟩ = false := H7.out.2.1.frozen 0
   refine wpAnyIn_ready (rs := [5]) (by kernel_rfl) (by simp) ?_
   refine AllReadyIn.cons rfl (fun K hK => ?_) AllReadyIn.nil
   go_simp
   refine hK _ _ ?_
   clear hK K
   refine wpAnyIn_done (by kernel_rfl) ?_ _
   gi_wp2
   obtain ⟨s0, s1, s2⟩ := H7.out
   have hz := Hsz.out
   have hS := HS2.out
   refine ⟨s2.setCell (by simp; omega) (by simp) _, fun b => R b ∨ W2.heap.size ≤ b, ⟨s0.setCell (Nat.le_refl _) _, fun b h => ?_, _, s1.set 0 _, ?_⟩, fun b h => h⟩
   ·rcases h with h | h
    ·exact HR2.out b h
    ·omega
   ·rw [HTk.out]
    refine HM7.out.keep (fun b hb _ => Below.heap_setCell _ _ _ _ ?_) (by simp [World.setCell])
    have h4 : w.heap.size + 2 ≤ b := by
     rcases hb with h | h
     ·exact HR2.out b h
     ·omega
    simp; omega
 case done =>
  intro D R W hD hDR ⟨hB, hR2, v, c0, hm⟩ hK
  have HD : Hid (w.heap.size + 2 ≤ D) := by unfold Hid; rw [← Hsz.out]; exact hD
  have HK := hide hK
  have HBk := hide hB
  have C0 : Hid (Blk W w.heap.size 25 #[v]) := c0
  have HR2 := hide hR2
  have HDR := hide hDR
  rw [HLl.out, List.take_length] at hm
  have HM := hide hm
  obtain ⟨ao, ac, hv⟩ := hm.slice
  obtain ⟨n, hn⟩ := nm ((ps.map aloneP).length)
  rw [← hn] at hv
  subst hv
  clear hD hB c0 hK hDR hm hR2 hn
  have e0 : W.cell? ⟨w.heap.size, 0, none⟩ = some (.slice ao n ac) := C0.out.cell 0
  gi_wp2
  refine ⟨by simp, .inl ⟨_, _, rfl, run_takeDeferred HK.out, ?_⟩⟩
  have hd := HD.out
  refine ⟨.slice ao n ac, ?res, _, rfl, ?_, HBk.out.trans (below_putS _ _ (by omega))⟩
  case res => exact results_tmp (t := 2) rfl _ _ _
  obtain ⟨xs, h1, h2, h3⟩ := HM.out
  have hR := HR2.out
  have h2' : ∀ b, (Value.slice ao n ac).ownBlock = some b → R b := h2
  have hk : ∀ b, R b → b < W.heap.size → (W.putObj D (.deferred none)).heap[b]? = W.heap[b]? := fun b hb _ => World.putObj_heap_other fun e => HDR.out (e ▸ hb)
  refine ⟨xs, (own_keep h1 fun b e => hk b (h2 b e) (h1.lt b e).2).mono (by omega), fun b e => by have := hR b (h2 b e); show w.heap.size ≤ b; omega, fun i f hf => ?_⟩
  obtain ⟨va, vc, p0, p1, r⟩ := h3 i f hf
  exact ⟨va, vc, p0, p1, r.step (by simp) (fun b hb hl => hk b hb.1 hl) fun b hb _ => ⟨by have := hR b hb.1; omega, hb.2⟩⟩
 case stop => exact fun _ _ _ _ _ h => h.elim
end Go.Proofs.YtnoohlibgaeklaaGreatDoor
