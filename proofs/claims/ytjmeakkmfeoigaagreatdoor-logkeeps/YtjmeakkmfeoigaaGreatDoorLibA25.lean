/-
  Facts and contracts that the statement leans on.
-/
import Derived.Test.YtjmeakkmfeoigaaGreatDoorLibA24
import Derived.Test.YtjmeakkmfeoigaaGreatDoorLibA7
import Derived.Test.YtjmeakkmfeoigaaGreatDoorLibA4
import Derived.Test.YtjmeakkmfeoigaaGreatDoorLibA5
import Derived.Test.YtjmeakkmfeoigaaGreatDoorLibA22
import Derived.Laws.ResultCell
import Derived.Deep.CutRange
import Derived.Test.YtjmeakkmfeoigaaGreatDoorRows
import Derived.Test.YtjmeakkmfeoigaaGreatDoorLibA6
import Derived.ProofKit
import Derived.OpenShut
import Derived.LaidLaws
import Derived.Stop.LaidErr
import Derived.Deep.Strs
import Derived.Test.YtjmeakkmfeoigaaGreatDoorLibA17
import Derived.Lib.LaidTab
import Derived.LaidMore
import Derived.Lay
import Derived.LaidHandle
import Derived.Stop.Joined
import Derived.Carry
import Derived.Lib.SmallJoins
import Derived.Deep.Slices
namespace Go.Proofs.YtjmeakkmfeoigaaGreatDoor
open Go.ChangeShapes Go.WideShapes Go.ChangeAt Go.RowKit
set_option maxRecDepth 100000
def FormOn (Z : Nat → Prop) (W : World) (va vc : Value) (f : Fm) : Prop := ∀ X, W.heap.size ≤ X.heap.size → (∀ b, Z b → b < W.heap.size → X.heap[b]? = W.heap[b]?) → ReadsA X va f.ats ∧ Reads X vc f.c
theorem FormOn.now {Z : Nat → Prop} {W : World} {va vc : Value} {f : Fm} (h : FormOn Z W va vc f) : ReadsA W va f.ats ∧ Reads W vc f.c := h W (Nat.le_refl _) fun _ _ _ => rfl
theorem FormOn.step {Z Z' : Nat → Prop} {W W' : World} {va vc : Value} {f : Fm} (h : FormOn Z W va vc f) (hz : W.heap.size ≤ W'.heap.size) (hk : ∀ b, Z b → b < W.heap.size → W'.heap[b]? = W.heap[b]?) (hZ : ∀ b, Z b → b < W.heap.size → Z' b) : FormOn Z' W' va vc f :=
 fun X hX hs => h X (Nat.le_trans hz hX) fun b hb hl => (hs b (hZ b hb hl) (Nat.lt_of_lt_of_le hl hz)).trans (hk b hb hl)
theorem Reads.newer {K : Nat} {W X : World} {v : Value} {t : List Int} (h : Reads W v t) (hn : NewV K v) (hs : ∀ b, K ≤ b → b < W.heap.size → X.heap[b]? = W.heap[b]?) (hz : W.heap.size ≤ X.heap.size) : Reads X v t := by
 rcases h with h | ⟨b, off, cap, rfl, h2, h3, h4, h5⟩
 ·exact Or.inl h
 ·obtain ⟨ao, n, c, hv, hk⟩ := hn
  obtain ⟨e1, _, _⟩ := Value.slice.inj hv
  have e : X.heap[b]? = W.heap[b]? := hs b (hk _ e1.symm) h2
  exact Or.inr ⟨b, off, cap, rfl, Nat.lt_of_lt_of_le h2 hz, h3, h4, fun k hk => by rw [World.cell?_of_block (w := W) (a := ⟨b, off + k, none⟩) e]; exact h5 k hk⟩
theorem loadFmL {W : World} {R : Nat} {v u : Value} (h : Blk W R 39 #[v, u]) : (loadVar 39 ⟨R, 0, none⟩).run Tryz.prog W = .ok (.agg #[v, u]) W := by
 have hl := run_loadCells_list (P := Tryz.prog) W ⟨R, 0, none⟩ [v, u] (fun j x hj => by
  have := h.cell j
  rw [← Array.getElem?_toList] at this
  rw [hj] at this
  have ha : (⟨R, 0, none⟩ : Addr).add j = ⟨R, j, none⟩ := by unfold Addr.add; split <;> simp_all
  rw [ha]; exact this)
 simp [loadVar, Tryz.isAgg39, Tryz.sizeOf39, Result.andThen] at hl ⊢
 simp [hl]
theorem result_one {fn : Func} {p : Tmp} {ty : TypeId} (h : fn.results = #[.cell p ty]) (tmps : Array Value) (P : Program) (w : World) :
    (results fn tmps).run P w = ((asAddr (tmps.getD p undef)).run P w).andThen fun a w1 => (loadVar ty a).run P w1 := by
 simp only [results, h]
 simp [Sem.run_bind, Result.andThen]
theorem own_aside {X : World} {K n size : Nat} {e : TypeId} {v : Value} {xs : List Value} (h : X.ownsRow K e size v n xs) {p : Addr} (hp : ∀ b, v.ownBlock = some b → b ≠ p.block) (u : Value) : (X.setCell p u).ownsRow K e size v n xs := by
 refine ⟨h.1, ?_⟩
 rcases h.2 with h0 | ⟨g, cap, cur, hv, hb, hg, rest⟩
 ·exact Or.inl h0
 ·exact Or.inr ⟨g, cap, cur, hv, hb, (Below.heap_setCell _ _ _ _ (hp g (by rw [hv]; rfl))).trans hg, rest⟩
theorem parse_back {a : At} (h : a.fault = 0) (w : World) (hK : KindsLaid w) (hL : LibLaid w) :
    Calls Tryz.prog 62 #[.string (strOf a.text)] w fun e w' => (∃ v0 v1, e = .returned (.tuple #[.agg #[.int .i64 a.k, v0, v1, .int .i64 a.n], .nilIface]) ∧ Reads w' v0 a.s ∧ Reads w' v1 a.t ∧ NewV w.heap.size v0 ∧ NewV w.heap.size v1) ∧ Below w.heap.size w w' := by
 have hl := text_small h
 refine (aparse_new (strOf a.text) (by rw [strOf_size]; omega) w hK hL).mono ?_
 rintro e w' ⟨x, rfl, h1, h2, hb⟩
 refine ⟨?_, hb⟩
 have e0 : seen (strOf a.text) = atomWords a.k a.s a.t a.n := seen_words h
 obtain ⟨g0, g1, g2, g3, g4⟩ := words_back h
 rw [e0] at h1 ⊢
 rw [g0] at h1 ⊢
 obtain ⟨v0, v1, rfl, r0, r1, n0, n1⟩ := h1 rfl
 rw [g1] at r1 ⊢
 rw [g2] at r0
 rw [g3] at r1
 rw [g4]
 exact ⟨v0, v1, rfl, r0, r1, n0, n1⟩
theorem text_head {a : At} (h : a.fault = 0) : ∃ x l, a.text = x :: l ∧ x ≠ 45 := by
 obtain ⟨hk, _⟩ := atomFault_zero.1 h
 unfold At.text atomText
 rcases five hk.1 hk.2 with e | e | e | e | e <;> (rw [e]; exact ⟨_, _, rfl, by decide⟩)
theorem rec_parts {a : At} (h : Bool) (ha : a.fault = 0) : ∃ T, (∀ W, Calls Tryz.prog 60 #[.string (strOf (recB (a, h))), .string ⟨#[43]⟩] W (Sk W (.tuple #[.string T, .bool h]))) ∧ ∀ W, Calls Tryz.prog 63 #[.string T, .string ⟨#[45]⟩] W (Sk W (.string (strOf a.text))) := by
 have hl := text_small ha
 cases h with
 | true =>
  obtain ⟨x, l, ht, hx⟩ := text_head ha
  refine ⟨strOf a.text, fun W => ?_, fun W => ?_⟩
  ·have := cutHead_any 43 43 a.text (by omega) W
   exact this
  ·have := trimHead_any x 45 l (by rw [ht] at hl; simp at hl; omega) W
   rw [if_neg hx, ← ht] at this
   exact this
 | false =>
  refine ⟨strOf (45 :: a.text), fun W => ?_, fun W => ?_⟩
  ·have := cutHead_any 45 43 a.text (by omega) W
   exact this
  ·have := trimHead_any 45 45 a.text (by omega) W
   exact this
theorem read_form {w w3 W : World} {G : Nat} {a : At} {h : Bool} {v0 v1 vc : Value} (r0 : Reads w3 v0 a.s) (r1 : Reads w3 v1 a.t) (n0 : NewV (w.heap.size + 1) v0) (n1 : NewV (w.heap.size + 1) v1) (hG : w3.heap.size = G) (hwG : w.heap.size ≤ G) (hz : G ≤ W.heap.size)
    (hold : ∀ b, w.heap.size + 1 ≤ b → b < G → W.heap[b]? = w3.heap[b]?) (hA : Blk W G 29 #[.int .i64 a.k, v0, v1, .int .i64 a.n])
    (hC : ∀ X, W.heap.size ≤ X.heap.size → (∀ b, w.heap.size ≤ b → b < W.heap.size → X.heap[b]? = W.heap[b]?) → Reads X vc (aloneF a h).c) : FormOn (fun b => w.heap.size ≤ b) W (.slice (some ⟨G, 0, none⟩) 1 1) vc (aloneF a h) := fun X hX hs => by
 have hk : Blk X G 29 #[.int .i64 a.k, v0, v1, .int .i64 a.n] := by unfold Blk; rw [hs G hwG hA.lt]; exact hA
 have ho : ∀ b, w.heap.size + 1 ≤ b → b < w3.heap.size → X.heap[b]? = w3.heap[b]? := fun b h1 h2 => (hs b (by omega) (by omega)).trans (hold b h1 (by omega))
 refine ⟨Or.inr ⟨G, 0, 1, rfl, hk.lt, by show 0 < 1; omega, ⟨by show 1 ≤ _; omega, Nat.le_refl _⟩, fun i b hb => ?_⟩, hC X hX hs⟩
 cases i with
 | zero =>
  obtain rfl : a = b := by simpa [aloneF] using hb
  exact ⟨v0, v1, hk.cell 0, hk.cell 1, hk.cell 2, hk.cell 3, r0.newer n0 ho (by omega), r1.newer n1 ho (by omega)⟩
 | succ i => simp [aloneF] at hb
set_option maxHeartbeats 8000000 in
theorem logRead_any (a : At) (h : Bool) (ha : a.fault = 0) (w : World) (hK : KindsLaid w) (hL : LibLaid w) :
    Calls Tryz.prog 30 #[.string (strOf (recB (a, h) ++ [10]))] w fun e w' => ∃ o1 l1 c1 o2 l2 c2, e = .returned (.agg #[.slice o1 l1 c1, .slice o2 l2 c2]) ∧ FormOn (fun b => w.heap.size ≤ b) w' (.slice o1 l1 c1) (.slice o2 l2 c2) (aloneF a h) ∧ Below w.heap.size w w' := by
 have hl := text_small ha
 have HTr : Hid (∀ W, Calls Tryz.prog 61 #[.string (strOf (recB (a, h) ++ [10])), .string ⟨#[10]⟩] W (Sk W (.string (strOf (recB (a, h)))))) := fun W => trimEnd_hit _ (by have := rec_small (q := (a, h)) ha; omega) W
 obtain ⟨T, hT1, hT2⟩ := rec_parts h ha
 have HT1 := hide hT1
 have HT2 := hide hT2
 have HPa : Hid (∀ W, Below w.heap.size w W → Calls Tryz.prog 62 #[.string (strOf a.text)] W fun e w' => (∃ v0 v1, e = .returned (.tuple #[.agg #[.int .i64 a.k, v0, v1, .int .i64 a.n], .nilIface]) ∧ Reads w' v0 a.s ∧ Reads w' v1 a.t ∧ NewV W.heap.size v0 ∧ NewV W.heap.size v1) ∧ Below W.heap.size W w') := fun W hW => parse_back ha W (hK.below hW) (hL.below hW)
 obtain ⟨R0, hR0⟩ := nm (strOf (recB (a, h) ++ [10]))
 obtain ⟨R1, hR1⟩ := nm (strOf (recB (a, h)))
 obtain ⟨R2, hR2⟩ := nm (strOf a.text)
 rw [← hR0, ← hR1] at HTr
 rw [← hR1] at HT1
 rw [← hR2] at HT2 HPa
 rw [← hR0]
 clear hR0 hR1 hR2 hT1 hT2 hK hL hl ha
 obtain ⟨w1, hw1⟩ := nm (w.alloc (.cells #[.slice none 0 0, .slice none 0 0] 39))
 have HB1 : Hid (Below w.heap.size w w1) := by unfold Hid; rw [hw1]; exact below_alloc1 _ _
 have HK1 : Hid (Blk w1 w.heap.size 39 #[.slice none 0 0, .slice none 0 0]) := by unfold Hid; rw [hw1]; exact Blk.new _ _ _
 have Hs1 : Hid (w1.heap.size = w.heap.size + 1) := by unfold Hid; rw [hw1, World.size_alloc]
 go_enter Tryz.func30, Tryz.ntmps30
 go_upto_region 1 with fail
 rw [← hw1]
 clear hw1
 go_wp2_with fail
 go_at_call 61
 refine (HTr.out _).mono ?_
 rintro e w2 ⟨rfl, rfl⟩
 go_wp2_with fail
 go_at_call 60
 refine (HT1.out _).mono ?_
 rintro e w2 ⟨rfl, rfl⟩
 go_wp2_with fail
 go_at_call 63
 refine (HT2.out _).mono ?_
 rintro e w2 ⟨rfl, rfl⟩
 go_wp2_with fail
 go_at_call 62
 refine (HPa.out _ HB1.out).mono ?_
 rintro e w2 ⟨⟨v0, v1, rfl, r0, r1, n0, n1⟩, hb2⟩
 obtain ⟨o0, m0, q0, rfl, k0⟩ := n0
 obtain ⟨o1, m1, q1, rfl, k1⟩ := n1
 have HR0 := hide r0
 have HR1 := hide r1
 have HN0 : Hid (NewV (w.heap.size + 1) (.slice o0 m0 q0)) := ⟨_, _, _, rfl, fun p hp => Nat.le_trans (Nat.le_of_eq Hs1.out.symm) (k0 p hp)⟩
 have HN1 : Hid (NewV (w.heap.size + 1) (.slice o1 m1 q1)) := ⟨_, _, _, rfl, fun p hp => Nat.le_trans (Nat.le_of_eq Hs1.out.symm) (k1 p hp)⟩
 have HB2 := hide (HB1.out.trans (hb2.mono HB1.out.size))
 have HK2 := hide (HK1.out.below hb2)
 clear r0 r1 k0 k1 hb2
 obtain ⟨w3, hw3⟩ := nm (w2.alloc (.cells #[.int .i64 a.k, .slice o0 m0 q0, .slice o1 m1 q1, .int .i64 a.n] 29))
 obtain ⟨G3, hG3⟩ := nm w2.heap.size
 have b23 : Below w2.heap.size w2 w3 := by rw [hw3]; exact below_alloc1 _ _
 have HB3 := hide (HB2.out.trans (b23.mono HB2.out.size))
 have HK3 := hide (HK2.out.below b23)
 have HA3 : Hid (Blk w3 G3 29 #[.int .i64 a.k, .slice o0 m0 q0, .slice o1 m1 q1, .int .i64 a.n]) := by unfold Hid; rw [hw3, hG3]; exact Blk.new _ _ _
 have HG3 : Hid (w.heap.size < G3) := by unfold Hid; rw [hG3]; exact HK2.out.lt
 have HR03 := hide (HR0.out.below b23)
 have HR13 := hide (HR1.out.below b23)
 clear b23
 go_upto_region 3 with fail
 rw [← hw3, ← hG3]
 clear hw3 hG3
 obtain ⟨G, hG⟩ := nm w3.heap.size
 obtain ⟨w4, hw4⟩ := nm (((w3.alloc (.cells #[.int .i64 a.k, .slice o0 m0 q0, .slice o1 m1 q1, .int .i64 a.n] 29)).alloc (.cells #[.int .i64 0] 3)).alloc (.cells #[.slice (some ⟨w3.heap.size, 0, none⟩) 1 1, .slice (some ⟨w3.heap.size + 1, 0, none⟩) 1 1] 39))
 have b34 : Below w3.heap.size w3 w4 := by rw [hw4]; exact ((below_alloc1 _ _).alloc (by simp) _).alloc (by simp; omega) _
 have HA4 : Hid (Blk w4 G 29 #[.int .i64 a.k, .slice o0 m0 q0, .slice o1 m1 q1, .int .i64 a.n]) := by unfold Hid; rw [hw4, hG]; exact ((Blk.new _ _ _).old _).old _
 have HC4 : Hid (Blk w4 (G + 1) 3 #[.int .i64 0]) := by
  unfold Hid; rw [hw4, hG]
  have := Blk.new (w3.alloc (.cells #[.int .i64 a.k, .slice o0 m0 q0, .slice o1 m1 q1, .int .i64 a.n] 29)) 3 #[.int .i64 0]
  rw [World.size_alloc] at this
  exact this.old _
 have HF4 : Hid (Blk w4 (G + 1 + 1) 39 #[.slice (some ⟨G, 0, none⟩) 1 1, .slice (some ⟨G + 1, 0, none⟩) 1 1]) := by
  unfold Hid; rw [hw4, hG]
  have := Blk.new ((w3.alloc (.cells #[.int .i64 a.k, .slice o0 m0 q0, .slice o1 m1 q1, .int .i64 a.n] 29)).alloc (.cells #[.int .i64 0] 3)) 39 #[.slice (some ⟨w3.heap.size, 0, none⟩) 1 1, .slice (some ⟨w3.heap.size + 1, 0, none⟩) 1 1]
  rw [World.size_alloc, World.size_alloc] at this
  exact this
 have HB4 := hide (HB3.out.trans (b34.mono HB3.out.size))
 have HK4 := hide (HK3.out.below b34)
 have HG : Hid (w.heap.size + 2 ≤ G) := by unfold Hid; rw [hG]; have h1 := HA3.out.lt; have h2 := HG3.out; omega
 have HGs := hide (hG.symm)
 have Hold4 : Hid (∀ b, w.heap.size + 1 ≤ b → b < G → w4.heap[b]? = w3.heap[b]?) := fun b _ h2 => b34.block b (by rw [← hG]; exact h2)
 have a0 : w3.cell? ⟨G3, 0, none⟩ = some (.int .i64 a.k) := HA3.out.cell 0
 have a1 : w3.cell? ⟨G3, 1, none⟩ = some (.slice o0 m0 q0) := HA3.out.cell 1
 have a2 : w3.cell? ⟨G3, 2, none⟩ = some (.slice o1 m1 q1) := HA3.out.cell 2
 have a3 : w3.cell? ⟨G3, 3, none⟩ = some (.int .i64 a.n) := HA3.out.cell 3
 clear b34
 go_upto_region 4 with fail
 rw [← hw4, ← hG]
 clear hw4 hG a0 a1 a2 a3
 cases h with
 | true =>
  have y0 : w4.cell? ⟨G + 1 + 1, 0, none⟩ = some (.slice (some ⟨G, 0, none⟩) 1 1) := HF4.out.cell 0
  have y1 : w4.cell? ⟨G + 1 + 1, 1, none⟩ = some (.slice (some ⟨G + 1, 0, none⟩) 1 1) := HF4.out.cell 1
  have z0 : w4.cell? ⟨w.heap.size, 0, none⟩ = some (.slice none 0 0) := HK4.out.cell 0
  have z1 : w4.cell? ⟨w.heap.size, 1, none⟩ = some (.slice none 0 0) := HK4.out.cell 1
  have f0 : w4.frozen? ⟨w.heap.size, 0, none⟩ = false := HK4.out.frozen 0
  have f1 : w4.frozen? ⟨w.heap.size, 1, none⟩ = false := HK4.out.frozen 1
  go_wp2
  have hg := HG.out
  have r1 : Blk ((w4.setCell ⟨w.heap.size, 0, none⟩ (.slice (some ⟨G, 0, none⟩) 1 1)).setCell ⟨w.heap.size, 1, none⟩ (.slice (some ⟨G + 1, 0, none⟩) 1 1)) w.heap.size 39 #[.slice (some ⟨G, 0, none⟩) 1 1, .slice (some ⟨G + 1, 0, none⟩) 1 1] := (HK4.out.set 0 _).set 1 _
  have l1 := loadFmL r1
  have hB : Below w.heap.size w ((w4.setCell ⟨w.heap.size, 0, none⟩ (.slice (some ⟨G, 0, none⟩) 1 1)).setCell ⟨w.heap.size, 1, none⟩ (.slice (some ⟨G + 1, 0, none⟩) 1 1)) := (HB4.out.setCell (Nat.le_refl _) _).setCell (Nat.le_refl _) _
  have q0 : Blk ((w4.setCell ⟨w.heap.size, 0, none⟩ (.slice (some ⟨G, 0, none⟩) 1 1)).setCell ⟨w.heap.size, 1, none⟩ (.slice (some ⟨G + 1, 0, none⟩) 1 1)) (G + 1) 3 #[.int .i64 0] := (HC4.out.far (by omega) _ _).far (by omega) _ _
  refine bodyPost_ret (v := .agg #[.slice (some ⟨G, 0, none⟩) 1 1, .slice (some ⟨G + 1, 0, none⟩) 1 1]) ?_ rfl ⟨_, _, _, _, _, _, rfl, read_form HR03.out HR13.out HN0.out HN1.out HGs.out (by omega) (by have := q0.lt; omega) (fun b h1 h2 => ?_) ((HA4.out.far (by omega) _ _).far (by omega) _ _) (fun X hX hs => ?_), hB⟩
  ·rw [result_one rfl]
   simp [asAddr, Result.andThen, l1]
  ·rw [Below.heap_setCell _ _ _ _ (show b ≠ w.heap.size by omega), Below.heap_setCell _ _ _ _ (show b ≠ w.heap.size by omega)]
   exact Hold4.out b h1 h2
  ·have q : Blk X (G + 1) 3 #[.int .i64 0] := by unfold Blk; rw [hs (G + 1) (by omega) q0.lt]; exact q0
   show Reads _ _ [0]
   refine Or.inr ⟨G + 1, 0, 1, rfl, q.lt, by simp, ⟨by simp, by simp⟩, fun j hj => ?_⟩
   obtain rfl : j = 0 := by have : j < 1 := hj; omega
   exact q.cell 0
 | false =>
  have HO4 : Hid (w4.ownsRow G 3 1 (.slice (some ⟨G + 1, 0, none⟩) 1 1) [(0 : Int)].length ([(0 : Int)].map (Value.int .i64))) := ⟨rfl, Or.inr ⟨G + 1, 1, #[.int .i64 0], rfl, by omega, HC4.out, by decide, by decide, rfl, rfl⟩⟩
  have HG4 := hide (HF4.out.lt)
  have y1 : w4.cell? ⟨G + 1 + 1, 1, none⟩ = some (.slice (some ⟨G + 1, 0, none⟩) 1 1) := HF4.out.cell 1
  go_wp2_with (at_builtin; refine append_long rfl _ _ rfl G (.slice (some ⟨G + 1, 0, none⟩) 1 1) rfl [0] 12 w4.heap.size 1 rfl (HO4.out.alloc _) (heap_alloc_new w4 _) (by have := HG4.out; simp; omega) (by decide) ?_)
  intro v9 w9 hown hgrow hat
  obtain ⟨vo, vn, vc, hv9⟩ : ∃ vo vn vc, v9 = .slice vo vn vc := by
   rcases hown.2 with ⟨rfl, _⟩ | ⟨g, cap, cur, rfl, _⟩
   ·exact ⟨_, _, _, rfl⟩
   ·exact ⟨_, _, _, rfl⟩
  subst hv9
  have hg4 := HG4.out
  have hg := HG.out
  have keep : ∀ g, g < w4.heap.size → g ≠ G + 1 → w9.heap[g]? = w4.heap[g]? := fun g hl hne => by
   rw [hgrow.block g (by simp; omega) fun e => hne (Option.some.inj e)]
   exact heap_alloc_old w4 _ hl
  have hB9 : Below w.heap.size w w9 := (HB4.out.alloc HB4.out.size _).grown hgrow (by simp; have := HB4.out.size; omega) fun b e => by
   have : G + 1 = b := Option.some.inj e
   omega
  have HoB : Hid (∀ b, (Value.slice vo vn vc).ownBlock = some b → b = G + 1 ∨ b = w4.heap.size + 1) := fun b e => by
   rcases hat with h | h
   ·rw [h] at e; left; exact (Option.some.inj e).symm
   ·rw [h] at e; right; have := Option.some.inj e; first | omega | (simp at this; omega)
  have HK9 : Hid (Blk w9 w.heap.size 39 #[.slice none 0 0, .slice none 0 0]) := by unfold Hid Blk; rw [keep _ HK4.out.lt (by omega)]; exact HK4.out
  have HA9 : Hid (Blk w9 G 29 #[.int .i64 a.k, .slice o0 m0 q0, .slice o1 m1 q1, .int .i64 a.n]) := by unfold Hid Blk; rw [keep _ HA4.out.lt (by omega)]; exact HA4.out
  have HF9 : Hid (Blk w9 (G + 1 + 1) 39 #[.slice (some ⟨G, 0, none⟩) 1 1, .slice (some ⟨G + 1, 0, none⟩) 1 1]) := by unfold Hid Blk; rw [keep _ HF4.out.lt (by omega)]; exact HF4.out
  have HB9 := hide hB9
  have Hold9 : Hid (∀ b, w.heap.size + 1 ≤ b → b < G → w9.heap[b]? = w3.heap[b]?) := fun b h1 h2 => (keep b (by omega) (by omega)).trans (Hold4.out b h1 h2)
  have HO9 := hide hown
  clear hown hgrow hat keep hB9 y1 hg hg4
  obtain ⟨w10, hw10⟩ := nm (w9.setCell ⟨G + 1 + 1, 1, none⟩ (.slice vo vn vc))
  have HB10 : Hid (Below w.heap.size w w10) := by unfold Hid; rw [hw10]; exact HB9.out.setCell (by have := HG.out; simp; omega) _
  have HK10 : Hid (Blk w10 w.heap.size 39 #[.slice none 0 0, .slice none 0 0]) := by unfold Hid; rw [hw10]; exact HK9.out.far (by have := HG.out; omega) _ _
  have HA10 : Hid (Blk w10 G 29 #[.int .i64 a.k, .slice o0 m0 q0, .slice o1 m1 q1, .int .i64 a.n]) := by unfold Hid; rw [hw10]; exact HA9.out.far (by omega) _ _
  have HF10 : Hid (Blk w10 (G + 1 + 1) 39 #[.slice (some ⟨G, 0, none⟩) 1 1, .slice vo vn vc]) := by unfold Hid; rw [hw10]; exact HF9.out.set 1 _
  have Hold10 : Hid (∀ b, w.heap.size + 1 ≤ b → b < G → w10.heap[b]? = w3.heap[b]?) := by unfold Hid; rw [hw10]; exact fun b h1 h2 => (Below.heap_setCell _ _ _ _ (show b ≠ G + 1 + 1 by omega)).trans (Hold9.out b h1 h2)
  have HO10 : Hid (w10.ownsRow G 3 1 (.slice vo vn vc) [(0 : Int), 12].length ([(0 : Int), 12].map (Value.int .i64))) := by
   unfold Hid; rw [hw10]
   exact own_aside HO9.out (fun b e => by have h1 := HoB.out b e; have h2 := HG4.out; show b ≠ G + 1 + 1; omega) _
  have y1 : w9.cell? ⟨G + 1 + 1, 1, none⟩ = some (.slice (some ⟨G + 1, 0, none⟩) 1 1) := HF9.out.cell 1
  have f9 : w9.frozen? ⟨G + 1 + 1, 1, none⟩ = false := HF9.out.frozen 1
  go_upto_region 6 with fail
  rw [← hw10]
  clear hw10 y1 f9
  have y0 : w10.cell? ⟨G + 1 + 1, 0, none⟩ = some (.slice (some ⟨G, 0, none⟩) 1 1) := HF10.out.cell 0
  have y1 : w10.cell? ⟨G + 1 + 1, 1, none⟩ = some (.slice vo vn vc) := HF10.out.cell 1
  have z0 : w10.cell? ⟨w.heap.size, 0, none⟩ = some (.slice none 0 0) := HK10.out.cell 0
  have z1 : w10.cell? ⟨w.heap.size, 1, none⟩ = some (.slice none 0 0) := HK10.out.cell 1
  have f0 : w10.frozen? ⟨w.heap.size, 0, none⟩ = false := HK10.out.frozen 0
  have f1 : w10.frozen? ⟨w.heap.size, 1, none⟩ = false := HK10.out.frozen 1
  go_wp2
  have hg := HG.out
  have hg4 := HG4.out
  have r1 : Blk ((w10.setCell ⟨w.heap.size, 0, none⟩ (.slice (some ⟨G, 0, none⟩) 1 1)).setCell ⟨w.heap.size, 1, none⟩ (.slice vo vn vc)) w.heap.size 39 #[.slice (some ⟨G, 0, none⟩) 1 1, .slice vo vn vc] := (HK10.out.set 0 _).set 1 _
  have l1 := loadFmL r1
  have hB : Below w.heap.size w ((w10.setCell ⟨w.heap.size, 0, none⟩ (.slice (some ⟨G, 0, none⟩) 1 1)).setCell ⟨w.heap.size, 1, none⟩ (.slice vo vn vc)) := (HB10.out.setCell (Nat.le_refl _) _).setCell (Nat.le_refl _) _
  have hz10 : G ≤ w10.heap.size := by have := HA10.out.lt; omega
  have hne : ∀ b, (Value.slice vo vn vc).ownBlock = some b → b ≠ w.heap.size := fun b e => by have := HoB.out b e; omega
  have hown := own_aside (own_aside HO10.out hne (.slice (some ⟨G, 0, none⟩) 1 1) (p := ⟨w.heap.size, 0, none⟩)) hne (.slice vo vn vc) (p := ⟨w.heap.size, 1, none⟩)
  refine bodyPost_ret (v := .agg #[.slice (some ⟨G, 0, none⟩) 1 1, .slice vo vn vc]) ?_ rfl ⟨_, _, _, _, _, _, rfl, read_form HR03.out HR13.out HN0.out HN1.out HGs.out (by omega) (by simpa [World.setCell] using hz10) (fun b h1 h2 => ?_) ((HA10.out.far (by omega) _ _).far (by omega) _ _) (fun X hX hs => ?_), hB⟩
  ·rw [result_one rfl]
   simp [asAddr, Result.andThen, l1]
  ·rw [Below.heap_setCell _ _ _ _ (show b ≠ w.heap.size by omega), Below.heap_setCell _ _ _ _ (show b ≠ w.heap.size by omega)]
   exact Hold10.out b h1 h2
  ·show Reads _ _ [0, 12]
   exact own_readsL (own_keep hown fun g e => hs g (by have := (hown.lt g e).1; omega) (hown.lt g e).2) (by simp)
end Go.Proofs.YtjmeakkmfeoigaaGreatDoor
namespace Go.Proofs.YtjmeakkmfeoigaaGreatDoor
open Go.ChangeShapes Go.WideShapes Go.ChangeAt Go.RowKit Go.Deep
set_option maxRecDepth 100000
theorem kdG : Tryz.prog.globalNamed "vennhouse/atom.kinds" = some 0 := by kernel_rfl
theorem kdT : (Tryz.prog.globals[0]?).map (·.type) = some 117 := by kernel_rfl
theorem kdC : Tryz.prog.cellsOf 116 = 3 := by kernel_rfl
theorem kdA : Tryz.prog.cellsOf 117 = 18 := by kernel_rfl
theorem kdS : Tryz.prog.cellsOf 9 = 1 := by kernel_rfl
theorem kdB : Tryz.prog.cellsOf 4 = 1 := by kernel_rfl
theorem kind_of_trod {w : World} {cs : List Value} {fuel : Nat} {text : List UInt8} {b1 b2 : Bool} {y : DataW Unit × List MemPlace} (hy : y.1 = .agg [.lit (.string text), .lit (.bool b1), .lit (.bool b2)])
    (h : DataW.trod (fun _ => ()) Tryz.prog w 0 (fun _ => true) false fuel 116 cs = some y) : cs = [.string ⟨text.toArray⟩, .bool b1, .bool b2] := by
 obtain ⟨y0, y1, y2, n, e, hl, t0, t1, t2⟩ := trod_struct3 Tryz.underlying116 h
 rw [kdC] at hl
 obtain ⟨c0, c1, c2, rfl⟩ : ∃ c0 c1 c2, cs = [c0, c1, c2] := by
  match cs, hl with
  | [a, b, c], _ => exact ⟨a, b, c, rfl⟩
 ·simp only [kdS, kdB] at t0 t1 t2
  obtain ⟨s, e0, f0, _⟩ := DataW.trod_string Tryz.underlying9 t0
  obtain ⟨x1, e1, f1⟩ := DataW.trod_bool Tryz.underlying4 t1
  obtain ⟨x2, e2, f2⟩ := DataW.trod_bool Tryz.underlying4 t2
  simp at e0 e1 e2
  subst e0 e1 e2
  subst f0 f1 f2
  subst e
  simp at hy
  obtain ⟨rfl, rfl, rfl⟩ := hy
  rfl
theorem kinds_of_head {r : List (String × DataW Unit)} {W : World} (h : laidMet Tryz.prog (("vennhouse/atom.kinds", Rows.laid_vennhouse_atom_kinds) :: r) W) : KindsLaid W := by
 obtain ⟨ps, ⟨g0, t0, cs0, f0, p0, q0, hg0, ht0, hv0, hd0, _, e0⟩, _, hrows⟩ := h
 obtain rfl := Option.some.inj (kdG.symm.trans hg0)
 obtain rfl := Option.some.inj (kdT.symm.trans ht0)
 obtain ⟨xs, m, _, hx, hlen, hxl, hi⟩ := DataW.trod_array Tryz.underlying117 hd0
 simp only [kdC] at hi
 rw [kdA] at hlen
 have hx1 : Rows.laid_vennhouse_atom_kinds = .agg (xs.map (·.1)) := congrArg Prod.fst hx
 obtain ⟨a0, a1, a2, a3, a4, a5, rfl⟩ : ∃ a0 a1 a2 a3 a4 a5, xs = [a0, a1, a2, a3, a4, a5] := by
  match xs, hxl with
  | [a, b, c, d, e, f], _ => exact ⟨a, b, c, d, e, f, rfl⟩
 ·unfold Rows.laid_vennhouse_atom_kinds at hx1
  simp only [List.map, DataW.agg.injEq, List.cons.injEq, and_true] at hx1
  obtain ⟨g0, g1, g2, g3, g4, g5⟩ := hx1
  have k0 := kind_of_trod g0.symm (hi 0 (by decide))
  have k1 := kind_of_trod g1.symm (hi 1 (by decide))
  have k2 := kind_of_trod g2.symm (hi 2 (by decide))
  have k3 := kind_of_trod g3.symm (hi 3 (by decide))
  have k4 := kind_of_trod g4.symm (hi 4 (by decide))
  have k5 := kind_of_trod g5.symm (hi 5 (by decide))
  have hl : cs0.toList = kindCells := by
   have e : cs0.toList = (cs0.toList.drop (0 * 3)).take 3 ++ ((cs0.toList.drop (1 * 3)).take 3 ++ ((cs0.toList.drop (2 * 3)).take 3 ++ ((cs0.toList.drop (3 * 3)).take 3 ++ ((cs0.toList.drop (4 * 3)).take 3 ++ ((cs0.toList.drop (5 * 3)).take 3))))) := by
    match cs0.toList, hlen with
    | [_, _, _, _, _, _, _, _, _, _, _, _, _, _, _, _, _, _], _ => rfl
   rw [e, k0, k1, k2, k3, k4, k5]
   rfl
  intro j hj
  have hc := World.var?_cell kdG hv0 j
  rw [hc]
  have : cs0[j]? = cs0.toList[j]? := by simp
  rw [this, hl]
  have hj' : j < kindCells.length := hj
  simp [List.getElem?_eq_getElem hj']
end Go.Proofs.YtjmeakkmfeoigaaGreatDoor
namespace Go.Proofs.YtjmeakkmfeoigaaGreatDoor
open Go.ChangeShapes Go.WideShapes Go.ChangeAt Go.RowKit
set_option maxRecDepth 100000
theorem ownB : ownKnob Tryz.prog.godebug = none := by kernel_rfl
theorem p10G : Tryz.prog.globalNamed "internal/strconv.uint64pow10" = some 4 := by kernel_rfl
theorem p10T : (Tryz.prog.globals[4]?).map (·.type) = some 266 := by kernel_rfl
theorem p10C : Tryz.prog.cellsOf 230 = 1 := by kernel_rfl
theorem p10A : Tryz.prog.cellsOf 266 = 20 := by kernel_rfl
theorem p10D : (Rows.laid_internal_strconv_uint64pow10 : DataW Unit) = Lib.tabData .u64 Lib.pow10Tab := by kernel_rfl
theorem esG : Tryz.prog.globalNamed "strconv.ErrSyntax" = some 5 := by kernel_rfl
theorem esT : (Tryz.prog.globals[5]?).map (·.type) = some 24 := by kernel_rfl
theorem esC : Tryz.prog.cellsOf 290 = 1 := by kernel_rfl
theorem esS : Tryz.prog.cellsOf 9 = 1 := by kernel_rfl
theorem starE : "*" ++ "errors.errorString" = "*errors.errorString" := by decide
theorem rowE (u : TypeId) (h : Tryz.prog.typeName? 3 u = some "*errors.errorString") : u = 288 :=
 typeName_ptr_named (nm := "errors.errorString") (by rw [starE]; kernel_rfl) (by kernel_rfl) (by decide) u (by rw [starE]; exact h)
def laidB : List (String × DataW Unit) := [("math/bits.deBruijn32tab", Rows.laid_math_bits_deBruijn32tab), ("math/bits.deBruijn64tab", Rows.laid_math_bits_deBruijn64tab), ("internal/strconv.uint64pow10", Rows.laid_internal_strconv_uint64pow10), ("unicode/utf8.acceptRanges", Rows.laid_unicode_utf8_acceptRanges), ("strconv.ErrRange", Rows.laid_strconv_ErrRange), ("strconv.ErrSyntax", Rows.laid_strconv_ErrSyntax), ("vennhouse/atom.kinds", Rows.laid_vennhouse_atom_kinds), ("unicode/utf8.first", Rows.laid_unicode_utf8_first)]
theorem back_of_met {W : World} (h : laidMetH Tryz.prog laidB W) : KindsLaid W ∧ LibLaid W := by
 have h' : laidMet Tryz.prog laidB W := h
 unfold laidB at h'
 refine ⟨kinds_of_head h'.tail.tail.tail.tail.tail.tail, ?_, ?_⟩
 ·have h2 := h'.tail.tail
  rw [p10D] at h2
  exact Lib.tabIs_of_head p10G p10T Tryz.underlying266 Tryz.underlying230 p10C p10A h2
 ·obtain ⟨a, s, hv, _⟩ := laid_sentinel h'.tail.tail.tail.tail.tail esG esT Tryz.underlying24 rowE Tryz.underlying288 Tryz.underlying290 rfl rfl Tryz.underlying9 esC esS
  exact ⟨_, _, hv⟩
theorem doorB_met (os : Os) (args : Array Value) : laidMetH Tryz.prog laidB ((World.laidAll Tryz.prog os laidB).forCall (fun _ _ => 0) ⟨#[], args, []⟩).memory := by
 rw [MakeChecks.laidMetH_plain _ _ _ (by kernel_rfl)]
 exact laidMet_laidAll _ (by kernel_rfl) (by kernel_rfl)
theorem startB_shaped (os : Os) (args : Array Value) : ((World.laidAll Tryz.prog os laidB).forCall (fun _ _ => 0) ⟨#[], args, []⟩).Shaped Tryz.prog := World.shaped_of_ZipB (by kernel_rfl) (by kernel_rfl)
end Go.Proofs.YtjmeakkmfeoigaaGreatDoor
namespace Go.Proofs.YtjmeakkmfeoigaaGreatDoor
open Go.ChangeShapes Go.WideShapes Go.ChangeAt Go.RowKit
theorem ownK : ownKnob Tryz.prog.godebug = none := by kernel_rfl
theorem etG : Tryz.prog.globalNamed "errors.errorType" = some 1 := by kernel_rfl
theorem rtT : (Tryz.prog.cutTypes.find? (·.1 == "internal/reflectlite.rtype")).map (·.2) = some 199 := by kernel_rfl
theorem oneRow : ((List.range 329).filter fun t => Tryz.prog.rowNamed t [101, 114, 114, 111, 114]) = [24] := by kernel_rfl
theorem sizeT : Tryz.prog.types.size = 329 := by kernel_rfl
theorem handleE : typeHandle Tryz.prog 24 = .pointer (some ⟨11, 24, none⟩) := by kernel_rfl
def laidE : List (String × DataW Unit) := [("errors.errorType", Rows.laid_errors_errorType)]
theorem laid_of_met {W : World} (h : laidMetH Tryz.prog laidE W) : Laid W := by
 have h' : laidMet Tryz.prog [] W ∧ handlesMet Tryz.prog laidE W := h
 obtain ⟨name, u, ty, e1, e2, e3, e4, e5⟩ := h'.2 _ (List.mem_singleton.2 rfl)
 have en : name = [101, 114, 114, 111, 114] := (Option.some.inj e1).symm
 subst en
 obtain rfl := Option.some.inj (rtT.symm.trans e2)
 have hm : ty ∈ (List.range 329).filter fun t => Tryz.prog.rowNamed t [101, 114, 114, 111, 114] := List.mem_filter.2 ⟨List.mem_range.2 (by rw [← sizeT]; exact e3), e4⟩
 rw [oneRow] at hm
 obtain rfl := List.mem_singleton.1 hm
 rw [handleE] at e5
 simpa [Laid] using World.var?_cell etG e5 0
theorem door_met (os : Os) (args : Array Value) : laidMetH Tryz.prog laidE ((World.doorLaid Tryz.prog 400 os).forCall (fun _ _ => 0) ⟨#[], args, []⟩).memory :=
 laidMetH_of_parts3 (fuel := 8) (laidMet_of_run' 8 (by kernel_rfl) (by kernel_rfl)) (by kernel_rfl) (by kernel_rfl)
end Go.Proofs.YtjmeakkmfeoigaaGreatDoor
namespace Go.Proofs.YtjmeakkmfeoigaaGreatDoor
open Go.ChangeShapes Go.WideShapes Go.ChangeAt Go.RowKit
set_option maxRecDepth 100000
def laidN : List (String × DataW Unit) := [("math/bits.deBruijn32tab", Rows.laid_math_bits_deBruijn32tab), ("math/bits.deBruijn64tab", Rows.laid_math_bits_deBruijn64tab), ("internal/strconv.uint64pow10", Rows.laid_internal_strconv_uint64pow10), ("unicode/utf8.acceptRanges", Rows.laid_unicode_utf8_acceptRanges), ("errors.errorType", Rows.laid_errors_errorType), ("strconv.ErrRange", Rows.laid_strconv_ErrRange), ("strconv.ErrSyntax", Rows.laid_strconv_ErrSyntax), ("vennhouse/atom.kinds", Rows.laid_vennhouse_atom_kinds), ("unicode/utf8.first", Rows.laid_unicode_utf8_first)]
theorem tells_of_met {W : World} (h : laidMetH Tryz.prog laidN W) : Laid W ∧ KindsLaid W ∧ LibLaid W := by
 have h' : laidMet Tryz.prog laidB W ∧ handlesMet Tryz.prog laidE W := h
 have h1 : laidMetH Tryz.prog laidE W := (show laidMet Tryz.prog [] W ∧ handlesMet Tryz.prog laidE W from ⟨laidMet_nil _ _, h'.2⟩)
 have h2 : laidMetH Tryz.prog laidB W := (show laidMet Tryz.prog laidB W from h'.1)
 exact ⟨laid_of_met h1, back_of_met h2⟩
theorem laidMet_over {P : Program} {w0 : World} {laid : List (String × DataW Unit)} (args : Array Value) (hf : w0.layFits P laid [] = true) (hi : w0.layIfaces P laid (w0.layVars P laid) = true) :
    laidMet P laid ((w0.layVars P laid).forCall (fun _ _ => 0) ⟨#[], args, []⟩).memory := by
 have all : ∀ x, x ∈ laid → (laid.map (·.1)).contains x.1 = true := fun x hx => List.contains_iff_mem.2 (List.mem_map.2 ⟨x, hx, rfl⟩)
 have yes : (laid.filter fun x => (laid.map (·.1)).contains x.1) = laid := List.filter_eq_self.2 all
 have no : (laid.filter fun x => !(laid.map (·.1)).contains x.1) = [] := List.filter_eq_nil_iff.2 fun x hx => by rw [all x hx]; simp
 have h := laidMet_layVars (P := P) (w0 := w0) (w' := w0.layVars P laid) (laid := laid) (laid.map (·.1)) [] (by rw [yes]) (by rw [yes]; exact hf) (by rw [yes]; exact hi) (by rw [no]; exact LaidIn.none)
 exact h.of_heap (by simp [World.memory, World.forCall, Input.heap])
noncomputable def startN (os : Os) : World := (World.doorLaid Tryz.prog 400 os).layVars Tryz.prog laidB
theorem startN_os (os : Os) : (startN os).os = os := World.layVars_os _ _ _
theorem doorN_met (os : Os) (args : Array Value) : laidMetH Tryz.prog laidN ((startN os).forCall (fun _ _ => 0) ⟨#[], args, []⟩).memory :=
 laidMetH_of_parts3 (fuel := 8) (laidMet_over (laid := laidB) args (by kernel_rfl) (by kernel_rfl)) (by kernel_rfl) (by kernel_rfl)
theorem startN_shaped (os : Os) : (startN os).Shaped Tryz.prog := World.shaped_of_ZipB (by kernel_rfl) (by kernel_rfl)
end Go.Proofs.YtjmeakkmfeoigaaGreatDoor
namespace Go.Proofs.YtjmeakkmfeoigaaGreatDoor
open Go.ChangeShapes Go.WideShapes Go.ChangeAt Go.RowKit Go.WideMaps Go.WideElems
open Go.ChangeMaps (open_string)
theorem laidOutA : laidOutB Tryz.prog = true := by kernel_rfl
theorem cellsInt : Tryz.prog.cellsOf 3 = 1 := by kernel_rfl
theorem cellsWorld : Tryz.prog.cellsOf 55 = 4 := by kernel_rfl
theorem cellsArr : Tryz.prog.cellsOf 53 = 3 := by kernel_rfl
set_option maxRecDepth 100000 in
theorem reads_arg {H : Type} {enc : TypeId × Value → H} {W : World} {v : Value} {d : DataW H} {p : List MemPlace} {r : Reach} {b0 : Nat} (hv : Value.okWide Tryz.prog W r b0 27 v) (h : DataW.Trod enc Tryz.prog W 0 (fun _ => true) true 27 v d p) :
    ∃ t, Reads W v t := by
 obtain ⟨a0, len, cap, rfl⟩ := okWide_slice Tryz.underlying27 hv
 obtain ⟨fuel, hf⟩ := h
 rcases open_ints Tryz.underlying27 Tryz.underlying3 cellsInt hf with ⟨hcs, hx⟩ | ⟨a, len', cap', zs, hcs, _, hl, hm, hz, hx, hcell, hwz⟩
 ·simp [Value.cells] at hcs
  obtain ⟨rfl, rfl, rfl⟩ := hcs
  exact ⟨[], Or.inl ⟨none, 0, rfl, rfl⟩⟩
 ·simp [Value.cells] at hcs
  obtain ⟨rfl, rfl, rfl⟩ := hcs
  rw [if_pos rfl] at hz
  rcases Nat.eq_zero_or_pos len with h0 | h0
  ·subst h0; exact ⟨[], Or.inl ⟨_, _, rfl, rfl⟩⟩
  ·obtain ⟨b, off, rfl, hc⟩ := _root_.Go.ints_at hcell (by omega)
   have hlen : (zs.take len).length = len := by rw [List.length_take]; omega
   unfold maxLen at hm
   refine ⟨zs.take len, Or.inr ⟨b, off, cap, by rw [hlen], ?_, by omega, ⟨by omega, by omega⟩, fun k hk => ?_⟩⟩
   ·exact World.block_lt_of_cell? W ⟨b, off, none⟩ (hc 0 (by omega))
   ·rw [hc k (by omega)]
    rw [hlen] at hk
    simp [hk]
set_option maxRecDepth 100000 in
theorem world_arg {H : Type} {enc : TypeId × Value → H} {W : World} {v : Value} {d : DataW H} {p : List MemPlace} {r : Reach} {b0 : Nat} (hv : Value.okWide Tryz.prog W r b0 55 v) (h : DataW.Trod enc Tryz.prog W 0 (fun _ => true) true 55 v d p) :
    ∃ u a b c : Int, v = .agg #[.int .i64 u, .int .i64 a, .int .i64 b, .int .i64 c] := by
 obtain ⟨cs, rfl, hsz⟩ := okWide_struct Tryz.underlying55 hv
 obtain ⟨c0, c1, c2, c3, rfl⟩ := Go.Joins.array4 (hsz.trans cellsWorld)
 obtain ⟨fuel, hf⟩ := h
 obtain ⟨y0, y1, n, _, _, h0, h1⟩ := trod_struct2 Tryz.underlying55 hf
 simp only [Value.cells, cellsInt, cellsArr] at h0 h1
 obtain ⟨u, e0, _, _⟩ := DataW.trod_int Tryz.underlying3 h0
 obtain ⟨xs, m, _, _, _, hxl, hx⟩ := DataW.trod_array Tryz.underlying53 h1
 have g0 := hx 0 (by omega)
 have g1 := hx 1 (by omega)
 have g2 := hx 2 (by omega)
 simp only [cellsInt] at g0 g1 g2
 rw [List.getElem?_eq_getElem (show 0 < xs.length by omega)] at g0
 rw [List.getElem?_eq_getElem (show 1 < xs.length by omega)] at g1
 rw [List.getElem?_eq_getElem (show 2 < xs.length by omega)] at g2
 obtain ⟨a, ea, _, _⟩ := DataW.trod_int Tryz.underlying3 g0
 obtain ⟨b, eb, _, _⟩ := DataW.trod_int Tryz.underlying3 g1
 obtain ⟨c, ec, _, _⟩ := DataW.trod_int Tryz.underlying3 g2
 simp at e0 ea eb ec
 subst e0 ea eb ec
 exact ⟨u, a, b, c, rfl⟩
set_option maxRecDepth 100000 in
theorem string_arg {H : Type} {enc : TypeId × Value → H} {W : World} {v : Value} {d : DataW H} {p : List MemPlace} {r : Reach} {b0 : Nat} (hv : Value.okWide Tryz.prog W r b0 9 v) (h : DataW.Trod enc Tryz.prog W 0 (fun _ => true) true 9 v d p) :
    ∃ s : ByteArray, v = .string s ∧ s.size ≤ 9223372036854775807 := by
 obtain ⟨s, rfl, _, _, hs⟩ := open_string Tryz.underlying9 hv h
 exact ⟨s, rfl, hs⟩
set_option maxRecDepth 100000 in
theorem int_arg {H : Type} {enc : TypeId × Value → H} {W : World} {v : Value} {d : DataW H} {p : List MemPlace} {r : Reach} {b0 : Nat} (hv : Value.okWide Tryz.prog W r b0 3 v) (h : DataW.Trod enc Tryz.prog W 0 (fun _ => true) true 3 v d p) :
    ∃ n : Int, v = .int .i64 n := by
 obtain ⟨n, rfl, _⟩ := open_int Tryz.underlying3 hv h
 exact ⟨n, rfl⟩
set_option maxRecDepth 100000 in
theorem cap_arg {H : Type} {enc : TypeId × Value → H} {W : World} {v : Value} {d : DataW H} {p : List MemPlace} {r : Reach} {b0 : Nat} (hv : Value.okWide Tryz.prog W r b0 27 v) (h : DataW.Trod enc Tryz.prog W 0 (fun _ => true) true 27 v d p) :
    ∃ ao len cap, v = .slice ao len cap ∧ len ≤ cap := by
 obtain ⟨a0, len, cap, rfl⟩ := okWide_slice Tryz.underlying27 hv
 obtain ⟨fuel, hf⟩ := h
 rcases open_ints Tryz.underlying27 Tryz.underlying3 cellsInt hf with ⟨hcs, hx⟩ | ⟨a, len', cap', zs, hcs, _, hl, _⟩
 ·simp [Value.cells] at hcs
  obtain ⟨rfl, rfl, rfl⟩ := hcs
  exact ⟨_, _, _, rfl, Nat.le_refl _⟩
 ·simp [Value.cells] at hcs
  obtain ⟨rfl, rfl, rfl⟩ := hcs
  exact ⟨_, _, _, rfl, hl⟩
end Go.Proofs.YtjmeakkmfeoigaaGreatDoor
namespace Go.Proofs.YtjmeakkmfeoigaaGreatDoor
open Go.ChangeShapes Go.WideShapes Go.ChangeAt Go.RowKit Go.WideMaps Go.WideElems
set_option maxRecDepth 100000
theorem cellsAtom : Tryz.prog.cellsOf 29 = 4 := by kernel_rfl
theorem cellsInts : Tryz.prog.cellsOf 27 = 1 := by kernel_rfl
theorem reads_trod {H : Type} {enc : TypeId × Value → H} {W : World} {fuel : Nat} {cs : List Value} {x : DataW H × List MemPlace} (h : DataW.trod enc Tryz.prog W 0 (fun _ => true) true fuel 27 cs = some x) :
    ∃ v t, cs = [v] ∧ Reads W v t := by
 rcases open_ints Tryz.underlying27 Tryz.underlying3 cellsInt h with ⟨hcs, hx⟩ | ⟨a, len, cap, zs, hcs, _, hl, hm, hz, hx, hcell, hwz⟩
 ·exact ⟨_, [], hcs, Or.inl ⟨none, 0, rfl, rfl⟩⟩
 ·refine ⟨_, zs.take len, hcs, ?_⟩
  rw [if_pos rfl] at hz
  rcases Nat.eq_zero_or_pos len with h0 | h0
  ·subst h0; exact Or.inl ⟨_, _, rfl, rfl⟩
  ·obtain ⟨b, off, rfl, hc⟩ := _root_.Go.ints_at hcell (by omega)
   have hlen : (zs.take len).length = len := by rw [List.length_take]; omega
   unfold maxLen at hm
   refine Or.inr ⟨b, off, cap, by rw [hlen], ?_, by omega, ⟨by omega, by omega⟩, fun k hk => ?_⟩
   ·exact World.block_lt_of_cell? W ⟨b, off, none⟩ (hc 0 (by omega))
   ·rw [hc k (by omega)]
    rw [hlen] at hk
    simp [hk]
theorem atom_trod {H : Type} {enc : TypeId × Value → H} {W : World} {fuel : Nat} {cs : List Value} {x : DataW H × List MemPlace} (h : DataW.trod enc Tryz.prog W 0 (fun _ => true) true fuel 29 cs = some x) :
    ∃ k vs vt n s t, cs = [.int .i64 k, vs, vt, .int .i64 n] ∧ Reads W vs s ∧ Reads W vt t := by
 obtain ⟨y0, y1, y2, y3, n, _, hl, h0, h1, h2, h3⟩ := Go.Joins.trod_struct4 Tryz.underlying29 h
 rw [cellsAtom] at hl
 obtain ⟨c0, c1, c2, c3, rfl⟩ : ∃ c0 c1 c2 c3, cs = [c0, c1, c2, c3] := by
  match cs, hl with
  | [a, b, c, d], _ => exact ⟨a, b, c, d, rfl⟩
 simp only [cellsInt, cellsInts] at h0 h1 h2 h3
 obtain ⟨k, e0, _, _⟩ := DataW.trod_int Tryz.underlying3 h0
 obtain ⟨vs, s, e1, r1⟩ := reads_trod h1
 obtain ⟨vt, t, e2, r2⟩ := reads_trod h2
 obtain ⟨m, e3, _, _⟩ := DataW.trod_int Tryz.underlying3 h3
 simp at e0 e1 e2 e3
 subst e0 e1 e2 e3
 exact ⟨k, _, _, m, s, t, rfl, r1, r2⟩
theorem atom_arg {H : Type} {enc : TypeId × Value → H} {W : World} {v : Value} {d : DataW H} {p : List MemPlace} {r : Reach} {b0 : Nat} (hv : Value.okWide Tryz.prog W r b0 29 v) (h : DataW.Trod enc Tryz.prog W 0 (fun _ => true) true 29 v d p) :
    ∃ k n vs vt s t, v = .agg #[.int .i64 k, vs, vt, .int .i64 n] ∧ Reads W vs s ∧ Reads W vt t := by
 obtain ⟨cs, rfl, hsz⟩ := okWide_struct Tryz.underlying29 hv
 obtain ⟨c0, c1, c2, c3, rfl⟩ := Go.Joins.array4 (hsz.trans cellsAtom)
 obtain ⟨fuel, hf⟩ := h
 obtain ⟨k, vs, vt, n, s, t, e, r1, r2⟩ := atom_trod hf
 simp [Value.cells] at e
 obtain ⟨rfl, rfl, rfl, rfl⟩ := e
 exact ⟨k, n, _, _, s, t, rfl, r1, r2⟩
end Go.Proofs.YtjmeakkmfeoigaaGreatDoor
namespace Go.Proofs.YtjmeakkmfeoigaaGreatDoor
open Go.ChangeShapes Go.WideShapes Go.ChangeAt Go.RowKit Go.WideMaps Go.WideElems
set_option maxRecDepth 100000
theorem cellsForm : Tryz.prog.cellsOf 39 = 2 := by kernel_rfl
theorem cellsAtoms : Tryz.prog.cellsOf 37 = 1 := by kernel_rfl
theorem atoms_of {w : World} (b off : Nat) (n : Nat) (h : ∀ i, i < n → ∃ a : At, AtomAt w b (off + i * 4) a) : ∃ ats : List At, ats.length = n ∧ ∀ i a, ats[i]? = some a → AtomAt w b (off + i * 4) a := by
 induction n with
 | zero => exact ⟨[], rfl, fun i a h => by simp at h⟩
 | succ n ih =>
  obtain ⟨ats, hl, ha⟩ := ih (fun i hi => h i (by omega))
  obtain ⟨a, haa⟩ := h n (by omega)
  refine ⟨ats ++ [a], by simp [hl], fun i x hx => ?_⟩
  rcases Nat.lt_or_ge i n with hi | hi
  ·rw [List.getElem?_append_left (by omega)] at hx; exact ha i x hx
  ·rw [List.getElem?_append_right (by omega), hl] at hx
   obtain rfl : i = n := by
    have := (List.getElem?_eq_some_iff.1 hx).1
    simp at this; omega
   simp at hx
   subst hx
   exact haa
theorem atoms_trod {H : Type} {enc : TypeId × Value → H} {W : World} {fuel : Nat} {cs : List Value} {x : DataW H × List MemPlace} (h : DataW.trod enc Tryz.prog W 0 (fun _ => true) true fuel 37 cs = some x) :
    ∃ v ats, cs = [v] ∧ ReadsA W v ats := by
 rcases Go.Deep.open_slice Tryz.underlying37 h with ⟨hcs, _⟩ | ⟨a, len, cap, m, n, D, Pl, hcs, _, hl, hm, hmm, _, hx⟩
 ·exact ⟨_, [], hcs, Or.inl ⟨none, 0, rfl, rfl⟩⟩
 ·rw [if_pos rfl] at hmm
  rcases Nat.eq_zero_or_pos len with h0 | h0
  ·subst h0; exact ⟨_, [], hcs, Or.inl ⟨_, _, rfl, rfl⟩⟩
  ·obtain ⟨b, off, spot⟩ := a
   have cell : ∀ i, i < m → ∀ j, j < 4 → ∃ cs', DataW.trod enc Tryz.prog W 0 (fun _ => true) true n 29 cs' = some (D i, Pl i) ∧ ∀ j, j < 4 → W.cell? ((Addr.add ⟨b, off, spot⟩ (i * 4)).add j) = cs'[j]? := by
    intro i hi j hj
    obtain ⟨cs', h1, h2⟩ := hx i hi
    rw [cellsAtom] at h1
    exact ⟨cs', h2, (World.cells?_some h1).2.2⟩
   have hspot : spot = none := by
    obtain ⟨cs', h2, hc⟩ := cell 0 (by omega) 0 (by omega)
    obtain ⟨k, vs, vt, n', s, t, rfl, _, _⟩ := atom_trod h2
    have := hc 0 (by omega)
    simpa [Addr.add] using World.cell?_spot this
   subst hspot
   obtain ⟨ats, hlen, has⟩ := atoms_of (w := W) b off len (fun i hi => by
    obtain ⟨cs', h2, hc⟩ := cell i (by omega) 0 (by omega)
    obtain ⟨k, vs, vt, n', s, t, rfl, r1, r2⟩ := atom_trod h2
    refine ⟨⟨k, s, t, n'⟩, vs, vt, ?_, ?_, ?_, ?_, r1, r2⟩
    ·have := hc 0 (by omega)
     rw [Go.WideShapes.add_plain, Go.WideShapes.add_plain] at this
     simpa using this
    ·have := hc 1 (by omega)
     rw [Go.WideShapes.add_plain, Go.WideShapes.add_plain] at this
     simpa using this
    ·have := hc 2 (by omega)
     rw [Go.WideShapes.add_plain, Go.WideShapes.add_plain] at this
     simpa using this
    ·have := hc 3 (by omega)
     rw [Go.WideShapes.add_plain, Go.WideShapes.add_plain] at this
     simpa using this)
   unfold maxLen at hm
   refine ⟨_, ats, hcs, Or.inr ⟨b, off, cap, by rw [hlen], ?_, by omega, ⟨by omega, by omega⟩, has⟩⟩
   obtain ⟨vs, vt, h1, _⟩ := has 0 (ats[0]'(by omega)) (List.getElem?_eq_getElem _)
   exact World.block_lt_of_cell? W ⟨b, off + 0 * 4, none⟩ h1
theorem form_arg {H : Type} {enc : TypeId × Value → H} {W : World} {v : Value} {d : DataW H} {p : List MemPlace} {r : Reach} {b0 : Nat} (hv : Value.okWide Tryz.prog W r b0 39 v) (h : DataW.Trod enc Tryz.prog W 0 (fun _ => true) true 39 v d p) :
    ∃ va vc ats c, v = .agg #[va, vc] ∧ ReadsA W va ats ∧ Reads W vc c := by
 obtain ⟨cs, rfl, hsz⟩ := okWide_struct Tryz.underlying39 hv
 obtain ⟨c0, c1, rfl⟩ : ∃ c0 c1, cs = #[c0, c1] := by
  obtain ⟨l⟩ := cs
  match l, hsz.trans cellsForm with
  | [c0, c1], _ => exact ⟨c0, c1, rfl⟩
 obtain ⟨fuel, hf⟩ := h
 obtain ⟨y0, y1, n, _, _, h0, h1⟩ := trod_struct2 Tryz.underlying39 hf
 simp only [Value.cells, cellsAtoms, cellsInts] at h0 h1
 obtain ⟨va, ats, e0, r0⟩ := atoms_trod h0
 obtain ⟨vc, c, e1, r1⟩ := reads_trod h1
 simp at e0 e1
 subst e0 e1
 exact ⟨_, _, ats, c, rfl, r0, r1⟩
end Go.Proofs.YtjmeakkmfeoigaaGreatDoor
namespace Go.Proofs.YtjmeakkmfeoigaaGreatDoor
open Go.ChangeShapes Go.WideShapes Go.ChangeAt Go.RowKit Go.WideMaps Go.WideElems
set_option maxRecDepth 100000
theorem atoms_arg {H : Type} {enc : TypeId × Value → H} {W : World} {v : Value} {d : DataW H} {p : List MemPlace} {r : Reach} {b0 : Nat} (hv : Value.okWide Tryz.prog W r b0 37 v) (h : DataW.Trod enc Tryz.prog W 0 (fun _ => true) true 37 v d p) :
    ∃ ats, ReadsA W v ats := by
 obtain ⟨a0, len, cap, rfl⟩ := okWide_slice Tryz.underlying37 hv
 obtain ⟨fuel, hf⟩ := h
 obtain ⟨u, ats, e, hr⟩ := atoms_trod hf
 simp [Value.cells] at e
 subst e
 exact ⟨ats, hr⟩
end Go.Proofs.YtjmeakkmfeoigaaGreatDoor