/-
  Facts and contracts that the statement leans on.
-/
import Derived.RangeFuncNested
import Derived.RangeFuncBound
import Derived.RangeFuncCalls
import Derived.Test.YtjmeakkmfeoigaaGreatDoorLibT8
import Derived.Test.YtjmeakkmfeoigaaGreatDoorLibT5
import Derived.Deep.Cut
import Derived.Handy
import Derived.Shelf.Abstract
import Derived.WalkKit
import Derived.OwnWalkIn
import Derived.TacticsInMore
import Derived.LoopNIn
import Derived.LoopIn
import Derived.Sort.LoopGhostIn
import Derived.Test.YtjmeakkmfeoigaaGreatDoorLibT7
import Derived.Stop.RegionWithIn
import Derived.Sort.CutIn
import Derived.Test.YtjmeakkmfeoigaaGreatDoorLibT10
import Derived.Deep.LoopGhost
import Derived.Test.YtjmeakkmfeoigaaGreatDoorLibT3
namespace Go.Proofs.YtjmeakkmfeoigaaGreatDoor
open Go.RowKit
structure Over (B : Nat) (W W' : World) : Prop where
 size : W.heap.size ≤ W'.heap.size
 same : ∀ b, B ≤ b → b < W.heap.size → W'.heap[b]? = W.heap[b]?
theorem Over.refl (B : Nat) (W : World) : Over B W W := ⟨Nat.le_refl _, fun _ _ _ => rfl⟩
theorem Over.trans {B : Nat} {X Y Z : World} (h : Over B X Y) (k : Over B Y Z) : Over B X Z :=
 ⟨Nat.le_trans h.size k.size, fun b hb hl => (k.same b hb (Nat.lt_of_lt_of_le hl h.size)).trans (h.same b hb hl)⟩
theorem Over.mono {B B' : Nat} {W W' : World} (h : Over B W W') (hB : B ≤ B') : Over B' W W' := ⟨h.size, fun b hb hl => h.same b (Nat.le_trans hB hb) hl⟩
theorem Over.of_below {B : Nat} {W W' : World} (h : Below W.heap.size W W') : Over B W W' := ⟨h.size, fun b _ hl => h.block b hl⟩
theorem Over.alloc {B : Nat} {X W : World} (h : Over B X W) (o : Obj) : Over B X (W.alloc o) := h.trans (.of_below ((Below.refl _ _).alloc (Nat.le_refl _) _))
theorem Over.setCell {B : Nat} {X W : World} (h : Over B X W) {p : Addr} (hp : p.block < B) (u : Value) : Over B X (W.setCell p u) :=
 h.trans ⟨by simp [World.setCell], fun b hb _ => Below.heap_setCell _ _ _ _ (by omega)⟩
theorem below_putObj {B l : Nat} (W : World) (o : Obj) (h : B ≤ l) : Below B W (W.putObj l o) :=
 ⟨rfl, rfl, rfl, by simp, fun k hk => World.putObj_heap_other (by omega)⟩
def SeqG {α : Type} (n : Nat) (P : Program) (g : Nat) (lb : Array Value) (encs : α → Array Value) (A : List α) (W : World) : Prop :=
 ∀ (l : Nat) (J Jx : Nat → World → Prop),
  (∀ k W1 W2, J k W1 → Below W.heap.size W1 W2 → J k W2) →
  (∀ k x W1, A[k]? = some x → J k W1 → YieldAt Fence.wide (n - 1) P l (encs x) W1 fun e W' =>
   (e = .returned (.bool true) ∧ J (k + 1) W' ∧ Over W.heap.size W1 W') ∨ (e = .returned (.bool false) ∧ Jx (k + 1) W')) →
  J 0 W →
  CallsIn Fence.wide n P g (#[.func (.yield l) #[] #[]] ++ lb) W fun e W' => (∃ v, e = .returned v) ∧ (J A.length W' ∨ ∃ k, k < A.length ∧ Jx (k + 1) W')
def roundPostG (B : Nat) (I Ix : Nat → World → Prop) (k : Nat) (W : World) : Exit → Act → World → Prop
 | .normal, _, W' => Over B W W' ∧ I (k + 1) W'
 | .ret, _, W' => Over B W W' ∧ Ix (k + 1) W'
 | _, _, _ => False
theorem wpIn_range_own {α : Type} {P : Program} {n : Nat} {g : Operand} {ps : Array Tmp} {assign body : Code} {Q : Exit → Act → World → Prop} {a : Act} {w : World}
    (h1 : 1 ≤ n) {gf : Nat} {lb : Array Value} (hg : a.eval g = .func (.func gf) #[] lb) (eg : ∀ args w, (callFunc gf args).run P w = .ok (.enter gf args) w)
    {encs : α → Array Value} {A : List α} (hseq : ∀ W, Below w.heap.size w W → SeqG (n - 1) P gf lb encs A W) (hps : ∀ x, (encs x).size = ps.size)
    (I Ix : Nat → World → Prop) (hI : ∀ k W1 W2, I k W1 → Below w.heap.size W1 W2 → I k W2) (hIx : ∀ k W1 W2, Ix k W1 → Below w.heap.size W1 W2 → Ix k W2) (h0 : I 0 w)
    (hround : ∀ (l k : Nat) (x : α) (W : World), A[k]? = some x → w.heap.size ≤ l → l < W.heap.size → I k W →
     assign.wpIn (Fence.wide.inRound l) (n - 1 - 1) P (Exit.then (fun a1 W1 => Over w.heap.size W W1 ∧ ∀ o, body.wpIn (Fence.wide.inRound l) (n - 1 - 1) P (roundPostG w.heap.size I Ix k (W1.putObj l o)) a1 (W1.putObj l o)) (fun _ _ _ => False))
      { tmps := (ps.zip (encs x)).foldl (fun t (p, v) => t.setIfInBounds p v) a.tmps, defers := [] } W)
    (hdone : ∀ (D : Nat) (W : World), w.heap.size ≤ D → I A.length W → W.heap[D]? = some (.deferred (some [])) → Q .normal { a with defers := { target := .collected D, args := #[] } :: a.defers } W)
    (hstop : ∀ (D k : Nat) (W : World), w.heap.size ≤ D → k < A.length → Ix (k + 1) W → W.heap[D]? = some (.deferred (some [])) → Code.ret.wpIn Fence.wide n P Q { a with defers := { target := .collected D, args := #[] } :: a.defers } W) :
    (Code.rangeFunc g ps assign body).wpIn Fence.wide n P Q a w := by
 refine wpIn_rangeFunc ?_
 intro fn hfn
 rw [show Fence.wide.round = none from rfl]
 obtain ⟨rec, hrec⟩ : ∃ rec : LoopState → Option Code → Loop, rec = fun st pe => { state := st, pending := pe, fn, tmps := a.tmps, params := ps, assign, body, defers := w.heap.size } := ⟨_, rfl⟩
 obtain ⟨W1, hW1⟩ : ∃ W1, (w.alloc (.deferred (some []))).alloc (.loop (rec .ready none)) = W1 := ⟨_, rfl⟩
 have hs1 : W1.heap.size = w.heap.size + 1 + 1 := by rw [← hW1, World.size_alloc, World.size_alloc]
 have hL1 : W1.heap[w.heap.size + 1]? = some (.loop (rec .ready none)) := by
  rw [← hW1]; have := World.alloc_heap_new (w.alloc (.deferred (some []))) (.loop (rec .ready none)); rwa [World.size_alloc] at this
 have hK1 : W1.heap[w.heap.size]? = some (.deferred (some [])) := by
  rw [← hW1]; exact (Below.heap_alloc _ _ _ (by simp)).trans (World.alloc_heap_new w _)
 have hb1 : Below w.heap.size w W1 := by
  rw [← hW1]; exact ((Below.refl _ w).alloc (Nat.le_refl _) _).alloc (by simp) _
 have hI1 : I 0 W1 := hI _ _ _ h0 hb1
 refine ⟨w.heap.size + 1, [{ target := .collected w.heap.size, args := #[] }], W1, { target := .fn (.func gf) lb, args := #[.func (.yield (w.heap.size + 1)) #[] #[]] }, W1, gf,
  #[.func (.yield (w.heap.size + 1)) #[] #[]] ++ lb, W1, ?_, ?_, ?_, ?_, fun _ => h1, ?_⟩
 ·rw [← hW1, hrec]; exact run_enterLoop_outer _ _ _ _ _
 ·simp only [resolve, hg]
  simp [go_sem]
 ·intro f' _; exact trivial
 ·simp [invoke, go_sem, eg]
 ·refine (hseq W1 hb1 (w.heap.size + 1)
   (fun k W => I k W ∧ W.heap[w.heap.size + 1]? = some (.loop (rec .ready none)) ∧ W.heap[w.heap.size]? = some (.deferred (some [])))
   (fun k W => Ix k W ∧ W.heap[w.heap.size + 1]? = some (.loop (rec .done (some .ret))) ∧ W.heap[w.heap.size]? = some (.deferred (some [])))
   (fun k X Y hs hb => ⟨hI k X Y hs.1 (hb.mono (by omega)), (hb.block _ (by omega)).trans hs.2.1, (hb.block _ (by omega)).trans hs.2.2⟩)
   ?_ ⟨hI1, hL1, hK1⟩).mono ?_
  ·rintro k x W hx ⟨hi, hl, hk⟩
   have hlt : w.heap.size + 1 < W.heap.size := (Array.getElem?_eq_some_iff.1 hl).1
   have hy := run_yield (P := P) (args := encs x) hl (by rw [hrec]; exact hps x)
   rw [hrec] at hy
   refine ⟨fn, _, assign, body, hy, roundIn_of_wpIn hfn (wpIn_mono (hround _ k x W hx (by omega) hlt hi) ?_)⟩
   intro e a1 Wa hp
   cases e with
   | normal =>
    obtain ⟨ha, hb⟩ := hp
    have hla : Wa.heap[w.heap.size + 1]? = some (.loop (rec .ready none)) := (ha.same _ (by omega) hlt).trans hl
    have hka : Wa.heap[w.heap.size]? = some (.deferred (some [])) := (ha.same _ (by omega) (by omega)).trans hk
    have hlta : w.heap.size + 1 < Wa.heap.size := (Array.getElem?_eq_some_iff.1 hla).1
    refine ⟨_, run_beginRound hla (by rw [hrec]), ?_⟩
    have hl2 : (Wa.putObj (w.heap.size + 1) (.loop { rec .ready none with state := .busy })).heap[w.heap.size + 1]? = some (.loop { rec .ready none with state := .busy }) := World.putObj_heap_same hlta
    have hk2 : (Wa.putObj (w.heap.size + 1) (.loop { rec .ready none with state := .busy })).heap[w.heap.size]? = some (.deferred (some [])) := (World.putObj_heap_other (by omega)).trans hka
    refine wpIn_mono (hb _) ?_
    have fin : ∀ (jump : Option Code) (W3 : World), Over w.heap.size (Wa.putObj (w.heap.size + 1) (.loop { rec .ready none with state := .busy })) W3 →
        (Instr.endRound (w.heap.size + 1) jump).run P W3 = .ok (.bool jump.isNone) (W3.putObj (w.heap.size + 1) (.loop (rec (if jump.isNone then .ready else .done) jump))) ∧
        (W3.putObj (w.heap.size + 1) (.loop (rec (if jump.isNone then .ready else .done) jump))).heap[w.heap.size + 1]? = some (.loop (rec (if jump.isNone then .ready else .done) jump)) ∧
        (W3.putObj (w.heap.size + 1) (.loop (rec (if jump.isNone then .ready else .done) jump))).heap[w.heap.size]? = some (.deferred (some [])) := fun jump W3 hk3 => by
     have hl3 := (hk3.same _ (by omega) (by simpa using hlta)).trans hl2
     have := run_endRound (P := P) jump hl3
     rw [hrec] at this ⊢
     exact ⟨this, World.putObj_heap_same (Array.getElem?_eq_some_iff.1 hl3).1, (World.putObj_heap_other (by omega)).trans ((hk3.same _ (by omega) (by simp; omega)).trans hk2)⟩
    rintro e a3 W3 hp
    cases e with
    | normal =>
     obtain ⟨hk3, hi3⟩ := hp
     obtain ⟨hr, hl4, hk4⟩ := fin none W3 hk3
     refine ⟨_, _, hr, .inl ⟨rfl, ⟨hI _ _ _ hi3 (below_putObj _ _ (by omega)), hl4, hk4⟩, ?_⟩⟩
     refine ⟨?_, fun b hb1 hb2 => ?_⟩
     ·have := ha.size
      have := hk3.size
      simp at this
      simp
      omega
     ·rw [hs1] at hb1
      have s1 := ha.size
      refine (World.putObj_heap_other (by omega)).trans ((hk3.same b (by omega) (by simp; omega)).trans ((World.putObj_heap_other (by omega)).trans (ha.same b (by omega) hb2)))
    | ret =>
     obtain ⟨hk3, hi3⟩ := hp
     obtain ⟨hr, hl4, hk4⟩ := fin (some .ret) W3 hk3
     exact ⟨_, _, hr, .inr ⟨rfl, hIx _ _ _ hi3 (below_putObj _ _ (by omega)), hl4, hk4⟩⟩
    | exit id => exact hp.elim
    | goto t => exact hp.elim
    | panic ch => exact hp.elim
    | outgrown => exact hp.elim
   | ret => exact hp.elim
   | exit id => exact hp.elim
   | goto t => exact hp.elim
   | panic ch => exact hp.elim
   | outgrown => exact hp.elim
  ·rintro e W2 ⟨⟨v, rfl⟩, (⟨hi, hl, hk⟩ | ⟨k, hkl, hi, hl, hk⟩)⟩
   ·exact ⟨none, _, by have := run_endLoop (P := P) hl (by rw [hrec]; simp); rw [hrec] at this; exact this, hdone _ _ (Nat.le_refl _) (hI _ _ _ hi (below_putObj _ _ (by omega))) ((World.putObj_heap_other (by omega)).trans hk)⟩
   ·exact ⟨some .ret, _, by have := run_endLoop (P := P) hl (by rw [hrec]; simp); rw [hrec] at this; exact this, hstop _ k _ (Nat.le_refl _) hkl (hIx _ _ _ hi (below_putObj _ _ (by omega))) ((World.putObj_heap_other (by omega)).trans hk)⟩
end Go.Proofs.YtjmeakkmfeoigaaGreatDoor
namespace Go.Proofs.YtjmeakkmfeoigaaGreatDoor
open Go.ChangeShapes Go.WideShapes Go.ChangeAt Go.RowKit
set_option maxRecDepth 100000
theorem arr8_put (N : Nat → Int) {f : Nat} (hf : f < 8) (x : Int) : (arr8 N).setIfInBounds f (.int .i64 x) = arr8 (putN N f x) := by
 rcases eight hf with rfl | rfl | rfl | rfl | rfl | rfl | rfl | rfl <;> simp [arr8, putN]
theorem Blk.putN {w : World} {G : Nat} {T : TypeId} {N : Nat → Int} (h : Blk w G T (arr8 N)) {f : Nat} (hf : f < 8) (x : Int) : Blk (w.setCell ⟨G, f, none⟩ (.int .i64 x)) G T (arr8 (putN N f x)) := by
 have := h.set f (.int .i64 x)
 rw [arr8_put N hf] at this
 exact this
theorem Blk.at8 {w : World} {G : Nat} {T : TypeId} {N : Nat → Int} (h : Blk w G T (arr8 N)) {f : Nat} (hf : f < 8) : w.cell? ⟨G, f, none⟩ = some (.int .i64 (N f)) := by rw [h.cell, arr8_get _ hf]
set_option maxHeartbeats 4000000 in
theorem after_any (N : Nat → Int) (w : World) (hN : ∀ f, f < 8 → 0 ≤ N f ∧ N f ≤ 6) :
    Calls Tryz.prog 117 #[.agg #[.int .i64 (N 0), .int .i64 (N 1), .int .i64 (N 2), .int .i64 (N 3), .int .i64 (N 4), .int .i64 (N 5), .int .i64 (N 6), .int .i64 (N 7)]] w (Bk w (.tuple #[.agg (arr8 (afterO N)), .bool (!(lastTo N 8 == 0))])) := by
 obtain ⟨Z, hZ⟩ : ∃ Z : Nat → Int, Z = zeroC := ⟨_, rfl⟩
 obtain ⟨w1, hw1⟩ := nm ((w.alloc (.cells #[.int .i64 (N 0), .int .i64 (N 1), .int .i64 (N 2), .int .i64 (N 3), .int .i64 (N 4), .int .i64 (N 5), .int .i64 (N 6), .int .i64 (N 7)] 122)).alloc (.cells #[.int .i64 0, .int .i64 0, .int .i64 0, .int .i64 0, .int .i64 0, .int .i64 0, .int .i64 0, .int .i64 0] 122))
 have HW : Hid (Below w.heap.size w w1) := by unfold Hid; rw [hw1]; exact (below_alloc1 _ _).alloc (by simp) _
 have HK0 : Hid (Blk w1 w.heap.size 122 (arr8 N)) := by unfold Hid; rw [hw1]; exact (Blk.new _ _ _).old _
 have HK1 : Hid (Blk w1 (w.heap.size + 1) 122 (arr8 Z)) := by
  unfold Hid; rw [hw1, hZ]
  have := Blk.new (w.alloc (.cells (arr8 N) 122)) 122 (arr8 zeroC)
  simp only [World.size_alloc] at this
  exact this
 have HX : Hid (∀ k, k < 8 → w1.cell? ⟨w.heap.size, k, none⟩ = some (.int .i64 (N k))) := fun k hk => HK0.out.at8 hk
 have HN := hide hN
 have HZ := hide hZ
 clear hN hZ
 go_enter Tryz.func117, Tryz.ntmps117
 go_wp2_with fail
 rw [← hw1]
 clear hw1
 go_loop [4, 7] (fun l i => ∃ k : Nat, k ≤ 8 ∧ i = .int .i64 k ∧ l = .int .i64 (lastTo N k)) (fun _ i => 8 - (intOf i).toNat)
 case atStart => exact ⟨0, Nat.zero_le _, rfl, rfl⟩
 case round =>
  obtain ⟨k, hk, rfl, rfl⟩ := hrel
  by_cases hlt : k < 8
  ·have hc := HX.out k hlt
   have hp0 := HN.out k hlt
   obtain ⟨x, hx⟩ := nm (N k)
   rw [← hx] at hc hp0
   have HXk := hide hx
   clear hx
   by_cases hp : 0 < x
   ·have HS : Hid (lastTo N (k + 1) = k) := by unfold Hid lastTo; rw [if_pos (by rw [← HXk.out]; exact hp)]
    go_wp2
    go_round
    case rel => exact ⟨k + 1, by omega, by go_num, by rw [HS.out]⟩
    case measure => simp [intOf]; omega
   ·have HS : Hid (lastTo N (k + 1) = lastTo N k) := by unfold Hid; rw [lastTo, if_neg (by rw [← HXk.out]; exact hp)]
    go_wp2
    go_round
    case rel => exact ⟨k + 1, by omega, by go_num, by rw [HS.out]⟩
    case measure => simp [intOf]; omega
  ·obtain rfl : k = 8 := by omega
   have hL8 := lastTo_lt N 8
   have HO : Hid (afterO N = if lastTo N 8 = 0 then zeroC else afterL N (lastTo N 8)) := rfl
   obtain ⟨L, hL⟩ := nm (lastTo N 8)
   rw [← hL] at hL8 HO ⊢
   have HLL := hide hL
   clear hL
   by_cases h0 : L = 0
   ·subst h0
    have HO2 : Hid (afterO N = Z) := by unfold Hid; rw [HO.out, HZ.out]; rfl
    obtain ⟨r0, r1, r2, r3, r4, r5, r6, r7⟩ := HK1.out.cells8
    obtain ⟨f0, f1, f2, f3, f4, f5, f6, f7⟩ := HK1.out.frozen8
    go_wp2
    have hld := load8 (put8_blk HK1.out zeroC)
    refine bodyPost_ret (v := .tuple #[.agg (arr8 zeroC), .bool false]) ?_ rfl ⟨?_, ?_⟩
    ·rw [results_cell_tmp rfl]
     unfold put8 at hld
     simp [asAddr, Result.andThen, hld, zeroC] at hld ⊢
    ·rw [HO2.out, HZ.out, ← HLL.out]; rfl
    ·exact put8_below HW.out (by omega) zeroC
   ·obtain ⟨m, hm⟩ : ∃ m, L = m + 1 := ⟨L - 1, by omega⟩
    subst hm
    have hm8 : m + 1 < 8 := hL8 (by omega)
    clear hL8 h0
    have HO2 : Hid (afterO N = putN (putN (putN N (m + 1) 0) m (N m + 1)) 7 (N (m + 1) - 1)) := by
     unfold Hid; rw [HO.out, if_neg (by omega)]; rfl
    have eL : ((m + 1 : Nat) : Int) = (m : Int) + 1 := by omega
    rw [eL]
    clear eL
    have hx1 := HN.out (m + 1) hm8
    have hx2 := HN.out m (by omega)
    have c1 : w1.cell? ⟨w.heap.size, m + 1, none⟩ = some (.int .i64 (N (m + 1))) := HX.out _ hm8
    have z1 : w1.frozen? ⟨w.heap.size, m + 1, none⟩ = false := HK0.out.frozen _
    obtain ⟨x, hx⟩ := nm (N (m + 1))
    obtain ⟨y, hy⟩ := nm (N m)
    rw [← hx] at c1 hx1
    rw [← hy] at hx2
    have HXx := hide hx
    have HXy := hide hy
    clear hx hy
    obtain ⟨w2, hw2⟩ := nm (w1.setCell ⟨w.heap.size, m + 1, none⟩ (.int .i64 0))
    have HB2 : Hid (Below w.heap.size w w2) := by unfold Hid; rw [hw2]; exact HW.out.setCell (by simp) _
    have H2 : Hid (Blk w2 w.heap.size 122 (arr8 (putN N (m + 1) 0))) := by unfold Hid; rw [hw2]; exact HK0.out.putN hm8 0
    have R2 : Hid (Blk w2 (w.heap.size + 1) 122 (arr8 Z)) := by unfold Hid; rw [hw2]; exact HK1.out.far (by omega) _ _
    go_upto_region 12 with fail
    rw [← hw2]
    clear hw2 c1 z1
    have c2 : w2.cell? ⟨w.heap.size, m, none⟩ = some (.int .i64 y) := by rw [H2.out.at8 (by omega), putN_other _ (by omega), HXy.out]
    have z2 : w2.frozen? ⟨w.heap.size, m, none⟩ = false := H2.out.frozen _
    obtain ⟨w3, hw3⟩ := nm (w2.setCell ⟨w.heap.size, m, none⟩ (.int .i64 (y + 1)))
    have HB3 : Hid (Below w.heap.size w w3) := by unfold Hid; rw [hw3]; exact HB2.out.setCell (by simp) _
    have H3 : Hid (Blk w3 w.heap.size 122 (arr8 (putN (putN N (m + 1) 0) m (y + 1)))) := by unfold Hid; rw [hw3]; exact H2.out.putN (by omega) _
    have R3 : Hid (Blk w3 (w.heap.size + 1) 122 (arr8 Z)) := by unfold Hid; rw [hw3]; exact R2.out.far (by omega) _ _
    go_upto_region 13 with fail
    rw [← hw3]
    clear hw3 c2 z2
    have c3 := H3.out.at8 (f := 7) (by omega)
    have z3 : w3.frozen? ⟨w.heap.size, 7, none⟩ = false := H3.out.frozen _
    obtain ⟨w4, hw4⟩ := nm (w3.setCell ⟨w.heap.size, 7, none⟩ (.int .i64 (x - 1)))
    have HB4 : Hid (Below w.heap.size w w4) := by unfold Hid; rw [hw4]; exact HB3.out.setCell (by simp) _
    obtain ⟨M, hM⟩ := nm (afterO N)
    have H4 : Hid (Blk w4 w.heap.size 122 (arr8 M)) := by
     unfold Hid; rw [hw4, hM, HO2.out, ← HXx.out, ← HXy.out]; exact H3.out.putN (by omega) _
    have R4 : Hid (Blk w4 (w.heap.size + 1) 122 (arr8 Z)) := by unfold Hid; rw [hw4]; exact R3.out.far (by omega) _ _
    go_upto_region 14 with fail
    rw [← hw4]
    clear hw4 c3 z3
    have HM := hide hM
    clear hM
    obtain ⟨n0, n1, n2, n3, n4, n5, n6, n7⟩ := H4.out.cells8
    obtain ⟨r0, r1, r2, r3, r4, r5, r6, r7⟩ := R4.out.cells8
    obtain ⟨f0, f1, f2, f3, f4, f5, f6, f7⟩ := R4.out.frozen8
    go_wp2
    have hld := load8 (put8_blk R4.out M)
    refine bodyPost_ret (v := .tuple #[.agg (arr8 M), .bool true]) ?_ rfl ⟨?_, ?_⟩
    ·rw [results_cell_tmp rfl]
     unfold put8 at hld
     simp [asAddr, Result.andThen, hld]
    ·rw [← HM.out, ← HLL.out]; rfl
    ·exact put8_below HB4.out (by omega) M
end Go.Proofs.YtjmeakkmfeoigaaGreatDoor
namespace Go.Proofs.YtjmeakkmfeoigaaGreatDoor
open Go.ChangeShapes Go.WideShapes Go.ChangeAt Go.RowKit
set_option maxRecDepth 100000
theorem fitCheck_ok (n : Nat) (hn : n ≤ 6) (w : World) : Calls Tryz.prog 116 #[.int .i64 n] w (Sk w .nilIface) := by
 have h : okB (n : Int) 0 = true := ok_zero (by omega) (by omega)
 go_enter Tryz.func116, Tryz.ntmps116
 go_wp2_with fail
 go_at_call 27
 refine (check_ok _ _ h _).mono ?_
 rintro e w' ⟨rfl, rfl⟩
 go_wp2
 go_ret
 exact ⟨rfl, rfl⟩
theorem fitCheck_no (u : Int) (hu : ¬ (0 ≤ u ∧ u ≤ 6)) (w : World) : Calls Tryz.prog 116 #[.int .i64 u] w (Sk w (.iface 64 (.int .i64 1))) := by
 have h : okB u 0 = false := okB_not.2 fun h => hu ⟨h.1, h.2.1⟩
 go_enter Tryz.func116, Tryz.ntmps116
 go_wp2_with fail
 go_at_call 27
 refine (check_no _ _ h _).mono ?_
 rintro e w' ⟨rfl, rfl⟩
 go_wp2
 go_ret
 exact ⟨rfl, rfl⟩
theorem fitAll_any (u : Int) (w : World) : Calls Tryz.prog 77 #[.int .i64 u] w fun e w' => e = .returned (.func (.func 115) #[] #[.pointer (some ⟨w.heap.size, 0, none⟩)]) ∧ w' = w.alloc (.cells #[.int .i64 u] 3) := by
 go_enter Tryz.func77, Tryz.ntmps77
 go_wp2
 go_ret
 exact ⟨rfl, rfl⟩
end Go.Proofs.YtjmeakkmfeoigaaGreatDoor
namespace Go.Proofs.YtjmeakkmfeoigaaGreatDoor
open Go.ChangeShapes Go.WideShapes Go.ChangeAt Go.RowKit
set_option maxRecDepth 100000
theorem every_first (u : Nat) : ∃ M, (everyC u)[0]? = some M ∧ ∀ g, g < 8 → M g = if g = 7 then (u : Int) else 0 := by
 obtain ⟨M, h1, h2⟩ := allF_head 7 u fun _ => 0
 have hl : (allF 7 u fun _ => 0) = everyC u := rfl
 rw [hl] at h1
 refine ⟨M, h1, fun g hg => ?_⟩
 obtain ⟨h3, h4⟩ := everyC_sum (List.mem_of_getElem? h1)
 have e : sumN M 8 = M 0 + M 1 + M 2 + M 3 + M 4 + M 5 + M 6 + M 7 := by
  show (((((((((0 : Int) + M 0) + M 1) + M 2) + M 3) + M 4) + M 5) + M 6) + M 7) = _
  omega
 have a0 := h3 0 (by omega)
 have a1 := h3 1 (by omega)
 have a2 := h3 2 (by omega)
 have a3 := h3 3 (by omega)
 have a4 := h3 4 (by omega)
 have a5 := h3 5 (by omega)
 have a6 := h3 6 (by omega)
 rcases eight hg with rfl | rfl | rfl | rfl | rfl | rfl | rfl | rfl
 ·rw [if_neg (by omega)]; omega
 ·rw [if_neg (by omega)]; omega
 ·rw [if_neg (by omega)]; omega
 ·rw [if_neg (by omega)]; omega
 ·rw [if_neg (by omega)]; omega
 ·rw [if_neg (by omega)]; omega
 ·rw [if_neg (by omega)]; omega
 ·rw [if_pos rfl]; exact h2
def enc8 (M : Nat → Int) : Array Value := #[.agg #[.int .i64 (M 0), .int .i64 (M 1), .int .i64 (M 2), .int .i64 (M 3), .int .i64 (M 4), .int .i64 (M 5), .int .i64 (M 6), .int .i64 (M 7)]]
theorem Blk.over {B G : Nat} {W W' : World} {T : TypeId} {cs : Array Value} (h : Blk W G T cs) (hO : Over B W W') (hB : B ≤ G) : Blk W' G T cs := by
 unfold Blk; rw [hO.same G hB h.lt]; exact h
set_option maxHeartbeats 4000000 in
theorem iter_any (u : Nat) (hu : u ≤ 6) (n : Nat) (hn : 1 ≤ n) (Bu : Nat) (W : World) (hB : W.cell? ⟨Bu, 0, none⟩ = some (.int .i64 u)) :
    SeqG n Tryz.prog 115 #[.pointer (some ⟨Bu, 0, none⟩)] enc8 (everyC u) W := by
 intro l J Jx hJ hY h0
 obtain ⟨M0, hM0, hM0'⟩ := every_first u
 obtain ⟨A, hA⟩ := nm (everyC u)
 have HST : Hid (∀ (i : Nat) (M : Nat → Int), A[i]? = some M → (lastTo M 8 ≠ 0 ∧ ∃ M', A[i + 1]? = some M' ∧ ∀ f, f < 8 → afterN M f = M' f) ∨ (lastTo M 8 = 0 ∧ i + 1 = A.length)) := fun i M hi => by
  rw [hA] at hi ⊢; exact every_steps hu hi
 have HBO : Hid (∀ (i : Nat) (M : Nat → Int), A[i]? = some M → ∀ f, f < 8 → 0 ≤ M f ∧ M f ≤ 6) := fun i M hi f hf => by
  rw [hA] at hi
  have := (everyC_sum (List.mem_of_getElem? hi)).1 f hf
  omega
 have HCk : Hid (∀ W, Calls Tryz.prog 116 #[.int .i64 u] W (Sk W .nilIface)) := fun W => fitCheck_ok u hu W
 rw [← hA] at hM0 hY ⊢
 clear hA hu
 have HY : Hid (∀ (k : Nat) (x : Nat → Int) (W1 : World), A[k]? = some x → J k W1 → YieldAt Fence.wide (n - 1) Tryz.prog l #[.agg #[.int .i64 (x 0), .int .i64 (x 1), .int .i64 (x 2), .int .i64 (x 3), .int .i64 (x 4), .int .i64 (x 5), .int .i64 (x 6), .int .i64 (x 7)]] W1 fun e W' =>
     (e = .returned (.bool true) ∧ J (k + 1) W' ∧ Over W.heap.size W1 W') ∨ (e = .returned (.bool false) ∧ Jx (k + 1) W')) := hY
 have HJ := hide hJ
 clear hY hJ
 have e8 : Hid (arr8 M0 = #[.int .i64 0, .int .i64 0, .int .i64 0, .int .i64 0, .int .i64 0, .int .i64 0, .int .i64 0, .int .i64 u]) := by
  unfold Hid arr8
  rw [hM0' 0 (by omega), hM0' 1 (by omega), hM0' 2 (by omega), hM0' 3 (by omega), hM0' 4 (by omega), hM0' 5 (by omega), hM0' 6 (by omega), hM0' 7 (by omega)]
  rfl
 have H0 := hide h0
 have HM0 := hide hM0
 clear hM0' h0 hM0
 refine callsIn_of_wp Tryz.func115 rfl trivial ?_ rfl
 simp only [Tryz.ntmps115, List.size_toArray, List.length_cons, List.length_nil, Nat.reduceAdd, Nat.reduceSub, Array.replicate_succ, Array.replicate_zero, List.push_toArray, List.append_toArray, List.nil_append, List.cons_append]
 have hBu : Bu < W.heap.size := World.block_lt_of_cell? _ _ hB
 have hBa : (W.drew.alloc (.cells #[.int .i64 0, .int .i64 0, .int .i64 0, .int .i64 0, .int .i64 0, .int .i64 0, .int .i64 0, .int .i64 0] 122)).cell? ⟨Bu, 0, none⟩ = some (.int .i64 u) := (World.cell?_alloc_lt _ _ _ hBu).trans hB
 gi_upto_region 0 with fail
 gi_cut [3, 4] from 5 (fun p ok wr => p = .pointer (some ⟨W.heap.size, 0, none⟩) ∧ ok = .bool true ∧ Below W.heap.size W wr ∧ Blk wr W.heap.size 122 (arr8 M0))
 case first =>
  gi_region_with (refine ⟨trivial, ?_⟩; gi_at_call 116; refine (callsIn_wide.2 (HCk.out _)).mono ?_; rintro e w8 ⟨rfl, rfl⟩)
  all_goals (try gi_wp2)
  all_goals gi_meet
  all_goals exact ⟨rfl, rfl, (below_alloc1 W _).drew, by rw [e8.out]; exact (Blk.new W _ _).drew⟩
 case rest =>
 obtain ⟨rfl, rfl, hb1, hk1⟩ := hcut
 have HK1 : Hid (Blk wc W.heap.size 122 (arr8 M0)) := hk1
 have HJ1 : Hid (J 0 wc) := HJ.out _ _ _ H0.out hb1
 clear hb1 hk1
 gi_wp2
 gi_loopg [4] (A.length) (fun gk ok wr => (∃ (k : Nat) (M : Nat → Int), ok = .bool true ∧ A[k]? = some M ∧ gk = A.length - k ∧ J k wr ∧ Blk wr W.heap.size 122 (arr8 M)) ∨ (ok = .bool false ∧ J A.length wr))
 case atStart => exact Or.inl ⟨0, M0, rfl, HM0.out, rfl, HJ1.out, HK1.out⟩
 case round =>
  rcases hrel with ⟨k, M, rfl, hM, hg, hj, hk⟩ | ⟨rfl, hj⟩
  ·have HM := hide hM
   have HG := hide hg
   have HKk : Hid (Blk wr W.heap.size 122 (arr8 M)) := hk
   have HL : Hid (k < A.length) := (List.getElem?_eq_some_iff.1 hM).1
   obtain ⟨fn, tmps, assign, body, hy, hR⟩ := HY.out k M wr hM hj
   obtain ⟨x0, x1, x2, x3, x4, x5, x6, x7⟩ := hk.cells8
   clear hM hg hk hj
   gi_wp2
   refine hR.mono ?_
   rintro e W3 (⟨rfl, hJ3, hO3⟩ | ⟨rfl, hJx3⟩)
   ·have HJ3 := hide hJ3
    have HK3 : Hid (Blk W3 W.heap.size 122 (arr8 M)) := HKk.out.over hO3 (Nat.le_refl _)
    obtain ⟨M', hM'⟩ := nm (afterO M)
    obtain ⟨ok, hok⟩ : ∃ b, b = !(lastTo M 8 == 0) := ⟨_, rfl⟩
    have HAf : Hid (∀ W, Calls Tryz.prog 117 #[.agg #[.int .i64 (M 0), .int .i64 (M 1), .int .i64 (M 2), .int .i64 (M 3), .int .i64 (M 4), .int .i64 (M 5), .int .i64 (M 6), .int .i64 (M 7)]] W (Bk W (.tuple #[.agg #[.int .i64 (M' 0), .int .i64 (M' 1), .int .i64 (M' 2), .int .i64 (M' 3), .int .i64 (M' 4), .int .i64 (M' 5), .int .i64 (M' 6), .int .i64 (M' 7)], .bool ok]))) := fun W => by
     rw [hM', hok]; exact after_any M W (HBO.out k M HM.out)
    have HM' := hide hM'
    have Hok := hide hok
    clear hJ3 hO3 x0 x1 x2 x3 x4 x5 x6 x7 hy hR hM' hok
    obtain ⟨x0, x1, x2, x3, x4, x5, x6, x7⟩ := HK3.out.cells8
    gi_wp2_with fail
    refine ⟨trivial, ?_⟩
    gi_at_call 117
    refine (callsIn_wide.2 (HAf.out _)).mono ?_
    rintro e W4 ⟨rfl, hb4⟩
    have HK4 := hide (HK3.out.below hb4)
    have HJ4 : Hid (J (k + 1) W4) := HJ.out _ _ _ HJ3.out (hb4.mono (Nat.le_of_lt HK3.out.lt))
    clear hb4 x0 x1 x2 x3 x4 x5 x6 x7
    obtain ⟨x0, x1, x2, x3, x4, x5, x6, x7⟩ := HK4.out.cells8
    obtain ⟨f0, f1, f2, f3, f4, f5, f6, f7⟩ := HK4.out.frozen8
    gi_wp2
    have hJ5 : J (k + 1) (put8 W4 W.heap.size M') := HJ.out _ _ _ HJ4.out (put8_below (Below.refl _ _) (Nat.le_refl _) _)
    rcases HST.out k M HM.out with ⟨h0, M2, hM2, he⟩ | ⟨h0, he⟩
    ·gi_roundg (A.length - (k + 1))
     case rel =>
      refine Or.inl ⟨k + 1, M2, ?_, hM2, rfl, hJ5, ?_⟩
      ·rw [Hok.out]; simp [h0]
      ·have hb := put8_blk HK4.out M'
       have e : arr8 M' = arr8 M2 := arr8_same fun f hf => by rw [HM'.out]; unfold afterO; rw [if_neg h0]; exact he f hf
       rw [e] at hb
       exact hb
     case measure => have := HL.out; rw [HG.out]; omega
    ·gi_roundg 0
     case rel => exact Or.inr ⟨by rw [Hok.out, h0]; rfl, by rw [← he]; exact hJ5⟩
     case measure => have := HL.out; rw [HG.out]; omega
   ·gi_wp2
    go_end0
    exact ⟨⟨_, rfl⟩, .inr ⟨k, HL.out, hJx3⟩⟩
  ·have HJe := hide hj
   clear hj
   gi_wp2
   refine ⟨fun _ _ => trivial, ?_⟩
   gi_wp2
   go_end0
   exact ⟨⟨_, rfl⟩, .inl HJe.out⟩
theorem Blk.keep {B G : Nat} {W W' : World} {T : TypeId} {cs : Array Value} (h : Blk W G T cs) (hb : Below B W W') (hG : G < B) : Blk W' G T cs := by
 unfold Blk; rw [hb.block G hG]; exact h
theorem Blk.putO {G l : Nat} {W : World} {T : TypeId} {cs : Array Value} (h : Blk W G T cs) (o : Obj) (hl : G ≠ l) : Blk (W.putObj l o) G T cs := by
 unfold Blk; rw [World.putObj_heap_other hl]; exact h
theorem results_two {fn : Func} {p q : Tmp} {ty tz : TypeId} (h : fn.results = #[.cell p ty, .cell q tz]) (tmps : Array Value) (P : Program) (w : World) :
    (results fn tmps).run P w = ((asAddr (tmps.getD p undef)).run P w).andThen fun a w1 => ((loadVar ty a).run P w1).andThen fun v w2 => ((asAddr (tmps.getD q undef)).run P w2).andThen fun b w3 => ((loadVar tz b).run P w3).andThen fun u w4 => .ok (.tuple #[v, u]) w4 := by
 simp only [results, h]
 simp [Sem.run_bind, Result.andThen]
theorem loadE {W : World} {R : Nat} {v : Value} (h : Blk W R 24 #[v]) : (loadVar 24 ⟨R, 0, none⟩).run Tryz.prog W = .ok v W := by
 have hc : W.cell? ⟨R, 0, none⟩ = some v := h.cell 0
 simp [loadVar, Tryz.isAgg24, Result.andThen, hc]
theorem five_new (w : World) (o0 o1 o2 o3 o4 : Obj) :
    (((((w.alloc o0).alloc o1).alloc o2).alloc o3).alloc o4).heap.size = w.heap.size + 5 ∧
    (((((w.alloc o0).alloc o1).alloc o2).alloc o3).alloc o4).heap[w.heap.size]? = some o0 ∧
    (((((w.alloc o0).alloc o1).alloc o2).alloc o3).alloc o4).heap[w.heap.size + 1]? = some o1 ∧
    (((((w.alloc o0).alloc o1).alloc o2).alloc o3).alloc o4).heap[w.heap.size + 1 + 1]? = some o2 ∧
    (((((w.alloc o0).alloc o1).alloc o2).alloc o3).alloc o4).heap[w.heap.size + 1 + 1 + 1]? = some o3 ∧
    (((((w.alloc o0).alloc o1).alloc o2).alloc o3).alloc o4).heap[w.heap.size + 1 + 1 + 1 + 1]? = some o4 ∧
    Below w.heap.size w (((((w.alloc o0).alloc o1).alloc o2).alloc o3).alloc o4) := by
 have s1 : (w.alloc o0).heap.size = w.heap.size + 1 := World.size_alloc _ _
 have s2 : ((w.alloc o0).alloc o1).heap.size = w.heap.size + 1 + 1 := by rw [World.size_alloc, s1]
 have s3 : (((w.alloc o0).alloc o1).alloc o2).heap.size = w.heap.size + 1 + 1 + 1 := by rw [World.size_alloc, s2]
 have s4 : ((((w.alloc o0).alloc o1).alloc o2).alloc o3).heap.size = w.heap.size + 1 + 1 + 1 + 1 := by rw [World.size_alloc, s3]
 refine ⟨by rw [World.size_alloc, s4], ?_, ?_, ?_, ?_, ?_, ?_⟩
 ·rw [Below.heap_alloc _ _ _ (by omega), Below.heap_alloc _ _ _ (by omega), Below.heap_alloc _ _ _ (by omega), Below.heap_alloc _ _ _ (by omega)]; exact World.alloc_heap_new _ _
 ·rw [Below.heap_alloc _ _ _ (by omega), Below.heap_alloc _ _ _ (by omega), Below.heap_alloc _ _ _ (by omega), ← s1]; exact World.alloc_heap_new _ _
 ·rw [Below.heap_alloc _ _ _ (by omega), Below.heap_alloc _ _ _ (by omega), ← s2]; exact World.alloc_heap_new _ _
 ·rw [Below.heap_alloc _ _ _ (by omega), ← s3]; exact World.alloc_heap_new _ _
 ·rw [← s4]; exact World.alloc_heap_new _ _
 ·exact (((((Below.refl _ w).alloc (Nat.le_refl _) _).alloc (by omega) _).alloc (by omega) _).alloc (by omega) _).alloc (by omega) _
end Go.Proofs.YtjmeakkmfeoigaaGreatDoor
namespace Go.Proofs.YtjmeakkmfeoigaaGreatDoor
open Go.ChangeShapes Go.WideShapes Go.ChangeAt Go.RowKit
set_option maxRecDepth 100000
def RowAt (w : World) (b off : Nat) (r : Rw) : Prop := w.cell? ⟨b, off, none⟩ = some (.int .i64 (r.t 0)) ∧ w.cell? ⟨b, off + 1, none⟩ = some (.int .i64 (r.t 1)) ∧ w.cell? ⟨b, off + 2, none⟩ = some (.int .i64 (r.t 2)) ∧ w.cell? ⟨b, off + 3, none⟩ = some (.int .i64 (r.t 3)) ∧ w.cell? ⟨b, off + 4, none⟩ = some (.int .i64 (r.t 4)) ∧ w.cell? ⟨b, off + 5, none⟩ = some (.int .i64 (r.t 5)) ∧ w.cell? ⟨b, off + 6, none⟩ = some (.int .i64 (r.t 6)) ∧ w.cell? ⟨b, off + 7, none⟩ = some (.int .i64 (r.t 7)) ∧ w.cell? ⟨b, off + 8, none⟩ = some (.int .i64 r.m)
def ReadsR (w : World) (v : Value) (l : List Rw) : Prop :=
 (∃ ao cap, v = .slice ao 0 cap ∧ l = []) ∨ (∃ b off cap, v = .slice (some ⟨b, off, none⟩) l.length cap ∧ b < w.heap.size ∧ 0 < l.length ∧ (l.length ≤ 9223372036854775807 ∧ l.length ≤ cap) ∧ ∀ i r, l[i]? = some r → RowAt w b (off + i * 9) r)
theorem RowAt.below {w w' : World} {b off : Nat} {r : Rw} (h : RowAt w b off r) (hB : b < w.heap.size) (hb : Below w.heap.size w w') : RowAt w' b off r := by
 obtain ⟨h0, h1, h2, h3, h4, h5, h6, h7, h8⟩ := h
 exact ⟨by rw [hb.cell hB]; exact h0, by rw [hb.cell hB]; exact h1, by rw [hb.cell hB]; exact h2, by rw [hb.cell hB]; exact h3, by rw [hb.cell hB]; exact h4, by rw [hb.cell hB]; exact h5, by rw [hb.cell hB]; exact h6, by rw [hb.cell hB]; exact h7, by rw [hb.cell hB]; exact h8⟩
theorem ReadsR.below {w w' : World} {v : Value} {l : List Rw} (h : ReadsR w v l) (hb : Below w.heap.size w w') : ReadsR w' v l := by
 rcases h with h | ⟨b, off, cap, h1, h2, h3, h4, h5⟩
 ·exact Or.inl h
 ·exact Or.inr ⟨b, off, cap, h1, Nat.lt_of_lt_of_le h2 hb.size, h3, h4, fun i a ha => (h5 i a ha).below h2 hb⟩
theorem ReadsR.slice {w : World} {v : Value} {l : List Rw} (h : ReadsR w v l) : ∃ ao cap, v = .slice ao l.length cap ∧ l.length ≤ 9223372036854775807 := by
 rcases h with ⟨ao, cap, rfl, rfl⟩ | ⟨b, off, cap, rfl, _, _, h, _⟩
 ·exact ⟨ao, cap, rfl, by decide⟩
 ·exact ⟨_, cap, rfl, h.1⟩
theorem getD_row {l : List Rw} {k : Nat} (hk : k < l.length) (d : Rw) : l.getD k d = l[k] := by rw [List.getD_eq_getElem?_getD, List.getElem?_eq_getElem hk]; rfl
theorem noneR (a : Option Addr) (cap : Nat) (fv : Value) (w : World) :
    Calls Tryz.prog 154 #[.slice a 0 cap, fv] w (Bk w (.bool false)) := by
 have c : Calls Tryz.prog 184 #[.slice a 0 cap, fv] w (Sk w (.int .i64 (-1))) := by
  go_enter Tryz.func184, Tryz.ntmps184
  go_wp2
  go_loopw [5, 8] (fun _ i wr => i = .int .i64 0 ∧ w = wr) (fun _ _ _ => 0)
  case atStart => exact ⟨rfl, rfl⟩
  case round =>
   obtain ⟨rfl, rfl⟩ := hrel
   go_wp2
   go_ret
   exact ⟨rfl, rfl⟩
 go_enter Tryz.func154, Tryz.ntmps154
 go_wp2_with (go_at_call 184; refine c.mono ?_; rintro e w' ⟨rfl, rfl⟩)
 go_ret
 exact ⟨rfl, Below.refl _ _⟩
set_option maxHeartbeats 4000000 in
theorem idxR (n b off cap g : Nat) (us : Nat → Rw) (p : Nat → Bool) (w : World) (hl : n ≤ 9223372036854775807) (hB : b < w.heap.size) (hc : ∀ k, k < n → RowAt w b (off + k * 9) (us k))
    (eg : ∀ args w, (callFunc g args).run Tryz.prog w = .ok (.enter g args) w)
    (hp : ∀ W k, Below w.heap.size w W → k < n → Calls Tryz.prog g #[.agg #[.int .i64 ((us k).t 0), .int .i64 ((us k).t 1), .int .i64 ((us k).t 2), .int .i64 ((us k).t 3), .int .i64 ((us k).t 4), .int .i64 ((us k).t 5), .int .i64 ((us k).t 6), .int .i64 ((us k).t 7), .int .i64 (us k).m]] W (Bk W (.bool (p k)))) :
    Calls Tryz.prog 184 #[.slice (some ⟨b, off, none⟩) n cap, .func (.func g) #[] #[]] w fun e w' => (∃ r : Int, e = .returned (.int .i64 r) ∧ (0 ≤ r ↔ ∃ k, k < n ∧ p k = true)) ∧ Below w.heap.size w w' := by
 have HC : Hid (∀ W k, Below w.heap.size w W → k < n → RowAt W b (off + k * 9) (us k)) := fun W k hW hk => (hc k hk).below hB hW
 have HP := hide hp
 clear hc hp hB
 go_enter Tryz.func184, Tryz.ntmps184
 go_wp2
 go_loopw [5, 8] (fun _ i wr => ∃ k : Nat, k ≤ n ∧ i = .int .i64 k ∧ Below w.heap.size w wr ∧ Hid (∀ j, j < k → p j = false)) (fun _ i _ => n - (intOf i).toNat)
 case atStart => exact ⟨0, Nat.zero_le _, rfl, Below.refl _ _, fun j hj => absurd hj (Nat.not_lt_zero _)⟩
 case round =>
  obtain ⟨k, hk, rfl, hb0, A⟩ := hrel
  have HB := hide hb0
  clear hb0
  by_cases hlt : k < n
  ·have hcell := HC.out wr k HB.out hlt
   have hcall := HP.out wr k HB.out hlt
   unfold RowAt at hcell
   obtain ⟨T, hT⟩ := nm ((us k).t)
   obtain ⟨m, hm⟩ := nm ((us k).m)
   rw [← hT, ← hm] at hcell hcall
   clear hT hm
   obtain ⟨c0, c1, c2, c3, c4, c5, c6, c7, c8⟩ := hcell
   have hltz : (k : Int) < (n : Int) := by omega
   cases hq : p k with
   | true =>
    rw [hq] at hcall
    have HQ := hide hq
    have HCl := hide hcall
    clear hcall hq
    go_wp2_with (go_at_fn g; refine HCl.out.mono ?_; rintro e w' ⟨rfl, hb'⟩; have HB' : Hid (Below w.heap.size w w') := HB.out.trans (hb'.mono HB.out.size); clear hb')
    go_ret
    exact ⟨⟨_, rfl, fun _ => ⟨k, hlt, HQ.out⟩, fun _ => by omega⟩, HB'.out⟩
   | false =>
    rw [hq] at hcall
    have HQ := hide hq
    have HCl := hide hcall
    clear hcall hq
    go_wp2_with (go_at_fn g; refine HCl.out.mono ?_; rintro e w' ⟨rfl, hb'⟩; have HB' : Hid (Below w.heap.size w w') := HB.out.trans (hb'.mono HB.out.size); clear hb')
    go_roundw
    case rel =>
     refine ⟨k + 1, by omega, by go_num, HB'.out, fun j hj => ?_⟩
     by_cases e : j = k
     ·rw [e]; exact HQ.out
     ·exact A.out j (by omega)
    case measure => simp [intOf]; omega
  ·have hltz : ¬ (k : Int) < (n : Int) := by omega
   go_wp2
   go_ret
   refine ⟨⟨_, rfl, fun h => absurd h (by decide), fun ⟨j, hj, hpj⟩ => ?_⟩, HB.out⟩
   rw [A.out j (by omega)] at hpj; cases hpj
set_option maxHeartbeats 2000000 in
theorem someR (n b off cap g : Nat) (us : Nat → Rw) (p : Nat → Bool) (w : World) (hl : n ≤ 9223372036854775807) (hB : b < w.heap.size) (hc : ∀ k, k < n → RowAt w b (off + k * 9) (us k))
    (eg : ∀ args w, (callFunc g args).run Tryz.prog w = .ok (.enter g args) w)
    (hp : ∀ W k, Below w.heap.size w W → k < n → Calls Tryz.prog g #[.agg #[.int .i64 ((us k).t 0), .int .i64 ((us k).t 1), .int .i64 ((us k).t 2), .int .i64 ((us k).t 3), .int .i64 ((us k).t 4), .int .i64 ((us k).t 5), .int .i64 ((us k).t 6), .int .i64 ((us k).t 7), .int .i64 (us k).m]] W (Bk W (.bool (p k)))) (R : Bool) (hR : R = true ↔ ∃ k, k < n ∧ p k = true) :
    Calls Tryz.prog 154 #[.slice (some ⟨b, off, none⟩) n cap, .func (.func g) #[] #[]] w (Bk w (.bool R)) := by
 have c := idxR n b off cap g us p w hl hB hc eg hp
 clear hc hp eg hB hl
 go_enter Tryz.func154, Tryz.ntmps154
 go_wp2_with fail
 go_at_call 184
 refine c.mono ?_
 rintro e w' ⟨⟨r, rfl, hr⟩, hb⟩
 have HB := hide hb
 have HR : Hid (R = decide (0 ≤ r)) := by
  unfold Hid
  rw [Bool.eq_iff_iff, hR, decide_eq_true_eq, hr]
 clear hb hr hR c
 go_wp2
 go_ret
 exact ⟨back_b HR.out.symm, HB.out⟩
theorem anyR (l : List Rw) (v : Value) (g : Nat) (p : Rw → Bool) (w : World) (hv : ReadsR w v l) (eg : ∀ args w, (callFunc g args).run Tryz.prog w = .ok (.enter g args) w)
    (hp : ∀ W r, Below w.heap.size w W → r ∈ l → Calls Tryz.prog g #[.agg #[.int .i64 (r.t 0), .int .i64 (r.t 1), .int .i64 (r.t 2), .int .i64 (r.t 3), .int .i64 (r.t 4), .int .i64 (r.t 5), .int .i64 (r.t 6), .int .i64 (r.t 7), .int .i64 r.m]] W (Bk W (.bool (p r)))) :
    Calls Tryz.prog 154 #[v, .func (.func g) #[] #[]] w (Bk w (.bool (l.any p))) := by
 rcases hv with ⟨ao, cap, rfl, rfl⟩ | ⟨b, off, cap, rfl, hB, h0, ⟨hl, _⟩, hc⟩
 ·exact noneR ao cap _ w
 ·refine someR l.length b off cap g (fun k => l.getD k ⟨fun _ => 0, 0⟩) (fun k => p (l.getD k ⟨fun _ => 0, 0⟩)) w hl hB (fun k hk => ?_) eg (fun W k hW hk => ?_) _ ?_
  ·rw [getD_row hk]; exact hc k _ (List.getElem?_eq_getElem hk)
  ·rw [getD_row hk]; exact hp W _ hW (List.getElem_mem hk)
  ·rw [List.any_eq_true]
   constructor
   ·rintro ⟨m, hm, hpm⟩
    obtain ⟨k, hk, rfl⟩ := List.getElem_of_mem hm
    exact ⟨k, hk, by rw [getD_row hk]; exact hpm⟩
   ·rintro ⟨k, hk, hpk⟩
    rw [getD_row hk] at hpk
    exact ⟨l[k], List.getElem_mem hk, hpk⟩
set_option maxHeartbeats 4000000 in
theorem idxP (n b off cap P g : Nat) (us : Nat → Rw) (p : Nat → Bool) (w : World) (hl : n ≤ 9223372036854775807) (hB : b < w.heap.size) (hc : ∀ k, k < n → RowAt w b (off + k * 9) (us k))
    (eg : ∀ args w, (callFunc g args).run Tryz.prog w = .ok (.enter g args) w)
    (hp : ∀ W k, Below w.heap.size w W → k < n → Calls Tryz.prog g #[.agg #[.int .i64 ((us k).t 0), .int .i64 ((us k).t 1), .int .i64 ((us k).t 2), .int .i64 ((us k).t 3), .int .i64 ((us k).t 4), .int .i64 ((us k).t 5), .int .i64 ((us k).t 6), .int .i64 ((us k).t 7), .int .i64 (us k).m], .pointer (some ⟨P, 0, none⟩)] W (Bk W (.bool (p k)))) :
    Calls Tryz.prog 184 #[.slice (some ⟨b, off, none⟩) n cap, .func (.func g) #[] #[.pointer (some ⟨P, 0, none⟩)]] w fun e w' => (∃ r : Int, e = .returned (.int .i64 r) ∧ (0 ≤ r ↔ ∃ k, k < n ∧ p k = true)) ∧ Below w.heap.size w w' := by
 have HC : Hid (∀ W k, Below w.heap.size w W → k < n → RowAt W b (off + k * 9) (us k)) := fun W k hW hk => (hc k hk).below hB hW
 have HP := hide hp
 clear hc hp hB
 go_enter Tryz.func184, Tryz.ntmps184
 go_wp2
 go_loopw [5, 8] (fun _ i wr => ∃ k : Nat, k ≤ n ∧ i = .int .i64 k ∧ Below w.heap.size w wr ∧ Hid (∀ j, j < k → p j = false)) (fun _ i _ => n - (intOf i).toNat)
 case atStart => exact ⟨0, Nat.zero_le _, rfl, Below.refl _ _, fun j hj => absurd hj (Nat.not_lt_zero _)⟩
 case round =>
  obtain ⟨k, hk, rfl, hb0, A⟩ := hrel
  have HB := hide hb0
  clear hb0
  by_cases hlt : k < n
  ·have hcell := HC.out wr k HB.out hlt
   have hcall := HP.out wr k HB.out hlt
   unfold RowAt at hcell
   obtain ⟨T, hT⟩ := nm ((us k).t)
   obtain ⟨m, hm⟩ := nm ((us k).m)
   rw [← hT, ← hm] at hcell hcall
   clear hT hm
   obtain ⟨c0, c1, c2, c3, c4, c5, c6, c7, c8⟩ := hcell
   have hltz : (k : Int) < (n : Int) := by omega
   cases hq : p k with
   | true =>
    rw [hq] at hcall
    have HQ := hide hq
    have HCl := hide hcall
    clear hcall hq
    go_wp2_with (go_at_fn g; refine HCl.out.mono ?_; rintro e w' ⟨rfl, hb'⟩; have HB' : Hid (Below w.heap.size w w') := HB.out.trans (hb'.mono HB.out.size); clear hb')
    go_ret
    exact ⟨⟨_, rfl, fun _ => ⟨k, hlt, HQ.out⟩, fun _ => by omega⟩, HB'.out⟩
   | false =>
    rw [hq] at hcall
    have HQ := hide hq
    have HCl := hide hcall
    clear hcall hq
    go_wp2_with (go_at_fn g; refine HCl.out.mono ?_; rintro e w' ⟨rfl, hb'⟩; have HB' : Hid (Below w.heap.size w w') := HB.out.trans (hb'.mono HB.out.size); clear hb')
    go_roundw
    case rel =>
     refine ⟨k + 1, by omega, by go_num, HB'.out, fun j hj => ?_⟩
     by_cases e : j = k
     ·rw [e]; exact HQ.out
     ·exact A.out j (by omega)
    case measure => simp [intOf]; omega
  ·have hltz : ¬ (k : Int) < (n : Int) := by omega
   go_wp2
   go_ret
   refine ⟨⟨_, rfl, fun h => absurd h (by decide), fun ⟨j, hj, hpj⟩ => ?_⟩, HB.out⟩
   rw [A.out j (by omega)] at hpj; cases hpj
set_option maxHeartbeats 2000000 in
theorem someP (n b off cap P g : Nat) (us : Nat → Rw) (p : Nat → Bool) (w : World) (hl : n ≤ 9223372036854775807) (hB : b < w.heap.size) (hc : ∀ k, k < n → RowAt w b (off + k * 9) (us k))
    (eg : ∀ args w, (callFunc g args).run Tryz.prog w = .ok (.enter g args) w)
    (hp : ∀ W k, Below w.heap.size w W → k < n → Calls Tryz.prog g #[.agg #[.int .i64 ((us k).t 0), .int .i64 ((us k).t 1), .int .i64 ((us k).t 2), .int .i64 ((us k).t 3), .int .i64 ((us k).t 4), .int .i64 ((us k).t 5), .int .i64 ((us k).t 6), .int .i64 ((us k).t 7), .int .i64 (us k).m], .pointer (some ⟨P, 0, none⟩)] W (Bk W (.bool (p k)))) (R : Bool) (hR : R = true ↔ ∃ k, k < n ∧ p k = true) :
    Calls Tryz.prog 154 #[.slice (some ⟨b, off, none⟩) n cap, .func (.func g) #[] #[.pointer (some ⟨P, 0, none⟩)]] w (Bk w (.bool R)) := by
 have c := idxP n b off cap P g us p w hl hB hc eg hp
 clear hc hp eg hB hl
 go_enter Tryz.func154, Tryz.ntmps154
 go_wp2_with fail
 go_at_call 184
 refine c.mono ?_
 rintro e w' ⟨⟨r, rfl, hr⟩, hb⟩
 have HB := hide hb
 have HR : Hid (R = decide (0 ≤ r)) := by
  unfold Hid
  rw [Bool.eq_iff_iff, hR, decide_eq_true_eq, hr]
 clear hb hr hR c
 go_wp2
 go_ret
 exact ⟨back_b HR.out.symm, HB.out⟩
theorem anyP (l : List Rw) (v : Value) (P g : Nat) (p : Rw → Bool) (w : World) (hv : ReadsR w v l) (eg : ∀ args w, (callFunc g args).run Tryz.prog w = .ok (.enter g args) w)
    (hp : ∀ W r, Below w.heap.size w W → r ∈ l → Calls Tryz.prog g #[.agg #[.int .i64 (r.t 0), .int .i64 (r.t 1), .int .i64 (r.t 2), .int .i64 (r.t 3), .int .i64 (r.t 4), .int .i64 (r.t 5), .int .i64 (r.t 6), .int .i64 (r.t 7), .int .i64 r.m], .pointer (some ⟨P, 0, none⟩)] W (Bk W (.bool (p r)))) :
    Calls Tryz.prog 154 #[v, .func (.func g) #[] #[.pointer (some ⟨P, 0, none⟩)]] w (Bk w (.bool (l.any p))) := by
 rcases hv with ⟨ao, cap, rfl, rfl⟩ | ⟨b, off, cap, rfl, hB, h0, ⟨hl, _⟩, hc⟩
 ·exact noneR ao cap _ w
 ·refine someP l.length b off cap P g (fun k => l.getD k ⟨fun _ => 0, 0⟩) (fun k => p (l.getD k ⟨fun _ => 0, 0⟩)) w hl hB (fun k hk => ?_) eg (fun W k hW hk => ?_) _ ?_
  ·rw [getD_row hk]; exact hc k _ (List.getElem?_eq_getElem hk)
  ·rw [getD_row hk]; exact hp W _ hW (List.getElem_mem hk)
  ·rw [List.any_eq_true]
   constructor
   ·rintro ⟨m, hm, hpm⟩
    obtain ⟨k, hk, rfl⟩ := List.getElem_of_mem hm
    exact ⟨k, hk, by rw [getD_row hk]; exact hpm⟩
   ·rintro ⟨k, hk, hpk⟩
    rw [getD_row hk] at hpk
    exact ⟨l[k], List.getElem_mem hk, hpk⟩
end Go.Proofs.YtjmeakkmfeoigaaGreatDoor
namespace Go.Proofs.YtjmeakkmfeoigaaGreatDoor
open Go.ChangeShapes Go.WideShapes Go.ChangeAt Go.RowKit
set_option maxRecDepth 100000 in
set_option maxHeartbeats 4000000 in
theorem fcounts_any (N : Nat → Int) (w : World) :
    Calls Tryz.prog 118 #[.agg #[.int .i64 (N 0), .int .i64 (N 1), .int .i64 (N 2), .int .i64 (N 3), .int .i64 (N 4), .int .i64 (N 5), .int .i64 (N 6), .int .i64 (N 7)]] w (Bk w (errV (countsFault N))) := by
 obtain ⟨w1, hw1⟩ := nm (w.alloc (.cells #[.int .i64 (N 0), .int .i64 (N 1), .int .i64 (N 2), .int .i64 (N 3), .int .i64 (N 4), .int .i64 (N 5), .int .i64 (N 6), .int .i64 (N 7)] 122))
 have HW : Hid (Below w.heap.size w w1) := by unfold Hid; rw [hw1]; exact below_alloc1 _ _
 have HX : Hid (∀ k, k < 8 → w1.cell? ⟨w.heap.size, k, none⟩ = some (.int .i64 (N k))) := fun k hk => by
  rw [hw1]
  rcases eight hk with rfl | rfl | rfl | rfl | rfl | rfl | rfl | rfl <;> simp
 obtain ⟨F, hF⟩ := nm (countsFault N)
 have HF1 : Hid (∀ k, k < 8 → ¬ (0 ≤ N k ∧ N k ≤ 6) → errV F = .iface 64 (.int .i64 1)) := fun k hk h => by
  rw [hF]; unfold countsFault; rw [if_neg (by rw [eachB_no hk h]; decide)]; rfl
 have HF2 : Hid ((∀ f, f < 8 → 0 ≤ N f ∧ N f ≤ 6) → (sumN N 8 ≤ 6 → errV F = .nilIface) ∧ (6 < sumN N 8 → errV F = .iface 64 (.int .i64 4))) := fun h => by
  rw [hF]; unfold countsFault; rw [if_pos (eachB_iff.2 h)]
  exact ⟨fun h' => by rw [if_pos h']; rfl, fun h' => by rw [if_neg (by omega)]; rfl⟩
 rw [← hF]
 clear hF
 go_enter Tryz.func118, Tryz.ntmps118
 go_wp2
 rw [← hw1]
 clear hw1
 go_loop [6] (fun i => ∃ k : Nat, k ≤ 8 ∧ i = .int .i64 k ∧ ∀ f, f < k → 0 ≤ N f ∧ N f ≤ 6) (fun i => 8 - (intOf i).toNat)
 case atStart => exact ⟨0, Nat.zero_le _, rfl, fun f hf => by omega⟩
 case round =>
  obtain ⟨k, hk, rfl, hall⟩ := hrel
  have HA := hide hall
  clear hall
  by_cases hlt : k < 8
  ·have hc := HX.out k hlt
   obtain ⟨x, hx⟩ := nm (N k)
   rw [← hx] at hc
   have HXk := hide hx
   clear hx
   by_cases h0 : x < 0
   ·have HE : Hid (errV F = .iface 64 (.int .i64 1)) := HF1.out k hlt (by rw [← HXk.out]; omega)
    go_wp2
    go_ret
    exact ⟨back_v HE.out.symm, HW.out⟩
   by_cases h6 : 6 < x
   ·have HE : Hid (errV F = .iface 64 (.int .i64 1)) := HF1.out k hlt (by rw [← HXk.out]; omega)
    go_wp2
    go_ret
    exact ⟨back_v HE.out.symm, HW.out⟩
   ·have HN : Hid (∀ f, f < k + 1 → 0 ≤ N f ∧ N f ≤ 6) := fun f hf => by
     rcases Nat.lt_or_ge f k with h' | h'
     ·exact HA.out f h'
     ·obtain rfl : f = k := by omega
      rw [← HXk.out]; omega
    go_wp2
    go_round
    case rel => exact ⟨k + 1, by omega, by go_num, HN.out⟩
    case measure => simp [intOf]; omega
  ·obtain rfl : k = 8 := by omega
   go_wp2
   go_loop [4, 21] (fun s i => ∃ k : Nat, k ≤ 8 ∧ i = .int .i64 k ∧ s = .int .i64 (sumN N k)) (fun _ i => 8 - (intOf i).toNat)
   case atStart => exact ⟨0, Nat.zero_le _, rfl, rfl⟩
   case round =>
    obtain ⟨k, hk, rfl, rfl⟩ := hrel
    by_cases hlt2 : k < 8
    ·have hc := HX.out k hlt2
     have p1 := sumN_le (N := N) (k := k) fun f hf => HA.out f (by omega)
     have p2 := HA.out k (by omega)
     have HS : Hid (sumN N (k + 1) = sumN N k + N k) := rfl
     go_wp2
     go_round
     case rel => exact ⟨k + 1, by omega, by go_num, by rw [HS.out]⟩
     case measure => simp [intOf]; omega
    ·obtain rfl : k = 8 := by omega
     by_cases h6 : sumN N 8 ≤ 6
     ·have HE : Hid (errV F = .nilIface) := (HF2.out HA.out).1 h6
      go_wp2
      go_ret
      exact ⟨back_v HE.out.symm, HW.out⟩
     ·have h6' : 6 < sumN N 8 := by omega
      have HE : Hid (errV F = .iface 64 (.int .i64 4)) := (HF2.out HA.out).2 h6'
      go_wp2
      go_ret
      exact ⟨back_v HE.out.symm, HW.out⟩
end Go.Proofs.YtjmeakkmfeoigaaGreatDoor