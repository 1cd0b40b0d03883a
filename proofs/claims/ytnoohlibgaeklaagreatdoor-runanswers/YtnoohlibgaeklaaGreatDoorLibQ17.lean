/-
  Facts and contracts that the statement leans on.
-/
import Derived.RangeFuncNested
import Derived.RangeFuncBound
import Derived.RangeFuncCalls
import Derived.Test.YtnoohlibgaeklaaGreatDoorLibQ10
import Derived.Deep.Cut
import Derived.Handy
import Derived.Shelf.Abstract
import Derived.WalkKit
import Derived.OwnWalkIn
import Derived.TacticsInMore
import Derived.LoopNIn
import Derived.LoopIn
import Derived.Sort.LoopGhostIn
import Derived.Stop.RegionWithIn
import Derived.Sort.CutIn
import Derived.Test.YtnoohlibgaeklaaGreatDoorLibQ9
import Derived.Test.YtnoohlibgaeklaaGreatDoorLibQ1
namespace Go.Proofs.YtnoohlibgaeklaaGreatDoor
open Go.RowKit
set_option maxRecDepth 100000
set_option maxHeartbeats 16000000
structure OverS (R S : Nat → Prop) (B : Nat) (W W' : World) : Prop where
 size : W.heap.size ≤ W'.heap.size
 same : ∀ b, (B ≤ b ∨ S b) → b < W.heap.size → ¬ R b → W'.heap[b]? = W.heap[b]?
theorem OverS.refl (R S : Nat → Prop) (B : Nat) (W : World) : OverS R S B W W := ⟨Nat.le_refl _, fun _ _ _ _ => rfl⟩
theorem OverS.trans {R S : Nat → Prop} {B : Nat} {X Y Z : World} (h : OverS R S B X Y) (k : OverS R S B Y Z) : OverS R S B X Z :=
 ⟨Nat.le_trans h.size k.size, fun b hb hl hr => (k.same b hb (Nat.lt_of_lt_of_le hl h.size) hr).trans (h.same b hb hl hr)⟩
theorem OverS.of_below {R S : Nat → Prop} {B : Nat} {W W' : World} (h : Bw W W') : OverS R S B W W' := ⟨h.size, fun b _ hl _ => h.block b hl⟩
theorem OverS.setCell {R S : Nat → Prop} {B : Nat} {X W : World} (h : OverS R S B X W) {p : Addr} (hp : p.block < B) (hs : ¬ S p.block) (u : Value) : OverS R S B X (W.setCell p u) :=
 ⟨Nat.le_trans h.size (by simp [World.setCell]), fun b hb hl hr => (Below.heap_setCell _ _ _ _ (by rcases hb with h | h; omega; intro e; exact hs (e ▸ h))).trans (h.same b hb hl hr)⟩
structure KeepS (R S : Nat → Prop) (B : Nat) (W W' : World) : Prop where
 rest : Below 0 W W'
 old : ∀ b, b < B → ¬ S b → W'.heap[b]? = W.heap[b]?
 own : ∀ b, R b → b < W.heap.size → W'.heap[b]? = W.heap[b]?
theorem below_putS {B l : Nat} (W : World) (o : Obj) (h : B ≤ l) : Below B W (W.putObj l o) :=
 ⟨rfl, rfl, rfl, by simp, fun k hk => World.putObj_heap_other (by omega)⟩
theorem KeepS.putObj {R S : Nat → Prop} {B l : Nat} (W : World) (o : Obj) (h : B ≤ l) (hr : ¬ R l) : KeepS R S B W (W.putObj l o) :=
 ⟨below_putS _ _ (Nat.zero_le _), fun b hb _ => World.putObj_heap_other (by omega), fun _ hb _ => World.putObj_heap_other (fun e => hr (e ▸ hb))⟩
def SeqS {α : Type} (n : Nat) (P : Program) (g : Nat) (lb : Array Value) (encs : α → Array Value) (A : List α) (S : Nat → Prop) (W : World) : Prop :=
 ∀ (l : Nat) (J : Nat → (Nat → Prop) → World → Prop) (Jx : Nat → World → Prop),
  (∀ k R W1 W2, J k R W1 → KeepS R S W.heap.size W1 W2 → J k R W2) →
  (∀ k x R W1, A[k]? = some x → J k R W1 → YieldAt Fence.wide (n - 1) P l (encs x) W1 fun e W' =>
   (e = .returned (.bool true) ∧ ∃ R', J (k + 1) R' W' ∧ OverS R S W.heap.size W1 W' ∧ ∀ b, R' b → R b ∨ W1.heap.size ≤ b) ∨ (e = .returned (.bool false) ∧ Jx (k + 1) W')) →
  J 0 (fun _ => False) W →
  CallsIn Fence.wide n P g (#[.func (.yield l) #[] #[]] ++ lb) W fun e W' => (∃ v, e = .returned v) ∧ ((∃ R, J A.length R W') ∨ ∃ k, k < A.length ∧ Jx (k + 1) W')
def roundPostS (R S : Nat → Prop) (B : Nat) (I : Nat → (Nat → Prop) → World → Prop) (Ix : Nat → World → Prop) (k : Nat) (W : World) : Exit → Act → World → Prop
 | .normal, _, W' => OverS R S B W W' ∧ ∃ R', I (k + 1) R' W' ∧ ∀ b, R' b → R b ∨ W.heap.size ≤ b
 | .ret, _, W' => OverS R S B W W' ∧ Ix (k + 1) W'
 | _, _, _ => False
theorem wpIn_range_ownS {α : Type} {P : Program} {n : Nat} {g : Operand} {ps : Array Tmp} {assign body : Code} {Q : Exit → Act → World → Prop} {a : Act} {w : World}
    (h1 : 1 ≤ n) {gf : Nat} {lb : Array Value} (hg : a.eval g = .func (.func gf) #[] lb) (eg : ∀ args w, (callFunc gf args).run P w = .ok (.enter gf args) w)
    {encs : α → Array Value} {A : List α} {S : Nat → Prop} (hS : ∀ b, S b → b < w.heap.size) (hseq : ∀ W, Bw w W → SeqS (n - 1) P gf lb encs A S W) (hps : ∀ x, (encs x).size = ps.size)
    (I : Nat → (Nat → Prop) → World → Prop) (Ix : Nat → World → Prop) (hI : ∀ k R W1 W2, I k R W1 → KeepS R S w.heap.size W1 W2 → I k R W2) (hIx : ∀ k W1 W2, Ix k W1 → Below w.heap.size W1 W2 → Ix k W2) (h0 : I 0 (fun _ => False) w)
    (hround : ∀ (l k : Nat) (x : α) (R : Nat → Prop) (W : World), A[k]? = some x → w.heap.size ≤ l → l < W.heap.size → ¬ R l → I k R W →
     assign.wpIn (Fence.wide.inRound l) (n - 1 - 1) P (Exit.then (fun a1 W1 => OverS (fun _ => False) S w.heap.size W W1 ∧ ∀ o, body.wpIn (Fence.wide.inRound l) (n - 1 - 1) P (roundPostS R S w.heap.size I Ix k (W1.putObj l o)) a1 (W1.putObj l o)) (fun _ _ _ => False))
      { tmps := (ps.zip (encs x)).foldl (fun t (p, v) => t.setIfInBounds p v) a.tmps, defers := [] } W)
    (hdone : ∀ (D : Nat) (R : Nat → Prop) (W : World), w.heap.size ≤ D → ¬ R D → I A.length R W → W.heap[D]? = some (.deferred (some [])) → Q .normal { a with defers := { target := .collected D, args := #[] } :: a.defers } W)
    (hstop : ∀ (D k : Nat) (W : World), w.heap.size ≤ D → k < A.length → Ix (k + 1) W → W.heap[D]? = some (.deferred (some [])) → Code.ret.wpIn Fence.wide n P Q { a with defers := { target := .collected D, args := #[] } :: a.defers } W) :
    (Code.rangeFunc g ps assign body).wpIn Fence.wide n P Q a w := by
 refine wpIn_rangeFunc ?_
 intro fn hfn
 rw [show Fence.wide.round = none from rfl]
 obtain ⟨rec, hrec⟩ : ∃ rec : LoopState → Option Code → Loop, rec = fun st pe => { state := st, pending := pe, fn, tmps := a.tmps, params := ps, assign, body, defers := w.heap.size } := ⟨_, rfl⟩
 obtain ⟨W1, hW1⟩ : ∃ W1, (w.alloc (.deferred (some []))).alloc (.loop (rec .ready none)) = W1 := ⟨_, rfl⟩
 have hs1 : W1.heap.size = w.heap.size + 1 + 1 := by rw [← hW1, World.size_alloc, World.size_alloc]
 have hL1 : W1.heap[w.heap.size + 1]? = some (.loop (rec .ready none)) := by
  rw [← hW1]; have := World.alloc_heap_new (w.alloc (.deferred (some []))) (.loop (rec .ready none)); rwa [World.size_alloc] at this
 have hK1 : W1.heap[w.heap.size]? = some (.deferred (some [])) := by
  rw [← hW1]; exact (Below.heap_alloc _ _ _ (by simp)).trans (World.alloc_heap_new w _)
 have hb1 : Bw w W1 := by
  rw [← hW1]; exact ((Below.refl _ w).alloc (Nat.le_refl _) _).alloc (by simp) _
 have hI1 : I 0 (fun _ => False) W1 := hI _ _ _ _ h0 ⟨hb1.mono (Nat.zero_le _), fun b hb _ => hb1.block b hb, fun _ h _ => h.elim⟩
 refine ⟨w.heap.size + 1, [{ target := .collected w.heap.size, args := #[] }], W1, { target := .fn (.func gf) lb, args := #[.func (.yield (w.heap.size + 1)) #[] #[]] }, W1, gf,
  #[.func (.yield (w.heap.size + 1)) #[] #[]] ++ lb, W1, ?_, ?_, ?_, ?_, fun _ => h1, ?_⟩
 ·rw [← hW1, hrec]; exact run_enterLoop_outer _ _ _ _ _
 ·simp only [resolve, hg]
  simp [go_sem]
 ·intro f' _; exact trivial
 ·simp [invoke, go_sem, eg]
 ·refine (hseq W1 hb1 (w.heap.size + 1)
   (fun k R W => I k R W ∧ (∀ b, R b → w.heap.size + 1 + 1 ≤ b) ∧ W.heap[w.heap.size + 1]? = some (.loop (rec .ready none)) ∧ W.heap[w.heap.size]? = some (.deferred (some [])))
   (fun k W => Ix k W ∧ W.heap[w.heap.size + 1]? = some (.loop (rec .done (some .ret))) ∧ W.heap[w.heap.size]? = some (.deferred (some [])))
   (fun k R X Y hs hb => ⟨hI k R X Y hs.1 ⟨hb.rest, fun b h1 h2 => hb.old b (by omega) h2, hb.own⟩, hs.2.1, (hb.old _ (by omega) (fun h => by have := hS _ h; omega)).trans hs.2.2.1, (hb.old _ (by omega) (fun h => by have := hS _ h; omega)).trans hs.2.2.2⟩)
   ?_ ⟨hI1, fun _ h => h.elim, hL1, hK1⟩).mono ?_
  ·rintro k x R W hx ⟨hi, hR, hl, hk⟩
   have hlt : w.heap.size + 1 < W.heap.size := (Array.getElem?_eq_some_iff.1 hl).1
   have hR1 : ¬ R (w.heap.size + 1) := fun h => by have := hR _ h; omega
   have hR0 : ¬ R w.heap.size := fun h => by have := hR _ h; omega
   have hy := run_yield (P := P) (args := encs x) hl (by rw [hrec]; exact hps x)
   rw [hrec] at hy
   refine ⟨fn, _, assign, body, hy, roundIn_of_wpIn hfn (wpIn_mono (hround _ k x R W hx (by omega) hlt hR1 hi) ?_)⟩
   intro e a1 Wa hp
   cases e with
   | normal =>
    obtain ⟨ha, hb⟩ := hp
    have hla : Wa.heap[w.heap.size + 1]? = some (.loop (rec .ready none)) := (ha.same _ (Or.inl (by omega)) hlt id).trans hl
    have hka : Wa.heap[w.heap.size]? = some (.deferred (some [])) := (ha.same _ (Or.inl (by omega)) (by omega) id).trans hk
    have hlta : w.heap.size + 1 < Wa.heap.size := (Array.getElem?_eq_some_iff.1 hla).1
    refine ⟨_, run_beginRound hla (by rw [hrec]), ?_⟩
    have hl2 : (Wa.putObj (w.heap.size + 1) (.loop { rec .ready none with state := .busy })).heap[w.heap.size + 1]? = some (.loop { rec .ready none with state := .busy }) := World.putObj_heap_same hlta
    have hk2 : (Wa.putObj (w.heap.size + 1) (.loop { rec .ready none with state := .busy })).heap[w.heap.size]? = some (.deferred (some [])) := (World.putObj_heap_other (by omega)).trans hka
    refine wpIn_mono (hb _) ?_
    have fin : ∀ (jump : Option Code) (W3 : World), OverS R S w.heap.size (Wa.putObj (w.heap.size + 1) (.loop { rec .ready none with state := .busy })) W3 →
        (Instr.endRound (w.heap.size + 1) jump).run P W3 = .ok (.bool jump.isNone) (W3.putObj (w.heap.size + 1) (.loop (rec (if jump.isNone then .ready else .done) jump))) ∧
        (W3.putObj (w.heap.size + 1) (.loop (rec (if jump.isNone then .ready else .done) jump))).heap[w.heap.size + 1]? = some (.loop (rec (if jump.isNone then .ready else .done) jump)) ∧
        (W3.putObj (w.heap.size + 1) (.loop (rec (if jump.isNone then .ready else .done) jump))).heap[w.heap.size]? = some (.deferred (some [])) := fun jump W3 hk3 => by
     have hl3 := (hk3.same _ (Or.inl (by omega)) (by simpa using hlta) hR1).trans hl2
     have := run_endRound (P := P) jump hl3
     rw [hrec] at this ⊢
     exact ⟨this, World.putObj_heap_same (Array.getElem?_eq_some_iff.1 hl3).1, (World.putObj_heap_other (by omega)).trans ((hk3.same _ (Or.inl (by omega)) (by simp; omega) hR0).trans hk2)⟩
    rintro e a3 W3 hp
    cases e with
    | normal =>
     obtain ⟨hk3, R', hi3, hr3⟩ := hp
     obtain ⟨hr, hl4, hk4⟩ := fin none W3 hk3
     have hsz : W.heap.size ≤ Wa.heap.size := ha.size
     have hR' : ∀ b, R' b → w.heap.size + 1 + 1 ≤ b := fun b hb => by
      rcases hr3 b hb with h | h
      ·exact hR b h
      ·simp at h; omega
     refine ⟨_, _, hr, .inl ⟨rfl, R', ⟨hI _ _ _ _ hi3 (KeepS.putObj _ _ (by omega) fun h => by have := hR' _ h; omega), hR', hl4, hk4⟩, ?_, fun b hb => ?_⟩⟩
     ·refine ⟨?_, fun b hb1 hb2 hb3 => ?_⟩
      ·have := ha.size
       have := hk3.size
       simp at this
       simp
       omega
      ·rw [hs1] at hb1
       have hs2 := ha.size
       have hnS : b ≠ w.heap.size + 1 := by
        rcases hb1 with h | h
        ·omega
        ·have := hS _ h; omega
       have hb1' : w.heap.size ≤ b ∨ S b := by
        rcases hb1 with h | h
        ·exact Or.inl (by omega)
        ·exact Or.inr h
       refine (World.putObj_heap_other hnS).trans ((hk3.same b hb1' (by simp; omega) hb3).trans ((World.putObj_heap_other hnS).trans (ha.same b hb1' hb2 id)))
     ·rcases hr3 b hb with h | h
      ·exact Or.inl h
      ·right; simp at h; omega
    | ret =>
     obtain ⟨hk3, hi3⟩ := hp
     obtain ⟨hr, hl4, hk4⟩ := fin (some .ret) W3 hk3
     exact ⟨_, _, hr, .inr ⟨rfl, hIx _ _ _ hi3 (below_putS _ _ (by omega)), hl4, hk4⟩⟩
    | exit id => exact hp.elim
    | goto t => exact hp.elim
    | panic ch => exact hp.elim
    | outgrown => exact hp.elim
   | ret => exact hp.elim
   | exit id => exact hp.elim
   | goto t => exact hp.elim
   | panic ch => exact hp.elim
   | outgrown => exact hp.elim
  ·rintro e W2 ⟨⟨v, rfl⟩, (⟨R, hi, hR, hl, hk⟩ | ⟨k, hkl, hi, hl, hk⟩)⟩
   ·exact ⟨none, _, by have := run_endLoop (P := P) hl (by rw [hrec]; simp); rw [hrec] at this; exact this, hdone _ R _ (Nat.le_refl _) (fun h => by have := hR _ h; omega) (hI _ _ _ _ hi (KeepS.putObj _ _ (by omega) fun h => by have := hR _ h; omega)) ((World.putObj_heap_other (by omega)).trans hk)⟩
   ·exact ⟨some .ret, _, by have := run_endLoop (P := P) hl (by rw [hrec]; simp); rw [hrec] at this; exact this, hstop _ k _ (Nat.le_refl _) hkl (hIx _ _ _ hi (below_putS _ _ (by omega))) ((World.putObj_heap_other (by omega)).trans hk)⟩
structure Over (B : Nat) (W W' : World) : Prop where
 size : W.heap.size ≤ W'.heap.size
 same : ∀ b, B ≤ b → b < W.heap.size → W'.heap[b]? = W.heap[b]?
theorem Over.refl (B : Nat) (W : World) : Over B W W := ⟨Nat.le_refl _, fun _ _ _ => rfl⟩
theorem Over.trans {B : Nat} {X Y Z : World} (h : Over B X Y) (k : Over B Y Z) : Over B X Z :=
 ⟨Nat.le_trans h.size k.size, fun b hb hl => (k.same b hb (Nat.lt_of_lt_of_le hl h.size)).trans (h.same b hb hl)⟩
theorem Over.mono {B B' : Nat} {W W' : World} (h : Over B W W') (hB : B ≤ B') : Over B' W W' := ⟨h.size, fun b hb hl => h.same b (Nat.le_trans hB hb) hl⟩
theorem Over.of_below {B : Nat} {W W' : World} (h : Bw W W') : Over B W W' := ⟨h.size, fun b _ hl => h.block b hl⟩
theorem Over.alloc {B : Nat} {X W : World} (h : Over B X W) (o : Obj) : Over B X (W.alloc o) := h.trans (.of_below ((Below.refl _ _).alloc (Nat.le_refl _) _))
theorem Over.setCell {B : Nat} {X W : World} (h : Over B X W) {p : Addr} (hp : p.block < B) (u : Value) : Over B X (W.setCell p u) :=
 h.trans ⟨by simp [World.setCell], fun b hb _ => Below.heap_setCell _ _ _ _ (by omega)⟩
theorem below_putObj {B l : Nat} (W : World) (o : Obj) (h : B ≤ l) : Below B W (W.putObj l o) :=
 ⟨rfl, rfl, rfl, by simp, fun k hk => World.putObj_heap_other (by omega)⟩
structure OverR (R : Nat → Prop) (B : Nat) (W W' : World) : Prop where
 size : W.heap.size ≤ W'.heap.size
 same : ∀ b, B ≤ b → b < W.heap.size → ¬ R b → W'.heap[b]? = W.heap[b]?
theorem OverR.of {R : Nat → Prop} {B : Nat} {W W' : World} (h : Over B W W') : OverR R B W W' := ⟨h.size, fun b hb hl _ => h.same b hb hl⟩
theorem OverR.trans {R : Nat → Prop} {B : Nat} {X Y Z : World} (h : OverR R B X Y) (k : OverR R B Y Z) : OverR R B X Z :=
 ⟨Nat.le_trans h.size k.size, fun b hb hl hr => (k.same b hb (Nat.lt_of_lt_of_le hl h.size) hr).trans (h.same b hb hl hr)⟩
structure KeepR (R : Nat → Prop) (B : Nat) (W W' : World) : Prop where
 below : Below B W W'
 own : ∀ b, R b → b < W.heap.size → W'.heap[b]? = W.heap[b]?
theorem KeepR.of_below {R : Nat → Prop} {B : Nat} {W W' : World} (h : Bw W W') (hB : B ≤ W.heap.size) : KeepR R B W W' := ⟨h.mono hB, fun b _ hl => h.block b hl⟩
theorem KeepR.putObj {R : Nat → Prop} {B l : Nat} (W : World) (o : Obj) (h : B ≤ l) (hr : ¬ R l) : KeepR R B W (W.putObj l o) :=
 ⟨below_putObj _ _ h, fun _ hb _ => World.putObj_heap_other (fun e => hr (e ▸ hb))⟩
def SeqR {α : Type} (n : Nat) (P : Program) (g : Nat) (lb : Array Value) (encs : α → Array Value) (A : List α) (W : World) : Prop :=
 ∀ (l : Nat) (J : Nat → (Nat → Prop) → World → Prop) (Jx : Nat → World → Prop),
  (∀ k R W1 W2, J k R W1 → KeepR R W.heap.size W1 W2 → J k R W2) →
  (∀ k x R W1, A[k]? = some x → J k R W1 → YieldAt Fence.wide (n - 1) P l (encs x) W1 fun e W' =>
   (e = .returned (.bool true) ∧ ∃ R', J (k + 1) R' W' ∧ OverR R W.heap.size W1 W' ∧ ∀ b, R' b → R b ∨ W1.heap.size ≤ b) ∨ (e = .returned (.bool false) ∧ Jx (k + 1) W')) →
  J 0 (fun _ => False) W →
  CallsIn Fence.wide n P g (#[.func (.yield l) #[] #[]] ++ lb) W fun e W' => (∃ v, e = .returned v) ∧ ((∃ R, J A.length R W') ∨ ∃ k, k < A.length ∧ Jx (k + 1) W')
def roundPostR (R : Nat → Prop) (B : Nat) (I : Nat → (Nat → Prop) → World → Prop) (Ix : Nat → World → Prop) (k : Nat) (W : World) : Exit → Act → World → Prop
 | .normal, _, W' => OverR R B W W' ∧ ∃ R', I (k + 1) R' W' ∧ ∀ b, R' b → R b ∨ W.heap.size ≤ b
 | .ret, _, W' => OverR R B W W' ∧ Ix (k + 1) W'
 | _, _, _ => False
theorem SeqR.toS {α : Type} {n : Nat} {P : Program} {g : Nat} {lb : Array Value} {encs : α → Array Value} {A : List α} {W : World} (h : SeqR n P g lb encs A W) : SeqS n P g lb encs A (fun _ => False) W :=
 fun l J Jx hJ hY h0 => h l J Jx (fun k R W1 W2 j hk => hJ k R W1 W2 j ⟨hk.below.mono (Nat.zero_le _), fun b hb _ => hk.below.block b hb, hk.own⟩)
  (fun k x R W1 hx hj => by
   obtain ⟨fn, t, ac, bo, hy, hR⟩ := hY k x R W1 hx hj
   exact ⟨fn, t, ac, bo, hy, hR.mono fun e W' h => h.imp (fun ⟨h1, R', h2, h3, h4⟩ => ⟨h1, R', h2, ⟨h3.size, fun b hb hl hr => h3.same b (Or.inl hb) hl hr⟩, h4⟩) id⟩) h0
theorem wpIn_range_ownR {α : Type} {P : Program} {n : Nat} {g : Operand} {ps : Array Tmp} {assign body : Code} {Q : Exit → Act → World → Prop} {a : Act} {w : World}
    (h1 : 1 ≤ n) {gf : Nat} {lb : Array Value} (hg : a.eval g = .func (.func gf) #[] lb) (eg : ∀ args w, (callFunc gf args).run P w = .ok (.enter gf args) w)
    {encs : α → Array Value} {A : List α} (hseq : ∀ W, Bw w W → SeqR (n - 1) P gf lb encs A W) (hps : ∀ x, (encs x).size = ps.size)
    (I : Nat → (Nat → Prop) → World → Prop) (Ix : Nat → World → Prop) (hI : ∀ k R W1 W2, I k R W1 → KeepR R w.heap.size W1 W2 → I k R W2) (hIx : ∀ k W1 W2, Ix k W1 → Below w.heap.size W1 W2 → Ix k W2) (h0 : I 0 (fun _ => False) w)
    (hround : ∀ (l k : Nat) (x : α) (R : Nat → Prop) (W : World), A[k]? = some x → w.heap.size ≤ l → l < W.heap.size → ¬ R l → I k R W →
     assign.wpIn (Fence.wide.inRound l) (n - 1 - 1) P (Exit.then (fun a1 W1 => Over w.heap.size W W1 ∧ ∀ o, body.wpIn (Fence.wide.inRound l) (n - 1 - 1) P (roundPostR R w.heap.size I Ix k (W1.putObj l o)) a1 (W1.putObj l o)) (fun _ _ _ => False))
      { tmps := (ps.zip (encs x)).foldl (fun t (p, v) => t.setIfInBounds p v) a.tmps, defers := [] } W)
    (hdone : ∀ (D : Nat) (R : Nat → Prop) (W : World), w.heap.size ≤ D → ¬ R D → I A.length R W → W.heap[D]? = some (.deferred (some [])) → Q .normal { a with defers := { target := .collected D, args := #[] } :: a.defers } W)
    (hstop : ∀ (D k : Nat) (W : World), w.heap.size ≤ D → k < A.length → Ix (k + 1) W → W.heap[D]? = some (.deferred (some [])) → Code.ret.wpIn Fence.wide n P Q { a with defers := { target := .collected D, args := #[] } :: a.defers } W) :
    (Code.rangeFunc g ps assign body).wpIn Fence.wide n P Q a w := by
 refine wpIn_range_ownS h1 hg eg (S := fun _ => False) (fun _ h => h.elim) (fun W hW => (hseq W hW).toS) hps I Ix
  (fun k R W1 W2 h hk => hI k R W1 W2 h ⟨⟨hk.rest.os, hk.rest.tape, hk.rest.output, hk.rest.size, fun b hb => hk.old b hb id⟩, hk.own⟩) hIx h0
  (fun l k x R W hx hl hlt hr hi => wpIn_mono (hround l k x R W hx hl hlt hr hi) fun e a1 W1 h => ?_) hdone hstop
 cases e with
 | normal =>
  refine ⟨⟨h.1.size, fun b hb hl _ => h.1.same b (hb.resolve_right id) hl⟩, fun o => wpIn_mono (h.2 o) fun e a W h => ?_⟩
  cases e with
  | normal => exact ⟨⟨h.1.size, fun b hb hl hr => h.1.same b (hb.resolve_right id) hl hr⟩, h.2⟩
  | ret => exact ⟨⟨h.1.size, fun b hb hl hr => h.1.same b (hb.resolve_right id) hl hr⟩, h.2⟩
  | _ => exact h
 | _ => exact h
def roundPostG (B : Nat) (I Ix : Nat → World → Prop) (k : Nat) (W : World) : Exit → Act → World → Prop
 | .normal, _, W' => Over B W W' ∧ I (k + 1) W'
 | .ret, _, W' => Over B W W' ∧ Ix (k + 1) W'
 | _, _, _ => False
theorem wpIn_range_own {α : Type} {P : Program} {n : Nat} {g : Operand} {ps : Array Tmp} {assign body : Code} {Q : Exit → Act → World → Prop} {a : Act} {w : World}
    (h1 : 1 ≤ n) {gf : Nat} {lb : Array Value} (hg : a.eval g = .func (.func gf) #[] lb) (eg : ∀ args w, (callFunc gf args).run P w = .ok (.enter gf args) w)
    {encs : α → Array Value} {A : List α} (hseq : ∀ W, Bw w W → SeqR (n - 1) P gf lb encs A W) (hps : ∀ x, (encs x).size = ps.size)
    (I Ix : Nat → World → Prop) (hI : ∀ k W1 W2, I k W1 → Below w.heap.size W1 W2 → I k W2) (hIx : ∀ k W1 W2, Ix k W1 → Below w.heap.size W1 W2 → Ix k W2) (h0 : I 0 w)
    (hround : ∀ (l k : Nat) (x : α) (W : World), A[k]? = some x → w.heap.size ≤ l → l < W.heap.size → I k W →
     assign.wpIn (Fence.wide.inRound l) (n - 1 - 1) P (Exit.then (fun a1 W1 => Over w.heap.size W W1 ∧ ∀ o, body.wpIn (Fence.wide.inRound l) (n - 1 - 1) P (roundPostG w.heap.size I Ix k (W1.putObj l o)) a1 (W1.putObj l o)) (fun _ _ _ => False))
      { tmps := (ps.zip (encs x)).foldl (fun t (p, v) => t.setIfInBounds p v) a.tmps, defers := [] } W)
    (hdone : ∀ (D : Nat) (W : World), w.heap.size ≤ D → I A.length W → W.heap[D]? = some (.deferred (some [])) → Q .normal { a with defers := { target := .collected D, args := #[] } :: a.defers } W)
    (hstop : ∀ (D k : Nat) (W : World), w.heap.size ≤ D → k < A.length → Ix (k + 1) W → W.heap[D]? = some (.deferred (some [])) → Code.ret.wpIn Fence.wide n P Q { a with defers := { target := .collected D, args := #[] } :: a.defers } W) :
    (Code.rangeFunc g ps assign body).wpIn Fence.wide n P Q a w := by
 refine wpIn_range_ownR h1 hg eg hseq hps (fun k _ W => I k W) Ix (fun k R W1 W2 h hk => hI k W1 W2 h hk.below) hIx h0
  (fun l k x R W hx hl hlt hr hi => wpIn_mono (hround l k x W hx hl hlt hi) fun e a1 W1 h => ?_) (fun D R W hD _ h hd => hdone D W hD h hd) hstop
 cases e with
 | normal =>
  refine ⟨h.1, fun o => wpIn_mono (h.2 o) fun e a W h => ?_⟩
  cases e with
  | normal => exact ⟨.of h.1, fun _ => False, h.2, fun _ h => h.elim⟩
  | ret => exact ⟨.of h.1, h.2⟩
  | _ => exact h
 | _ => exact h
theorem arr8_put (N : Nat → Int) {f : Nat} (hf : f < 8) (x : Int) : (arr8 N).setIfInBounds f (.int .i64 x) = arr8 (putN N f x) := by
 rcases eight hf with rfl | rfl | rfl | rfl | rfl | rfl | rfl | rfl <;> simp [arr8, putN]
theorem Blk.putN {w : World} {G : Nat} {T : TypeId} {N : Nat → Int} (h : Blk w G T (arr8 N)) {f : Nat} (hf : f < 8) (x : Int) : Blk (w.setCell ⟨G, f, none⟩ (.int .i64 x)) G T (arr8 (putN N f x)) := by
 have := h.set f (.int .i64 x)
 rw [arr8_put N hf] at this
 exact this
theorem Blk.at8 {w : World} {G : Nat} {T : TypeId} {N : Nat → Int} (h : Blk w G T (arr8 N)) {f : Nat} (hf : f < 8) : w.cell? ⟨G, f, none⟩ = some (.int .i64 (N f)) := by rw [h.cell, arr8_get _ hf]
theorem after_any (N : Nat → Int) (w : World) (hN : ∀ f, f < 8 → 0 ≤ N f ∧ N f ≤ 6) :
    Calls Tryz.prog 120 #[.agg #[.int .i64 (N 0), .int .i64 (N 1), .int .i64 (N 2), .int .i64 (N 3), .int .i64 (N 4), .int .i64 (N 5), .int .i64 (N 6), .int .i64 (N 7)]] w (Bk w (.tuple #[.agg (arr8 (afterO N)), .bool (!(lastTo N 8 == 0))])) := by
 obtain ⟨Z, hZ⟩ : ∃ Z : Nat → Int, Z = zeroC := ⟨_, rfl⟩
 obtain ⟨w1, hw1⟩ := nm ((w.alloc (.cells #[.int .i64 (N 0), .int .i64 (N 1), .int .i64 (N 2), .int .i64 (N 3), .int .i64 (N 4), .int .i64 (N 5), .int .i64 (N 6), .int .i64 (N 7)] 60)).alloc (.cells #[.int .i64 0, .int .i64 0, .int .i64 0, .int .i64 0, .int .i64 0, .int .i64 0, .int .i64 0, .int .i64 0] 60))
 have HW : Hid (Bw w w1) := by unfold Hid; rw [hw1]; exact (below_alloc1 _ _).alloc (by simp) _
 have HK0 : Hid (Blk w1 w.heap.size 60 (arr8 N)) := by unfold Hid; rw [hw1]; exact (Blk.new _ _ _).old _
 have HK1 : Hid (Blk w1 (w.heap.size + 1) 60 (arr8 Z)) := by
  unfold Hid; rw [hw1, hZ]
  have := Blk.new (w.alloc (.cells (arr8 N) 60)) 60 (arr8 zeroC)
  simp only [World.size_alloc] at this
  exact this
 have HX : Hid (∀ k, k < 8 → w1.cell? ⟨w.heap.size, k, none⟩ = some (.int .i64 (N k))) := fun k hk => HK0.out.at8 hk
 have HN := hide hN
 have HZ := hide hZ
 clear hN hZ
 go_enter Tryz.func120, Tryz.ntmps120
 go_wp2_with fail
 rw [← hw1]
 clear hw1
 go_loop [4, 7] (fun l i => ∃ k : Nat, k ≤ 8 ∧ i = .int .i64 k ∧ l = .int .i64 (lastTo N k)) (fun _ i => 8 - (intOf i).toNat)
 case atStart => exact ⟨0, Nat.zero_le _, rfl, rfl⟩
 case round =>
  obtain ⟨k, hk, rfl, rfl⟩ := hrel
  by_cases hlt : k < 8
  ·have hc := HX.out k hlt
   have hp0 := HN.out k hlt
   obtain ⟨x, hx⟩ := nm (N k)
   rw [← hx] at hc hp0
   have HXk := hide hx
   clear hx
   by_cases hp : 0 < x
   ·have HS : Hid (lastTo N (k + 1) = k) := by unfold Hid lastTo; rw [if_pos (by rw [← HXk.out]; exact hp)]
    go_wp2
    go_round
    case rel => exact ⟨k + 1, by omega, by go_num, by rw [HS.out]⟩
    case measure => simp [intOf]; omega
   ·have HS : Hid (lastTo N (k + 1) = lastTo N k) := by unfold Hid; rw [lastTo, if_neg (by rw [← HXk.out]; exact hp)]
    go_wp2
    go_round
    case rel => exact ⟨k + 1, by omega, by go_num, by rw [HS.out]⟩
    case measure => simp [intOf]; omega
  ·obtain rfl : k = 8 := by omega
   have hL8 := lastTo_lt N 8
   have HO : Hid (afterO N = if lastTo N 8 = 0 then zeroC else afterL N (lastTo N 8)) := rfl
   obtain ⟨L, hL⟩ := nm (lastTo N 8)
   rw [← hL] at hL8 HO ⊢
   have HLL := hide hL
   clear hL
   by_cases h0 : L = 0
   ·subst h0
    have HO2 : Hid (afterO N = Z) := by unfold Hid; rw [HO.out, HZ.out]; rfl
    obtain ⟨r0, r1, r2, r3, r4, r5, r6, r7⟩ := HK1.out.cells8
    obtain ⟨f0, f1, f2, f3, f4, f5, f6, f7⟩ := HK1.out.frozen8
    go_wp2
    have hld := load8 (put8_blk HK1.out zeroC)
    refine bodyPost_ret (v := .tuple #[.agg (arr8 zeroC), .bool false]) ?_ rfl ⟨?_, ?_⟩
    ·rw [results_cell_tmp rfl]
     unfold put8 at hld
     simp [asAddr, Result.andThen, hld, zeroC] at hld ⊢
    ·rw [HO2.out, HZ.out, ← HLL.out]; rfl
    ·exact put8_below HW.out (by omega) zeroC
   ·obtain ⟨m, hm⟩ : ∃ m, L = m + 1 := ⟨L - 1, by omega⟩
    subst hm
    have hm8 : m + 1 < 8 := hL8 (by omega)
    clear hL8 h0
    have HO2 : Hid (afterO N = putN (putN (putN N (m + 1) 0) m (N m + 1)) 7 (N (m + 1) - 1)) := by
     unfold Hid; rw [HO.out, if_neg (by omega)]; rfl
    have eL : ((m + 1 : Nat) : Int) = (m : Int) + 1 := by omega
    rw [eL]
    clear eL
    have hx1 := HN.out (m + 1) hm8
    have hx2 := HN.out m (by omega)
    have c1 : w1.cell? ⟨w.heap.size, m + 1, none⟩ = some (.int .i64 (N (m + 1))) := HX.out _ hm8
    have z1 : w1.frozen? ⟨w.heap.size, m + 1, none⟩ = false := HK0.out.frozen _
    obtain ⟨x, hx⟩ := nm (N (m + 1))
    obtain ⟨y, hy⟩ := nm (N m)
    rw [← hx] at c1 hx1
    rw [← hy] at hx2
    have HXx := hide hx
    have HXy := hide hy
    clear hx hy
    obtain ⟨w2, hw2⟩ := nm (w1.setCell ⟨w.heap.size, m + 1, none⟩ (.int .i64 0))
    have HB2 : Hid (Bw w w2) := by unfold Hid; rw [hw2]; exact HW.out.setCell (by simp) _
    have H2 : Hid (Blk w2 w.heap.size 60 (arr8 (putN N (m + 1) 0))) := by unfold Hid; rw [hw2]; exact HK0.out.putN hm8 0
    have R2 : Hid (Blk w2 (w.heap.size + 1) 60 (arr8 Z)) := by unfold Hid; rw [hw2]; exact HK1.out.far (by omega) _ _
    go_upto_region 12 with fail
    rw [← hw2]
    clear hw2 c1 z1
    have c2 : w2.cell? ⟨w.heap.size, m, none⟩ = some (.int .i64 y) := by rw [H2.out.at8 (by omega), putN_other _ (by omega), HXy.out]
    have z2 : w2.frozen? ⟨w.heap.size, m, none⟩ = false := H2.out.frozen _
    obtain ⟨w3, hw3⟩ := nm (w2.setCell ⟨w.heap.size, m, none⟩ (.int .i64 (y + 1)))
    have HB3 : Hid (Bw w w3) := by unfold Hid; rw [hw3]; exact HB2.out.setCell (by simp) _
    have H3 : Hid (Blk w3 w.heap.size 60 (arr8 (putN (putN N (m + 1) 0) m (y + 1)))) := by unfold Hid; rw [hw3]; exact H2.out.putN (by omega) _
    have R3 : Hid (Blk w3 (w.heap.size + 1) 60 (arr8 Z)) := by unfold Hid; rw [hw3]; exact R2.out.far (by omega) _ _
    go_upto_region 13 with fail
    rw [← hw3]
    clear hw3 c2 z2
    have c3 := H3.out.at8 (f := 7) (by omega)
    have z3 : w3.frozen? ⟨w.heap.size, 7, none⟩ = false := H3.out.frozen _
    obtain ⟨w4, hw4⟩ := nm (w3.setCell ⟨w.heap.size, 7, none⟩ (.int .i64 (x - 1)))
    have HB4 : Hid (Bw w w4) := by unfold Hid; rw [hw4]; exact HB3.out.setCell (by simp) _
    obtain ⟨M, hM⟩ := nm (afterO N)
    have H4 : Hid (Blk w4 w.heap.size 60 (arr8 M)) := by
     unfold Hid; rw [hw4, hM, HO2.out, ← HXx.out, ← HXy.out]; exact H3.out.putN (by omega) _
    have R4 : Hid (Blk w4 (w.heap.size + 1) 60 (arr8 Z)) := by unfold Hid; rw [hw4]; exact R3.out.far (by omega) _ _
    go_upto_region 14 with fail
    rw [← hw4]
    clear hw4 c3 z3
    have HM := hide hM
    clear hM
    obtain ⟨n0, n1, n2, n3, n4, n5, n6, n7⟩ := H4.out.cells8
    obtain ⟨r0, r1, r2, r3, r4, r5, r6, r7⟩ := R4.out.cells8
    obtain ⟨f0, f1, f2, f3, f4, f5, f6, f7⟩ := R4.out.frozen8
    go_wp2
    have hld := load8 (put8_blk R4.out M)
    refine bodyPost_ret (v := .tuple #[.agg (arr8 M), .bool true]) ?_ rfl ⟨?_, ?_⟩
    ·rw [results_cell_tmp rfl]
     unfold put8 at hld
     simp [asAddr, Result.andThen, hld]
    ·rw [← HM.out, ← HLL.out]; rfl
    ·exact put8_below HB4.out (by omega) M
end Go.Proofs.YtnoohlibgaeklaaGreatDoor
namespace Go.Proofs.YtnoohlibgaeklaaGreatDoor
open Go.ChangeShapes Go.WideShapes Go.ChangeAt Go.RowKit
set_option maxRecDepth 100000
set_option maxHeartbeats 16000000
theorem ways_right (N : Nat → Int) (w : World) (hf : countsFault N = 0) :
    Calls Tryz.prog 20 #[.agg #[.int .i64 (N 0), .int .i64 (N 1), .int .i64 (N 2), .int .i64 (N 3), .int .i64 (N 4), .int .i64 (N 5), .int .i64 (N 6), .int .i64 (N 7)]] w (Bk w (.int .i64 (likeN N))) := by
 obtain ⟨hr, hs⟩ := counts_zero.1 hf
 have HR := hide hr
 have HS : Hid (∀ k, k ≤ 8 → 0 ≤ sumN N k ∧ sumN N k ≤ 6) := fun k hk => by
  have h1 := sumN_up (N := N) (k := 0) (l := k) (by omega) (fun g _ hg => (hr g (by omega)).1)
  have h2 := sumN_up (N := N) (k := k) (l := 8) hk (fun g _ hg => (hr g (by omega)).1)
  have h0 : sumN N 0 = 0 := rfl
  omega
 have HT : Hid (∀ i, 0 ≤ likeTo N i ∧ likeTo N i ≤ 720) := fun i => likeTo_range hf i
 obtain ⟨w1, hw1⟩ := nm (w.alloc (.cells #[.int .i64 (N 0), .int .i64 (N 1), .int .i64 (N 2), .int .i64 (N 3), .int .i64 (N 4), .int .i64 (N 5), .int .i64 (N 6), .int .i64 (N 7)] 60))
 have HB1 : Hid (Bw w w1) := by unfold Hid; rw [hw1]; exact below_alloc1 _ _
 have HP1 : Hid (Blk w1 w.heap.size 60 (arr8 N)) := by unfold Hid; rw [hw1]; exact Blk.new _ _ _
 clear hr hs hf
 go_enter Tryz.func20, Tryz.ntmps20
 go_wp2
 rw [← hw1]
 clear hw1
 go_loop [3, 4] (fun s i => ∃ k : Nat, k ≤ 8 ∧ i = .int .i64 k ∧ s = .int .i64 (sumN N k)) (fun _ i => 8 - (intOf i).toNat)
 case atStart => exact ⟨0, Nat.zero_le _, rfl, rfl⟩
 case round =>
  obtain ⟨k, hk, rfl, rfl⟩ := hrel
  by_cases hlt : k < 8
  ·have c := HP1.out.at8 hlt
   have h1 := HS.out (k + 1) (by omega)
   have HN : Hid (sumN N (k + 1) = sumN N k + N k) := rfl
   rw [HN.out] at h1
   go_wp2
   go_round
   case rel => exact ⟨k + 1, by omega, by go_num, by rw [HN.out]⟩
   case measure => simp [intOf]; omega
  ·obtain rfl : k = 8 := by omega
   have h8 := HS.out 8 (by omega)
   obtain ⟨S, hS⟩ : ∃ S : Nat, sumN N 8 = S := ⟨(sumN N 8).toNat, by omega⟩
   have HSe := hide hS
   rw [hS] at h8 ⊢
   have hS6 : S ≤ 6 := by omega
   clear hS h8
   go_wp2
   go_loop [5, 6] (fun v i => ∃ j : Nat, j + 1 ≤ max S 1 ∧ i = .int .i64 ((j : Int) + 2) ∧ v = .int .i64 (facN (j + 1))) (fun _ i => 9 - (intOf i).toNat)
   case atStart => exact ⟨0, by omega, rfl, rfl⟩
   case round =>
    obtain ⟨j, hj, rfl, rfl⟩ := hrel
    by_cases hl : j + 2 ≤ S
    ·have h1 := facN_range (j + 2) (by omega)
     have HN : Hid (facN (j + 2) = facN (j + 1) * ((j : Int) + 2)) := by
      show (((j + 1 : Nat) : Int) + 1) * facN (j + 1) = _
      rw [Int.mul_comm]; congr 1
     rw [HN.out] at h1
     have hl' : (j : Int) + 2 ≤ (S : Int) := by omega
     go_wp2
     go_round
     case rel => exact ⟨j + 1, by omega, by go_num, by rw [HN.out]⟩
     case measure => simp [intOf]; omega
    ·have HF : Hid (facN (j + 1) = likeTo N 0) := by
      show facN (j + 1) = facN (sumN N 8).toNat
      rw [HSe.out]
      rcases (by omega : S = 0 ∨ j + 1 = S) with h | h
      ·subst h
       obtain rfl : j = 0 := by omega
       rfl
      ·rw [h]; rfl
     rw [HF.out]
     have hl' : (S : Int) < (j : Int) + 2 := by omega
     go_wp2
     go_loop [5, 7, 8] (fun v i _ => ∃ k : Nat, k ≤ 8 ∧ i = .int .i64 k ∧ v = .int .i64 (likeTo N k)) (fun _ i _ => 8 - (intOf i).toNat)
     case atStart => exact ⟨0, Nat.zero_le _, rfl, rfl⟩
     case round =>
      obtain ⟨k, hk, rfl, rfl⟩ := hrel
      by_cases hlt : k < 8
      ·have c := HP1.out.at8 hlt
       have hN := HR.out k hlt
       obtain ⟨n, hn⟩ : ∃ n : Nat, N k = n := ⟨(N k).toNat, by omega⟩
       have HLk : Hid (likeTo N (k + 1) = downN (likeTo N k) n) := by show downN _ (N k).toNat = _; rw [hn]; rfl
       rw [hn] at c hN
       have hn6 : n ≤ 6 := by omega
       have hv := HT.out k
       obtain ⟨v, hve⟩ := nm (likeTo N k)
       rw [← hve] at HLk hv ⊢
       clear hve hn hN
       go_wp2
       go_loop [5, 8] (fun x i => ∃ j : Nat, j + 1 ≤ max n 1 ∧ i = .int .i64 ((j : Int) + 2) ∧ x = .int .i64 (downN v (j + 1))) (fun _ i => 9 - (intOf i).toNat)
       case atStart => exact ⟨0, by omega, rfl, rfl⟩
       case round =>
        obtain ⟨j, hj, rfl, rfl⟩ := hrel
        by_cases hl2 : j + 2 ≤ n
        ·have h1 := downN_range hv.1 (j + 1)
         have h2 := downN_range hv.1 (j + 2)
         have HN : Hid (downN v (j + 2) = (downN v (j + 1)).tdiv ((j : Int) + 2)) := rfl
         rw [HN.out] at h2
         have hl3 : (j : Int) + 2 ≤ (n : Int) := by omega
         have hz : ¬ ((j : Int) + 2 = 0) := by omega
         go_wp2
         go_round
         case rel => exact ⟨j + 1, by omega, by go_num, by rw [HN.out]⟩
         case measure => simp [intOf]; omega
        ·have HD : Hid (downN v (j + 1) = likeTo N (k + 1)) := by
          unfold Hid
          rw [HLk.out]
          rcases (by omega : n = 0 ∨ j + 1 = n) with h | h
          ·subst h
           obtain rfl : j = 0 := by omega
           rfl
          ·rw [h]
         rw [HD.out]
         have hl3 : (n : Int) < (j : Int) + 2 := by omega
         go_wp2
         go_round
         case rel => exact ⟨k + 1, by omega, by go_num, rfl⟩
         case measure => simp [intOf]; omega
      ·obtain rfl : k = 8 := by omega
       go_wp2
       go_ret
       exact ⟨rfl, HB1.out⟩
end Go.Proofs.YtnoohlibgaeklaaGreatDoor
namespace Go.Proofs.YtnoohlibgaeklaaGreatDoor
open Go.RowKit
set_option maxRecDepth 100000
set_option maxHeartbeats 16000000
theorem txt_append (a b : List UInt8) : txtOf a ++ txtOf b = txtOf (a ++ b) := by
 unfold txtOf
 apply ByteArray.ext
 simp [ByteArray.data_append]
theorem decT_size (u : Nat) : (txtOf (decT u)).size ≤ 9 := by rw [txtOf_size]; exact decF_length 8 u
theorem spanSo_range (fs : List Fm) (t : List Int) : ∀ L : List Wd, (0 ≤ (spanSoOver fs t L).1 ∧ (spanSoOver fs t L).1 ≤ 100) ∧ 0 ≤ (spanSoOver fs t L).2 ∧ (spanSoOver fs t L).2 ≤ 100 := by
 refine revInd ?_ ?_
 ·exact ⟨⟨by show (0 : Int) ≤ 100; decide, by show (100 : Int) ≤ 100; decide⟩, by show (0 : Int) ≤ 0; decide, by show (0 : Int) ≤ 100; decide⟩
 ·intro L D ih
  have e : spanSoOver fs t (L ++ [D]) = spanSoStep fs t (spanSoOver fs t L) D := by unfold spanSoOver; rw [List.foldl_append]; rfl
  rw [e]
  have hp := pcN_le (D.val t)
  unfold spanSoStep
  refine ⟨?_, ?_⟩
  ·dsimp only
   split <;> omega
  ·dsimp only
   split <;> omega
theorem lineS_same {fs : List Fm} {s : List UInt8} (h : ¬ (moreB s = true ∧ (wordL s = sayW ∨ wordL s = denyW) ∧ lineFault (restL s) = 0 ∧ fs.length < 6 ∧ openN (fs ++ [aloneF (atOf (restL s)) (decide (wordL s = sayW))]) 4 = true)) : lineS fs s = fs := by
 unfold lineS; rw [if_neg h]
theorem worldsSo_range (fs : List Fm) : 0 ≤ worldsSo fs ∧ worldsSo fs ≤ 4096 := by
 have hp : ∀ N ∈ everyC 4, 1 ≤ likeN N := fun N hN => like_pos (by decide) hN
 have hr := sumL_range hp (fun N => (madeN N 8).so fs)
 rw [(like_facts 4 (by decide)).2] at hr
 have he : eightN 4 = 4096 := by decide
 rw [he] at hr
 exact hr
end Go.Proofs.YtnoohlibgaeklaaGreatDoor
