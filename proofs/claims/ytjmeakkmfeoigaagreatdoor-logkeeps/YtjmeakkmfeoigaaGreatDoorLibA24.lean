/-
  Facts and contracts that the statement leans on.
-/
import Derived.Test.YtjmeakkmfeoigaaGreatDoorLibA23
import Derived.Test.YtjmeakkmfeoigaaGreatDoorLibA17
import Derived.Lib.Strings
import Derived.Lib.Walk
import Derived.Laws.Strings3
import Derived.RangeFuncNested
import Derived.RangeFuncBound
import Derived.RangeFuncCalls
import Derived.Test.YtjmeakkmfeoigaaGreatDoorLibA5
import Derived.Deep.Cut
import Derived.Handy
import Derived.Shelf.Abstract
import Derived.WalkKit
import Derived.OwnWalkIn
import Derived.TacticsInMore
import Derived.LoopNIn
import Derived.LoopIn
import Derived.Sort.LoopGhostIn
import Derived.Stop.RegionWithIn
import Derived.Sort.CutIn
import Derived.Test.YtjmeakkmfeoigaaGreatDoorLibA16
import Derived.Test.YtjmeakkmfeoigaaGreatDoorLibA3
import Derived.Test.YtjmeakkmfeoigaaGreatDoorLibA4
namespace Go.Proofs.YtjmeakkmfeoigaaGreatDoor
open Go.ChangeShapes Go.WideShapes Go.ChangeAt Go.RowKit
set_option maxRecDepth 100000
theorem strOf_same {a b : ByteArray} (h : a.data.toList = b.data.toList) : a = b := by rw [← strOf_data a, ← strOf_data b, h]
def endB (s : ByteArray) : Bool := decide (1 ≤ s.size) && ((s.extract (s.size - 1) s.size).toList == [10])
theorem endB_app (l : List UInt8) : endB (strOf (l ++ [10])) = true := by
 unfold endB
 have h : (strOf (l ++ [10])).size = l.length + 1 := by rw [strOf_size]; simp
 rw [h, Lib.toList_data, Lib.extract_data, strOf_list]
 simp
theorem endB_some {s : ByteArray} (h : endB s = true) : ∃ l, s = strOf (l ++ [10]) ∧ s.data.toList = l ++ [10] := by
 unfold endB at h
 rw [Bool.and_eq_true, decide_eq_true_eq] at h
 obtain ⟨h1, h2⟩ := h
 have hl : s.data.toList.length = s.size := Array.length_toList
 have e := eq_of_beq h2
 rw [Lib.toList_data, Lib.extract_data, List.take_of_length_le (by rw [List.length_drop]; omega)] at e
 have e2 := List.take_append_drop (s.size - 1) s.data.toList
 rw [e] at e2
 exact ⟨s.data.toList.take (s.size - 1), by rw [e2, strOf_data], e2.symm⟩
set_option maxHeartbeats 1000000 in
theorem hasEnd_any (s : ByteArray) (hs : s.size ≤ 9223372036854775807) (w : World) :
    Calls Tryz.prog 133 #[.string s, .string ⟨#[10]⟩] w (Sk w (.bool (endB s))) := by
 unfold endB
 by_cases h : 1 ≤ s.size
 ·go_enter Tryz.func133, Tryz.ntmps133
  go_wp2
  go_ret
  refine ⟨?_, rfl⟩
  simp [h]
 ·go_enter Tryz.func133, Tryz.ntmps133
  go_wp2
  go_ret
  refine ⟨?_, rfl⟩
  simp
theorem drop_end (l : List UInt8) (n : Nat) (h : n = l.length) : (strOf (l ++ [10])).extract 0 n = strOf l := by
 rw [strOf_take, h, List.take_left]
set_option maxHeartbeats 1000000 in
theorem trimEnd_hit (l : List UInt8) (hz : l.length + 1 ≤ 9223372036854775807) (w : World) :
    Calls Tryz.prog 61 #[.string (strOf (l ++ [10])), .string ⟨#[10]⟩] w (Sk w (.string (strOf l))) := by
 have hn : (strOf (l ++ [10])).size = l.length + 1 := by rw [strOf_size]; simp
 have HH : Hid (∀ W, Calls Tryz.prog 133 #[.string (strOf (l ++ [10])), .string ⟨#[10]⟩] W (Sk W (.bool true))) := fun W => by
  have h := hasEnd_any (strOf (l ++ [10])) (by omega) W
  rw [endB_app] at h
  exact h
 have HD : Hid (∀ n, n = l.length → (strOf (l ++ [10])).extract 0 n = strOf l) := fun n h => drop_end l n h
 obtain ⟨s, hs⟩ := nm (strOf (l ++ [10]))
 rw [← hs] at hn HH HD ⊢
 clear hs
 have HC : Hid (∀ W, Calls Tryz.prog 95 #[.string s, .string ⟨#[10]⟩] W (Sk W (.string (strOf l)))) := fun W => by
  have h1 : (1 : Int) ≤ (s.size : Int) := by omega
  have h2 : (s.size : Int) ≤ 9223372036854775807 := by omega
  go_enter Tryz.func95, Tryz.ntmps95
  go_wp2_with (go_at_call 133; refine (HH.out _).mono ?_; rintro e w' ⟨rfl, rfl⟩)
  go_ret
  refine ⟨?_, rfl⟩
  rw [HD.out _ (by omega)]
  rfl
 go_enter Tryz.func61, Tryz.ntmps61
 go_wp2_with (go_at_call 95; refine (HC.out _).mono ?_; rintro e w' ⟨rfl, rfl⟩)
 go_ret
 exact ⟨rfl, rfl⟩
def lastTen (l : List UInt8) : Nat → Int
 | 0 => -1
 | k + 1 => if l.getD k 0 = 10 then (k : Int) else lastTen l k
theorem lastTen_plain {l : List UInt8} {a : Nat} : ∀ {k : Nat}, (∀ j, a ≤ j → j < k → l.getD j 0 ≠ 10) → a ≤ k → lastTen l k = lastTen l a := by
 intro k
 induction k with
 | zero => intro _ h; rw [Nat.le_zero.1 h]
 | succ k ih =>
  intro h hk
  rcases Nat.lt_or_ge k a with hl | hl
  ·rw [show a = k + 1 by omega]
  ·rw [lastTen, if_neg (h k hl (by omega)), ih (fun j h1 h2 => h j h1 (by omega)) hl]
set_option maxHeartbeats 2000000 in
theorem lastByte_any (s : ByteArray) (hs : s.size < 4611686018427387904) (w : World) :
    Calls Tryz.prog 106 #[.string s, .int .u8 10] w (Sk w (.int .i64 (lastTen s.data.toList s.size))) := by
 obtain ⟨R, hR⟩ := nm (lastTen s.data.toList s.size)
 rw [← hR]
 have HR := hide hR
 clear hR
 have HLen : Hid (s.data.toList.length = s.size) := Array.length_toList
 go_enter Tryz.func106, Tryz.ntmps106
 go_wp2
 go_loop [5] (fun vi => ∃ k : Nat, k ≤ s.size ∧ vi = .int .i64 ((k : Int) - 1) ∧ R = lastTen s.data.toList k) (fun vi => ((intOf vi) + 1).toNat)
 case atStart => exact ⟨s.size, Nat.le_refl _, by first | rfl | go_num | (congr 1; omega), HR.out⟩
 case round =>
  obtain ⟨k, hk, rfl, hh⟩ := hrel
  have HH := hide hh
  clear hh
  by_cases h0 : k = 0
  ·subst h0
   go_wp2
   go_ret
   refine ⟨?_, rfl⟩
   rw [HH.out]; rfl
  ·obtain ⟨j, rfl⟩ : ∃ j, k = j + 1 := ⟨k - 1, by omega⟩
   have e : ((j + 1 : Nat) : Int) - 1 = (j : Int) := by omega
   rw [e]
   clear e h0
   have hj : j < s.size := by omega
   have hj' : (j : Int) < (s.size : Int) := by omega
   have HGD : Hid (s.data.toList.getD j 0 = s[j]'hj) := by
    unfold Hid
    have hk' : j < s.data.toList.length := by rw [Array.length_toList]; exact hj
    rw [List.getD_eq_getElem?_getD, List.getElem?_eq_getElem hk']
    rfl
   by_cases hb : s[j]'hj = 10
   ·have hb' : (((s[j]'hj).toNat : Int) == 10) = true := by rw [hb]; simp
    have HS : Hid (R = (j : Int)) := by unfold Hid; rw [HH.out, lastTen, if_pos (by rw [HGD.out]; exact hb)]
    clear hb HGD
    go_wp2
    go_ret
    exact ⟨back_i HS.out.symm, rfl⟩
   ·have hb' : (((s[j]'hj).toNat : Int) == 10) = false := by
     have h : (s[j]'hj).toNat ≠ 10 := fun h => hb (UInt8.toNat_inj.1 h)
     simp; omega
    have HS : Hid (R = lastTen s.data.toList j) := by unfold Hid; rw [HH.out, lastTen, if_neg (by rw [HGD.out]; exact hb)]
    clear hb HGD
    go_wp2
    go_round
    case rel => exact ⟨j, by omega, by go_num, HS.out⟩
    case measure => simp [intOf]
theorem lastIndex_any (s : ByteArray) (hs : s.size < 4611686018427387904) (w : World) :
    Calls Tryz.prog 65 #[.string s, .string ⟨#[10]⟩] w (Sk w (.int .i64 (lastTen s.data.toList s.size))) := by
 have HL : Hid (∀ W, Calls Tryz.prog 106 #[.string s, .int .u8 10] W (Sk W (.int .i64 (lastTen s.data.toList s.size)))) := fun W => lastByte_any s hs W
 go_enter Tryz.func65, Tryz.ntmps65
 go_wp2_with (go_at_call 106; refine (HL.out _).mono ?_; rintro e w' ⟨rfl, rfl⟩)
 go_ret
 exact ⟨rfl, rfl⟩
end Go.Proofs.YtjmeakkmfeoigaaGreatDoor
namespace Go.Proofs.YtjmeakkmfeoigaaGreatDoor
open Go.RowKit
structure OverS (R S : Nat → Prop) (B : Nat) (W W' : World) : Prop where
 size : W.heap.size ≤ W'.heap.size
 same : ∀ b, (B ≤ b ∨ S b) → b < W.heap.size → ¬ R b → W'.heap[b]? = W.heap[b]?
theorem OverS.refl (R S : Nat → Prop) (B : Nat) (W : World) : OverS R S B W W := ⟨Nat.le_refl _, fun _ _ _ _ => rfl⟩
theorem OverS.trans {R S : Nat → Prop} {B : Nat} {X Y Z : World} (h : OverS R S B X Y) (k : OverS R S B Y Z) : OverS R S B X Z :=
 ⟨Nat.le_trans h.size k.size, fun b hb hl hr => (k.same b hb (Nat.lt_of_lt_of_le hl h.size) hr).trans (h.same b hb hl hr)⟩
theorem OverS.of_below {R S : Nat → Prop} {B : Nat} {W W' : World} (h : Below W.heap.size W W') : OverS R S B W W' := ⟨h.size, fun b _ hl _ => h.block b hl⟩
theorem OverS.setCell {R S : Nat → Prop} {B : Nat} {X W : World} (h : OverS R S B X W) {p : Addr} (hp : p.block < B) (hs : ¬ S p.block) (u : Value) : OverS R S B X (W.setCell p u) :=
 ⟨Nat.le_trans h.size (by simp [World.setCell]), fun b hb hl hr => (Below.heap_setCell _ _ _ _ (by rcases hb with h | h; omega; intro e; exact hs (e ▸ h))).trans (h.same b hb hl hr)⟩
structure KeepS (R S : Nat → Prop) (B : Nat) (W W' : World) : Prop where
 rest : Below 0 W W'
 old : ∀ b, b < B → ¬ S b → W'.heap[b]? = W.heap[b]?
 own : ∀ b, R b → b < W.heap.size → W'.heap[b]? = W.heap[b]?
theorem below_putS {B l : Nat} (W : World) (o : Obj) (h : B ≤ l) : Below B W (W.putObj l o) :=
 ⟨rfl, rfl, rfl, by simp, fun k hk => World.putObj_heap_other (by omega)⟩
theorem KeepS.putObj {R S : Nat → Prop} {B l : Nat} (W : World) (o : Obj) (h : B ≤ l) (hr : ¬ R l) : KeepS R S B W (W.putObj l o) :=
 ⟨below_putS _ _ (Nat.zero_le _), fun b hb _ => World.putObj_heap_other (by omega), fun _ hb _ => World.putObj_heap_other (fun e => hr (e ▸ hb))⟩
def SeqS {α : Type} (n : Nat) (P : Program) (g : Nat) (lb : Array Value) (encs : α → Array Value) (A : List α) (S : Nat → Prop) (W : World) : Prop :=
 ∀ (l : Nat) (J : Nat → (Nat → Prop) → World → Prop) (Jx : Nat → World → Prop),
  (∀ k R W1 W2, J k R W1 → KeepS R S W.heap.size W1 W2 → J k R W2) →
  (∀ k x R W1, A[k]? = some x → J k R W1 → YieldAt Fence.wide (n - 1) P l (encs x) W1 fun e W' =>
   (e = .returned (.bool true) ∧ ∃ R', J (k + 1) R' W' ∧ OverS R S W.heap.size W1 W' ∧ ∀ b, R' b → R b ∨ W1.heap.size ≤ b) ∨ (e = .returned (.bool false) ∧ Jx (k + 1) W')) →
  J 0 (fun _ => False) W →
  CallsIn Fence.wide n P g (#[.func (.yield l) #[] #[]] ++ lb) W fun e W' => (∃ v, e = .returned v) ∧ ((∃ R, J A.length R W') ∨ ∃ k, k < A.length ∧ Jx (k + 1) W')
def roundPostS (R S : Nat → Prop) (B : Nat) (I : Nat → (Nat → Prop) → World → Prop) (Ix : Nat → World → Prop) (k : Nat) (W : World) : Exit → Act → World → Prop
 | .normal, _, W' => OverS R S B W W' ∧ ∃ R', I (k + 1) R' W' ∧ ∀ b, R' b → R b ∨ W.heap.size ≤ b
 | .ret, _, W' => OverS R S B W W' ∧ Ix (k + 1) W'
 | _, _, _ => False
theorem wpIn_range_ownS {α : Type} {P : Program} {n : Nat} {g : Operand} {ps : Array Tmp} {assign body : Code} {Q : Exit → Act → World → Prop} {a : Act} {w : World}
    (h1 : 1 ≤ n) {gf : Nat} {lb : Array Value} (hg : a.eval g = .func (.func gf) #[] lb) (eg : ∀ args w, (callFunc gf args).run P w = .ok (.enter gf args) w)
    {encs : α → Array Value} {A : List α} {S : Nat → Prop} (hS : ∀ b, S b → b < w.heap.size) (hseq : ∀ W, Below w.heap.size w W → SeqS (n - 1) P gf lb encs A S W) (hps : ∀ x, (encs x).size = ps.size)
    (I : Nat → (Nat → Prop) → World → Prop) (Ix : Nat → World → Prop) (hI : ∀ k R W1 W2, I k R W1 → KeepS R S w.heap.size W1 W2 → I k R W2) (hIx : ∀ k W1 W2, Ix k W1 → Below w.heap.size W1 W2 → Ix k W2) (h0 : I 0 (fun _ => False) w)
    (hround : ∀ (l k : Nat) (x : α) (R : Nat → Prop) (W : World), A[k]? = some x → w.heap.size ≤ l → l < W.heap.size → ¬ R l → I k R W →
     assign.wpIn (Fence.wide.inRound l) (n - 1 - 1) P (Exit.then (fun a1 W1 => OverS (fun _ => False) S w.heap.size W W1 ∧ ∀ o, body.wpIn (Fence.wide.inRound l) (n - 1 - 1) P (roundPostS R S w.heap.size I Ix k (W1.putObj l o)) a1 (W1.putObj l o)) (fun _ _ _ => False))
      { tmps := (ps.zip (encs x)).foldl (fun t (p, v) => t.setIfInBounds p v) a.tmps, defers := [] } W)
    (hdone : ∀ (D : Nat) (R : Nat → Prop) (W : World), w.heap.size ≤ D → ¬ R D → I A.length R W → W.heap[D]? = some (.deferred (some [])) → Q .normal { a with defers := { target := .collected D, args := #[] } :: a.defers } W)
    (hstop : ∀ (D k : Nat) (W : World), w.heap.size ≤ D → k < A.length → Ix (k + 1) W → W.heap[D]? = some (.deferred (some [])) → Code.ret.wpIn Fence.wide n P Q { a with defers := { target := .collected D, args := #[] } :: a.defers } W) :
    (Code.rangeFunc g ps assign body).wpIn Fence.wide n P Q a w := by
 refine wpIn_rangeFunc ?_
 intro fn hfn
 rw [show Fence.wide.round = none from rfl]
 obtain ⟨rec, hrec⟩ : ∃ rec : LoopState → Option Code → Loop, rec = fun st pe => { state := st, pending := pe, fn, tmps := a.tmps, params := ps, assign, body, defers := w.heap.size } := ⟨_, rfl⟩
 obtain ⟨W1, hW1⟩ : ∃ W1, (w.alloc (.deferred (some []))).alloc (.loop (rec .ready none)) = W1 := ⟨_, rfl⟩
 have hs1 : W1.heap.size = w.heap.size + 1 + 1 := by rw [← hW1, World.size_alloc, World.size_alloc]
 have hL1 : W1.heap[w.heap.size + 1]? = some (.loop (rec .ready none)) := by
  rw [← hW1]; have := World.alloc_heap_new (w.alloc (.deferred (some []))) (.loop (rec .ready none)); rwa [World.size_alloc] at this
 have hK1 : W1.heap[w.heap.size]? = some (.deferred (some [])) := by
  rw [← hW1]; exact (Below.heap_alloc _ _ _ (by simp)).trans (World.alloc_heap_new w _)
 have hb1 : Below w.heap.size w W1 := by
  rw [← hW1]; exact ((Below.refl _ w).alloc (Nat.le_refl _) _).alloc (by simp) _
 have hI1 : I 0 (fun _ => False) W1 := hI _ _ _ _ h0 ⟨hb1.mono (Nat.zero_le _), fun b hb _ => hb1.block b hb, fun _ h _ => h.elim⟩
 refine ⟨w.heap.size + 1, [{ target := .collected w.heap.size, args := #[] }], W1, { target := .fn (.func gf) lb, args := #[.func (.yield (w.heap.size + 1)) #[] #[]] }, W1, gf,
  #[.func (.yield (w.heap.size + 1)) #[] #[]] ++ lb, W1, ?_, ?_, ?_, ?_, fun _ => h1, ?_⟩
 ·rw [← hW1, hrec]; exact run_enterLoop_outer _ _ _ _ _
 ·simp only [resolve, hg]
  simp [go_sem]
 ·intro f' _; exact trivial
 ·simp [invoke, go_sem, eg]
 ·refine (hseq W1 hb1 (w.heap.size + 1)
   (fun k R W => I k R W ∧ (∀ b, R b → w.heap.size + 1 + 1 ≤ b) ∧ W.heap[w.heap.size + 1]? = some (.loop (rec .ready none)) ∧ W.heap[w.heap.size]? = some (.deferred (some [])))
   (fun k W => Ix k W ∧ W.heap[w.heap.size + 1]? = some (.loop (rec .done (some .ret))) ∧ W.heap[w.heap.size]? = some (.deferred (some [])))
   (fun k R X Y hs hb => ⟨hI k R X Y hs.1 ⟨hb.rest, fun b h1 h2 => hb.old b (by omega) h2, hb.own⟩, hs.2.1, (hb.old _ (by omega) (fun h => by have := hS _ h; omega)).trans hs.2.2.1, (hb.old _ (by omega) (fun h => by have := hS _ h; omega)).trans hs.2.2.2⟩)
   ?_ ⟨hI1, fun _ h => h.elim, hL1, hK1⟩).mono ?_
  ·rintro k x R W hx ⟨hi, hR, hl, hk⟩
   have hlt : w.heap.size + 1 < W.heap.size := (Array.getElem?_eq_some_iff.1 hl).1
   have hR1 : ¬ R (w.heap.size + 1) := fun h => by have := hR _ h; omega
   have hR0 : ¬ R w.heap.size := fun h => by have := hR _ h; omega
   have hy := run_yield (P := P) (args := encs x) hl (by rw [hrec]; exact hps x)
   rw [hrec] at hy
   refine ⟨fn, _, assign, body, hy, roundIn_of_wpIn hfn (wpIn_mono (hround _ k x R W hx (by omega) hlt hR1 hi) ?_)⟩
   intro e a1 Wa hp
   cases e with
   | normal =>
    obtain ⟨ha, hb⟩ := hp
    have hla : Wa.heap[w.heap.size + 1]? = some (.loop (rec .ready none)) := (ha.same _ (Or.inl (by omega)) hlt id).trans hl
    have hka : Wa.heap[w.heap.size]? = some (.deferred (some [])) := (ha.same _ (Or.inl (by omega)) (by omega) id).trans hk
    have hlta : w.heap.size + 1 < Wa.heap.size := (Array.getElem?_eq_some_iff.1 hla).1
    refine ⟨_, run_beginRound hla (by rw [hrec]), ?_⟩
    have hl2 : (Wa.putObj (w.heap.size + 1) (.loop { rec .ready none with state := .busy })).heap[w.heap.size + 1]? = some (.loop { rec .ready none with state := .busy }) := World.putObj_heap_same hlta
    have hk2 : (Wa.putObj (w.heap.size + 1) (.loop { rec .ready none with state := .busy })).heap[w.heap.size]? = some (.deferred (some [])) := (World.putObj_heap_other (by omega)).trans hka
    refine wpIn_mono (hb _) ?_
    have fin : ∀ (jump : Option Code) (W3 : World), OverS R S w.heap.size (Wa.putObj (w.heap.size + 1) (.loop { rec .ready none with state := .busy })) W3 →
        (Instr.endRound (w.heap.size + 1) jump).run P W3 = .ok (.bool jump.isNone) (W3.putObj (w.heap.size + 1) (.loop (rec (if jump.isNone then .ready else .done) jump))) ∧
        (W3.putObj (w.heap.size + 1) (.loop (rec (if jump.isNone then .ready else .done) jump))).heap[w.heap.size + 1]? = some (.loop (rec (if jump.isNone then .ready else .done) jump)) ∧
        (W3.putObj (w.heap.size + 1) (.loop (rec (if jump.isNone then .ready else .done) jump))).heap[w.heap.size]? = some (.deferred (some [])) := fun jump W3 hk3 => by
     have hl3 := (hk3.same _ (Or.inl (by omega)) (by simpa using hlta) hR1).trans hl2
     have := run_endRound (P := P) jump hl3
     rw [hrec] at this ⊢
     exact ⟨this, World.putObj_heap_same (Array.getElem?_eq_some_iff.1 hl3).1, (World.putObj_heap_other (by omega)).trans ((hk3.same _ (Or.inl (by omega)) (by simp; omega) hR0).trans hk2)⟩
    rintro e a3 W3 hp
    cases e with
    | normal =>
     obtain ⟨hk3, R', hi3, hr3⟩ := hp
     obtain ⟨hr, hl4, hk4⟩ := fin none W3 hk3
     have hsz : W.heap.size ≤ Wa.heap.size := ha.size
     have hR' : ∀ b, R' b → w.heap.size + 1 + 1 ≤ b := fun b hb => by
      rcases hr3 b hb with h | h
      ·exact hR b h
      ·simp at h; omega
     refine ⟨_, _, hr, .inl ⟨rfl, R', ⟨hI _ _ _ _ hi3 (KeepS.putObj _ _ (by omega) fun h => by have := hR' _ h; omega), hR', hl4, hk4⟩, ?_, fun b hb => ?_⟩⟩
     ·refine ⟨?_, fun b hb1 hb2 hb3 => ?_⟩
      ·have := ha.size
       have := hk3.size
       simp at this
       simp
       omega
      ·rw [hs1] at hb1
       have hs2 := ha.size
       have hnS : b ≠ w.heap.size + 1 := by
        rcases hb1 with h | h
        ·omega
        ·have := hS _ h; omega
       have hb1' : w.heap.size ≤ b ∨ S b := by
        rcases hb1 with h | h
        ·exact Or.inl (by omega)
        ·exact Or.inr h
       refine (World.putObj_heap_other hnS).trans ((hk3.same b hb1' (by simp; omega) hb3).trans ((World.putObj_heap_other hnS).trans (ha.same b hb1' hb2 id)))
     ·rcases hr3 b hb with h | h
      ·exact Or.inl h
      ·right; simp at h; omega
    | ret =>
     obtain ⟨hk3, hi3⟩ := hp
     obtain ⟨hr, hl4, hk4⟩ := fin (some .ret) W3 hk3
     exact ⟨_, _, hr, .inr ⟨rfl, hIx _ _ _ hi3 (below_putS _ _ (by omega)), hl4, hk4⟩⟩
    | exit id => exact hp.elim
    | goto t => exact hp.elim
    | panic ch => exact hp.elim
    | outgrown => exact hp.elim
   | ret => exact hp.elim
   | exit id => exact hp.elim
   | goto t => exact hp.elim
   | panic ch => exact hp.elim
   | outgrown => exact hp.elim
  ·rintro e W2 ⟨⟨v, rfl⟩, (⟨R, hi, hR, hl, hk⟩ | ⟨k, hkl, hi, hl, hk⟩)⟩
   ·exact ⟨none, _, by have := run_endLoop (P := P) hl (by rw [hrec]; simp); rw [hrec] at this; exact this, hdone _ R _ (Nat.le_refl _) (fun h => by have := hR _ h; omega) (hI _ _ _ _ hi (KeepS.putObj _ _ (by omega) fun h => by have := hR _ h; omega)) ((World.putObj_heap_other (by omega)).trans hk)⟩
   ·exact ⟨some .ret, _, by have := run_endLoop (P := P) hl (by rw [hrec]; simp); rw [hrec] at this; exact this, hstop _ k _ (Nat.le_refl _) hkl (hIx _ _ _ hi (below_putS _ _ (by omega))) ((World.putObj_heap_other (by omega)).trans hk)⟩
end Go.Proofs.YtjmeakkmfeoigaaGreatDoor
namespace Go.Proofs.YtjmeakkmfeoigaaGreatDoor
open Go.ChangeShapes Go.WideShapes Go.ChangeAt Go.RowKit
set_option maxRecDepth 100000
def linesT (L : List (List UInt8)) : List UInt8 := (L.map fun x => x ++ [10]).flatten
def encL (x : List UInt8) : Array Value := #[.string (strOf (x ++ [10]))]
theorem lines_drop {L : List (List UInt8)} {k : Nat} {x : List UInt8} (h : L[k]? = some x) : linesT (L.drop k) = (x ++ [10]) ++ linesT (L.drop (k + 1)) := by
 obtain ⟨hk, rfl⟩ := List.getElem?_eq_some_iff.1 h
 rw [List.drop_eq_getElem_cons hk]
 rfl
theorem ten_at {x : List UInt8} (h : plainC 10 x = true) (r : List UInt8) : Lib.indexByte (x ++ 10 :: r) 10 = x.length := by
 induction x with
 | nil => rfl
 | cons b x ih =>
  simp [plainC] at h
  have hi : Lib.indexByte (x ++ 10 :: r) 10 = (x.length : Int) := ih (by simp [plainC]; exact h.2)
  show Lib.indexByte (b :: (x ++ 10 :: r)) 10 = _
  rw [Lib.indexByte, if_neg (by simpa using h.1), hi, if_neg (by simp)]
  simp
theorem lines_made (s : ByteArray) (w : World) : Calls Tryz.prog 34 #[.string s] w fun e w' => e = .returned (.func (.func 66) #[] #[.pointer (some ⟨w.heap.size, 0, none⟩)]) ∧ w' = w.alloc (.cells #[.string s] 9) := by
 go_enter Tryz.func34, Tryz.ntmps34
 go_wp2
 go_ret
 exact ⟨rfl, rfl⟩
set_option maxHeartbeats 4000000 in
theorem lines_iter (L : List (List UInt8)) (hL : ∀ x ∈ L, plainC 10 x = true) (hz : (linesT L).length ≤ 9223372036854775806) (n : Nat) (hn : 1 ≤ n) (Bu : Nat) (W : World) (hB : Blk W Bu 9 #[.string (strOf (linesT L))]) :
    SeqS n Tryz.prog 66 #[.pointer (some ⟨Bu, 0, none⟩)] encL L (fun b => b = Bu) W := by
 intro l J Jx hJ hY h0
 have HY : Hid (∀ (k : Nat) (x : List UInt8) (R : Nat → Prop) (W1 : World), L[k]? = some x → J k R W1 → YieldAt Fence.wide (n - 1) Tryz.prog l #[.string (strOf (x ++ [10]))] W1 fun e W' =>
     (e = .returned (.bool true) ∧ ∃ R', J (k + 1) R' W' ∧ OverS R (fun b => b = Bu) W.heap.size W1 W' ∧ ∀ b, R' b → R b ∨ W1.heap.size ≤ b) ∨ (e = .returned (.bool false) ∧ Jx (k + 1) W')) := hY
 have HJ := hide hJ
 have HLk : Hid (∀ (k : Nat) (x : List UInt8), L[k]? = some x → ∃ s : ByteArray, s = strOf (linesT (L.drop k)) ∧ (0 : Int) < (s.size : Int) ∧ (x.length : Int) + 1 ≤ (s.size : Int) ∧ (s.size : Int) ≤ 9223372036854775806 ∧ s.extract 0 (x.length + 1) = strOf (x ++ [10]) ∧ s.extract (x.length + 1) s.size = strOf (linesT (L.drop (k + 1))) ∧ ∀ W, Calls Tryz.prog 67 #[.string s, .int .u8 10] W (Sk W (.int .i64 (x.length : Int)))) := fun k x hx => by
  have e := lines_drop hx
  have hpl : plainC 10 x = true := hL x (List.mem_of_getElem? hx)
  have hlen : (linesT (L.drop k)).length ≤ (linesT L).length := by
   unfold linesT
   rw [List.map_drop]
   have h := congrArg List.length (List.take_append_drop k (L.map fun x => x ++ [10])).symm
   have h2 : ((L.map fun x => x ++ [10]).flatten).length = (((L.map fun x => x ++ [10]).take k).flatten).length + (((L.map fun x => x ++ [10]).drop k).flatten).length := by
    rw [← List.length_append, ← List.flatten_append, List.take_append_drop]
   omega
  have hs : (strOf (linesT (L.drop k))).size = x.length + 1 + (linesT (L.drop (k + 1))).length := by rw [strOf_size, e, List.length_append, List.length_append]; rfl
  have hs2 : (strOf (linesT (L.drop k))).size = (linesT (L.drop k)).length := strOf_size _
  have hx1 : (x ++ [10]).length = x.length + 1 := by simp
  refine ⟨_, rfl, by omega, by omega, by omega, ?_, ?_, fun W => ?_⟩
  ·rw [strOf_take, e, ← hx1, List.take_left]
  ·rw [strOf_drop _ _ _ (strOf_size _), e, ← hx1, List.drop_left]
  ·have h := indexByte_any (strOf (linesT (L.drop k))) 10 W
   have e2 : Lib.indexByte (strOf (linesT (L.drop k))).data.toList (Int.toNat 10).toUInt8 = (x.length : Int) := by
    rw [strOf_list, e, List.append_assoc]
    exact ten_at hpl _
   rw [e2] at h
   exact h
 have H0 := hide h0
 have HB : Hid (Blk W Bu 9 #[.string (strOf (linesT L))]) := hB
 have HBl := hide (hB.lt)
 clear hY hJ h0 hB hL hz
 refine callsIn_of_wp Tryz.func66 rfl trivial ?_ rfl
 simp only [Tryz.ntmps66, List.size_toArray, List.length_cons, List.length_nil, Nat.reduceAdd, Nat.reduceSub, Array.replicate_succ, Array.replicate_zero, List.push_toArray, List.append_toArray, List.nil_append, List.cons_append]
 gi_wp2_with fail
 gi_loopg [] (L.length + 1) (fun gk wr => ∃ (k : Nat) (R : Nat → Prop), k ≤ L.length ∧ gk + k = L.length + 1 ∧ (J k R wr ∧ ¬ R Bu) ∧ Blk wr Bu 9 #[.string (strOf (linesT (L.drop k)))])
 case atStart => exact ⟨0, _, Nat.zero_le _, rfl, ⟨H0.out, fun h => h⟩, HB.out⟩
 case round =>
  obtain ⟨k, R, hk, hg, ⟨hj, hr⟩, hb⟩ := hrel
  have HG := hide hg
  have HJk := hide hj
  have HR := hide hr
  have HBk : Hid (Blk wr Bu 9 #[.string (strOf (linesT (L.drop k)))]) := hb
  clear hg hj hr hb
  by_cases hlt : k < L.length
  ·obtain ⟨x, hx⟩ : ∃ x, L[k]? = some x := ⟨_, List.getElem?_eq_getElem hlt⟩
   have HX := hide hx
   obtain ⟨s, hs, s0, s1, s2, e1, e2, hI⟩ := HLk.out k x hx
   have HI := hide hI
   have HE : Hid (s.extract 0 (x.length + 1) = strOf (x ++ [10]) ∧ s.extract (x.length + 1) s.size = strOf (linesT (L.drop (k + 1)))) := ⟨e1, e2⟩
   rw [← hs] at HBk
   obtain ⟨j, hj⟩ := nm x.length
   rw [← hj] at s1 HI HE
   clear hs e1 e2 hI hx hj
   have c0 : wr.cell? ⟨Bu, 0, none⟩ = some (.string s) := HBk.out.cell 0
   have c1 : wr.drew.cell? ⟨Bu, 0, none⟩ = some (.string s) := c0
   have f1 : wr.drew.frozen? ⟨Bu, 0, none⟩ = false := HBk.out.frozen 0
   obtain ⟨W5, hW5⟩ := nm ((wr.drew.setCell ⟨Bu, 0, none⟩ (.string (s.extract (j + 1) s.size))))
   gi_wp2_with fail
   refine ⟨trivial, ?_⟩
   gi_at_call 67
   refine (callsIn_wide.2 (HI.out _)).mono ?_
   rintro e w8 ⟨rfl, rfl⟩
   have d0 : (0 : Int) ≤ (j : Int) + 1 := by omega
   have d1 : (0 : Int) ≤ (j : Int) := by omega
   gi_upto_region 4 with fail
   gi_cut [3] from 5 (fun line wc => line = .string (strOf (x ++ [10])) ∧ wc = W5)
   case first =>
    gi_region
    all_goals (try gi_wp2)
    all_goals gi_meet
    all_goals exact ⟨by rw [← HE.out.1], hW5.symm⟩
   case rest =>
   obtain ⟨rfl, rfl⟩ := hcut
   have hb5 : Blk wc Bu 9 #[.string (strOf (linesT (L.drop (k + 1))))] := by
    rw [hW5, ← HE.out.2]
    exact (HBk.out.drew).set 0 _
   have hk5 : KeepS R (fun b => b = Bu) W.heap.size wr wc := by
    rw [hW5]
    refine ⟨(Below.drew (Below.refl _ _)).setCell (Nat.zero_le _) _, fun b _ hb => Below.heap_setCell _ _ _ _ hb, fun b hb _ => Below.heap_setCell _ _ _ _ fun e => HR.out (by have e2 : b = Bu := e; rw [e2] at hb; exact hb)⟩
   obtain ⟨fn, tmps, assign, body, hy, hRn⟩ := HY.out k x R wc HX.out (HJ.out _ _ _ _ HJk.out hk5)
   have HB5 : Hid (Blk wc Bu 9 #[.string (strOf (linesT (L.drop (k + 1))))]) := hb5
   clear hW5 hb5 hk5 c0 c1 f1 d0 d1
   gi_wp2
   refine hRn.mono ?_
   rintro e W6 (⟨rfl, R', hJ6, hO6, hR6⟩ | ⟨rfl, hJx6⟩)
   ·have HJ6 := hide hJ6
    have HB6 : Hid (Blk W6 Bu 9 #[.string (strOf (linesT (L.drop (k + 1))))]) := by
     unfold Hid Blk; rw [hO6.same _ (Or.inr rfl) HB5.out.lt HR.out]; exact HB5.out
    have HR6 : Hid (¬ R' Bu) := fun h => by
     rcases hR6 _ h with h | h
     ·exact HR.out h
     ·have := HB5.out.lt; omega
    clear hJ6 hO6 hR6 hy hRn
    gi_wp2
    gi_roundg (L.length - k)
    case rel => exact ⟨k + 1, R', by omega, by omega, ⟨HJ6.out, HR6.out⟩, HB6.out⟩
    case measure => have := HG.out; omega
   ·gi_wp2
    exact bodyPost_ret (results_none rfl _ _ _) rfl ⟨⟨_, rfl⟩, .inr ⟨k, hlt, hJx6⟩⟩
  ·obtain rfl : k = L.length := by omega
   have e1 : strOf (linesT (L.drop L.length)) = ⟨#[]⟩ := by rw [List.drop_eq_nil_of_le (Nat.le_refl _)]; rfl
   rw [e1] at HBk
   have c0 : wr.cell? ⟨Bu, 0, none⟩ = some (.string ⟨#[]⟩) := HBk.out.cell 0
   gi_wp2
   go_end0
   exact ⟨⟨_, rfl⟩, .inl ⟨R, HJk.out⟩⟩
end Go.Proofs.YtjmeakkmfeoigaaGreatDoor
namespace Go.Proofs.YtjmeakkmfeoigaaGreatDoor
open Go.RowKit
def recB (q : At × Bool) : List UInt8 := (if q.2 = true then 43 else 45) :: q.1.text
def aloneP (q : At × Bool) : Fm := aloneF q.1 q.2
def endsF : Int → List (List UInt8) → List Int
 | _, [] => []
 | s, x :: L => (s + ((x.length + 1 : Nat) : Int)) :: endsF (s + ((x.length + 1 : Nat) : Int)) L
def wholeL : List (List UInt8) → Nat → Nat
 | [], _ => 0
 | x :: L, h => if x.length + 1 ≤ h then wholeL L (h - (x.length + 1)) + 1 else 0
theorem linesT_cons (x : List UInt8) (L : List (List UInt8)) : linesT (x :: L) = (x ++ [10]) ++ linesT L := rfl
theorem linesT_app (L M : List (List UInt8)) : linesT (L ++ M) = linesT L ++ linesT M := by unfold linesT; rw [List.map_append, List.flatten_append]
theorem linesT_one (x : List UInt8) : linesT [x] = x ++ [10] := by simp [linesT]
theorem ends_length : ∀ (L : List (List UInt8)) (s : Int), (endsF s L).length = L.length
 | [], _ => rfl
 | x :: L, s => by simp [endsF, ends_length L]
theorem ends_take : ∀ (L : List (List UInt8)) (s : Int) (k : Nat), (endsF s L).take k = endsF s (L.take k)
 | [], s, k => by simp [endsF]
 | x :: L, s, 0 => rfl
 | x :: L, s, k + 1 => by
  rw [endsF, List.take_succ_cons, List.take_succ_cons, endsF, ends_take L]
theorem ends_more : ∀ (L : List (List UInt8)) (s : Int) (x : List UInt8), endsF s (L ++ [x]) = endsF s L ++ [s + ((linesT L).length : Int) + ((x.length + 1 : Nat) : Int)]
 | [], s, x => by simp [endsF, linesT]
 | y :: L, s, x => by
  rw [List.cons_append, endsF, endsF, ends_more L, List.cons_append]
  congr 3
  rw [linesT_cons, List.length_append, List.length_append]
  simp
  omega
theorem ends_at : ∀ (L : List (List UInt8)) (s : Int) (k : Nat), k < L.length → (endsF s L).getD k 0 = s + ((linesT (L.take (k + 1))).length : Int)
 | [], s, k, h => by simp at h
 | x :: L, s, 0, h => by simp [endsF, linesT]
 | x :: L, s, k + 1, h => by
  rw [endsF, List.getD_cons_succ, ends_at L _ k (by simpa using h), List.take_succ_cons, linesT_cons, List.length_append, List.length_append]
  simp
  omega
theorem end_at {L : List (List UInt8)} {k : Nat} (hk : k ≤ L.length) : endAt (endsF 0 L) k = ((linesT (L.take k)).length : Int) := by
 unfold endAt
 by_cases h : k = 0
 ·subst h; simp [linesT]
 ·rw [if_neg h, ends_at L 0 (k - 1) (by omega), show k - 1 + 1 = k by omega]; omega
theorem ends_whole : ∀ (L : List (List UInt8)) (s : Int) (h : Nat), wholeN (endsF s L) (s + (h : Int)) = wholeL L h
 | [], s, h => rfl
 | x :: L, s, h => by
  unfold wholeN wholeL
  rw [endsF, List.takeWhile_cons]
  by_cases hx : x.length + 1 ≤ h
  ·rw [if_pos hx, decide_eq_true (by omega), if_pos rfl, List.length_cons]
   have := ends_whole L (s + ((x.length + 1 : Nat) : Int)) (h - (x.length + 1))
   unfold wholeN at this
   rw [← this]
   congr 3
   funext e
   congr 2
   omega
  ·rw [if_neg hx, decide_eq_false (by omega)]
   rfl
theorem wholeL_le : ∀ (L : List (List UInt8)) (h : Nat), wholeL L h ≤ L.length
 | [], h => Nat.le_refl _
 | x :: L, h => by
  unfold wholeL
  split
  ·have := wholeL_le L (h - (x.length + 1)); simp; omega
  ·omega
theorem plainC_take {c : UInt8} {l : List UInt8} (h : plainC c l = true) (k : Nat) : plainC c (l.take k) = true := by
 unfold plainC at h ⊢
 rw [List.all_eq_true] at h ⊢
 exact fun x hx => h x (List.mem_of_mem_take hx)
theorem cut_whole : ∀ (L : List (List UInt8)) (tail : List UInt8) (h : Nat), (∀ x ∈ L, plainC 10 x = true) → plainC 10 tail = true → ∃ r, (linesT L ++ tail).take h = linesT (L.take (wholeL L h)) ++ r ∧ plainC 10 r = true
 | [], tail, h, _, ht => ⟨tail.take h, by simp [linesT], plainC_take ht h⟩
 | x :: L, tail, h, hL, ht => by
  unfold wholeL
  by_cases hx : x.length + 1 ≤ h
  ·rw [if_pos hx, List.take_succ_cons, linesT_cons, linesT_cons]
   obtain ⟨r, h1, h2⟩ := cut_whole L tail (h - (x.length + 1)) (fun y hy => hL y (List.mem_cons_of_mem _ hy)) ht
   refine ⟨r, ?_, h2⟩
   have hl : (x ++ [10]).length = x.length + 1 := by simp
   rw [List.append_assoc, List.take_append, hl, h1, List.take_of_length_le (by rw [hl]; exact hx)]
   simp
  ·rw [if_neg hx]
   refine ⟨x.take h, ?_, plainC_take (hL x List.mem_cons_self) h⟩
   have hl : (x ++ [10]).length = x.length + 1 := by simp
   rw [linesT_cons, List.append_assoc, List.append_assoc, List.take_append_of_le_length (by omega)]
   simp [linesT]
theorem last_lines {L : List (List UInt8)} {r : List UInt8} (hr : plainC 10 r = true) : lastTen (linesT L ++ r) (linesT L ++ r).length + 1 = ((linesT L).length : Int) := by
 have h1 : lastTen (linesT L ++ r) (linesT L ++ r).length = lastTen (linesT L ++ r) (linesT L).length := by
  refine lastTen_plain (fun j h1 h2 => ?_) (by simp)
  rw [List.length_append] at h2
  rw [List.getD_eq_getElem?_getD, List.getElem?_append_right h1]
  have hj : j - (linesT L).length < r.length := by omega
  rw [List.getElem?_eq_getElem hj]
  unfold plainC at hr
  rw [List.all_eq_true] at hr
  simpa using hr _ (List.getElem_mem hj)
 rw [h1]
 rcases List.eq_nil_or_concat L with rfl | ⟨M, x, rfl⟩
 ·simp [linesT, lastTen]
 ·have e : (linesT (M ++ [x])).length = (linesT M ++ x).length + 1 := by rw [linesT_app, linesT_one]; simp; omega
  rw [List.concat_eq_append, e, lastTen, if_pos]
  ·omega
  ·rw [linesT_app, linesT_one, ← List.append_assoc, List.append_assoc (linesT M ++ x), List.getD_eq_getElem?_getD, List.getElem?_append_right (Nat.le_refl _)]
   simp
theorem rec_plain {q : At × Bool} (h : q.1.fault = 0) : plainC 10 (recB q) = true := by
 unfold recB
 refine plainC_cons ?_ (line_atom h)
 split <;> decide
theorem text_small {a : At} (h : a.fault = 0) : a.text.length ≤ 100 := by
 have := lines_len (ats := [a]) (fun b hb => by obtain rfl : b = a := by simpa using hb
                                                exact h)
 simp [linesOf] at this
 omega
theorem rec_small {q : At × Bool} (h : q.1.fault = 0) : (recB q).length ≤ 101 := by
 have := text_small h
 unfold recB
 rw [List.length_cons]; omega
theorem recs_small : ∀ {ps : List (At × Bool)}, (∀ q ∈ ps, q.1.fault = 0) → (linesT (ps.map recB)).length ≤ 102 * ps.length
 | [], _ => by simp [linesT]
 | q :: ps, h => by
  have h1 := rec_small (h q List.mem_cons_self)
  have h2 := recs_small (ps := ps) fun x hx => h x (List.mem_cons_of_mem _ hx)
  rw [List.map_cons, linesT_cons, List.length_append, List.length_append, List.length_cons]
  simp
  omega
structure KeptL (l : Lg) (ps : List (At × Bool)) (tail : List UInt8) : Prop where
 u : 0 ≤ l.u ∧ l.u ≤ 6
 six : ps.length ≤ 6
 right : ∀ q ∈ ps, q.1.fault = 0
 plain : plainC 10 tail = true
 small : tail.length ≤ 200
 go : l.stop = false → tail = []
 fs : l.fs = ps.map aloneP
 ends : l.ends = endsF 0 (ps.map recB)
 bytes : l.bytes = ((linesT (ps.map recB) ++ tail).length : Int)
 safe : 0 ≤ l.safe ∧ l.safe ≤ l.bytes
theorem KeptL.len {l : Lg} {ps : List (At × Bool)} {tail : List UInt8} (h : KeptL l ps tail) : (linesT (ps.map recB) ++ tail).length ≤ 1000 := by
 have h1 := recs_small h.right
 have h2 := h.six
 have h3 := h.small
 rw [List.length_append]; omega
theorem KeptL.lines {l : Lg} {ps : List (At × Bool)} {tail : List UInt8} (h : KeptL l ps tail) : ∀ x ∈ ps.map recB, plainC 10 x = true := fun x hx => by
 obtain ⟨q, hq, rfl⟩ := List.mem_map.1 hx
 exact rec_plain (h.right q hq)
theorem keptL_0 {u : Int} (hu : 0 ≤ u ∧ u ≤ 6) : KeptL (lg0 u) [] [] :=
 ⟨hu, by simp, fun q hq => (by cases hq), rfl, by simp, fun _ => rfl, rfl, rfl, rfl, ⟨Int.le_refl _, Int.le_refl _⟩⟩
theorem KeptL.high {l : Lg} {ps : List (At × Bool)} {tail : List UInt8} (h : KeptL l ps tail) (keep : Int) : 0 ≤ l.high keep ∧ l.high keep ≤ l.bytes := by
 have := h.safe
 unfold Lg.high
 split
 ·split <;> omega
 ·omega
theorem KeptL.crash {l : Lg} {ps : List (At × Bool)} {tail : List UInt8} (h : KeptL l ps tail) (keep : Int) (k : Nat) (hk : k = wholeL (ps.map recB) (l.high keep).toNat) :
    KeptL (l.crash keep) (ps.take k) [] ∧ (l.crash keep).safe = ((linesT ((ps.take k).map recB)).length : Int) := by
 have hh := h.high keep
 have e1 : wholeN l.ends (l.high keep) = k := by
  rw [h.ends, hk]
  have := ends_whole (ps.map recB) 0 (l.high keep).toNat
  rwa [Int.zero_add, Int.toNat_of_nonneg hh.1] at this
 have hkl : k ≤ (ps.map recB).length := by rw [hk]; exact wholeL_le _ _
 have e2 : endAt l.ends k = ((linesT ((ps.take k).map recB)).length : Int) := by rw [h.ends, end_at hkl, List.map_take]
 have hs : (l.crash keep).safe = ((linesT ((ps.take k).map recB)).length : Int) := by show endAt l.ends (wholeN l.ends (l.high keep)) = _; rw [e1, e2]
 have hb : (l.crash keep).bytes = ((linesT ((ps.take k).map recB)).length : Int) := hs
 refine ⟨⟨h.u, ?_, fun q hq => h.right q (List.mem_of_mem_take hq), rfl, by simp, fun _ => rfl, ?_, ?_, ?_, ?_⟩, hs⟩
 ·have := h.six; rw [List.length_take]; omega
 ·show l.fs.take (wholeN l.ends (l.high keep)) = _
  rw [e1, h.fs, List.map_take]
 ·show l.ends.take (wholeN l.ends (l.high keep)) = _
  rw [e1, h.ends, ends_take, List.map_take]
 ·rw [hb, List.append_nil]
 ·rw [hb, hs]; exact ⟨by omega, Int.le_refl _⟩
def LeftIs (z left : Int) : Prop := (z < 0 ∧ left < 0) ∨ (0 ≤ z ∧ left = failN z)
theorem LeftIs.zero {z left : Int} (h : LeftIs z left) : z = 0 ↔ left = 0 := by
 rcases h with ⟨h1, h2⟩ | ⟨h1, rfl⟩
 ·omega
 ·unfold failN
  rw [if_neg (by omega)]
  split
  ·omega
  ·split <;> omega
theorem LeftIs.less {z left : Int} (h : LeftIs z left) (h0 : 0 < z) : LeftIs (IntKind.i64.wrap (z - 1)) (lessN1 left) := by
 rcases h with ⟨h1, h2⟩ | ⟨h1, rfl⟩
 ·omega
 ·have hr : -9223372036854775808 ≤ IntKind.i64.wrap (z - 1) ∧ IntKind.i64.wrap (z - 1) ≤ 9223372036854775807 := by rw [IntKind.wrap_i64]; omega
  obtain ⟨m, hm⟩ := nm (IntKind.i64.wrap (z - 1))
  unfold failN
  rw [if_neg (by omega), if_neg (by omega)]
  rw [← hm] at hr ⊢
  by_cases hneg : m < 0
  ·rw [if_pos hneg]
   exact Or.inl ⟨hneg, by decide⟩
  ·rw [if_neg hneg]
   refine Or.inr ⟨by omega, ?_⟩
   unfold lessN1
   rw [if_neg (by omega), failN_small (by omega) (by omega)]
   omega
theorem LeftIs.never {z left : Int} (h : LeftIs z left) (h0 : z < 0) : LeftIs z (lessN1 left) := by
 rcases h with ⟨h1, h2⟩ | ⟨h1, _⟩
 ·refine Or.inl ⟨h1, ?_⟩
  unfold lessN1
  rw [if_pos h2]; exact h2
 ·omega
theorem LeftIs.fail (n : Int) : LeftIs n (failN n) := by
 by_cases h : n < 0
 ·exact Or.inl ⟨h, by unfold failN; rw [if_pos h]; decide⟩
 ·exact Or.inr ⟨by omega, rfl⟩
theorem KeptL.said {l : Lg} {ps : List (At × Bool)} (h : KeptL l ps []) (q : At × Bool) (hq : q.1.fault = 0) (h6 : ps.length < 6) (left : Int) (stop : Bool) :
    KeptL { l with fs := l.fs ++ [aloneP q], ends := l.ends ++ [l.bytes + ((recB q ++ [10]).length : Int)], bytes := l.bytes + ((recB q ++ [10]).length : Int), left := left, stop := stop } (ps ++ [q]) [] := by
 have hb := h.bytes
 rw [List.append_nil] at hb
 have hs := h.safe
 refine ⟨h.u, by rw [List.length_append]; simp; omega, fun x hx => ?_, rfl, by simp, fun _ => rfl, ?_, ?_, ?_, ?_⟩
 ·rcases List.mem_append.1 hx with hx | hx
  ·exact h.right x hx
  ·obtain rfl : x = q := by simpa using hx
   exact hq
 ·show l.fs ++ [aloneP q] = _
  rw [h.fs, List.map_append]; rfl
 ·show l.ends ++ [l.bytes + ((recB q ++ [10]).length : Int)] = _
  rw [h.ends, List.map_append, List.map_cons, List.map_nil, ends_more, hb]
  simp
 ·show l.bytes + ((recB q ++ [10]).length : Int) = _
  rw [hb, List.map_append, List.map_cons, List.map_nil, linesT_app, linesT_one, List.append_nil, List.length_append]
  simp
 ·show 0 ≤ l.safe ∧ l.safe ≤ l.bytes + ((recB q ++ [10]).length : Int)
  omega
theorem KeptL.half {l : Lg} {ps : List (At × Bool)} (h : KeptL l ps []) (q : At × Bool) (hq : q.1.fault = 0) (n : Nat) (hn : n ≤ (recB q).length) :
    KeptL { l with bytes := l.bytes + (n : Int), stop := true } ps ((recB q).take n) := by
 have hb := h.bytes
 rw [List.append_nil] at hb
 have hs := h.safe
 have h1 := rec_small hq
 refine ⟨h.u, h.six, h.right, plainC_take (rec_plain hq) n, by rw [List.length_take]; omega, fun h => (by cases h), h.fs, h.ends, ?_, ?_⟩
 ·show l.bytes + (n : Int) = _
  rw [hb, List.length_append, List.length_take, Nat.min_eq_left hn]
  simp
 ·show 0 ≤ l.safe ∧ l.safe ≤ l.bytes + (n : Int)
  omega
end Go.Proofs.YtjmeakkmfeoigaaGreatDoor
namespace Go.Proofs.YtjmeakkmfeoigaaGreatDoor
open Go.ChangeShapes Go.WideShapes Go.ChangeAt Go.RowKit
set_option maxRecDepth 100000
def lgC (u : Int) (r : ByteArray) (sf z : Int) (st : Bool) : Array Value := #[.int .i64 u, .string r, .int .i64 sf, .int .i64 z, .bool st]
theorem lkeep_set {W W' : World} {b : Nat} (h : LKeep (fun x => x = b) W W') (j : Nat) (u : Value) : LKeep (fun x => x = b) W (W'.setCell ⟨b, j, none⟩ u) :=
 ⟨h.os, h.tape, h.output, Nat.le_trans h.size (by simp [World.setCell]), fun k hk hb => (heap_setCell_other _ ⟨b, j, none⟩ k u hb).trans (h.block k hk hb)⟩
theorem lkeep_below {W W1 W2 : World} {b : Nat} (h : LKeep (fun x => x = b) W W1) (k : Below W1.heap.size W1 W2) : LKeep (fun x => x = b) W W2 := h.trans (Grows.refl _ _) (LKeep.of_below k)
theorem lkeep_drew {W W' : World} {b : Nat} (h : LKeep (fun x => x = b) W W') : LKeep (fun x => x = b) W W'.drew := ⟨h.os, h.tape, h.output, h.size, h.block⟩
theorem things_ok {u : Int} (hu : 0 ≤ u ∧ u ≤ 6) : okB u 0 = true := by
 have h : ∀ n : Nat, n < 7 → okB (n : Int) 0 = true := by decide
 have := h u.toNat (by omega)
 rwa [Int.toNat_of_nonneg hu.1] at this
theorem things_no {u : Int} (hu : ¬ (0 ≤ u ∧ u ≤ 6)) : okB u 0 = false := by
 cases h : okB u 0
 ·rfl
 ·have := okB_iff.1 h
  omega
set_option maxHeartbeats 1000000 in
theorem logNew_ok (u : Int) (hu : 0 ≤ u ∧ u ≤ 6) (w : World) :
    Calls Tryz.prog 7 #[.int .i64 u] w fun e w' => e = .returned (.tuple #[.pointer (some ⟨w.heap.size, 0, none⟩), .nilIface]) ∧ w' = w.alloc (.cells (lgC u ⟨#[]⟩ 0 (-1) false) 63) := by
 have HC : Hid (∀ W, Calls Tryz.prog 27 #[.int .i64 u, .int .i64 0] W (Sk W .nilIface)) := fun W => check_ok _ _ (things_ok hu) W
 clear hu
 go_enter Tryz.func7, Tryz.ntmps7
 go_wp2_with fail
 go_at_call 27
 refine (HC.out _).mono ?_
 rintro e w1 ⟨rfl, rfl⟩
 go_wp2
 go_ret2
 exact ⟨rfl, rfl⟩
set_option maxHeartbeats 1000000 in
theorem logNew_no (u : Int) (hu : ¬ (0 ≤ u ∧ u ≤ 6)) (w : World) :
    Calls Tryz.prog 7 #[.int .i64 u] w fun e w' => e = .returned (.tuple #[.pointer none, .iface 64 (.int .i64 1)]) ∧ w' = w := by
 have HC : Hid (∀ W, Calls Tryz.prog 27 #[.int .i64 u, .int .i64 0] W (Sk W (.iface 64 (.int .i64 1)))) := fun W => check_no _ _ (things_no hu) W
 clear hu
 go_enter Tryz.func7, Tryz.ntmps7
 go_wp2_with fail
 go_at_call 27
 refine (HC.out _).mono ?_
 rintro e w1 ⟨rfl, rfl⟩
 go_wp2
 go_ret2
 exact ⟨rfl, rfl⟩
set_option maxHeartbeats 1000000 in
theorem logFail_any (b : Nat) (u sf z : Int) (r : ByteArray) (st : Bool) (n : Int) (w : World) (h : Blk w b 63 (lgC u r sf z st)) :
    Calls Tryz.prog 8 #[.pointer (some ⟨b, 0, none⟩), .int .i64 n] w fun e w' => (∃ v, e = .returned v) ∧ Blk w' b 63 (lgC u r sf n st) ∧ LKeep (fun x => x = b) w w' := by
 have HB : Hid (Blk w b 63 (lgC u r sf z st)) := h
 have c3 : w.cell? ⟨b, 3, none⟩ = some (.int .i64 z) := h.cell 3
 have f3 : w.frozen? ⟨b, 3, none⟩ = false := h.frozen 3
 clear h
 go_enter Tryz.func8, Tryz.ntmps8
 go_wp2
 go_end0
 exact ⟨⟨_, rfl⟩, HB.out.set 3 _, lkeep_set (LKeep.refl _ _) 3 _⟩
set_option maxHeartbeats 1000000 in
theorem logBytes_any (b : Nat) (u sf z : Int) (r : ByteArray) (st : Bool) (w : World) (h : Blk w b 63 (lgC u r sf z st)) :
    Calls Tryz.prog 16 #[.pointer (some ⟨b, 0, none⟩)] w fun e w' => e = .returned (.int .i64 (r.size : Int)) ∧ w' = w := by
 have c1 : w.cell? ⟨b, 1, none⟩ = some (.string r) := h.cell 1
 clear h
 go_enter Tryz.func16, Tryz.ntmps16
 go_wp2
 go_ret
 exact ⟨rfl, rfl⟩
set_option maxHeartbeats 1000000 in
theorem logSafe_any (b : Nat) (u sf z : Int) (r : ByteArray) (st : Bool) (w : World) (h : Blk w b 63 (lgC u r sf z st)) :
    Calls Tryz.prog 15 #[.pointer (some ⟨b, 0, none⟩)] w fun e w' => e = .returned (.int .i64 sf) ∧ w' = w := by
 have c2 : w.cell? ⟨b, 2, none⟩ = some (.int .i64 sf) := h.cell 2
 clear h
 go_enter Tryz.func15, Tryz.ntmps15
 go_wp2
 go_ret
 exact ⟨rfl, rfl⟩
def stepZ (z : Int) : Int := if 0 < z then IntKind.i64.wrap (z - 1) else z
set_option maxHeartbeats 1000000 in
theorem logStops_any (b : Nat) (u sf z : Int) (r : ByteArray) (w : World) (h : Blk w b 63 (lgC u r sf z false)) :
    Calls Tryz.prog 31 #[.pointer (some ⟨b, 0, none⟩)] w fun e w' => e = .returned (.bool (decide (z = 0))) ∧ Blk w' b 63 (lgC u r sf (stepZ z) (decide (z = 0))) ∧ LKeep (fun x => x = b) w w' := by
 have HB : Hid (Blk w b 63 (lgC u r sf z false)) := h
 have c3 : w.cell? ⟨b, 3, none⟩ = some (.int .i64 z) := h.cell 3
 have f3 : w.frozen? ⟨b, 3, none⟩ = false := h.frozen 3
 have c4 : w.cell? ⟨b, 4, none⟩ = some (.bool false) := h.cell 4
 have f4 : w.frozen? ⟨b, 4, none⟩ = false := h.frozen 4
 clear h
 by_cases h0 : z = 0
 ·subst h0
  go_enter Tryz.func31, Tryz.ntmps31
  go_wp2
  go_ret
  exact ⟨rfl, HB.out.set 4 _, lkeep_set (LKeep.refl _ _) 4 _⟩
 ·have e0 : decide (z = 0) = false := decide_eq_false h0
  have b0 : (z == 0) = false := by simp; exact h0
  rw [e0]
  by_cases h1 : 0 < z
  ·have es : stepZ z = wrap64 (z - 1) := by rw [show stepZ z = IntKind.i64.wrap (z - 1) from if_pos h1, IntKind.wrap_i64]; unfold wrap64; rfl
   rw [es]
   clear e0 es
   go_enter Tryz.func31, Tryz.ntmps31
   go_wp2
   go_ret
   exact ⟨rfl, HB.out.set 3 _, lkeep_set (LKeep.refl _ _) 3 _⟩
  ·have es : stepZ z = z := if_neg h1
   rw [es]
   clear e0 es
   go_enter Tryz.func31, Tryz.ntmps31
   go_wp2
   go_ret
   exact ⟨rfl, HB.out, LKeep.refl _ _⟩
set_option maxHeartbeats 1000000 in
theorem logSync_off (b : Nat) (u sf z : Int) (r : ByteArray) (w : World) (h : Blk w b 63 (lgC u r sf z true)) :
    Calls Tryz.prog 11 #[.pointer (some ⟨b, 0, none⟩)] w fun e w' => e = .returned (.iface 64 (.int .i64 6)) ∧ w' = w := by
 have c4 : w.cell? ⟨b, 4, none⟩ = some (.bool true) := h.cell 4
 clear h
 go_enter Tryz.func11, Tryz.ntmps11
 go_wp2
 go_ret
 exact ⟨rfl, rfl⟩
set_option maxHeartbeats 1000000 in
theorem logSync_on (b : Nat) (u sf z : Int) (r : ByteArray) (w : World) (h : Blk w b 63 (lgC u r sf z false)) :
    Calls Tryz.prog 11 #[.pointer (some ⟨b, 0, none⟩)] w fun e w' => (z = 0 ∧ e = .returned (.iface 64 (.int .i64 6)) ∧ Blk w' b 63 (lgC u r sf z true) ∧ LKeep (fun x => x = b) w w') ∨ (¬ z = 0 ∧ e = .returned .nilIface ∧ Blk w' b 63 (lgC u r (r.size : Int) (stepZ z) false) ∧ LKeep (fun x => x = b) w w') := by
 have HS : Hid (Calls Tryz.prog 31 #[.pointer (some ⟨b, 0, none⟩)] w fun e w' => e = .returned (.bool (decide (z = 0))) ∧ Blk w' b 63 (lgC u r sf (stepZ z) (decide (z = 0))) ∧ LKeep (fun x => x = b) w w') := logStops_any b u sf z r w h
 have c4 : w.cell? ⟨b, 4, none⟩ = some (.bool false) := h.cell 4
 clear h
 by_cases h0 : z = 0
 ·subst h0
  go_enter Tryz.func11, Tryz.ntmps11
  go_wp2_with fail
  go_at_call 31
  refine HS.out.mono ?_
  rintro e w1 ⟨rfl, h1, h2⟩
  have H1 : Hid (Blk w1 b 63 (lgC u r sf 0 true)) := h1
  have H2 := hide h2
  clear h1 h2
  go_wp2
  go_ret
  exact Or.inl ⟨trivial, rfl, H1.out, H2.out⟩
 ·have e0 : decide (z = 0) = false := decide_eq_false h0
  have H0 := hide h0
  rw [e0] at HS
  clear e0 h0
  go_enter Tryz.func11, Tryz.ntmps11
  go_wp2_with fail
  go_at_call 31
  refine HS.out.mono ?_
  rintro e w1 ⟨rfl, h1, h2⟩
  have H1 : Hid (Blk w1 b 63 (lgC u r sf (stepZ z) false)) := h1
  have H2 := hide h2
  have d1 : w1.cell? ⟨b, 1, none⟩ = some (.string r) := h1.cell 1
  have d2 : w1.cell? ⟨b, 2, none⟩ = some (.int .i64 sf) := h1.cell 2
  have f2 : w1.frozen? ⟨b, 2, none⟩ = false := h1.frozen 2
  clear h1 h2
  go_wp2
  go_ret
  exact Or.inr ⟨H0.out, rfl, H1.out.set 2 _, lkeep_set H2.out 2 _⟩
end Go.Proofs.YtjmeakkmfeoigaaGreatDoor
namespace Go.Proofs.YtjmeakkmfeoigaaGreatDoor
open Go.ChangeShapes Go.WideShapes Go.ChangeAt Go.RowKit
set_option maxRecDepth 100000
def headB (s : ByteArray) (c : UInt8) : Bool := decide (1 ≤ s.size) && ((s.extract 0 1).toList == [c])
theorem headB_cons (x c : UInt8) (l : List UInt8) : headB (strOf (x :: l)) c = (x == c) := by
 unfold headB
 have h : (strOf (x :: l)).size = l.length + 1 := by rw [strOf_size]; rfl
 rw [h, strOf_take]
 have e : (strOf [x]).toList = [x] := by rw [Lib.toList_data, strOf_list]
 have e2 : List.take 1 (x :: l) = [x] := rfl
 rw [e2, e]
 simp
set_option maxHeartbeats 1000000 in
theorem hasHead_any (s : ByteArray) (c : UInt8) (w : World) :
    Calls Tryz.prog 132 #[.string s, .string ⟨#[c]⟩] w (Sk w (.bool (headB s c))) := by
 unfold headB
 by_cases h : 1 ≤ s.size
 ·go_enter Tryz.func132, Tryz.ntmps132
  go_wp2
  go_ret
  refine ⟨?_, rfl⟩
  simp [h]
 ·go_enter Tryz.func132, Tryz.ntmps132
  go_wp2
  go_ret
  refine ⟨?_, rfl⟩
  simp
theorem drop_head (x : UInt8) (l : List UInt8) (n : Nat) (h : n = l.length + 1) : (strOf (x :: l)).extract 1 n = strOf l := by
 rw [strOf_drop _ _ _ h]; rfl
set_option maxHeartbeats 1000000 in
theorem cutHead_any (x c : UInt8) (l : List UInt8) (hz : l.length + 1 ≤ 9223372036854775807) (w : World) :
    Calls Tryz.prog 60 #[.string (strOf (x :: l)), .string ⟨#[c]⟩] w (Sk w (.tuple #[.string (if x = c then strOf l else strOf (x :: l)), .bool (x == c)])) := by
 have hn : (strOf (x :: l)).size = l.length + 1 := by rw [strOf_size]; rfl
 have HH : Hid (∀ W, Calls Tryz.prog 132 #[.string (strOf (x :: l)), .string ⟨#[c]⟩] W (Sk W (.bool (x == c)))) := fun W => by
  have h := hasHead_any (strOf (x :: l)) c W
  rw [headB_cons] at h
  exact h
 have HD : Hid (∀ n, n = l.length + 1 → (strOf (x :: l)).extract 1 n = strOf l) := fun n h => drop_head x l n h
 obtain ⟨s, hs⟩ := nm (strOf (x :: l))
 rw [← hs] at hn HH HD ⊢
 clear hs
 have HC : Hid (∀ W, Calls Tryz.prog 94 #[.string s, .string ⟨#[c]⟩] W (Sk W (.tuple #[.string (if x = c then strOf l else s), .bool (x == c)]))) := fun W => by
  have h1 : (1 : Int) ≤ (s.size : Int) := by omega
  have h2 : (s.size : Int) ≤ 9223372036854775807 := by omega
  by_cases hx : x = c
  ·have e1 : (x == c) = true := by simpa using hx
   rw [if_pos hx, e1]
   rw [e1] at HH
   clear hx e1
   go_enter Tryz.func94, Tryz.ntmps94
   go_wp2_with (go_at_call 132; refine (HH.out _).mono ?_; rintro e w' ⟨rfl, rfl⟩)
   go_ret2
   refine ⟨?_, rfl⟩
   rw [HD.out _ (by omega)]
   rfl
  ·have e1 : (x == c) = false := by simpa using hx
   rw [if_neg hx, e1]
   rw [e1] at HH
   clear hx e1
   go_enter Tryz.func94, Tryz.ntmps94
   go_wp2_with (go_at_call 132; refine (HH.out _).mono ?_; rintro e w' ⟨rfl, rfl⟩)
   go_ret2
   exact ⟨rfl, rfl⟩
 obtain ⟨R, hR⟩ := nm ((if x = c then strOf l else s))
 obtain ⟨B, hB⟩ := nm ((x == c))
 rw [← hR, ← hB] at HC ⊢
 clear hR hB HH HD hn
 go_enter Tryz.func60, Tryz.ntmps60
 go_wp2_with (go_at_call 94; refine (HC.out _).mono ?_; rintro e w' ⟨rfl, rfl⟩)
 go_ret2
 exact ⟨rfl, rfl⟩
set_option maxHeartbeats 1000000 in
theorem trimHead_any (x c : UInt8) (l : List UInt8) (hz : l.length + 1 ≤ 9223372036854775807) (w : World) :
    Calls Tryz.prog 63 #[.string (strOf (x :: l)), .string ⟨#[c]⟩] w (Sk w (.string (if x = c then strOf l else strOf (x :: l)))) := by
 have hn : (strOf (x :: l)).size = l.length + 1 := by rw [strOf_size]; rfl
 have HH : Hid (∀ W, Calls Tryz.prog 132 #[.string (strOf (x :: l)), .string ⟨#[c]⟩] W (Sk W (.bool (x == c)))) := fun W => by
  have h := hasHead_any (strOf (x :: l)) c W
  rw [headB_cons] at h
  exact h
 have HD : Hid (∀ n, n = l.length + 1 → (strOf (x :: l)).extract 1 n = strOf l) := fun n h => drop_head x l n h
 obtain ⟨s, hs⟩ := nm (strOf (x :: l))
 rw [← hs] at hn HH HD ⊢
 clear hs
 have HC : Hid (∀ W, Calls Tryz.prog 101 #[.string s, .string ⟨#[c]⟩] W (Sk W (.string (if x = c then strOf l else s)))) := fun W => by
  have h1 : (1 : Int) ≤ (s.size : Int) := by omega
  have h2 : (s.size : Int) ≤ 9223372036854775807 := by omega
  by_cases hx : x = c
  ·have e1 : (x == c) = true := by simpa using hx
   rw [if_pos hx]
   rw [e1] at HH
   clear hx e1
   go_enter Tryz.func101, Tryz.ntmps101
   go_wp2_with (go_at_call 132; refine (HH.out _).mono ?_; rintro e w' ⟨rfl, rfl⟩)
   go_ret
   refine ⟨?_, rfl⟩
   rw [HD.out _ (by omega)]
   rfl
  ·have e1 : (x == c) = false := by simpa using hx
   rw [if_neg hx]
   rw [e1] at HH
   clear hx e1
   go_enter Tryz.func101, Tryz.ntmps101
   go_wp2_with (go_at_call 132; refine (HH.out _).mono ?_; rintro e w' ⟨rfl, rfl⟩)
   go_ret
   exact ⟨rfl, rfl⟩
 obtain ⟨R, hR⟩ := nm ((if x = c then strOf l else s))
 rw [← hR] at HC ⊢
 clear hR HH HD hn
 go_enter Tryz.func63, Tryz.ntmps63
 go_wp2_with (go_at_call 101; refine (HC.out _).mono ?_; rintro e w' ⟨rfl, rfl⟩)
 go_ret
 exact ⟨rfl, rfl⟩
set_option maxHeartbeats 1000000 in
theorem logWhole_any (L : List (List UInt8)) (r : List UInt8) (hr : plainC 10 r = true) (hz : (linesT L ++ r).length ≤ 1000000) (w : World) :
    Calls Tryz.prog 33 #[.string (strOf (linesT L ++ r))] w (Sk w (.string (strOf (linesT L)))) := by
 have hn : (strOf (linesT L ++ r)).size = (linesT L ++ r).length := strOf_size _
 have hle : (linesT L).length ≤ (linesT L ++ r).length := by simp
 have HL : Hid (∀ W, Calls Tryz.prog 65 #[.string (strOf (linesT L ++ r)), .string ⟨#[10]⟩] W (Sk W (.int .i64 (((linesT L).length : Int) - 1)))) := fun W => by
  have h := lastIndex_any (strOf (linesT L ++ r)) (by omega) W
  have e : lastTen (strOf (linesT L ++ r)).data.toList (strOf (linesT L ++ r)).size = ((linesT L).length : Int) - 1 := by
   have := last_lines (L := L) hr
   rw [strOf_list, hn]; omega
  rw [e] at h
  exact h
 have HE : Hid (∀ m : Nat, m = (linesT L).length → (strOf (linesT L ++ r)).extract 0 m = strOf (linesT L)) := fun m h => by rw [strOf_take, h, List.take_left]
 obtain ⟨m, hm⟩ := nm ((linesT L).length)
 have HE' := hide (HE.out m hm)
 rw [← hm] at HL hle
 have h1 : (m : Int) ≤ ((strOf (linesT L ++ r)).size : Int) := by omega
 have h0 : (0 : Int) ≤ (m : Int) := by omega
 have h2 : (m : Int) ≤ 1000000 := by omega
 obtain ⟨s, hs⟩ := nm (strOf (linesT L ++ r))
 rw [← hs] at HL HE' h1 ⊢
 clear hs hm HE hn hle hz
 go_enter Tryz.func33, Tryz.ntmps33
 go_wp2_with (go_at_call 65; refine (HL.out _).mono ?_; rintro e w' ⟨rfl, rfl⟩)
 go_ret
 refine ⟨?_, rfl⟩
 rw [← HE'.out]
 first | rfl | (congr 1; congr 1; omega)
end Go.Proofs.YtjmeakkmfeoigaaGreatDoor