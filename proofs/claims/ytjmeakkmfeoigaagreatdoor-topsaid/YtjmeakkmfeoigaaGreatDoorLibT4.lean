/-
  Facts and contracts that the statement leans on.
-/
import Derived.Test.YtjmeakkmfeoigaaGreatDoorLibT3
namespace Go.Proofs.YtjmeakkmfeoigaaGreatDoor
open Go.RowKit
def timesK (k : Int) (x y : Bool) : Int :=
 if k = 1 then oneB (x && !y) else if k = 2 then oneB (x && !y) + oneB (y && !x) else if k = 3 then - oneB (x && !y) else if k = 4 then oneB (x && !y) else oneB x - oneB y
def mostK (k n : Int) : Int := if k = 3 then -n else n
def baseT (k : Int) (s t : List Int) (f : Nat) : Int := timesK k (liesB s f) (liesB t f)
def rowT (k : Int) (s t : List Int) (h : Bool) (f : Nat) : Int := if h = true then baseT k s t f else - baseT k s t f
def rowM (k n : Int) (h : Bool) : Int := if h = true then mostK k n else -(mostK k n + 1)
theorem timesK_le (k : Int) (x y : Bool) : -1 ≤ timesK k x y ∧ timesK k x y ≤ 1 := by
 unfold timesK
 split
 ·cases x <;> cases y <;> decide
 split
 ·cases x <;> cases y <;> decide
 split
 ·cases x <;> cases y <;> decide
 split
 ·cases x <;> cases y <;> decide
 ·cases x <;> cases y <;> decide
theorem rowT_le (k : Int) (s t : List Int) (h : Bool) (f : Nat) : -1 ≤ rowT k s t h f ∧ rowT k s t h f ≤ 1 := by
 have := timesK_le k (liesB s f) (liesB t f)
 unfold rowT baseT; split <;> omega
theorem mostN_le (k : Int) : 0 ≤ mostN k ∧ mostN k ≤ 20 := by unfold mostN; split <;> omega
theorem rowM_le {k : Int} {s t : List Int} {n : Int} (hf : atomFault k s t n = 0) (h : Bool) : -21 ≤ rowM k n h ∧ rowM k n h ≤ 20 := by
 obtain ⟨_, _, _, h1, h2⟩ := atomFault_zero.1 hf
 have := mostN_le k
 unfold rowM mostK
 split <;> split <;> omega
structure Rw where
 t : Nat → Int
 m : Int
def sumT (T N : Nat → Int) : Nat → Int
 | 0 => 0
 | k + 1 => sumT T N k + T k * N k
def okT (T : Nat → Int) : Nat → Bool
 | 0 => true
 | k + 1 => okT T k && decide (-2 ≤ T k ∧ T k ≤ 2)
def Rw.wrong (r : Rw) : Bool := !(okT r.t 8 && decide (-100 ≤ r.m ∧ r.m ≤ 100))
def Rw.so (r : Rw) (N : Nat → Int) : Bool := decide (sumT r.t N 8 ≤ r.m)
def rowsFault (l : List Rw) : Int := if 12 < l.length then 4 else if l.any Rw.wrong = true then 1 else 0
def fitsFault (l : List Rw) (N : Nat → Int) : Int := if rowsFault l = 0 then countsFault N else rowsFault l
def fitsIs (l : List Rw) (N : Nat → Int) : Bool := if fitsFault l N = 0 then l.all (fun r => r.so N) else false
theorem okT_iff {T : Nat → Int} {k : Nat} : okT T k = true ↔ ∀ f, f < k → -2 ≤ T f ∧ T f ≤ 2 := by
 induction k with
 | zero => exact ⟨fun _ f hf => by omega, fun _ => rfl⟩
 | succ k ih =>
  unfold okT
  rw [Bool.and_eq_true, ih, decide_eq_true_iff]
  refine ⟨fun h f hf => ?_, fun h => ⟨fun f hf => h f (by omega), h k (by omega)⟩⟩
  rcases Nat.lt_or_ge f k with h' | h'
  ·exact h.1 f h'
  ·obtain rfl : f = k := by omega
   exact h.2
theorem right_iff {r : Rw} : r.wrong = false ↔ (∀ f, f < 8 → -2 ≤ r.t f ∧ r.t f ≤ 2) ∧ -100 ≤ r.m ∧ r.m ≤ 100 := by
 unfold Rw.wrong
 rw [Bool.not_eq_false', Bool.and_eq_true, okT_iff, decide_eq_true_iff]
theorem wrong_time {r : Rw} {f : Nat} (hf : f < 8) (h : ¬ (-2 ≤ r.t f ∧ r.t f ≤ 2)) : r.wrong = true := by
 rcases (Bool.eq_false_or_eq_true r.wrong).symm with e | e
 ·exact absurd ((right_iff.1 e).1 f hf) h
 ·exact e
theorem wrong_most {r : Rw} (h : ¬ (-100 ≤ r.m ∧ r.m ≤ 100)) : r.wrong = true := by
 rcases (Bool.eq_false_or_eq_true r.wrong).symm with e | e
 ·exact absurd (right_iff.1 e).2 h
 ·exact e
theorem mul_le {x y : Int} (hx : -2 ≤ x ∧ x ≤ 2) (hy : 0 ≤ y ∧ y ≤ 6) : -12 ≤ x * y ∧ x * y ≤ 12 := by
 obtain ⟨x0, x1⟩ := hx
 have d : x = -2 ∨ x = -1 ∨ x = 0 ∨ x = 1 ∨ x = 2 := by omega
 rcases d with rfl | rfl | rfl | rfl | rfl <;> omega
theorem sumT_le {T N : Nat → Int} {k : Nat} (hT : ∀ f, f < k → -2 ≤ T f ∧ T f ≤ 2) (hN : ∀ f, f < k → 0 ≤ N f ∧ N f ≤ 6) : -12 * (k : Int) ≤ sumT T N k ∧ sumT T N k ≤ 12 * k := by
 induction k with
 | zero => exact ⟨Int.le_refl _, Int.le_refl _⟩
 | succ k ih =>
  have := ih (fun f hf => hT f (by omega)) fun f hf => hN f (by omega)
  have := mul_le (hT k (by omega)) (hN k (by omega))
  unfold sumT; push_cast; omega
theorem sumT_same {T S N M : Nat → Int} {k : Nat} (h : ∀ f, f < k → T f = S f) (h' : ∀ f, f < k → N f = M f) : sumT T N k = sumT S M k := by
 induction k with
 | zero => rfl
 | succ k ih => unfold sumT; rw [ih (fun f hf => h f (by omega)) fun f hf => h' f (by omega), h k (by omega), h' k (by omega)]
theorem sumT_one (L : Nat → Bool) (N : Nat → Int) (k : Nat) : sumT (fun f => oneB (L f)) N k = sumIn L N k := by
 induction k with
 | zero => rfl
 | succ k ih =>
  unfold sumT sumIn
  rw [ih]
  unfold oneB
  split <;> omega
theorem sumT_neg (T N : Nat → Int) (k : Nat) : sumT (fun f => - T f) N k = - sumT T N k := by
 induction k with
 | zero => rfl
 | succ k ih => unfold sumT; rw [ih, Int.neg_mul]; omega
theorem sumT_add (T S N : Nat → Int) (k : Nat) : sumT (fun f => T f + S f) N k = sumT T N k + sumT S N k := by
 induction k with
 | zero => rfl
 | succ k ih => unfold sumT; rw [ih, Int.add_mul]; omega
theorem sumT_sub (T S N : Nat → Int) (k : Nat) : sumT (fun f => T f - S f) N k = sumT T N k - sumT S N k := by
 induction k with
 | zero => rfl
 | succ k ih => unfold sumT; rw [ih, Int.sub_mul]; omega
theorem lies_none (f : Nat) : liesB [] f = false := by
 show hasB 0 ((0 : Nat) : Int) = false
 decide
theorem lies_less {n m : Nat} {s t : List Int} (hs : isTm n s) (ht : isTm m t) (f : Nat) : liesB (s ++ (t ++ [7])) f = (liesB s f && !liesB t f) := by
 unfold liesB
 rw [has_two (oneW_ok f) (by omega) (by omega) hs ht 0 (by rw [oneW_u]; decide)]
 rfl
theorem size_less {w : Wd} (h : w.ok = true) {n m : Nat} {s t : List Int} (hs : isTm n s) (ht : isTm m t) : pcN (lessN (w.val s) (w.val t)) = sumT (fun f => oneB (liesB s f && !liesB t f)) (w.fc w.u.toNat) 8 := by
 have e : w.val (s ++ (t ++ [7])) = lessN (w.val s) (w.val t) := by rw [val_bin w (by omega) (by omega) hs ht, doN7]
 have hn : isTm (n + m + 1) (s ++ (t ++ [7])) := Or.inr (Or.inr ⟨7, s, t, by omega, by omega, isTm_mono (by omega) hs, isTm_mono (by omega) ht, rfl⟩)
 rw [← e, size_fields h hn, ← sumT_one]
 exact sumT_same (fun f _ => by rw [lies_less hs ht]) fun _ _ => rfl
theorem size_one {w : Wd} (h : w.ok = true) {n : Nat} {s : List Int} (hs : isTm n s) : pcN (w.val s) = sumT (fun f => oneB (liesB s f)) (w.fc w.u.toNat) 8 := by
 rw [size_fields h hs, sumT_one]
theorem less_ok {w : Wd} (h : w.ok = true) (s t : List Int) : okB w.u (lessN (w.val s) (w.val t)) = true := by
 have := ok_do (what := 7) (ok_val h s) (ok_val h t)
 rw [doN7] at this
 exact this
theorem second_none {k : Int} {t : List Int} (ht : secondFault k t = 0) (hk : secondB k = false) : t = [] := by
 unfold secondFault at ht
 rw [hk] at ht
 cases t with
 | nil => rfl
 | cons a t => simp at ht
theorem row_says {w : Wd} (h : w.ok = true) {k : Int} {s t : List Int} {n : Int} (hf : atomFault k s t n = 0) : (sumT (baseT k s t) (w.fc w.u.toNat) 8 ≤ mostK k n ↔ w.holds k s t n = true) := by
 obtain ⟨hk, hs, ht, n0, n1⟩ := atomFault_zero.1 hf
 obtain ⟨i, hi⟩ := one_term hs
 unfold Wd.holds Wd.snd saysB
 rcases five hk.1 hk.2 with rfl | rfl | rfl | rfl | rfl
 ·obtain ⟨j, hj⟩ := one_term (second_reads ht (by decide))
  have e : baseT 1 s t = fun f => oneB (liesB s f && !liesB t f) := by funext f; rfl
  have en : n = 0 := by have : mostN 1 = 0 := by decide
                        omega
  rw [if_pos (show secondB 1 = true by decide), if_pos rfl, decide_eq_true_iff, e, ← size_less h hi hj, none_of_size (less_ok h s t), en]
  have := pcN_le (lessN (w.val s) (w.val t))
  show _ ≤ (0 : Int) ↔ _
  omega
 ·obtain ⟨j, hj⟩ := one_term (second_reads ht (by decide))
  have e : baseT 2 s t = fun f => oneB (liesB s f && !liesB t f) + oneB (liesB t f && !liesB s f) := by funext f; rfl
  have en : n = 0 := by have : mostN 2 = 0 := by decide
                        omega
  rw [if_pos (show secondB 2 = true by decide), if_neg (by decide), if_pos rfl, decide_eq_true_iff, e, sumT_add, ← size_less h hi hj, ← size_less h hj hi, same_of_less (ok_val h s) (ok_val h t), none_of_size (less_ok h s t), none_of_size (less_ok h t s), en]
  have := pcN_le (lessN (w.val s) (w.val t))
  have := pcN_le (lessN (w.val t) (w.val s))
  show _ ≤ (0 : Int) ↔ _
  omega
 ·obtain rfl := second_none ht (by decide)
  have e : baseT 3 s [] = fun f => - oneB (liesB s f) := by
   funext f
   show - oneB (liesB s f && !liesB [] f) = _
   rw [lies_none]; simp
  rw [if_neg (by decide), if_neg (by decide), if_pos rfl, decide_eq_true_iff, e, sumT_neg, ← size_one h hi]
  show _ ≤ -n ↔ _
  omega
 ·obtain rfl := second_none ht (by decide)
  have e : baseT 4 s [] = fun f => oneB (liesB s f) := by
   funext f
   show oneB (liesB s f && !liesB [] f) = _
   rw [lies_none]; simp
  rw [if_neg (by decide), if_neg (by decide), if_neg (by decide), if_pos rfl, decide_eq_true_iff, e, ← size_one h hi]
  show _ ≤ n ↔ _
  omega
 ·obtain ⟨j, hj⟩ := one_term (second_reads ht (by decide))
  have e : baseT 5 s t = fun f => oneB (liesB s f) - oneB (liesB t f) := by funext f; rfl
  rw [if_pos (show secondB 5 = true by decide), if_neg (by decide), if_neg (by decide), if_neg (by decide), if_neg (by decide), decide_eq_true_iff, e, sumT_sub, ← size_one h hi, ← size_one h hj]
  show _ ≤ n ↔ _
  omega
theorem rows_say {w : Wd} (h : w.ok = true) {k : Int} {s t : List Int} {n : Int} (hf : atomFault k s t n = 0) (hh : Bool) : (Rw.mk (rowT k s t hh) (rowM k n hh)).so (w.fc w.u.toNat) = (if hh = true then w.holds k s t n else !w.holds k s t n) := by
 have e := row_says h hf
 unfold Rw.so
 cases hh
 ·have e' : rowT k s t false = fun f => - baseT k s t f := by funext f; rfl
  have em : rowM k n false = -(mostK k n + 1) := rfl
  rw [e', sumT_neg, em, if_neg (by decide)]
  rcases (Bool.eq_false_or_eq_true (w.holds k s t n)).symm with q | q
  ·rw [q] at e ⊢
   simp only [Bool.not_false, decide_eq_true_eq]
   have := mt e.1 (by decide)
   omega
  ·rw [q] at e ⊢
   simp only [Bool.not_true, decide_eq_false_iff_not]
   have := e.2 rfl
   omega
 ·have e' : rowT k s t true = baseT k s t := by funext f; rfl
  have em : rowM k n true = mostK k n := rfl
  rw [e', em, if_pos rfl, Bool.eq_iff_iff, decide_eq_true_iff, e]
theorem row_right {k : Int} {s t : List Int} {n : Int} (hf : atomFault k s t n = 0) (hh : Bool) : (Rw.mk (rowT k s t hh) (rowM k n hh)).wrong = false := by
 refine right_iff.2 ⟨fun f _ => ?_, ?_⟩
 ·have := rowT_le k s t hh f
  show -2 ≤ rowT k s t hh f ∧ rowT k s t hh f ≤ 2
  omega
 ·have := rowM_le hf hh
  show -100 ≤ rowM k n hh ∧ rowM k n hh ≤ 100
  omega
end Go.Proofs.YtjmeakkmfeoigaaGreatDoor