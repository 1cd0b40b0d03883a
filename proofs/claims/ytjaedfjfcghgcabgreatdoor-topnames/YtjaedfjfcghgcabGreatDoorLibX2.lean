/-
  Facts and contracts that the statement leans on.
-/
import Derived.Test.YtjaedfjfcghgcabGreatDoorLibX1
namespace Go.Proofs.YtjaedfjfcghgcabGreatDoor
open Go.RowKit
def timesK (k : Int) (x y : Bool) : Int :=
 if k = 1 then oneB (x && !y) else if k = 2 then oneB (x && !y) + oneB (y && !x) else if k = 3 then - oneB (x && !y) else if k = 4 then oneB (x && !y) else oneB x - oneB y
def mostK (k n : Int) : Int := if k = 3 then -n else n
def baseT (k : Int) (s t : List Int) (f : Nat) : Int := timesK k (liesB s f) (liesB t f)
def rowT (k : Int) (s t : List Int) (h : Bool) (f : Nat) : Int := if h = true then baseT k s t f else - baseT k s t f
def rowM (k n : Int) (h : Bool) : Int := if h = true then mostK k n else -(mostK k n + 1)
theorem timesK_le (k : Int) (x y : Bool) : -1 ≤ timesK k x y ∧ timesK k x y ≤ 1 := by
 unfold timesK
 split
 ·cases x <;> cases y <;> decide
 split
 ·cases x <;> cases y <;> decide
 split
 ·cases x <;> cases y <;> decide
 split
 ·cases x <;> cases y <;> decide
 ·cases x <;> cases y <;> decide
theorem rowT_le (k : Int) (s t : List Int) (h : Bool) (f : Nat) : -1 ≤ rowT k s t h f ∧ rowT k s t h f ≤ 1 := by
 have := timesK_le k (liesB s f) (liesB t f)
 unfold rowT baseT; split <;> omega
theorem mostN_le (k : Int) : 0 ≤ mostN k ∧ mostN k ≤ 20 := by unfold mostN; split <;> omega
theorem rowM_le {k : Int} {s t : List Int} {n : Int} (hf : atomFault k s t n = 0) (h : Bool) : -21 ≤ rowM k n h ∧ rowM k n h ≤ 20 := by
 obtain ⟨_, _, _, h1, h2⟩ := atomFault_zero.1 hf
 have := mostN_le k
 unfold rowM mostK
 split <;> split <;> omega
structure Rw where
 t : Nat → Int
 m : Int
def sumT (T N : Nat → Int) : Nat → Int
 | 0 => 0
 | k + 1 => sumT T N k + T k * N k
def okT (T : Nat → Int) : Nat → Bool
 | 0 => true
 | k + 1 => okT T k && decide (-2 ≤ T k ∧ T k ≤ 2)
def Rw.wrong (r : Rw) : Bool := !(okT r.t 8 && decide (-100 ≤ r.m ∧ r.m ≤ 100))
def Rw.so (r : Rw) (N : Nat → Int) : Bool := decide (sumT r.t N 8 ≤ r.m)
def rowsFault (l : List Rw) : Int := if 12 < l.length then 4 else if l.any Rw.wrong = true then 1 else 0
def fitsFault (l : List Rw) (N : Nat → Int) : Int := if rowsFault l = 0 then countsFault N else rowsFault l
def fitsIs (l : List Rw) (N : Nat → Int) : Bool := if fitsFault l N = 0 then l.all (fun r => r.so N) else false
theorem okT_iff {T : Nat → Int} {k : Nat} : okT T k = true ↔ ∀ f, f < k → -2 ≤ T f ∧ T f ≤ 2 := by
 induction k with
 | zero => exact ⟨fun _ f hf => by omega, fun _ => rfl⟩
 | succ k ih =>
  unfold okT
  rw [Bool.and_eq_true, ih, decide_eq_true_iff]
  refine ⟨fun h f hf => ?_, fun h => ⟨fun f hf => h f (by omega), h k (by omega)⟩⟩
  rcases Nat.lt_or_ge f k with h' | h'
  ·exact h.1 f h'
  ·obtain rfl : f = k := by omega
   exact h.2
theorem right_iff {r : Rw} : r.wrong = false ↔ (∀ f, f < 8 → -2 ≤ r.t f ∧ r.t f ≤ 2) ∧ -100 ≤ r.m ∧ r.m ≤ 100 := by
 unfold Rw.wrong
 rw [Bool.not_eq_false', Bool.and_eq_true, okT_iff, decide_eq_true_iff]
theorem wrong_time {r : Rw} {f : Nat} (hf : f < 8) (h : ¬ (-2 ≤ r.t f ∧ r.t f ≤ 2)) : r.wrong = true := by
 rcases (Bool.eq_false_or_eq_true r.wrong).symm with e | e
 ·exact absurd ((right_iff.1 e).1 f hf) h
 ·exact e
theorem wrong_most {r : Rw} (h : ¬ (-100 ≤ r.m ∧ r.m ≤ 100)) : r.wrong = true := by
 rcases (Bool.eq_false_or_eq_true r.wrong).symm with e | e
 ·exact absurd (right_iff.1 e).2 h
 ·exact e
theorem mul_le {x y : Int} (hx : -2 ≤ x ∧ x ≤ 2) (hy : 0 ≤ y ∧ y ≤ 6) : -12 ≤ x * y ∧ x * y ≤ 12 := by
 obtain ⟨x0, x1⟩ := hx
 have d : x = -2 ∨ x = -1 ∨ x = 0 ∨ x = 1 ∨ x = 2 := by omega
 rcases d with rfl | rfl | rfl | rfl | rfl <;> omega
theorem sumT_le {T N : Nat → Int} {k : Nat} (hT : ∀ f, f < k → -2 ≤ T f ∧ T f ≤ 2) (hN : ∀ f, f < k → 0 ≤ N f ∧ N f ≤ 6) : -12 * (k : Int) ≤ sumT T N k ∧ sumT T N k ≤ 12 * k := by
 induction k with
 | zero => exact ⟨Int.le_refl _, Int.le_refl _⟩
 | succ k ih =>
  have := ih (fun f hf => hT f (by omega)) fun f hf => hN f (by omega)
  have := mul_le (hT k (by omega)) (hN k (by omega))
  unfold sumT; push_cast; omega
theorem sumT_same {T S N M : Nat → Int} {k : Nat} (h : ∀ f, f < k → T f = S f) (h' : ∀ f, f < k → N f = M f) : sumT T N k = sumT S M k := by
 induction k with
 | zero => rfl
 | succ k ih => unfold sumT; rw [ih (fun f hf => h f (by omega)) fun f hf => h' f (by omega), h k (by omega), h' k (by omega)]
theorem sumT_one (L : Nat → Bool) (N : Nat → Int) (k : Nat) : sumT (fun f => oneB (L f)) N k = sumIn L N k := by
 induction k with
 | zero => rfl
 | succ k ih =>
  unfold sumT sumIn
  rw [ih]
  unfold oneB
  split <;> omega
theorem sumT_neg (T N : Nat → Int) (k : Nat) : sumT (fun f => - T f) N k = - sumT T N k := by
 induction k with
 | zero => rfl
 | succ k ih => unfold sumT; rw [ih, Int.neg_mul]; omega
theorem sumT_add (T S N : Nat → Int) (k : Nat) : sumT (fun f => T f + S f) N k = sumT T N k + sumT S N k := by
 induction k with
 | zero => rfl
 | succ k ih => unfold sumT; rw [ih, Int.add_mul]; omega
theorem sumT_sub (T S N : Nat → Int) (k : Nat) : sumT (fun f => T f - S f) N k = sumT T N k - sumT S N k := by
 induction k with
 | zero => rfl
 | succ k ih => unfold sumT; rw [ih, Int.sub_mul]; omega
theorem lies_none (f : Nat) : liesB [] f = false := by
 show hasB 0 ((0 : Nat) : Int) = false
 decide
theorem lies_less {n m : Nat} {s t : List Int} (hs : isTm n s) (ht : isTm m t) (f : Nat) : liesB (s ++ (t ++ [7])) f = (liesB s f && !liesB t f) := by
 unfold liesB
 rw [has_two (oneW_ok f) (by omega) (by omega) hs ht 0 (by rw [oneW_u]; decide)]
 rfl
theorem size_less {w : Wd} (h : w.ok = true) {n m : Nat} {s t : List Int} (hs : isTm n s) (ht : isTm m t) : pcN (lessN (w.val s) (w.val t)) = sumT (fun f => oneB (liesB s f && !liesB t f)) (w.fc w.u.toNat) 8 := by
 have e : w.val (s ++ (t ++ [7])) = lessN (w.val s) (w.val t) := by rw [val_bin w (by omega) (by omega) hs ht, doN7]
 have hn : isTm (n + m + 1) (s ++ (t ++ [7])) := Or.inr (Or.inr ⟨7, s, t, by omega, by omega, isTm_mono (by omega) hs, isTm_mono (by omega) ht, rfl⟩)
 rw [← e, size_fields h hn, ← sumT_one]
 exact sumT_same (fun f _ => by rw [lies_less hs ht]) fun _ _ => rfl
theorem size_one {w : Wd} (h : w.ok = true) {n : Nat} {s : List Int} (hs : isTm n s) : pcN (w.val s) = sumT (fun f => oneB (liesB s f)) (w.fc w.u.toNat) 8 := by
 rw [size_fields h hs, sumT_one]
theorem less_ok {w : Wd} (h : w.ok = true) (s t : List Int) : okB w.u (lessN (w.val s) (w.val t)) = true := by
 have := ok_do (what := 7) (ok_val h s) (ok_val h t)
 rw [doN7] at this
 exact this
theorem second_none {k : Int} {t : List Int} (ht : secondFault k t = 0) (hk : secondB k = false) : t = [] := by
 unfold secondFault at ht
 rw [hk] at ht
 cases t with
 | nil => rfl
 | cons a t => simp at ht
theorem row_says {w : Wd} (h : w.ok = true) {k : Int} {s t : List Int} {n : Int} (hf : atomFault k s t n = 0) : (sumT (baseT k s t) (w.fc w.u.toNat) 8 ≤ mostK k n ↔ w.holds k s t n = true) := by
 obtain ⟨hk, hs, ht, n0, n1⟩ := atomFault_zero.1 hf
 obtain ⟨i, hi⟩ := one_term hs
 unfold Wd.holds Wd.snd saysB
 rcases five hk.1 hk.2 with rfl | rfl | rfl | rfl | rfl
 ·obtain ⟨j, hj⟩ := one_term (second_reads ht (by decide))
  have e : baseT 1 s t = fun f => oneB (liesB s f && !liesB t f) := by funext f; rfl
  have en : n = 0 := by have : mostN 1 = 0 := by decide
                        omega
  rw [if_pos (show secondB 1 = true by decide), if_pos rfl, decide_eq_true_iff, e, ← size_less h hi hj, none_of_size (less_ok h s t), en]
  have := pcN_le (lessN (w.val s) (w.val t))
  show _ ≤ (0 : Int) ↔ _
  omega
 ·obtain ⟨j, hj⟩ := one_term (second_reads ht (by decide))
  have e : baseT 2 s t = fun f => oneB (liesB s f && !liesB t f) + oneB (liesB t f && !liesB s f) := by funext f; rfl
  have en : n = 0 := by have : mostN 2 = 0 := by decide
                        omega
  rw [if_pos (show secondB 2 = true by decide), if_neg (by decide), if_pos rfl, decide_eq_true_iff, e, sumT_add, ← size_less h hi hj, ← size_less h hj hi, same_of_less (ok_val h s) (ok_val h t), none_of_size (less_ok h s t), none_of_size (less_ok h t s), en]
  have := pcN_le (lessN (w.val s) (w.val t))
  have := pcN_le (lessN (w.val t) (w.val s))
  show _ ≤ (0 : Int) ↔ _
  omega
 ·obtain rfl := second_none ht (by decide)
  have e : baseT 3 s [] = fun f => - oneB (liesB s f) := by
   funext f
   show - oneB (liesB s f && !liesB [] f) = _
   rw [lies_none]; simp
  rw [if_neg (by decide), if_neg (by decide), if_pos rfl, decide_eq_true_iff, e, sumT_neg, ← size_one h hi]
  show _ ≤ -n ↔ _
  omega
 ·obtain rfl := second_none ht (by decide)
  have e : baseT 4 s [] = fun f => oneB (liesB s f) := by
   funext f
   show oneB (liesB s f && !liesB [] f) = _
   rw [lies_none]; simp
  rw [if_neg (by decide), if_neg (by decide), if_neg (by decide), if_pos rfl, decide_eq_true_iff, e, ← size_one h hi]
  show _ ≤ n ↔ _
  omega
 ·obtain ⟨j, hj⟩ := one_term (second_reads ht (by decide))
  have e : baseT 5 s t = fun f => oneB (liesB s f) - oneB (liesB t f) := by funext f; rfl
  rw [if_pos (show secondB 5 = true by decide), if_neg (by decide), if_neg (by decide), if_neg (by decide), if_neg (by decide), decide_eq_true_iff, e, sumT_sub, ← size_one h hi, ← size_one h hj]
  show _ ≤ n ↔ _
  omega
theorem rows_say {w : Wd} (h : w.ok = true) {k : Int} {s t : List Int} {n : Int} (hf : atomFault k s t n = 0) (hh : Bool) : (Rw.mk (rowT k s t hh) (rowM k n hh)).so (w.fc w.u.toNat) = (if hh = true then w.holds k s t n else !w.holds k s t n) := by
 have e := row_says h hf
 unfold Rw.so
 cases hh
 ·have e' : rowT k s t false = fun f => - baseT k s t f := by funext f; rfl
  have em : rowM k n false = -(mostK k n + 1) := rfl
  rw [e', sumT_neg, em, if_neg (by decide)]
  rcases (Bool.eq_false_or_eq_true (w.holds k s t n)).symm with q | q
  ·rw [q] at e ⊢
   simp only [Bool.not_false, decide_eq_true_eq]
   have := mt e.1 (by decide)
   omega
  ·rw [q] at e ⊢
   simp only [Bool.not_true, decide_eq_false_iff_not]
   have := e.2 rfl
   omega
 ·have e' : rowT k s t true = baseT k s t := by funext f; rfl
  have em : rowM k n true = mostK k n := rfl
  rw [e', em, if_pos rfl, Bool.eq_iff_iff, decide_eq_true_iff, e]
theorem row_right {k : Int} {s t : List Int} {n : Int} (hf : atomFault k s t n = 0) (hh : Bool) : (Rw.mk (rowT k s t hh) (rowM k n hh)).wrong = false := by
 refine right_iff.2 ⟨fun f _ => ?_, ?_⟩
 ·have := rowT_le k s t hh f
  show -2 ≤ rowT k s t hh f ∧ rowT k s t hh f ≤ 2
  omega
 ·have := rowM_le hf hh
  show -100 ≤ rowM k n hh ∧ rowM k n hh ≤ 100
  omega
end Go.Proofs.YtjaedfjfcghgcabGreatDoor
namespace Go.Proofs.YtjaedfjfcghgcabGreatDoor
open Go.RowKit
def putN (N : Nat → Int) (f : Nat) (x : Int) : Nat → Int := fun g => if g = f then x else N g
theorem putN_same (N : Nat → Int) (f : Nat) (x : Int) : putN N f x f = x := by unfold putN; rw [if_pos rfl]
theorem putN_other (N : Nat → Int) {f g : Nat} (h : g ≠ f) (x : Int) : putN N f x g = N g := by unfold putN; rw [if_neg h]
def allF : Nat → Nat → (Nat → Int) → List (Nat → Int)
 | 0, u, N => [putN N 7 u]
 | r + 1, u, N => (List.range (u + 1)).flatMap fun k => allF r (u - k) (putN N (6 - r) k)
def everyC (u : Nat) : List (Nat → Int) := allF 7 u fun _ => 0
def allTo (r u : Nat) (N : Nat → Int) (k : Nat) : List (Nat → Int) := (List.range k).flatMap fun j => allF r (u - j) (putN N (6 - r) j)
def waysN : Nat → Nat → Nat
 | 0, _ => 1
 | r + 1, u => ((List.range (u + 1)).map fun k => waysN r (u - k)).sum
theorem allF_sum (r : Nat) (hr : r ≤ 7) : ∀ (u : Nat) (N : Nat → Int), ∀ M ∈ allF r u N, (∀ g, g < 7 - r → M g = N g) ∧ (∀ g, 7 - r ≤ g → g < 8 → 0 ≤ M g ∧ M g ≤ u) ∧ sumN M 8 = sumN N (7 - r) + u := by
 induction r with
 | zero =>
  intro u N M hM
  obtain rfl : M = putN N 7 u := by simpa [allF] using hM
  refine ⟨fun g hg => putN_other N (by omega) _, fun g h1 h2 => ?_, ?_⟩
  ·obtain rfl : g = 7 := by omega
   rw [putN_same]; omega
  ·show sumN (putN N 7 u) 7 + putN N 7 u 7 = _
   rw [putN_same, sumN_same (M := N) fun f hf => putN_other N (by omega) _]
 | succ r ih =>
  intro u N M hM
  unfold allF at hM
  rw [List.mem_flatMap] at hM
  obtain ⟨k, hk, hM⟩ := hM
  have hk' : k < u + 1 := List.mem_range.1 hk
  obtain ⟨i1, i2, i3⟩ := ih (by omega) (u - k) _ M hM
  have e7 : 7 - r = 7 - (r + 1) + 1 := by omega
  have e6 : 6 - r = 7 - (r + 1) := by omega
  rw [e6] at i1 i3
  refine ⟨fun g hg => ?_, fun g h1 h2 => ?_, ?_⟩
  ·rw [i1 g (by omega)]; exact putN_other N (by omega) _
  ·by_cases e : g = 7 - (r + 1)
   ·rw [i1 g (by omega), e, putN_same]; omega
   ·have := i2 g (by omega) h2
    omega
  ·rw [i3, e7]
   show sumN _ (7 - (r + 1)) + putN N (7 - (r + 1)) k (7 - (r + 1)) + _ = _
   rw [putN_same, sumN_same (M := N) fun f hf => putN_other N (by omega) _]
   omega
theorem everyC_sum {u : Nat} {M : Nat → Int} (h : M ∈ everyC u) : (∀ g, g < 8 → 0 ≤ M g ∧ M g ≤ u) ∧ sumN M 8 = u := by
 obtain ⟨_, h2, h3⟩ := allF_sum 7 (by omega) u (fun _ => 0) M h
 refine ⟨fun g hg => h2 g (by omega) hg, ?_⟩
 rw [h3]; show (0 : Int) + u = u; omega
theorem everyC_right {u : Nat} (hu : u ≤ 6) {M : Nat → Int} (h : M ∈ everyC u) : countsFault M = 0 := by
 obtain ⟨h1, h2⟩ := everyC_sum h
 exact counts_zero.2 ⟨fun f hf => by have := h1 f hf; omega, by omega⟩
end Go.Proofs.YtjaedfjfcghgcabGreatDoor
namespace Go.Proofs.YtjaedfjfcghgcabGreatDoor
open Go.RowKit
def aheadC (N M : Nat → Int) : Prop := ∃ f, f < 8 ∧ (∀ g, g < f → N g = M g) ∧ N f < M f
theorem allF_front {r : Nat} (hr : r ≤ 7) {u : Nat} {N M : Nat → Int} (h : M ∈ allF r u N) {g : Nat} (hg : g < 7 - r) : M g = N g := (allF_sum r hr u N M h).1 g hg
theorem allF_sorted (r : Nat) (hr : r ≤ 7) : ∀ (u : Nat) (N : Nat → Int), (allF r u N).Pairwise aheadC := by
 induction r with
 | zero => intro u N; exact List.pairwise_singleton _ _
 | succ r ih =>
  intro u N
  unfold allF
  rw [List.pairwise_flatMap]
  refine ⟨fun k _ => ih (by omega) _ _, ?_⟩
  refine List.Pairwise.imp ?_ List.pairwise_lt_range
  intro j k hjk A hA B hB
  have e : 6 - r = 7 - (r + 1) := by omega
  refine ⟨6 - r, by omega, fun g hg => ?_, ?_⟩
  ·rw [allF_front (by omega) hA (by omega), allF_front (by omega) hB (by omega), putN_other N (by omega), putN_other N (by omega)]
  ·rw [allF_front (by omega) hA (by omega), allF_front (by omega) hB (by omega), putN_same, putN_same]
   omega
theorem sumN_up {N : Nat → Int} {k l : Nat} (hkl : k ≤ l) (h : ∀ g, k ≤ g → g < l → 0 ≤ N g) : sumN N k ≤ sumN N l := by
 induction l with
 | zero => obtain rfl : k = 0 := by omega
           exact Int.le_refl _
 | succ l ih =>
  rcases Nat.lt_or_ge l k with h' | h'
  ·obtain rfl : k = l + 1 := by omega
   exact Int.le_refl _
  ·have := ih h' fun g h1 h2 => h g h1 (by omega)
   have := h l h' (by omega)
   have e : sumN N (l + 1) = sumN N l + N l := rfl
   rw [e]; omega
theorem allF_all (r : Nat) (hr : r ≤ 7) : ∀ (u : Nat) (N M : Nat → Int), (∀ g, g < 7 - r → M g = N g) → (∀ g, 7 - r ≤ g → g < 8 → 0 ≤ M g) → sumN M 8 = sumN N (7 - r) + u → ∃ A ∈ allF r u N, ∀ g, g < 8 → A g = M g := by
 induction r with
 | zero =>
  intro u N M h1 h2 h3
  refine ⟨putN N 7 u, by simp [allF], fun g hg => ?_⟩
  by_cases e : g = 7
  ·subst e
   rw [putN_same]
   have e8 : sumN M 8 = sumN M 7 + M 7 := rfl
   have e7 : sumN M 7 = sumN N 7 := sumN_same fun f hf => h1 f (by omega)
   have : sumN N (7 - 0) = sumN N 7 := rfl
   omega
  ·rw [putN_other N e, h1 g (by omega)]
 | succ r ih =>
  intro u N M h1 h2 h3
  obtain ⟨f, hf⟩ := nm (7 - (r + 1))
  have e6 : 6 - r = f := by omega
  have e7 : 7 - r = f + 1 := by omega
  rw [← hf] at h1 h2 h3
  have m0 := h2 f (Nat.le_refl _) (by omega)
  obtain ⟨k, hk⟩ := Int.eq_ofNat_of_zero_le m0
  have ef : sumN M (f + 1) = sumN N f + k := by
   show sumN M f + M f = _
   rw [sumN_same (M := N) fun g hg => h1 g hg, hk]
  have hup := sumN_up (N := M) (k := f + 1) (l := 8) (by omega) fun g a b => h2 g (by omega) b
  have hku : k ≤ u := by omega
  obtain ⟨A, hA, hAM⟩ := ih (by omega) (u - k) (putN N f k) M (fun g hg => by
   by_cases e : g = f
   ·rw [e, putN_same, hk]
   ·rw [putN_other N e, h1 g (by omega)]) (fun g a b => h2 g (by omega) b) (by
   rw [e7]
   show _ = sumN (putN N f k) f + putN N f k f + _
   rw [putN_same, sumN_same (M := N) fun g hg => putN_other N (by omega) _]
   omega)
  refine ⟨A, ?_, hAM⟩
  unfold allF
  rw [List.mem_flatMap]
  exact ⟨k, List.mem_range.2 (by omega), by rw [e6]; exact hA⟩
theorem everyC_all {u : Nat} {M : Nat → Int} (h0 : ∀ g, g < 8 → 0 ≤ M g) (hs : sumN M 8 = u) : ∃ A ∈ everyC u, ∀ g, g < 8 → A g = M g :=
 allF_all 7 (by omega) u _ M (fun g hg => by omega) (fun g _ hg => h0 g hg) (by rw [hs]; show _ = (0 : Int) + u; omega)
theorem everyC_sorted (u : Nat) : (everyC u).Pairwise aheadC := allF_sorted 7 (by omega) u _
theorem aheadC_irrefl {N M : Nat → Int} (h : aheadC N M) : ¬ ∀ g, g < 8 → N g = M g := by
 obtain ⟨f, hf, _, hlt⟩ := h
 intro e
 have := e f hf
 omega
theorem everyC_once {u i j : Nat} {A B : Nat → Int} (hi : (everyC u)[i]? = some A) (hj : (everyC u)[j]? = some B) (h : ∀ g, g < 8 → A g = B g) : i = j := by
 have hs := List.pairwise_iff_getElem.1 (everyC_sorted u)
 obtain ⟨hi', rfl⟩ := List.getElem?_eq_some_iff.1 hi
 obtain ⟨hj', rfl⟩ := List.getElem?_eq_some_iff.1 hj
 rcases Nat.lt_trichotomy i j with h' | h' | h'
 ·exact absurd h (aheadC_irrefl (hs i j hi' hj' h'))
 ·exact h'
 ·exact absurd (fun g hg => (h g hg).symm) (aheadC_irrefl (hs j i hj' hi' h'))
end Go.Proofs.YtjaedfjfcghgcabGreatDoor
namespace Go.Proofs.YtjaedfjfcghgcabGreatDoor
open Go.RowKit
def fitB (l : List Rw) (N : Nat → Int) : Bool := l.all fun r => r.so N
def zeroC : Nat → Int := fun _ => 0
def manyD (A : List (Nat → Int)) (p : (Nat → Int) → Bool) (j : Nat) : Nat := ((A.drop j).filter p).length
def leastD (A : List (Nat → Int)) (p : (Nat → Int) → Bool) (j : Nat) : Nat → Int := ((A.drop j).find? p).getD zeroC
theorem manyD_none {A : List (Nat → Int)} {p : (Nat → Int) → Bool} {j : Nat} (h : manyD A p j = 0) : leastD A p j = zeroC := by
 unfold manyD at h
 have hn := List.eq_nil_of_length_eq_zero h
 have : (A.drop j).find? p = none := by
  rw [List.find?_eq_none]
  intro x hx hp
  have : x ∈ (A.drop j).filter p := List.mem_filter.2 ⟨hx, hp⟩
  rw [hn] at this
  cases this
 unfold leastD
 rw [this]
 rfl
def nextTo (A : List (Nat → Int)) (q : (Nat → Int) → Bool) : Nat → Option (Nat → Int)
 | 0 => none
 | i + 1 => if q (A.getD i zeroC) = true then some (A.getD (i + 1) zeroC) else nextTo A q i
def fitFault (u : Int) (l : List Rw) : Int := if 0 ≤ u ∧ u ≤ 6 then rowsFault l else 1
def fitManyN (u : Int) (l : List Rw) : Int := if fitFault u l = 0 then (manyD (everyC u.toNat) (fitB l) 0 : Int) else 0
def leastFault (u : Int) (l : List Rw) : Int := if fitFault u l = 0 then (if fitManyN u l = 0 then 5 else 0) else fitFault u l
def leastN (u : Int) (l : List Rw) : Nat → Int := if fitFault u l = 0 then leastD (everyC u.toNat) (fitB l) 0 else zeroC
def nextO (u : Int) (N : Nat → Int) : Option (Nat → Int) := nextTo (everyC u.toNat) (fun M => (List.range 8).all fun f => M f == N f) ((everyC u.toNat).length - 1)
def nextFault (u : Int) (N : Nat → Int) : Int :=
 if 0 ≤ u ∧ u ≤ 6 then (if countsFault N = 0 then (if sumN N 8 = u then (if (nextO u N).isSome = true then 0 else 5) else 3) else countsFault N) else 1
def nextN (u : Int) (N : Nat → Int) : Nat → Int := if nextFault u N = 0 then (nextO u N).getD zeroC else zeroC
end Go.Proofs.YtjaedfjfcghgcabGreatDoor
namespace Go.Proofs.YtjaedfjfcghgcabGreatDoor
open Go.RowKit
theorem allF_ne (r : Nat) : ∀ (u : Nat) (N : Nat → Int), allF r u N ≠ [] := by
 induction r with
 | zero => intro u N h; cases h
 | succ r ih =>
  intro u N h
  unfold allF at h
  rw [List.flatMap_eq_nil_iff] at h
  exact ih _ _ (h 0 (List.mem_range.2 (by omega)))
theorem allF_head (r : Nat) : ∀ (u : Nat) (N : Nat → Int), ∃ M, (allF r u N)[0]? = some M ∧ M 7 = (u : Int) := by
 induction r with
 | zero => intro u N; exact ⟨putN N 7 u, rfl, putN_same _ _ _⟩
 | succ r ih =>
  intro u N
  obtain ⟨M, h1, h2⟩ := ih u (putN N (6 - r) (0 : Nat))
  refine ⟨M, ?_, h2⟩
  unfold allF
  rw [List.range_succ_eq_map, List.flatMap_cons, List.getElem?_append_left (by have := (List.getElem?_eq_some_iff.1 h1).1; exact this)]
  exact h1
theorem fitB_same {l : List Rw} {N M : Nat → Int} (h : ∀ g, g < 8 → N g = M g) : fitB l N = fitB l M := by
 unfold fitB
 have : ∀ r : Rw, r.so N = r.so M := fun r => by unfold Rw.so; rw [sumT_same (fun _ _ => rfl) h]
 simp only [this]
end Go.Proofs.YtjaedfjfcghgcabGreatDoor
namespace Go.Proofs.YtjaedfjfcghgcabGreatDoor
open Go.RowKit
def lastTo (N : Nat → Int) : Nat → Nat
 | 0 => 0
 | k + 1 => if 0 < N k then k else lastTo N k
theorem lastTo_lt (N : Nat → Int) (k : Nat) (h : lastTo N k ≠ 0) : lastTo N k < k := by
 induction k with
 | zero => exact absurd rfl h
 | succ k ih =>
  unfold lastTo at h ⊢
  split
  ·omega
  ·rename_i hn
   rw [if_neg hn] at h
   have := ih h
   omega
def afterL (N : Nat → Int) (L : Nat) : Nat → Int := putN (putN (putN N L 0) (L - 1) (N (L - 1) + 1)) 7 (N L - 1)
def afterN (N : Nat → Int) : Nat → Int := afterL N (lastTo N 8)
def afterO (N : Nat → Int) : Nat → Int := if lastTo N 8 = 0 then zeroC else afterN N
def stepsB : List (Nat → Int) → Bool
 | [] => true
 | M :: L => (match L with
  | [] => lastTo M 8 == 0
  | M' :: _ => lastTo M 8 != 0 && (List.range 8).all fun f => afterN M f == M' f) && stepsB L
theorem steps_all : ∀ u, u ≤ 6 → stepsB (everyC u) = true := by decide +kernel
theorem steps_at {A : List (Nat → Int)} (h : stepsB A = true) : ∀ {i : Nat} {M : Nat → Int}, A[i]? = some M →
    (lastTo M 8 ≠ 0 ∧ ∃ M', A[i + 1]? = some M' ∧ ∀ f, f < 8 → afterN M f = M' f) ∨ (lastTo M 8 = 0 ∧ i + 1 = A.length) := by
 induction A with
 | nil => intro i M hi; simp at hi
 | cons X L ih =>
  intro i M hi
  unfold stepsB at h
  rw [Bool.and_eq_true] at h
  cases i with
  | zero =>
   obtain rfl : X = M := by simpa using hi
   cases L with
   | nil =>
    have h1 := h.1
    simp only [beq_iff_eq] at h1
    exact Or.inr ⟨h1, rfl⟩
   | cons M' L =>
    have h1 := h.1
    simp only [Bool.and_eq_true, bne_iff_ne, ne_eq, List.all_eq_true, beq_iff_eq, List.mem_range] at h1
    exact Or.inl ⟨h1.1, M', rfl, h1.2⟩
  | succ i =>
   rcases ih h.2 (i := i) (M := M) (by simpa using hi) with ⟨a, M', b, c⟩ | ⟨a, b⟩
   ·exact Or.inl ⟨a, M', by simpa using b, c⟩
   ·exact Or.inr ⟨a, by simp [b]⟩
theorem every_steps {u : Nat} (hu : u ≤ 6) {i : Nat} {M : Nat → Int} (hi : (everyC u)[i]? = some M) :
    (lastTo M 8 ≠ 0 ∧ ∃ M', (everyC u)[i + 1]? = some M' ∧ ∀ f, f < 8 → afterN M f = M' f) ∨ (lastTo M 8 = 0 ∧ i + 1 = (everyC u).length) := steps_at (steps_all u hu) hi
end Go.Proofs.YtjaedfjfcghgcabGreatDoor
namespace Go.Proofs.YtjaedfjfcghgcabGreatDoor
open Go.RowKit
def isFm (m : Nat) : Nat → List Int → Prop
 | 0, _ => False
 | n + 1, q => (∃ s : Int, 0 ≤ s ∧ s < m ∧ q = [s]) ∨ (∃ t, isFm m n t ∧ q = t ++ [12]) ∨ (∃ (s : Int) (a b : List Int), (s = 10 ∨ s = 11 ∨ s = 13) ∧ isFm m n a ∧ isFm m n b ∧ q = a ++ (b ++ [s]))
def boolF (s : Int) (x y : Bool) : Bool := if s = 10 then x && y else if s = 11 then x || y else !x || y
end Go.Proofs.YtjaedfjfcghgcabGreatDoor
namespace Go.Proofs.YtjaedfjfcghgcabGreatDoor
open Go.RowKit
def cubeOk (M : Nat) (c : List Int) : Prop := (∀ m ∈ c, 1 ≤ m.natAbs ∧ m.natAbs ≤ M) ∧ c.Pairwise (fun a b => a.natAbs < b.natAbs)
def bothWays (c : List Int) : Bool := c.any (fun m => c.contains (-m))
def atomIn (c : List Int) (n : Int) : List Int := if c.contains n = true then [n] else if c.contains (-n) = true then [-n] else []
def joinC (c d : List Int) : List Int := [1, 2, 3, 4, 5, 6].flatMap (atomIn (c ++ d))
def putC (L : List (List Int)) (c : List Int) : List (List Int) := if L.contains c = true then L else L ++ [c]
def andS (c : List Int) (L : List (List Int)) (d : List Int) : List (List Int) := if bothWays (c ++ d) = true then L else putC L (joinC c d)
def andR (B : List (List Int)) (L : List (List Int)) (c : List Int) : List (List Int) := B.foldl (andS c) L
def andC (A B : List (List Int)) : List (List Int) := A.foldl (andR B) []
def orC (A B : List (List Int)) : List (List Int) := (A ++ B).foldl putC []
def turnC (c : List Int) : List (List Int) := c.map (fun m => [-m])
def capC (L : List (List Int)) : Option (List (List Int)) := if 40 < L.length then none else some L
def noC : List (List Int) → List (List Int) → Option (List (List Int))
 | [], out => some out
 | c :: l, out => (capC (andC out (turnC c))).bind (noC l)
def madeC (s : Int) (l : List (List (List Int))) : Option (List (List Int)) :=
 if s = 10 then capC (andC (l.getD 0 []) (l.getD 1 [])) else if s = 11 then capC (orC (l.getD 0 []) (l.getD 1 [])) else if s = 13 then (noC (l.getD 0 []) [[]]).bind (fun x => capC (orC x (l.getD 1 []))) else if s = 12 then noC (l.getD 0 []) [[]] else some [[s + 1]]
def restC (p : List (List (List Int))) (s : Int) : Nat := p.length - (takesF s).toNat
def stepC (p : List (List (List Int))) (s : Int) : Option (List (List (List Int))) := (madeC s (p.drop (restC p s))).map (fun x => p.take (restC p s) ++ [x])
def pileC : List Int → List (List (List Int)) → Option (List (List (List Int)))
 | [], p => some p
 | s :: l, p => (stepC p s).bind (pileC l)
def cubesC (c : List Int) : Option (List (List Int)) := (pileC c []).map (fun p => p.getD 0 [])
theorem bothWays_iff {c : List Int} : bothWays c = true ↔ ∃ m, m ∈ c ∧ -m ∈ c := by
 unfold bothWays; simp [List.any_eq_true]
theorem bothWays_mem {c d : List Int} (h : ∀ m, m ∈ c ↔ m ∈ d) : bothWays c = bothWays d := by
 rw [Bool.eq_iff_iff, bothWays_iff, bothWays_iff]
 simp [h]
theorem cube_noway {M : Nat} {c : List Int} (h : cubeOk M c) : bothWays c = false := by
 rw [← Bool.not_eq_true, bothWays_iff]
 rintro ⟨m, h1, h2⟩
 have hr := h.1 m h1
 have key : ∀ l : List Int, l.Pairwise (fun a b => a.natAbs < b.natAbs) → ∀ x ∈ l, ∀ y ∈ l, x.natAbs = y.natAbs → x = y := by
  intro l hl
  induction hl with
  | nil => intro x hx; cases hx
  | cons hh _ ih =>
   intro x hx y hy e
   rcases List.mem_cons.1 hx with ex | hx'
   ·rcases List.mem_cons.1 hy with ey | hy'
    ·rw [ex, ey]
    ·have := hh y hy'; rw [← ex] at this; omega
   ·rcases List.mem_cons.1 hy with ey | hy'
    ·have := hh x hx'; rw [← ey] at this; omega
    ·exact ih x hx' y hy' e
 have := key c h.2 m h1 (-m) h2 (by simp)
 omega
theorem rising_len {M : Nat} : ∀ (c : List Int) (k : Nat), (∀ m ∈ c, k < m.natAbs ∧ m.natAbs ≤ M) → c.Pairwise (fun a b => a.natAbs < b.natAbs) → c.length + k ≤ M ∨ c = [] := by
 intro c
 induction c with
 | nil => intro k _ _; exact Or.inr rfl
 | cons m l ih =>
  intro k h hp
  have hm := h m (by simp)
  rw [List.pairwise_cons] at hp
  rcases ih m.natAbs (fun x hx => ⟨hp.1 x hx, (h x (by simp [hx])).2⟩) hp.2 with h1 | rfl
  ·left; simp; omega
  ·left; simp; omega
theorem cube_len {M : Nat} {c : List Int} (h : cubeOk M c) : c.length ≤ M := by
 rcases rising_len c 0 (fun m hm => ⟨by have := (h.1 m hm).1; omega, (h.1 m hm).2⟩) h.2 with h1 | rfl
 ·omega
 ·simp
theorem rising_ext : ∀ {c d : List Int}, c.Pairwise (fun a b => a.natAbs < b.natAbs) → d.Pairwise (fun a b => a.natAbs < b.natAbs) → (∀ m, m ∈ c ↔ m ∈ d) → c = d := by
 intro c
 induction c with
 | nil =>
  intro d _ _ h
  cases d with
  | nil => rfl
  | cons x l => have := (h x).2 (by simp); cases this
 | cons a l ih =>
  intro d hc hd h
  cases d with
  | nil => have := (h a).1 (by simp); cases this
  | cons b k =>
   rw [List.pairwise_cons] at hc hd
   have hab : a = b := by
    rcases List.mem_cons.1 ((h a).1 (by simp)) with e | e
    ·exact e
    ·rcases List.mem_cons.1 ((h b).2 (by simp)) with e' | e'
     ·exact e'.symm
     ·have h1 := hd.1 a e; have h2 := hc.1 b e'; omega
   subst hab
   rw [ih hc.2 hd.2 (fun m => ?_)]
   have hm := h m
   constructor
   ·intro hml
    rcases List.mem_cons.1 (hm.1 (by simp [hml])) with rfl | e
    ·have := hc.1 m hml; omega
    ·exact e
   ·intro hmk
    rcases List.mem_cons.1 (hm.2 (by simp [hmk])) with rfl | e
    ·have := hd.1 m hmk; omega
    ·exact e
theorem mem_joinC {c d : List Int} (hr : ∀ m ∈ c ++ d, 1 ≤ m.natAbs ∧ m.natAbs ≤ 6) (hb : bothWays (c ++ d) = false) (m : Int) : m ∈ joinC c d ↔ m ∈ c ++ d := by
 rw [← Bool.not_eq_true, bothWays_iff] at hb
 unfold joinC
 rw [List.mem_flatMap]
 constructor
 ·rintro ⟨n, _, hn⟩
  unfold atomIn at hn
  split at hn
  ·rename_i h; rw [List.mem_singleton.1 hn]; simpa using h
  ·split at hn
   ·rename_i h; rw [List.mem_singleton.1 hn]; simpa using h
   ·cases hn
 ·intro hm
  have h6 := hr m hm
  refine ⟨(m.natAbs : Int), ?_, ?_⟩
  ·have : m.natAbs = 1 ∨ m.natAbs = 2 ∨ m.natAbs = 3 ∨ m.natAbs = 4 ∨ m.natAbs = 5 ∨ m.natAbs = 6 := by omega
   rcases this with e | e | e | e | e | e <;> rw [e] <;> simp
  ·unfold atomIn
   rcases Int.natAbs_eq m with e | e
   ·rw [← e, if_pos (by simpa using hm)]; simp
   ·have e2 : (m.natAbs : Int) = -m := by omega
    rw [e2, if_neg, if_pos]
    ·simp
    ·simpa using hm
    ·intro hc
     exact hb ⟨m, hm, by simpa using hc⟩
theorem join_ok {M : Nat} (hM : M ≤ 6) {c d : List Int} (hc : cubeOk M c) (hd : cubeOk M d) (hb : bothWays (c ++ d) = false) : cubeOk M (joinC c d) := by
 have hr : ∀ m ∈ c ++ d, 1 ≤ m.natAbs ∧ m.natAbs ≤ M := by
  intro m hm
  rcases List.mem_append.1 hm with h | h
  ·exact hc.1 m h
  ·exact hd.1 m h
 refine ⟨fun m hm => hr m ((mem_joinC (fun m h => by have := hr m h; omega) hb m).1 hm), ?_⟩
 unfold joinC
 have one : ∀ n x, x ∈ atomIn (c ++ d) n → x.natAbs = n.natAbs := by
  intro n x hx
  unfold atomIn at hx
  split at hx
  ·rw [List.mem_singleton.1 hx]
  ·split at hx
   ·rw [List.mem_singleton.1 hx]; simp
   ·cases hx
 rw [List.pairwise_flatMap]
 refine ⟨fun n _ => ?_, ?_⟩
 ·unfold atomIn
  split
  ·simp
  ·split <;> simp
 ·have : ([1, 2, 3, 4, 5, 6] : List Int).Pairwise (fun a b => a.natAbs < b.natAbs) := by decide
  refine this.imp ?_
  intro a b hab x hx y hy
  rw [one a x hx, one b y hy]; exact hab
def okL (M : Nat) (L : List (List Int)) : Prop := (∀ c ∈ L, cubeOk M c) ∧ L.Nodup
theorem put_ok {M : Nat} {L : List (List Int)} {c : List Int} (h : okL M L) (hc : cubeOk M c) : okL M (putC L c) := by
 unfold putC
 split
 ·exact h
 ·rename_i hn
  refine ⟨fun x hx => ?_, ?_⟩
  ·rcases List.mem_append.1 hx with hx | hx
   ·exact h.1 x hx
   ·rw [List.mem_singleton.1 hx]; exact hc
  ·rw [List.nodup_append]
   refine ⟨h.2, by simp, ?_⟩
   intro x hx y hy e
   rw [List.mem_singleton.1 hy] at e
   subst e
   exact hn (by simpa using hx)
theorem put_len (L : List (List Int)) (c : List Int) : L.length ≤ (putC L c).length ∧ (putC L c).length ≤ L.length + 1 := by
 unfold putC; split <;> simp
theorem andS_ok {M : Nat} (hM : M ≤ 6) {L : List (List Int)} {c d : List Int} (h : okL M L) (hc : cubeOk M c) (hd : cubeOk M d) : okL M (andS c L d) := by
 unfold andS
 split
 ·exact h
 ·rename_i hb
  exact put_ok h (join_ok hM hc hd (by simpa using hb))
theorem andS_len (L : List (List Int)) (c d : List Int) : L.length ≤ (andS c L d).length ∧ (andS c L d).length ≤ L.length + 1 := by
 unfold andS; split
 ·simp
 ·exact put_len _ _
theorem andR_ok {M : Nat} (hM : M ≤ 6) {B : List (List Int)} (hB : ∀ d ∈ B, cubeOk M d) : ∀ {L : List (List Int)} {c : List Int}, okL M L → cubeOk M c → okL M (andR B L c) := by
 induction B with
 | nil => intro L c h _; exact h
 | cons d l ih =>
  intro L c h hc
  exact ih (fun x hx => hB x (by simp [hx])) (andS_ok hM h hc (hB d (by simp))) hc
theorem andR_len (B : List (List Int)) : ∀ (L : List (List Int)) (c : List Int), L.length ≤ (andR B L c).length := by
 induction B with
 | nil => intro L c; exact Nat.le_refl _
 | cons d l ih => intro L c; exact Nat.le_trans (andS_len L c d).1 (ih _ c)
theorem andF_ok {M : Nat} (hM : M ≤ 6) {A B : List (List Int)} (hA : ∀ c ∈ A, cubeOk M c) (hB : ∀ d ∈ B, cubeOk M d) : ∀ {L : List (List Int)}, okL M L → okL M (A.foldl (andR B) L) := by
 induction A with
 | nil => intro L h; exact h
 | cons c l ih => intro L h; exact ih (fun x hx => hA x (by simp [hx])) (andR_ok hM hB h (hA c (by simp)))
theorem andF_len (A B : List (List Int)) : ∀ (L : List (List Int)), L.length ≤ (A.foldl (andR B) L).length := by
 induction A with
 | nil => intro L; exact Nat.le_refl _
 | cons c l ih => intro L; exact Nat.le_trans (andR_len B L c) (ih _)
theorem okL_nil (M : Nat) : okL M [] := ⟨fun c h => (by cases h), List.nodup_nil⟩
theorem and_ok {M : Nat} (hM : M ≤ 6) {A B : List (List Int)} (hA : ∀ c ∈ A, cubeOk M c) (hB : ∀ d ∈ B, cubeOk M d) : okL M (andC A B) := andF_ok hM hA hB (okL_nil M)
theorem putF_ok {M : Nat} {B : List (List Int)} (hB : ∀ d ∈ B, cubeOk M d) : ∀ {L : List (List Int)}, okL M L → okL M (B.foldl putC L) := by
 induction B with
 | nil => intro L h; exact h
 | cons c l ih => intro L h; exact ih (fun x hx => hB x (by simp [hx])) (put_ok h (hB c (by simp)))
theorem putF_len (B : List (List Int)) : ∀ (L : List (List Int)), L.length ≤ (B.foldl putC L).length ∧ (B.foldl putC L).length ≤ L.length + B.length := by
 induction B with
 | nil => intro L; simp
 | cons c l ih => intro L; have h1 := put_len L c; have h2 := ih (putC L c); simp only [List.foldl_cons, List.length_cons]; omega
theorem or_ok {M : Nat} {A B : List (List Int)} (hA : ∀ c ∈ A, cubeOk M c) (hB : ∀ d ∈ B, cubeOk M d) : okL M (orC A B) := by
 refine putF_ok (fun d hd => ?_) (okL_nil M)
 rcases List.mem_append.1 hd with h | h
 ·exact hA d h
 ·exact hB d h
theorem turn_ok {M : Nat} {c : List Int} (h : cubeOk M c) : ∀ d ∈ turnC c, cubeOk M d := by
 intro d hd
 obtain ⟨m, hm, rfl⟩ := List.mem_map.1 hd
 exact ⟨fun x hx => by rw [List.mem_singleton.1 hx]; have := h.1 m hm; simpa using this, by simp⟩
theorem cap_some {L K : List (List Int)} (h : capC L = some K) : K = L ∧ L.length ≤ 40 := by
 unfold capC at h
 split at h
 ·cases h
 ·exact ⟨(Option.some.inj h).symm, by omega⟩
theorem okL_one (M : Nat) : okL M [[]] := ⟨fun c h => by rw [List.mem_singleton.1 h]; exact ⟨fun m hm => (by cases hm), List.Pairwise.nil⟩, by simp⟩
theorem no_ok {M : Nat} (hM : M ≤ 6) : ∀ (L out K : List (List Int)), (∀ c ∈ L, cubeOk M c) → okL M out → out.length ≤ 40 → noC L out = some K → okL M K ∧ K.length ≤ 40 := by
 intro L
 induction L with
 | nil => intro out K _ ho hl h; cases h; exact ⟨ho, hl⟩
 | cons c l ih =>
  intro out K hL ho hl h
  unfold noC at h
  cases he : capC (andC out (turnC c)) with
  | none => rw [he] at h; cases h
  | some x =>
   rw [he] at h
   obtain ⟨rfl, hx⟩ := cap_some he
   exact ih _ K (fun d hd => hL d (by simp [hd])) (and_ok hM ho.1 (turn_ok (hL c (by simp)))) hx h
def litC (held : List Bool) (m : Int) : Bool := held.getD (m.natAbs - 1) false == decide (0 < m)
def allC (held : List Bool) (c : List Int) : Bool := c.all (litC held)
def anyC (held : List Bool) (L : List (List Int)) : Bool := L.any (allC held)
theorem anyC_append (held : List Bool) (L K : List (List Int)) : anyC held (L ++ K) = (anyC held L || anyC held K) := by simp [anyC]
theorem any_put (held : List Bool) (L : List (List Int)) (c : List Int) : anyC held (putC L c) = (anyC held L || allC held c) := by
 unfold putC
 split
 ·rename_i h
  have hm : c ∈ L := by simpa using h
  cases hc : allC held c with
  | false => simp
  | true =>
   simp only [Bool.or_true]
   exact List.any_eq_true.2 ⟨c, hm, hc⟩
 ·simp [anyC]
theorem lit_neg (held : List Bool) {m : Int} (h : m ≠ 0) : litC held (-m) = !litC held m := by
 unfold litC
 rw [Int.natAbs_neg]
 have : decide (0 < -m) = !decide (0 < m) := by
  by_cases h1 : 0 < m
  ·simp [h1]; omega
  ·have h2 : 0 < -m := by omega
   simp [h1]; omega
 rw [this]
 cases held.getD (m.natAbs - 1) false <;> cases decide (0 < m) <;> rfl
theorem all_append (held : List Bool) (c d : List Int) : allC held (c ++ d) = (allC held c && allC held d) := by simp [allC]
theorem all_mem (held : List Bool) {c d : List Int} (h : ∀ m, m ∈ c ↔ m ∈ d) : allC held c = allC held d := by
 rw [Bool.eq_iff_iff]
 unfold allC
 rw [List.all_eq_true, List.all_eq_true]
 simp [h]
theorem any_andS (held : List Bool) {M : Nat} (hM : M ≤ 6) (L : List (List Int)) {c d : List Int} (hc : cubeOk M c) (hd : cubeOk M d) : anyC held (andS c L d) = (anyC held L || (allC held c && allC held d)) := by
 have hr : ∀ m ∈ c ++ d, 1 ≤ m.natAbs ∧ m.natAbs ≤ 6 := by
  intro m hm
  rcases List.mem_append.1 hm with h | h
  ·have := hc.1 m h; omega
  ·have := hd.1 m h; omega
 unfold andS
 split
 ·rename_i hb
  obtain ⟨m, h1, h2⟩ := bothWays_iff.1 hb
  have : allC held (c ++ d) = false := by
   rw [← Bool.not_eq_true]
   intro hall
   have a1 := List.all_eq_true.1 hall m h1
   have a2 := List.all_eq_true.1 hall (-m) h2
   rw [lit_neg held (by have := hr m h1; omega), a1] at a2
   cases a2
  rw [← all_append, this]; simp
 ·rename_i hb
  rw [any_put, ← all_append, all_mem held (mem_joinC hr (by simpa using hb))]
theorem any_andR (held : List Bool) {M : Nat} (hM : M ≤ 6) {c : List Int} (hc : cubeOk M c) : ∀ (B L : List (List Int)), (∀ d ∈ B, cubeOk M d) → anyC held (andR B L c) = (anyC held L || (allC held c && anyC held B)) := by
 intro B
 induction B with
 | nil => intro L _; simp [andR, anyC]
 | cons d l ih =>
  intro L hB
  have e : andR (d :: l) L c = andR l (andS c L d) c := rfl
  rw [e, ih _ (fun x hx => hB x (by simp [hx])), any_andS held hM L hc (hB d (by simp))]
  have : anyC held (d :: l) = (allC held d || anyC held l) := rfl
  rw [this]
  cases anyC held L <;> cases allC held c <;> cases allC held d <;> cases anyC held l <;> rfl
theorem any_and (held : List Bool) {M : Nat} (hM : M ≤ 6) {A B : List (List Int)} (hA : ∀ c ∈ A, cubeOk M c) (hB : ∀ d ∈ B, cubeOk M d) : anyC held (andC A B) = (anyC held A && anyC held B) := by
 have key : ∀ (A L : List (List Int)), (∀ c ∈ A, cubeOk M c) → anyC held (A.foldl (andR B) L) = (anyC held L || (anyC held A && anyC held B)) := by
  intro A
  induction A with
  | nil => intro L _; simp [anyC]
  | cons c l ih =>
   intro L hA
   show anyC held (l.foldl (andR B) (andR B L c)) = _
   rw [ih _ (fun x hx => hA x (by simp [hx])), any_andR held hM (hA c (by simp)) B L hB]
   have : anyC held (c :: l) = (allC held c || anyC held l) := rfl
   rw [this]
   cases anyC held L <;> cases allC held c <;> cases anyC held B <;> cases anyC held l <;> rfl
 unfold andC
 rw [key A [] hA]
 simp [anyC]
theorem any_putF (held : List Bool) : ∀ (B L : List (List Int)), anyC held (B.foldl putC L) = (anyC held L || anyC held B) := by
 intro B
 induction B with
 | nil => intro L; simp [anyC]
 | cons c l ih =>
  intro L
  show anyC held (l.foldl putC (putC L c)) = _
  rw [ih, any_put]
  have : anyC held (c :: l) = (allC held c || anyC held l) := rfl
  rw [this, Bool.or_assoc]
theorem any_or (held : List Bool) (A B : List (List Int)) : anyC held (orC A B) = (anyC held A || anyC held B) := by
 unfold orC
 rw [any_putF, anyC_append]
 simp [anyC]
theorem any_turn (held : List Bool) {c : List Int} (h : ∀ m ∈ c, m ≠ 0) : anyC held (turnC c) = !allC held c := by
 induction c with
 | nil => rfl
 | cons m l ih =>
  have e1 : anyC held (turnC (m :: l)) = (litC held (-m) || anyC held (turnC l)) := by
   simp [anyC, turnC, allC]
  have e2 : allC held (m :: l) = (litC held m && allC held l) := rfl
  rw [e1, e2, ih (fun x hx => h x (by simp [hx])), lit_neg held (h m (by simp))]
  cases litC held m <;> simp
theorem any_no (held : List Bool) {M : Nat} (hM : M ≤ 6) : ∀ (L out K : List (List Int)), (∀ c ∈ L, cubeOk M c) → (∀ c ∈ out, cubeOk M c) → noC L out = some K → anyC held K = (anyC held out && !anyC held L) := by
 intro L
 induction L with
 | nil => intro out K _ _ h; cases h; simp [anyC]
 | cons c l ih =>
  intro out K hL ho h
  unfold noC at h
  cases he : capC (andC out (turnC c)) with
  | none => rw [he] at h; cases h
  | some x =>
   rw [he] at h
   obtain ⟨rfl, hx⟩ := cap_some he
   have hc := hL c (by simp)
   rw [ih _ K (fun d hd => hL d (by simp [hd])) (and_ok hM ho (turn_ok hc)).1 h, any_and held hM ho (turn_ok hc), any_turn held (fun m hm => by have := hc.1 m hm; omega)]
   have : anyC held (c :: l) = (allC held c || anyC held l) := rfl
   rw [this]
   cases anyC held out <;> cases allC held c <;> cases anyC held l <;> rfl
theorem pileC_append (a b : List Int) (p : List (List (List Int))) : pileC (a ++ b) p = (pileC a p).bind (pileC b) := by
 induction a generalizing p with
 | nil => rfl
 | cons s l ih =>
  show (stepC p s).bind (pileC (l ++ b)) = ((stepC p s).bind (pileC l)).bind (pileC b)
  cases stepC p s with
  | none => rfl
  | some q => exact ih q
theorem pileC_succ (t : List Int) (p : List (List (List Int))) {k : Nat} (h : k < t.length) : pileC (t.take (k + 1)) p = (pileC (t.take k) p).bind (fun q => stepC q (t.getD k 0)) := by
 rw [takeF_succ t h, pileC_append]
 congr 1
 funext q
 show (stepC q (t.getD k 0)).bind (pileC []) = _
 cases stepC q (t.getD k 0) <;> rfl
theorem pileC_none (t : List Int) (p : List (List (List Int))) (k : Nat) (h : pileC (t.take k) p = none) : pileC t p = none := by
 have : pileC (t.take k ++ t.drop k) p = none := by rw [pileC_append, h]; rfl
 rwa [List.take_append_drop] at this
def okP (M : Nat) (p : List (List (List Int))) : Prop := ∀ L ∈ p, okL M L ∧ L.length ≤ 40
theorem cubes_made_ok {M : Nat} (hM : M ≤ 6) {s : Int} (hs : takesF s ≠ 0 ∨ (0 ≤ s ∧ s < M)) {l : List (List (List Int))} (hl : okP M l) {K : List (List Int)} (h : madeC s l = some K) : okL M K ∧ K.length ≤ 40 := by
 have h0 : ∀ i, okL M (l.getD i []) ∧ (l.getD i []).length ≤ 40 := by
  intro i
  rw [List.getD_eq_getElem?_getD]
  cases hi : l[i]? with
  | none => exact ⟨okL_nil M, by simp⟩
  | some x => exact hl x (List.mem_of_getElem? hi)
 unfold madeC at h
 split at h
 ·obtain ⟨rfl, hk⟩ := cap_some h
  exact ⟨and_ok hM (h0 0).1.1 (h0 1).1.1, hk⟩
 split at h
 ·obtain ⟨rfl, hk⟩ := cap_some h
  exact ⟨or_ok (h0 0).1.1 (h0 1).1.1, hk⟩
 split at h
 ·cases he : noC (l.getD 0 []) [[]] with
  | none => rw [he] at h; cases h
  | some x =>
   rw [he] at h
   have hx := no_ok hM _ _ _ (h0 0).1.1 (okL_one M) (by simp) he
   obtain ⟨rfl, hk⟩ := cap_some h
   exact ⟨or_ok hx.1.1 (h0 1).1.1, hk⟩
 split at h
 ·exact no_ok hM _ _ _ (h0 0).1.1 (okL_one M) (by simp) h
 ·rename_i h1 h2 h3 h4
  have ht : takesF s = 0 := by unfold takesF; rw [if_neg (by omega), if_neg h4]
  have hs' := hs.resolve_left (by simp [ht])
  obtain rfl := Option.some.inj h
  refine ⟨⟨fun c hc => ?_, by simp⟩, by simp⟩
  rw [List.mem_singleton.1 hc]
  refine ⟨fun m hm => ?_, by simp⟩
  rw [List.mem_singleton.1 hm]; omega
theorem made_any (held : List Bool) {M : Nat} (hM : M ≤ 6) {s : Int} (hs : takesF s ≠ 0 ∨ (0 ≤ s ∧ s < M)) {l : List (List (List Int))} (hl : okP M l) {K : List (List Int)} (h : madeC s l = some K) : anyC held K = madeF held s (l.map (anyC held)) := by
 have h0 : ∀ i, ∀ c ∈ l.getD i [], cubeOk M c := by
  intro i
  rw [List.getD_eq_getElem?_getD]
  cases hi : l[i]? with
  | none => intro c hc; cases hc
  | some x => exact (hl x (List.mem_of_getElem? hi)).1.1
 have g : ∀ i, (l.map (anyC held)).getD i false = anyC held (l.getD i []) := by
  intro i
  rw [List.getD_eq_getElem?_getD, List.getD_eq_getElem?_getD, List.getElem?_map]
  cases l[i]? <;> rfl
 unfold madeC at h
 unfold madeF
 rw [g, g]
 split at h
 ·rename_i e; subst e
  obtain ⟨rfl, hk⟩ := cap_some h
  rw [if_pos rfl]
  exact any_and held hM (h0 0) (h0 1)
 split at h
 ·rename_i e; subst e
  obtain ⟨rfl, hk⟩ := cap_some h
  rw [if_neg (by decide), if_pos rfl]
  exact any_or held _ _
 split at h
 ·rename_i e; subst e
  rw [if_neg (by decide), if_neg (by decide), if_pos rfl]
  cases he : noC (l.getD 0 []) [[]] with
  | none => rw [he] at h; cases h
  | some x =>
   rw [he] at h
   obtain ⟨rfl, hk⟩ := cap_some h
   rw [any_or, any_no held hM _ _ _ (h0 0) (okL_one M).1 he]
   simp [anyC, allC]
 split at h
 ·rename_i e; subst e
  rw [if_neg (by decide), if_neg (by decide), if_neg (by decide), if_pos rfl]
  rw [any_no held hM _ _ _ (h0 0) (okL_one M).1 h]
  simp [anyC, allC]
 ·rename_i h1 h2 h3 h4
  have ht : takesF s = 0 := by unfold takesF; rw [if_neg (by omega), if_neg h4]
  have hs' := hs.resolve_left (by simp [ht])
  obtain rfl := Option.some.inj h
  rw [if_neg h1, if_neg h2, if_neg h3, if_neg h4]
  have e1 : (s + 1).natAbs - 1 = s.toNat := by omega
  have e2 : decide (0 < s + 1) = true := by simp; omega
  simp [anyC, allC, litC, e1, e2]
theorem step_ok (held : List Bool) {M : Nat} (hM : M ≤ 6) {s : Int} (hs : takesF s ≠ 0 ∨ (0 ≤ s ∧ s < M)) {p q : List (List (List Int))} (hp : okP M p) (h : stepC p s = some q) : okP M q ∧ q.map (anyC held) = stepF held (p.map (anyC held)) s := by
 unfold stepC at h
 cases he : madeC s (p.drop (restC p s)) with
 | none => rw [he] at h; cases h
 | some K =>
  rw [he] at h
  obtain rfl := Option.some.inj h
  have hd : okP M (p.drop (restC p s)) := fun L hL => hp L (List.mem_of_mem_drop hL)
  refine ⟨fun L hL => ?_, ?_⟩
  ·rcases List.mem_append.1 hL with hL | hL
   ·exact hp L (List.mem_of_mem_take hL)
   ·rw [List.mem_singleton.1 hL]; exact cubes_made_ok hM hs hd he
  ·unfold stepF restF
   rw [List.map_append, List.length_map, ← List.map_take, ← List.map_drop]
   show _ ++ [anyC held K] = _
   rw [made_any held hM hs hd he]; rfl
theorem pile_ok (held : List Bool) {M : Nat} (hM : M ≤ 6) : ∀ (c : List Int) (p q : List (List (List Int))), c.all (signF M) = true → okP M p → pileC c p = some q → okP M q ∧ q.map (anyC held) = pileF held c (p.map (anyC held)) := by
 intro c
 induction c with
 | nil => intro p q _ hp h; cases h; exact ⟨hp, rfl⟩
 | cons s l ih =>
  intro p q hs hp h
  rw [List.all_cons, Bool.and_eq_true] at hs
  unfold pileC at h
  cases he : stepC p s with
  | none => rw [he] at h; cases h
  | some x =>
   rw [he] at h
   obtain ⟨h1, h2⟩ := step_ok held hM (signF_iff.1 hs.1) hp he
   obtain ⟨g1, g2⟩ := ih x q hs.2 h1 h
   refine ⟨g1, ?_⟩
   rw [g2, h2]; rfl
theorem stepC_length {p q : List (List (List Int))} {s : Int} (ht : takesF s ≤ p.length) (h : stepC p s = some q) : (q.length : Int) = p.length + 1 - takesF s := by
 have := takesF_range s
 unfold stepC at h
 cases he : madeC s (p.drop (restC p s)) with
 | none => rw [he] at h; cases h
 | some K =>
  rw [he] at h
  obtain rfl := Option.some.inj h
  simp [restC]
  omega
theorem pileC_length : ∀ (t : List Int) (p q : List (List (List Int))) {n : Int}, cntF t p.length = some n → pileC t p = some q → (q.length : Int) = n := by
 intro t
 induction t with
 | nil => intro p q n h hq; cases hq; simp [cntF] at h; exact h
 | cons s l ih =>
  intro p q n h hq
  unfold cntF at h
  split at h
  ·cases h
  ·rename_i hs
   unfold pileC at hq
   cases he : stepC p s with
   | none => rw [he] at hq; cases hq
   | some x =>
    rw [he] at hq
    refine ih x q ?_ hq
    rw [stepC_length (by omega) he]; exact h
theorem cubes_say (held : List Bool) {ats : List At} {c : List Int} (hf : formFault ats c = 0) {L : List (List Int)} (h : cubesC c = some L) : okL ats.length L ∧ L.length ≤ 40 ∧ anyC held L = valF held c := by
 obtain ⟨⟨_, h6⟩, _, _, hs, hone⟩ := formFault_zero.1 hf
 unfold cubesC at h
 cases he : pileC c [] with
 | none => rw [he] at h; cases h
 | some q =>
  rw [he] at h
  obtain rfl := Option.some.inj h
  obtain ⟨h1, h2⟩ := pile_ok held h6 c [] q hs (fun L hL => by cases hL) he
  have hl := pileC_length c [] q hone he
  match q, hl with
  | [x], _ =>
   have := h1 x (by simp)
   refine ⟨this.1, this.2, ?_⟩
   show anyC held x = valF held c
   unfold valF
   have e : pileF held c [] = [anyC held x] := h2.symm
   rw [e]; rfl
  | [], h => simp at h
  | _ :: _ :: _, h => simp at h; omega
end Go.Proofs.YtjaedfjfcghgcabGreatDoor
namespace Go.Proofs.YtjaedfjfcghgcabGreatDoor
open Go.RowKit
def atZ : At := ⟨0, [], [], 0⟩
def rowOf (ats : List At) (m : Int) : Rw := ⟨rowT (ats.getD (m.natAbs - 1) atZ).k (ats.getD (m.natAbs - 1) atZ).s (ats.getD (m.natAbs - 1) atZ).t (decide (0 < m)), rowM (ats.getD (m.natAbs - 1) atZ).k (ats.getD (m.natAbs - 1) atZ).n (decide (0 < m))⟩
def cubeR (ats : List At) (c : List Int) : List Rw := c.map (rowOf ats)
def modelL (ats : List At) (u : Nat) : List (List Int) → Option (Nat → Int)
 | [] => none
 | c :: L => match (everyC u).find? (fitB (cubeR ats c)) with
  | some N => some N
  | none => modelL ats u L
theorem modelL_some {ats : List At} {u : Nat} {L : List (List Int)} {N : Nat → Int} (h : modelL ats u L = some N) : N ∈ everyC u ∧ ∃ c ∈ L, fitB (cubeR ats c) N = true := by
 induction L with
 | nil => simp [modelL] at h
 | cons c L ih =>
  unfold modelL at h
  cases e : (everyC u).find? (fitB (cubeR ats c)) with
  | some M =>
   rw [e] at h
   obtain rfl : M = N := by simpa using h
   exact ⟨List.mem_of_find?_eq_some e, c, List.mem_cons_self, List.find?_some e⟩
  | none =>
   rw [e] at h
   obtain ⟨h1, d, h2, h3⟩ := ih h
   exact ⟨h1, d, List.mem_cons_of_mem _ h2, h3⟩
theorem modelL_none {ats : List At} {u : Nat} {L : List (List Int)} (h : modelL ats u L = none) : ∀ c ∈ L, ∀ N ∈ everyC u, fitB (cubeR ats c) N = false := by
 induction L with
 | nil => intro c hc; cases hc
 | cons c L ih =>
  unfold modelL at h
  cases e : (everyC u).find? (fitB (cubeR ats c)) with
  | some M => rw [e] at h; simp at h
  | none =>
   rw [e] at h
   intro d hd N hN
   rcases List.mem_cons.1 hd with rfl | hd
   ·simpa using List.find?_eq_none.1 e N hN
   ·exact ih h d hd N hN
theorem at_of {ats : List At} {m : Int} (h1 : 1 ≤ m.natAbs) (h2 : m.natAbs ≤ ats.length) : ats.getD (m.natAbs - 1) atZ ∈ ats := by
 rw [List.getD_eq_getElem?_getD, List.getElem?_eq_getElem (by omega)]
 exact List.getElem_mem _
theorem held_of {w : Wd} {ats : List At} {m : Int} (h1 : 1 ≤ m.natAbs) (h2 : m.natAbs ≤ ats.length) : (w.heldL ats).getD (m.natAbs - 1) false = w.holds (ats.getD (m.natAbs - 1) atZ).k (ats.getD (m.natAbs - 1) atZ).s (ats.getD (m.natAbs - 1) atZ).t (ats.getD (m.natAbs - 1) atZ).n := by
 unfold Wd.heldL
 rw [List.getD_eq_getElem?_getD, List.getD_eq_getElem?_getD, List.getElem?_map, List.getElem?_eq_getElem (show m.natAbs - 1 < ats.length by omega)]
 rfl
theorem cube_says {w : Wd} (hw : w.ok = true) {ats : List At} (ha : ∀ a ∈ ats, a.fault = 0) {c : List Int} (hc : cubeOk ats.length c) : fitB (cubeR ats c) (w.fc w.u.toNat) = allC (w.heldL ats) c := by
 unfold fitB cubeR allC
 rw [List.all_map]
 have key : ∀ m ∈ c, ((fun r : Rw => r.so (w.fc w.u.toNat)) ∘ rowOf ats) m = litC (w.heldL ats) m := fun m hm => by
  obtain ⟨h1, h2⟩ := hc.1 m hm
  have hf : atomFault (ats.getD (m.natAbs - 1) atZ).k (ats.getD (m.natAbs - 1) atZ).s (ats.getD (m.natAbs - 1) atZ).t (ats.getD (m.natAbs - 1) atZ).n = 0 := ha _ (at_of h1 h2)
  show (rowOf ats m).so (w.fc w.u.toNat) = _
  unfold rowOf litC
  rw [rows_say hw hf, held_of h1 h2]
  by_cases hp : 0 < m
  ·rw [decide_eq_true hp, if_pos rfl]
   cases w.holds (ats.getD (m.natAbs - 1) atZ).k (ats.getD (m.natAbs - 1) atZ).s (ats.getD (m.natAbs - 1) atZ).t (ats.getD (m.natAbs - 1) atZ).n <;> rfl
  ·rw [decide_eq_false hp, if_neg (by decide)]
   cases w.holds (ats.getD (m.natAbs - 1) atZ).k (ats.getD (m.natAbs - 1) atZ).s (ats.getD (m.natAbs - 1) atZ).t (ats.getD (m.natAbs - 1) atZ).n <;> rfl
 induction c with
 | nil => rfl
 | cons m c ih =>
  rw [List.all_cons, List.all_cons, key m List.mem_cons_self, ih ⟨fun x hx => hc.1 x (List.mem_cons_of_mem _ hx), (List.pairwise_cons.1 hc.2).2⟩ fun x hx => key x (List.mem_cons_of_mem _ hx)]
theorem model_holds {ats : List At} {c : List Int} (hf : formFault ats c = 0) {L : List (List Int)} (hL : cubesC c = some L) {u : Nat} (hu : u ≤ 6) {N : Nat → Int} (h : modelL ats u L = some N) :
    countsFault N = 0 ∧ (madeN N 8).ok = true ∧ (madeN N 8).u = u ∧ (madeN N 8).formIs ats c = true := by
 obtain ⟨h1, d, h2, h3⟩ := modelL_some h
 have hc := everyC_right hu h1
 have hok := made_ok hc
 have hsum := (everyC_sum h1).2
 have hmu := made_u hc
 obtain ⟨g1, _, g3⟩ := cubes_say ((madeN N 8).heldL ats) hf hL
 have ha := (formFault_zero.1 hf).2.2.1
 have hd := cube_says hok ha (g1.1 d h2)
 rw [fitB_same (M := N) fun g hg => made_fc hc hg, h3] at hd
 refine ⟨hc, hok, by rw [hmu, hsum], ?_⟩
 unfold Wd.formIs
 rw [if_pos (wdForm_zero.2 ⟨hf, hok⟩), ← g3]
 unfold anyC
 rw [List.any_eq_true]
 exact ⟨d, h2, hd.symm⟩
theorem model_never {ats : List At} {c : List Int} (hf : formFault ats c = 0) {L : List (List Int)} (hL : cubesC c = some L) {u : Nat} (h : modelL ats u L = none) {w : Wd} (hw : w.ok = true) (hwu : w.u = u) : w.formIs ats c = false := by
 obtain ⟨g1, _, g3⟩ := cubes_say (w.heldL ats) hf hL
 have ha := (formFault_zero.1 hf).2.2.1
 unfold Wd.formIs
 rw [if_pos (wdForm_zero.2 ⟨hf, hw⟩), ← g3]
 unfold anyC
 rw [List.any_eq_false]
 intro d hd
 have hs := cube_says hw ha (g1.1 d hd)
 have hcf := counts_fc hw
 have hsum : sumN (w.fc w.u.toNat) 8 = u := by rw [sum_fc, hwu]; rfl
 obtain ⟨A, hA, hAw⟩ := everyC_all (u := u) (fun g hg => ((counts_zero.1 hcf).1 g hg).1) hsum
 have := modelL_none h d hd A hA
 rw [fitB_same hAw, hs] at this
 rw [this]
 decide
theorem cube_rows {ats : List At} (ha : ∀ a ∈ ats, a.fault = 0) (h6 : ats.length ≤ 6) {d : List Int} (hd : cubeOk ats.length d) : rowsFault (cubeR ats d) = 0 := by
 unfold rowsFault
 have hl : (cubeR ats d).length ≤ 6 := by unfold cubeR; rw [List.length_map]; have := cube_len hd; omega
 rw [if_neg (by omega)]
 have hw : (cubeR ats d).any Rw.wrong = false := by
  rw [List.any_eq_false]
  intro r hr
  unfold cubeR at hr
  obtain ⟨m, hm, rfl⟩ := List.mem_map.1 hr
  obtain ⟨h1, h2⟩ := hd.1 m hm
  have hf : atomFault (ats.getD (m.natAbs - 1) atZ).k (ats.getD (m.natAbs - 1) atZ).s (ats.getD (m.natAbs - 1) atZ).t (ats.getD (m.natAbs - 1) atZ).n = 0 := ha _ (at_of h1 h2)
  have := row_right hf (decide (0 < m))
  unfold rowOf
  rw [this]
  decide
 rw [hw]
 rfl
def modelFault (ats : List At) (c : List Int) (u : Int) : Int :=
 if formFault ats c = 0 then (match cubesC c with
  | none => 4
  | some L => if 0 ≤ u ∧ u ≤ 6 then (if (modelL ats u.toNat L).isSome = true then 0 else 5) else 1) else formFault ats c
def modelN (ats : List At) (c : List Int) (u : Int) : Nat → Int := (modelL ats u.toNat ((cubesC c).getD [])).getD zeroC
def modelW (ats : List At) (c : List Int) (u : Int) : Wd := if modelFault ats c u = 0 then madeN (modelN ats c u) 8 else ⟨0, 0, 0, 0⟩
end Go.Proofs.YtjaedfjfcghgcabGreatDoor
namespace Go.Proofs.YtjaedfjfcghgcabGreatDoor
open Go.RowKit
def againstFault (ats : List At) (c : List Int) (u : Int) : Int := if negFault ats c = 0 then modelFault ats (c ++ [12]) u else negFault ats c
def againstW (ats : List At) (c : List Int) (u : Int) : Wd := if negFault ats c = 0 then modelW ats (c ++ [12]) u else ⟨0, 0, 0, 0⟩
def sureB (ats : List At) (c : List Int) (u : Int) : Bool := decide (againstFault ats c u = 5 ∧ formFault ats c = 0)
def sureFault (ats : List At) (c : List Int) (u : Int) : Int := if sureB ats c u = true then 0 else againstFault ats c u
def manyA (name n : Int) : List At := [⟨3, [name], [], n⟩]
def Wd.has (w : Wd) : Nat → Int
 | 0 => w.a
 | 1 => w.b
 | _ => w.c
theorem model_zero {ats : List At} {c : List Int} {u : Int} (h : modelFault ats c u = 0) : formFault ats c = 0 ∧ (modelW ats c u).ok = true ∧ (modelW ats c u).u = u ∧ (modelW ats c u).formIs ats c = true := by
 have h0 := h
 unfold modelFault at h
 by_cases hf : formFault ats c = 0
 ·rw [if_pos hf] at h
  cases hL : cubesC c with
  | none => rw [hL] at h; have h : (4 : Int) = 0 := h; omega
  | some L =>
   rw [hL] at h
   have h : (if 0 ≤ u ∧ u ≤ 6 then (if (modelL ats u.toNat L).isSome = true then (0 : Int) else 5) else 1) = 0 := h
   by_cases hu : 0 ≤ u ∧ u ≤ 6
   ·rw [if_pos hu] at h
    cases hm : modelL ats u.toNat L with
    | none => rw [hm] at h; have h : (5 : Int) = 0 := h; omega
    | some N =>
     have e : modelW ats c u = madeN N 8 := by
      unfold modelW modelN
      rw [if_pos h0, hL]
      show madeN ((modelL ats u.toNat L).getD zeroC) 8 = _
      rw [hm]; rfl
     obtain ⟨_, g2, g3, g4⟩ := model_holds hf hL (by omega) hm
     rw [e]
     exact ⟨hf, g2, by rw [g3]; omega, g4⟩
   ·rw [if_neg hu] at h; exact absurd h (by decide)
 ·rw [if_neg hf] at h; exact absurd h hf
theorem model_five {ats : List At} {c : List Int} {u : Int} (h : modelFault ats c u = 5) (hf : formFault ats c = 0) {w : Wd} (hw : w.ok = true) (hwu : w.u = u) : w.formIs ats c = false := by
 unfold modelFault at h
 rw [if_pos hf] at h
 cases hL : cubesC c with
 | none => rw [hL] at h; have h : (4 : Int) = 5 := h; omega
 | some L =>
  rw [hL] at h
  have h : (if 0 ≤ u ∧ u ≤ 6 then (if (modelL ats u.toNat L).isSome = true then (0 : Int) else 5) else 1) = 5 := h
  by_cases hu : 0 ≤ u ∧ u ≤ 6
  ·rw [if_pos hu] at h
   cases hm : modelL ats u.toNat L with
   | none => exact model_never hf hL hm hw (by rw [hwu]; omega)
   | some N => rw [hm] at h; have h : (0 : Int) = 5 := h; omega
  ·rw [if_neg hu] at h; exact absurd h (by decide)
end Go.Proofs.YtjaedfjfcghgcabGreatDoor