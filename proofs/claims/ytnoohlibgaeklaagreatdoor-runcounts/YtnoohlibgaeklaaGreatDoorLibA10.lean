/-
  Facts and contracts that the statement leans on.
-/
import Derived.Test.YtnoohlibgaeklaaGreatDoorLibA9
import Derived.Test.YtnoohlibgaeklaaGreatDoorLibA8
namespace Go.Proofs.YtnoohlibgaeklaaGreatDoor
open Go.RowKit
def putN (N : Nat → Int) (f : Nat) (x : Int) : Nat → Int := fun g => if g = f then x else N g
theorem putN_same (N : Nat → Int) (f : Nat) (x : Int) : putN N f x f = x := by unfold putN; rw [if_pos rfl]
theorem putN_other (N : Nat → Int) {f g : Nat} (h : g ≠ f) (x : Int) : putN N f x g = N g := by unfold putN; rw [if_neg h]
theorem putN_twice (N : Nat → Int) (f : Nat) (x y : Int) : putN (putN N f x) f y = putN N f y := by
 funext g; unfold putN; split <;> rfl
def allF : Nat → Nat → (Nat → Int) → List (Nat → Int)
 | 0, u, N => [putN N 7 u]
 | r + 1, u, N => (List.range (u + 1)).flatMap fun k => allF r (u - k) (putN N (6 - r) k)
def everyC (u : Nat) : List (Nat → Int) := allF 7 u fun _ => 0
def allTo (r u : Nat) (N : Nat → Int) (k : Nat) : List (Nat → Int) := (List.range k).flatMap fun j => allF r (u - j) (putN N (6 - r) j)
theorem allTo_zero (r u : Nat) (N : Nat → Int) : allTo r u N 0 = [] := rfl
theorem allTo_succ (r u : Nat) (N : Nat → Int) (k : Nat) : allTo r u N (k + 1) = allTo r u N k ++ allF r (u - k) (putN N (6 - r) k) := by
 unfold allTo; rw [List.range_succ, List.flatMap_append]; simp
theorem allTo_all (r u : Nat) (N : Nat → Int) : allTo r u N (u + 1) = allF (r + 1) u N := rfl
def waysN : Nat → Nat → Nat
 | 0, _ => 1
 | r + 1, u => ((List.range (u + 1)).map fun k => waysN r (u - k)).sum
theorem length_allF (r : Nat) : ∀ (u : Nat) (N : Nat → Int), (allF r u N).length = waysN r u := by
 induction r with
 | zero => intro u N; rfl
 | succ r ih =>
  intro u N
  unfold allF waysN
  rw [List.length_flatMap]
  congr 1
  apply List.map_congr_left
  intro k _
  exact ih _ _
theorem ways_le : ∀ r, r ≤ 7 → ∀ u, u ≤ 6 → waysN r u ≤ 1716 := by decide +kernel
theorem length_everyC {u : Nat} (h : u ≤ 6) : (everyC u).length ≤ 1716 := by
 unfold everyC; rw [length_allF]; exact ways_le 7 (by omega) u h
theorem len_allTo_le (r u : Nat) (N : Nat → Int) {k : Nat} (hk : k ≤ u + 1) : (allTo r u N k).length ≤ (allF (r + 1) u N).length := by
 rw [← allTo_all]
 unfold allTo
 rw [List.length_flatMap, List.length_flatMap]
 have e : List.range (u + 1) = List.range k ++ (List.range (u + 1 - k)).map (k + ·) := by
  rw [← List.range_add]; congr 1; omega
 rw [e, List.map_append, List.sum_append]
 omega
theorem allF_sum (r : Nat) (hr : r ≤ 7) : ∀ (u : Nat) (N : Nat → Int), ∀ M ∈ allF r u N, (∀ g, g < 7 - r → M g = N g) ∧ (∀ g, 7 - r ≤ g → g < 8 → 0 ≤ M g ∧ M g ≤ u) ∧ sumN M 8 = sumN N (7 - r) + u := by
 induction r with
 | zero =>
  intro u N M hM
  obtain rfl : M = putN N 7 u := by simpa [allF] using hM
  refine ⟨fun g hg => putN_other N (by omega) _, fun g h1 h2 => ?_, ?_⟩
  ·obtain rfl : g = 7 := by omega
   rw [putN_same]; omega
  ·show sumN (putN N 7 u) 7 + putN N 7 u 7 = _
   rw [putN_same, sumN_same (M := N) fun f hf => putN_other N (by omega) _]
 | succ r ih =>
  intro u N M hM
  unfold allF at hM
  rw [List.mem_flatMap] at hM
  obtain ⟨k, hk, hM⟩ := hM
  have hk' : k < u + 1 := List.mem_range.1 hk
  obtain ⟨i1, i2, i3⟩ := ih (by omega) (u - k) _ M hM
  have e7 : 7 - r = 7 - (r + 1) + 1 := by omega
  have e6 : 6 - r = 7 - (r + 1) := by omega
  rw [e6] at i1 i3
  refine ⟨fun g hg => ?_, fun g h1 h2 => ?_, ?_⟩
  ·rw [i1 g (by omega)]; exact putN_other N (by omega) _
  ·by_cases e : g = 7 - (r + 1)
   ·rw [i1 g (by omega), e, putN_same]; omega
   ·have := i2 g (by omega) h2
    omega
  ·rw [i3, e7]
   show sumN _ (7 - (r + 1)) + putN N (7 - (r + 1)) k (7 - (r + 1)) + _ = _
   rw [putN_same, sumN_same (M := N) fun f hf => putN_other N (by omega) _]
   omega
theorem everyC_sum {u : Nat} {M : Nat → Int} (h : M ∈ everyC u) : (∀ g, g < 8 → 0 ≤ M g ∧ M g ≤ u) ∧ sumN M 8 = u := by
 obtain ⟨_, h2, h3⟩ := allF_sum 7 (by omega) u (fun _ => 0) M h
 refine ⟨fun g hg => h2 g (by omega) hg, ?_⟩
 rw [h3]; show (0 : Int) + u = u; omega
theorem everyC_right {u : Nat} (hu : u ≤ 6) {M : Nat → Int} (h : M ∈ everyC u) : countsFault M = 0 := by
 obtain ⟨h1, h2⟩ := everyC_sum h
 exact counts_zero.2 ⟨fun f hf => by have := h1 f hf; omega, by omega⟩
end Go.Proofs.YtnoohlibgaeklaaGreatDoor
namespace Go.Proofs.YtnoohlibgaeklaaGreatDoor
open Go.RowKit
def aheadC (N M : Nat → Int) : Prop := ∃ f, f < 8 ∧ (∀ g, g < f → N g = M g) ∧ N f < M f
theorem allF_front {r : Nat} (hr : r ≤ 7) {u : Nat} {N M : Nat → Int} (h : M ∈ allF r u N) {g : Nat} (hg : g < 7 - r) : M g = N g := (allF_sum r hr u N M h).1 g hg
theorem allF_sorted (r : Nat) (hr : r ≤ 7) : ∀ (u : Nat) (N : Nat → Int), (allF r u N).Pairwise aheadC := by
 induction r with
 | zero => intro u N; exact List.pairwise_singleton _ _
 | succ r ih =>
  intro u N
  unfold allF
  rw [List.pairwise_flatMap]
  refine ⟨fun k _ => ih (by omega) _ _, ?_⟩
  refine List.Pairwise.imp ?_ List.pairwise_lt_range
  intro j k hjk A hA B hB
  have e : 6 - r = 7 - (r + 1) := by omega
  refine ⟨6 - r, by omega, fun g hg => ?_, ?_⟩
  ·rw [allF_front (by omega) hA (by omega), allF_front (by omega) hB (by omega), putN_other N (by omega), putN_other N (by omega)]
  ·rw [allF_front (by omega) hA (by omega), allF_front (by omega) hB (by omega), putN_same, putN_same]
   omega
theorem sumN_up {N : Nat → Int} {k l : Nat} (hkl : k ≤ l) (h : ∀ g, k ≤ g → g < l → 0 ≤ N g) : sumN N k ≤ sumN N l := by
 induction l with
 | zero => obtain rfl : k = 0 := by omega
           exact Int.le_refl _
 | succ l ih =>
  rcases Nat.lt_or_ge l k with h' | h'
  ·obtain rfl : k = l + 1 := by omega
   exact Int.le_refl _
  ·have := ih h' fun g h1 h2 => h g h1 (by omega)
   have := h l h' (by omega)
   have e : sumN N (l + 1) = sumN N l + N l := rfl
   rw [e]; omega
theorem allF_all (r : Nat) (hr : r ≤ 7) : ∀ (u : Nat) (N M : Nat → Int), (∀ g, g < 7 - r → M g = N g) → (∀ g, 7 - r ≤ g → g < 8 → 0 ≤ M g) → sumN M 8 = sumN N (7 - r) + u → ∃ A ∈ allF r u N, ∀ g, g < 8 → A g = M g := by
 induction r with
 | zero =>
  intro u N M h1 h2 h3
  refine ⟨putN N 7 u, by simp [allF], fun g hg => ?_⟩
  by_cases e : g = 7
  ·subst e
   rw [putN_same]
   have e8 : sumN M 8 = sumN M 7 + M 7 := rfl
   have e7 : sumN M 7 = sumN N 7 := sumN_same fun f hf => h1 f (by omega)
   have : sumN N (7 - 0) = sumN N 7 := rfl
   omega
  ·rw [putN_other N e, h1 g (by omega)]
 | succ r ih =>
  intro u N M h1 h2 h3
  obtain ⟨f, hf⟩ := nm (7 - (r + 1))
  have e6 : 6 - r = f := by omega
  have e7 : 7 - r = f + 1 := by omega
  rw [← hf] at h1 h2 h3
  have m0 := h2 f (Nat.le_refl _) (by omega)
  obtain ⟨k, hk⟩ := Int.eq_ofNat_of_zero_le m0
  have ef : sumN M (f + 1) = sumN N f + k := by
   show sumN M f + M f = _
   rw [sumN_same (M := N) fun g hg => h1 g hg, hk]
  have hup := sumN_up (N := M) (k := f + 1) (l := 8) (by omega) fun g a b => h2 g (by omega) b
  have hku : k ≤ u := by omega
  obtain ⟨A, hA, hAM⟩ := ih (by omega) (u - k) (putN N f k) M (fun g hg => by
   by_cases e : g = f
   ·rw [e, putN_same, hk]
   ·rw [putN_other N e, h1 g (by omega)]) (fun g a b => h2 g (by omega) b) (by
   rw [e7]
   show _ = sumN (putN N f k) f + putN N f k f + _
   rw [putN_same, sumN_same (M := N) fun g hg => putN_other N (by omega) _]
   omega)
  refine ⟨A, ?_, hAM⟩
  unfold allF
  rw [List.mem_flatMap]
  exact ⟨k, List.mem_range.2 (by omega), by rw [e6]; exact hA⟩
theorem everyC_all {u : Nat} {M : Nat → Int} (h0 : ∀ g, g < 8 → 0 ≤ M g) (hs : sumN M 8 = u) : ∃ A ∈ everyC u, ∀ g, g < 8 → A g = M g :=
 allF_all 7 (by omega) u _ M (fun g hg => by omega) (fun g _ hg => h0 g hg) (by rw [hs]; show _ = (0 : Int) + u; omega)
theorem everyC_sorted (u : Nat) : (everyC u).Pairwise aheadC := allF_sorted 7 (by omega) u _
theorem aheadC_irrefl {N M : Nat → Int} (h : aheadC N M) : ¬ ∀ g, g < 8 → N g = M g := by
 obtain ⟨f, hf, _, hlt⟩ := h
 intro e
 have := e f hf
 omega
theorem aheadC_asymm {N M : Nat → Int} (h : aheadC N M) : ¬ aheadC M N := by
 obtain ⟨f, hf, he, hlt⟩ := h
 rintro ⟨g, hg, he', hlt'⟩
 rcases Nat.lt_trichotomy f g with h' | h' | h'
 ·have := he' f h'; omega
 ·subst h'; omega
 ·have := he g h'; omega
theorem everyC_once {u i j : Nat} {A B : Nat → Int} (hi : (everyC u)[i]? = some A) (hj : (everyC u)[j]? = some B) (h : ∀ g, g < 8 → A g = B g) : i = j := by
 have hs := List.pairwise_iff_getElem.1 (everyC_sorted u)
 obtain ⟨hi', rfl⟩ := List.getElem?_eq_some_iff.1 hi
 obtain ⟨hj', rfl⟩ := List.getElem?_eq_some_iff.1 hj
 rcases Nat.lt_trichotomy i j with h' | h' | h'
 ·exact absurd h (aheadC_irrefl (hs i j hi' hj' h'))
 ·exact h'
 ·exact absurd (fun g hg => (h g hg).symm) (aheadC_irrefl (hs j i hj' hi' h'))
theorem everyC_two : (everyC 2).length = 36 := by unfold everyC; rw [length_allF]; decide +kernel
end Go.Proofs.YtnoohlibgaeklaaGreatDoor
namespace Go.Proofs.YtnoohlibgaeklaaGreatDoor
open Go.RowKit
def fitB (l : List Rw) (N : Nat → Int) : Bool := l.all fun r => r.so N
def zeroC : Nat → Int := fun _ => 0
def manyD (A : List (Nat → Int)) (p : (Nat → Int) → Bool) (j : Nat) : Nat := ((A.drop j).filter p).length
def leastD (A : List (Nat → Int)) (p : (Nat → Int) → Bool) (j : Nat) : Nat → Int := ((A.drop j).find? p).getD zeroC
theorem manyD_end (A : List (Nat → Int)) (p : (Nat → Int) → Bool) : manyD A p A.length = 0 := by unfold manyD; simp
theorem leastD_end (A : List (Nat → Int)) (p : (Nat → Int) → Bool) : leastD A p A.length = zeroC := by unfold leastD; simp
theorem manyD_step {A : List (Nat → Int)} {p : (Nat → Int) → Bool} {j : Nat} {M : Nat → Int} (h : A[j]? = some M) : manyD A p j = manyD A p (j + 1) + (if p M = true then 1 else 0) := by
 obtain ⟨hj, rfl⟩ := List.getElem?_eq_some_iff.1 h
 unfold manyD
 rw [List.drop_eq_getElem_cons hj, List.filter_cons]
 split
 ·rw [List.length_cons]
 ·rfl
theorem leastD_step {A : List (Nat → Int)} {p : (Nat → Int) → Bool} {j : Nat} {M : Nat → Int} (h : A[j]? = some M) : leastD A p j = if p M = true then M else leastD A p (j + 1) := by
 obtain ⟨hj, rfl⟩ := List.getElem?_eq_some_iff.1 h
 unfold leastD
 rw [List.drop_eq_getElem_cons hj, List.find?_cons]
 split
 ·rename_i hp; rw [if_pos hp]; rfl
 ·rename_i hp; rw [if_neg (by rw [hp]; decide)]
theorem manyD_le (A : List (Nat → Int)) (p : (Nat → Int) → Bool) (j : Nat) : manyD A p j ≤ A.length := by
 unfold manyD
 have := List.length_filter_le p (A.drop j)
 rw [List.length_drop] at this
 omega
theorem manyD_none {A : List (Nat → Int)} {p : (Nat → Int) → Bool} {j : Nat} (h : manyD A p j = 0) : leastD A p j = zeroC := by
 unfold manyD at h
 have hn := List.eq_nil_of_length_eq_zero h
 have : (A.drop j).find? p = none := by
  rw [List.find?_eq_none]
  intro x hx hp
  have : x ∈ (A.drop j).filter p := List.mem_filter.2 ⟨hx, hp⟩
  rw [hn] at this
  cases this
 unfold leastD
 rw [this]
 rfl
def nextTo (A : List (Nat → Int)) (q : (Nat → Int) → Bool) : Nat → Option (Nat → Int)
 | 0 => none
 | i + 1 => if q (A.getD i zeroC) = true then some (A.getD (i + 1) zeroC) else nextTo A q i
def fitFault (u : Int) (l : List Rw) : Int := if 0 ≤ u ∧ u ≤ 6 then rowsFault l else 1
def fitManyN (u : Int) (l : List Rw) : Int := if fitFault u l = 0 then (manyD (everyC u.toNat) (fitB l) 0 : Int) else 0
def leastFault (u : Int) (l : List Rw) : Int := if fitFault u l = 0 then (if fitManyN u l = 0 then 5 else 0) else fitFault u l
def leastN (u : Int) (l : List Rw) : Nat → Int := if fitFault u l = 0 then leastD (everyC u.toNat) (fitB l) 0 else zeroC
def nextO (u : Int) (N : Nat → Int) : Option (Nat → Int) := nextTo (everyC u.toNat) (fun M => (List.range 8).all fun f => M f == N f) ((everyC u.toNat).length - 1)
def nextFault (u : Int) (N : Nat → Int) : Int :=
 if 0 ≤ u ∧ u ≤ 6 then (if countsFault N = 0 then (if sumN N 8 = u then (if (nextO u N).isSome = true then 0 else 5) else 3) else countsFault N) else 1
def nextN (u : Int) (N : Nat → Int) : Nat → Int := if nextFault u N = 0 then (nextO u N).getD zeroC else zeroC
end Go.Proofs.YtnoohlibgaeklaaGreatDoor
namespace Go.Proofs.YtnoohlibgaeklaaGreatDoor
open Go.RowKit
theorem allF_ne (r : Nat) : ∀ (u : Nat) (N : Nat → Int), allF r u N ≠ [] := by
 induction r with
 | zero => intro u N h; cases h
 | succ r ih =>
  intro u N h
  unfold allF at h
  rw [List.flatMap_eq_nil_iff] at h
  exact ih _ _ (h 0 (List.mem_range.2 (by omega)))
theorem allF_head (r : Nat) : ∀ (u : Nat) (N : Nat → Int), ∃ M, (allF r u N)[0]? = some M ∧ M 7 = (u : Int) := by
 induction r with
 | zero => intro u N; exact ⟨putN N 7 u, rfl, putN_same _ _ _⟩
 | succ r ih =>
  intro u N
  obtain ⟨M, h1, h2⟩ := ih u (putN N (6 - r) (0 : Nat))
  refine ⟨M, ?_, h2⟩
  unfold allF
  rw [List.range_succ_eq_map, List.flatMap_cons, List.getElem?_append_left (by have := (List.getElem?_eq_some_iff.1 h1).1; exact this)]
  exact h1
theorem allF_last (r : Nat) (hr : r ≤ 7) : ∀ (u : Nat) (N : Nat → Int), ∃ M, (allF r u N)[(allF r u N).length - 1]? = some M ∧ ∀ g, g < 8 → M g = if g = 7 - r then (u : Int) else if 7 - r < g then 0 else N g := by
 induction r with
 | zero =>
  intro u N
  refine ⟨putN N 7 u, rfl, fun g hg => ?_⟩
  by_cases e : g = 7
  ·subst e; rw [putN_same, if_pos rfl]
  ·rw [putN_other N e, if_neg (by omega), if_neg (by omega)]
 | succ r ih =>
  intro u N
  obtain ⟨M, h1, h2⟩ := ih (by omega) 0 (putN N (6 - r) u)
  have e : allF (r + 1) u N = allTo r u N u ++ allF r 0 (putN N (6 - r) u) := by
   rw [← allTo_all, allTo_succ, Nat.sub_self]
  have hp : 0 < (allF r 0 (putN N (6 - r) u)).length := List.length_pos_iff.2 (allF_ne r 0 _)
  refine ⟨M, ?_, fun g hg => ?_⟩
  ·rw [e, List.length_append, List.getElem?_append_right (by omega)]
   rw [show (allTo r u N u).length + (allF r 0 (putN N (6 - r) u)).length - 1 - (allTo r u N u).length = (allF r 0 (putN N (6 - r) u)).length - 1 by omega]
   exact h1
  ·rw [h2 g hg]
   by_cases e1 : g = 7 - (r + 1)
   ·rw [if_neg (by omega), if_neg (by omega), if_pos e1, show 6 - r = g by omega, putN_same]
   ·rw [if_neg e1]
    by_cases e2 : g = 7 - r
    ·rw [if_pos e2, if_pos (by omega)]; rfl
    ·rw [if_neg e2]
     by_cases e3 : 7 - r < g
     ·rw [if_pos e3, if_pos (by omega)]
     ·rw [if_neg e3, if_neg (by omega), putN_other N (by omega)]
theorem nextTo_none {A : List (Nat → Int)} {q : (Nat → Int) → Bool} {n : Nat} (h : ∀ i, i < n → q (A.getD i zeroC) = false) : nextTo A q n = none := by
 induction n with
 | zero => rfl
 | succ n ih =>
  unfold nextTo
  rw [if_neg (by rw [h n (by omega)]; decide)]
  exact ih fun i hi => h i (by omega)
theorem getD_of {A : List (Nat → Int)} {i : Nat} (h : i < A.length) : A[i]? = some (A.getD i zeroC) := by
 rw [List.getD_eq_getElem?_getD, List.getElem?_eq_getElem h]; rfl
theorem all8_iff {N M : Nat → Int} : ((List.range 8).all fun f => M f == N f) = true ↔ ∀ f, f < 8 → M f = N f := by
 rw [List.all_eq_true]
 exact ⟨fun h f hf => by simpa using h f (List.mem_range.2 hf), fun h f hf => by simpa using h f (List.mem_range.1 hf)⟩
theorem next_last (u : Nat) (N : Nat → Int) (h0 : N 0 = u) (h : ∀ g, 0 < g → g < 8 → N g = 0) : nextO (u : Int) N = none := by
 unfold nextO
 rw [Int.toNat_natCast]
 obtain ⟨M, h1, h2⟩ := allF_last 7 (by omega) u fun _ => 0
 refine nextTo_none fun i hi => ?_
 rcases (Bool.eq_false_or_eq_true ((List.range 8).all fun f => (everyC u).getD i zeroC f == N f)).symm with e | e
 ·exact e
 ·have e' := all8_iff.1 e
  have := everyC_once (u := u) (getD_of (show i < (everyC u).length by omega)) h1 (fun g hg => by
   rw [e' g hg, h2 g hg]
   by_cases eg : g = 0
   ·subst eg; rw [h0]; rfl
   ·rw [h g (by omega) hg, if_neg (by omega), if_pos (by omega)])
  have hl : (allF 7 u fun _ => 0) = everyC u := rfl
  rw [hl] at this
  omega
theorem fitB_nil (N : Nat → Int) : fitB [] N = true := rfl
theorem many_nil {u : Nat} (hu : u ≤ 6) : fitManyN (u : Int) [] = ((everyC u).length : Int) := by
 have e : fitFault (u : Int) [] = 0 := by unfold fitFault; rw [if_pos (by omega)]; rfl
 unfold fitManyN manyD
 rw [if_pos e, Int.toNat_natCast, List.drop_zero, List.filter_eq_self.2 fun M _ => fitB_nil M]
theorem least_nil {u : Nat} (hu : u ≤ 6) : leastFault (u : Int) [] = 0 ∧ leastN (u : Int) [] 7 = u := by
 have e : fitFault (u : Int) [] = 0 := by unfold fitFault; rw [if_pos (by omega)]; rfl
 obtain ⟨M, h1, h2⟩ := allF_head 7 u fun _ => 0
 have hl : (allF 7 u fun _ => 0) = everyC u := rfl
 rw [hl] at h1
 constructor
 ·unfold leastFault
  have hp : 0 < (everyC u).length := (List.getElem?_eq_some_iff.1 h1).1
  rw [if_pos e, if_neg (by rw [many_nil hu]; omega)]
 ·unfold leastN leastD
  rw [if_pos e, Int.toNat_natCast, List.drop_zero]
  cases hA : everyC u with
  | nil => rw [hA] at h1; simp at h1
  | cons B A =>
   rw [hA] at h1
   obtain rfl : B = M := by simpa using h1
   rw [List.find?_cons_of_pos (fitB_nil B)]
   exact h2
theorem fitB_same {l : List Rw} {N M : Nat → Int} (h : ∀ g, g < 8 → N g = M g) : fitB l N = fitB l M := by
 unfold fitB
 have : ∀ r : Rw, r.so N = r.so M := fun r => by unfold Rw.so; rw [sumT_same (fun _ _ => rfl) h]
 simp only [this]
theorem fitB_append (l m : List Rw) (N : Nat → Int) : fitB (l ++ m) N = (fitB l N && fitB m N) := by unfold fitB; rw [List.all_append]
theorem manyD_append (A : List (Nat → Int)) (l m : List Rw) (j : Nat) : manyD A (fitB (l ++ m)) j ≤ manyD A (fitB l) j := by
 unfold manyD
 have e : (A.drop j).filter (fitB (l ++ m)) = ((A.drop j).filter (fitB l)).filter (fitB m) := by
  rw [List.filter_filter]
  apply List.filter_congr
  intro N _
  rw [fitB_append, Bool.and_comm]
 rw [e]
 exact List.length_filter_le _ _
theorem manyD_all (A : List (Nat → Int)) (p : (Nat → Int) → Bool) : manyD A p 0 ≤ A.length := manyD_le A p 0
theorem none_fits {u : Nat} {l : List Rw} (h : manyD (everyC u) (fitB l) 0 = 0) {N : Nat → Int} (h0 : ∀ g, g < 8 → 0 ≤ N g) (hs : sumN N 8 = u) : fitB l N = false := by
 obtain ⟨A, hA, hAN⟩ := everyC_all h0 hs
 rw [← fitB_same (l := l) hAN]
 rcases (Bool.eq_false_or_eq_true (fitB l A)).symm with e | e
 ·exact e
 ·unfold manyD at h
  rw [List.drop_zero] at h
  have hn := List.eq_nil_of_length_eq_zero h
  have : A ∈ (everyC u).filter (fitB l) := List.mem_filter.2 ⟨hA, e⟩
  rw [hn] at this
  cases this
theorem least_fits {u : Nat} {l : List Rw} (h : ¬ manyD (everyC u) (fitB l) 0 = 0) : leastD (everyC u) (fitB l) 0 ∈ everyC u ∧ fitB l (leastD (everyC u) (fitB l) 0) = true := by
 unfold leastD
 rw [List.drop_zero]
 cases e : (everyC u).find? (fitB l) with
 | none =>
  refine absurd ?_ h
  unfold manyD
  rw [List.drop_zero, List.filter_eq_nil_iff.2 fun M hM => by simpa using List.find?_eq_none.1 e M hM]
  rfl
 | some M => exact ⟨List.mem_of_find?_eq_some e, List.find?_some e⟩
theorem least_first {u : Nat} {l : List Rw} {N : Nat → Int} (h0 : ∀ g, g < 8 → 0 ≤ N g) (hs : sumN N 8 = u) (hf : fitB l N = true) {f : Nat} (hfl : f < 8) (he : ∀ g, g < f → N g = leastD (everyC u) (fitB l) 0 g) (hne : N f ≠ leastD (everyC u) (fitB l) 0 f) : leastD (everyC u) (fitB l) 0 f < N f := by
 obtain ⟨A, hA, hAN⟩ := everyC_all h0 hs
 have hfA : fitB l A = true := by rw [fitB_same hAN]; exact hf
 have hsrt := everyC_sorted u
 obtain ⟨X, hX⟩ := nm (leastD (everyC u) (fitB l) 0)
 rw [← hX] at he hne ⊢
 have key : aheadC X A ∨ ∀ g, g < 8 → X g = A g := by
  unfold leastD at hX
  rw [List.drop_zero] at hX
  cases e : (everyC u).find? (fitB l) with
  | none => exact absurd hfA (by simpa using List.find?_eq_none.1 e A hA)
  | some M =>
   rw [e] at hX
   have hXM : X = M := hX
   obtain ⟨hM, ats, bs, hab, has⟩ := List.find?_eq_some_iff_append.1 e
   rw [hab] at hA hsrt
   rcases List.mem_append.1 hA with h | h
   ·have := has A h
    rw [hfA] at this
    simp at this
   ·rcases List.mem_cons.1 h with h | h
    ·right; intro g _; rw [hXM, h]
    ·left
     rw [hXM]
     exact (List.pairwise_cons.1 (List.pairwise_append.1 hsrt).2.1).1 A h
 rcases key with ⟨d, hd, hde, hdl⟩ | h
 ·have hAd := hAN
  rcases Nat.lt_trichotomy d f with h' | h' | h'
  ·have := he d h'
   have := hAd d hd
   omega
  ·subst h'
   rw [← hAN d hd]; exact hdl
  ·have := hde f h'
   have := hAd f hfl
   omega
 ·exact absurd ((hAN f hfl).symm.trans (h f hfl).symm) hne
end Go.Proofs.YtnoohlibgaeklaaGreatDoor
namespace Go.Proofs.YtnoohlibgaeklaaGreatDoor
open Go.RowKit
def lastTo (N : Nat → Int) : Nat → Nat
 | 0 => 0
 | k + 1 => if 0 < N k then k else lastTo N k
theorem lastTo_lt (N : Nat → Int) (k : Nat) (h : lastTo N k ≠ 0) : lastTo N k < k := by
 induction k with
 | zero => exact absurd rfl h
 | succ k ih =>
  unfold lastTo at h ⊢
  split
  ·omega
  ·rename_i hn
   rw [if_neg hn] at h
   have := ih h
   omega
theorem lastTo_same {N M : Nat → Int} {k : Nat} (h : ∀ g, g < k → N g = M g) : lastTo N k = lastTo M k := by
 induction k with
 | zero => rfl
 | succ k ih => unfold lastTo; rw [h k (by omega), ih fun g hg => h g (by omega)]
theorem lastTo_has {N : Nat → Int} {k : Nat} (h : lastTo N k ≠ 0) : 0 < N (lastTo N k) := by
 induction k with
 | zero => exact absurd rfl h
 | succ k ih =>
  unfold lastTo at h ⊢
  split
  ·rename_i hp; exact hp
  ·rename_i hn
   rw [if_neg hn] at h
   exact ih h
def afterL (N : Nat → Int) (L : Nat) : Nat → Int := putN (putN (putN N L 0) (L - 1) (N (L - 1) + 1)) 7 (N L - 1)
def afterN (N : Nat → Int) : Nat → Int := afterL N (lastTo N 8)
def afterO (N : Nat → Int) : Nat → Int := if lastTo N 8 = 0 then zeroC else afterN N
theorem afterN_same {N M : Nat → Int} (h : ∀ g, g < 8 → N g = M g) (hl : lastTo N 8 ≠ 0) : ∀ g, g < 8 → afterN N g = afterN M g := by
 intro g hg
 have hlt := lastTo_lt N 8 hl
 unfold afterN afterL
 rw [← lastTo_same h, h _ hlt, h (lastTo N 8 - 1) (by omega)]
 unfold putN
 rw [h g hg]
def stepsB : List (Nat → Int) → Bool
 | [] => true
 | M :: L => (match L with
  | [] => lastTo M 8 == 0
  | M' :: _ => lastTo M 8 != 0 && (List.range 8).all fun f => afterN M f == M' f) && stepsB L
theorem steps_all : ∀ u, u ≤ 6 → stepsB (everyC u) = true := by decide +kernel
theorem steps_at {A : List (Nat → Int)} (h : stepsB A = true) : ∀ {i : Nat} {M : Nat → Int}, A[i]? = some M →
    (lastTo M 8 ≠ 0 ∧ ∃ M', A[i + 1]? = some M' ∧ ∀ f, f < 8 → afterN M f = M' f) ∨ (lastTo M 8 = 0 ∧ i + 1 = A.length) := by
 induction A with
 | nil => intro i M hi; simp at hi
 | cons X L ih =>
  intro i M hi
  unfold stepsB at h
  rw [Bool.and_eq_true] at h
  cases i with
  | zero =>
   obtain rfl : X = M := by simpa using hi
   cases L with
   | nil =>
    have h1 := h.1
    simp only [beq_iff_eq] at h1
    exact Or.inr ⟨h1, rfl⟩
   | cons M' L =>
    have h1 := h.1
    simp only [Bool.and_eq_true, bne_iff_ne, ne_eq, List.all_eq_true, beq_iff_eq, List.mem_range] at h1
    exact Or.inl ⟨h1.1, M', rfl, h1.2⟩
  | succ i =>
   rcases ih h.2 (i := i) (M := M) (by simpa using hi) with ⟨a, M', b, c⟩ | ⟨a, b⟩
   ·exact Or.inl ⟨a, M', by simpa using b, c⟩
   ·exact Or.inr ⟨a, by simp [b]⟩
theorem every_steps {u : Nat} (hu : u ≤ 6) {i : Nat} {M : Nat → Int} (hi : (everyC u)[i]? = some M) :
    (lastTo M 8 ≠ 0 ∧ ∃ M', (everyC u)[i + 1]? = some M' ∧ ∀ f, f < 8 → afterN M f = M' f) ∨ (lastTo M 8 = 0 ∧ i + 1 = (everyC u).length) := steps_at (steps_all u hu) hi
theorem nextTo_one {A : List (Nat → Int)} {q : (Nat → Int) → Bool} {n j : Nat} (hj : j < n) (hq : q (A.getD j zeroC) = true) (h : ∀ i, i < n → q (A.getD i zeroC) = true → i = j) : nextTo A q n = some (A.getD (j + 1) zeroC) := by
 induction n with
 | zero => omega
 | succ n ih =>
  unfold nextTo
  by_cases e : n = j
  ·subst e; rw [if_pos hq]
  ·have : ¬ q (A.getD n zeroC) = true := fun hn => e (h n (by omega) hn)
   rw [if_neg this]
   exact ih (by omega) fun i hi hqi => h i (by omega) hqi
theorem next_after {u : Nat} (hu : u ≤ 6) {N : Nat → Int} (hf : countsFault N = 0) (hs : sumN N 8 = u) :
    nextFault (u : Int) N = (if lastTo N 8 = 0 then 5 else 0) ∧ ∀ g, g < 8 → nextN (u : Int) N g = afterO N g := by
 obtain ⟨A, hA, hAN⟩ := everyC_all (u := u) (fun g hg => ((counts_zero.1 hf).1 g hg).1) hs
 obtain ⟨i, hi⟩ := List.mem_iff_getElem?.1 hA
 have hil := (List.getElem?_eq_some_iff.1 hi).1
 have hl := lastTo_same (k := 8) hAN
 have huu : (0 : Int) ≤ (u : Int) ∧ (u : Int) ≤ 6 := by omega
 have hgi : (everyC u).getD i zeroC = A := by rw [List.getD_eq_getElem?_getD, hi]; rfl
 have honly : ∀ j, j < (everyC u).length → ((List.range 8).all fun f => (everyC u).getD j zeroC f == N f) = true → j = i := fun j hj hq =>
  everyC_once (u := u) (getD_of hj) hi fun g hg => ((all8_iff.1 hq) g hg).trans (hAN g hg).symm
 rcases every_steps hu hi with ⟨h0, M', hM', he⟩ | ⟨h0, he⟩
 ·have hil2 := (List.getElem?_eq_some_iff.1 hM').1
  have hgM : (everyC u).getD (i + 1) zeroC = M' := by rw [List.getD_eq_getElem?_getD, hM']; rfl
  have ho : nextO (u : Int) N = some M' := by
   unfold nextO
   rw [Int.toNat_natCast, ← hgM]
   exact nextTo_one (by omega) (by rw [hgi]; exact all8_iff.2 hAN) fun j hj hq => honly j (by omega) hq
  have hnf : nextFault (u : Int) N = 0 := by unfold nextFault; rw [if_pos huu, if_pos hf, if_pos hs, ho]; rfl
  rw [hl] at h0
  refine ⟨by rw [if_neg h0]; exact hnf, fun g hg => ?_⟩
  unfold nextN afterO
  rw [if_pos hnf, if_neg h0, ho]
  show M' g = _
  rw [← he g hg]
  exact afterN_same hAN (by rw [hl]; exact h0) g hg
 ·have ho : nextO (u : Int) N = none := by
   unfold nextO
   rw [Int.toNat_natCast]
   refine nextTo_none fun j hj => ?_
   rcases (Bool.eq_false_or_eq_true ((List.range 8).all fun f => (everyC u).getD j zeroC f == N f)).symm with e | e
   ·exact e
   ·have := honly j (by omega) e
    omega
  have hnf : nextFault (u : Int) N = 5 := by unfold nextFault; rw [if_pos huu, if_pos hf, if_pos hs, ho]; rfl
  rw [hl] at h0
  refine ⟨by rw [if_pos h0]; exact hnf, fun g _ => ?_⟩
  unfold nextN afterO
  rw [if_neg (by rw [hnf]; decide), if_pos h0]
end Go.Proofs.YtnoohlibgaeklaaGreatDoor
namespace Go.Proofs.YtnoohlibgaeklaaGreatDoor
open Go.RowKit
def isFm (m : Nat) : Nat → List Int → Prop
 | 0, _ => False
 | n + 1, q => (∃ s : Int, 0 ≤ s ∧ s < m ∧ q = [s]) ∨ (∃ t, isFm m n t ∧ q = t ++ [12]) ∨ (∃ (s : Int) (a b : List Int), (s = 10 ∨ s = 11 ∨ s = 13) ∧ isFm m n a ∧ isFm m n b ∧ q = a ++ (b ++ [s]))
theorem isFm_mono {m n : Nat} : ∀ {k : Nat} {q : List Int}, n ≤ k → isFm m n q → isFm m k q := by
 induction n with
 | zero => intro k q _ h; exact h.elim
 | succ n ih =>
  intro k q hk h
  obtain ⟨j, rfl⟩ : ∃ j, k = j + 1 := ⟨k - 1, by omega⟩
  rcases h with ⟨s, h0, h4, e⟩ | ⟨t, ht, e⟩ | ⟨s, a, b, h5, ha, hb, e⟩
  ·exact Or.inl ⟨s, h0, h4, e⟩
  ·exact Or.inr (Or.inl ⟨t, ih (by omega) ht, e⟩)
  ·exact Or.inr (Or.inr ⟨s, a, b, h5, ih (by omega) ha, ih (by omega) hb, e⟩)
theorem treesF (m : Nat) (t : List Int) (ht : ∀ s ∈ t, signF m s = true) (ts : List (List Int)) (hts : ∀ q ∈ ts, ∃ n, isFm m n q) {n : Int} (h : cntF t ts.length = some n) :
    ∃ ts' : List (List Int), (ts'.length : Int) = n ∧ (∀ q ∈ ts', ∃ n, isFm m n q) ∧ ts'.flatten = ts.flatten ++ t := by
 induction t generalizing ts with
 | nil => simp [cntF] at h; exact ⟨ts, h, hts, by simp⟩
 | cons s l ih =>
  have hs := signF_iff.1 (ht s (by simp))
  have hl : ∀ x ∈ l, signF m x = true := fun x hx => ht x (by simp [hx])
  unfold cntF at h
  split at h
  ·cases h
  ·rename_i hn
   by_cases h2 : s = 10 ∨ s = 11 ∨ s = 13
   ·have e : takesF s = 2 := by unfold takesF; rw [if_pos h2]
    rw [e] at h hn
    obtain ⟨ts0, a, b, rfl⟩ : ∃ ts0 a b, ts = ts0 ++ [a, b] := by
     rcases List.eq_nil_or_concat ts with rfl | ⟨x, y, rfl⟩
     ·simp at hn
     ·rcases List.eq_nil_or_concat x with rfl | ⟨x', z, rfl⟩
      ·simp at hn
      ·exact ⟨x', z, y, by simp⟩
    obtain ⟨ts', h1, h2', h3⟩ := ih hl (ts0 ++ [a ++ (b ++ [s])]) (by
     intro q hq
     rcases List.mem_append.1 hq with hq | hq
     ·exact hts q (by simp [hq])
     ·rw [List.mem_singleton.1 hq]
      obtain ⟨k, hk⟩ := hts a (by simp)
      obtain ⟨j, hj⟩ := hts b (by simp)
      exact ⟨k + j + 1, Or.inr (Or.inr ⟨s, a, b, h2, isFm_mono (by omega) hk, isFm_mono (by omega) hj, rfl⟩)⟩) (by rw [← h]; simp; congr 1; omega)
    exact ⟨ts', h1, h2', by rw [h3]; simp⟩
   by_cases h8 : s = 12
   ·subst h8
    have e : takesF 12 = 1 := by decide
    rw [e] at h hn
    obtain ⟨ts0, a, rfl⟩ : ∃ ts0 a, ts = ts0 ++ [a] := by
     rcases List.eq_nil_or_concat ts with rfl | ⟨x, y, rfl⟩
     ·simp at hn
     ·exact ⟨x, y, by simp⟩
    obtain ⟨ts', h1, h2', h3⟩ := ih hl (ts0 ++ [a ++ [12]]) (by
     intro q hq
     rcases List.mem_append.1 hq with hq | hq
     ·exact hts q (by simp [hq])
     ·rw [List.mem_singleton.1 hq]
      obtain ⟨k, hk⟩ := hts a (by simp)
      exact ⟨k + 1, Or.inr (Or.inl ⟨a, hk, rfl⟩)⟩) (by rw [← h]; simp)
    exact ⟨ts', h1, h2', by rw [h3]; simp⟩
   ·have e : takesF s = 0 := by unfold takesF; rw [if_neg h2, if_neg h8]
    rw [e] at h
    have hs' : 0 ≤ s ∧ s < m := hs.resolve_left (by simp [e])
    obtain ⟨ts', h1, h2', h3⟩ := ih hl (ts ++ [[s]]) (by
     intro q hq
     rcases List.mem_append.1 hq with hq | hq
     ·exact hts q hq
     ·rw [List.mem_singleton.1 hq]; exact ⟨1, Or.inl ⟨s, hs'.1, hs'.2, rfl⟩⟩) (by rw [← h]; simp)
    exact ⟨ts', h1, h2', by rw [h3]; simp⟩
theorem treeF {m : Nat} {t : List Int} (hs : t.all (signF m) = true) (h : cntF t 0 = some 1) : ∃ n, isFm m n t := by
 obtain ⟨ts, h1, h2, h3⟩ := treesF m t (List.all_eq_true.1 hs) [] (by intro q hq; cases hq) h
 match ts, h1 with
 | [q], _ =>
  have e : q = t := by simpa using h3
  rw [← e]; exact h2 q (by simp)
 | [], h1 => simp at h1
 | _ :: _ :: _, h1 => simp at h1; omega
theorem cnt_fm {m : Nat} (hm : m ≤ 6) (n : Nat) : ∀ q, isFm m n q → cntF q 0 = some 1 := by
 induction n with
 | zero => intro q h; exact h.elim
 | succ n ih =>
  intro q h
  rcases h with ⟨s, h0, h4, rfl⟩ | ⟨t, ht, rfl⟩ | ⟨s, a, b, h5, ha, hb, rfl⟩
  ·have e : takesF s = 0 := takesF_low (by omega)
   simp [cntF, e]
  ·exact cnt_no (ih t ht)
  ·have e : takesF s = 2 := by unfold takesF; rw [if_pos h5]
   rw [cntF_append, ih a ha]
   show cntF (b ++ [s]) 1 = _
   rw [cntF_append, show cntF b 1 = some 2 from cntF_more b 0 1 (ih b hb)]
   simp [cntF, e]
def boolF (s : Int) (x y : Bool) : Bool := if s = 10 then x && y else if s = 11 then x || y else !x || y
theorem valF_leaf (held : List Bool) {s : Int} (h : s < 10) : valF held [s] = held.getD s.toNat false := by
 have e := takesF_low h
 have : pileF held [s] [] = [held.getD s.toNat false] := by
  show stepF held [] s = _
  unfold stepF
  rw [madeF_leaf held e]
  simp [restF]
 rw [valF, this]; rfl
theorem valF_two (held : List Bool) {s : Int} (h : s = 10 ∨ s = 11 ∨ s = 13) {a b : List Int} (ha : cntF a 0 = some 1) (hb : cntF b 0 = some 1) : valF held (a ++ (b ++ [s])) = boolF s (valF held a) (valF held b) := by
 have : pileF held (a ++ (b ++ [s])) [] = [boolF s (valF held a) (valF held b)] := by
  rw [pileF_append, pileF_one held ha, pileF_append, pileF_one held hb]
  rcases h with rfl | rfl | rfl <;> rfl
 rw [valF, this]; rfl
end Go.Proofs.YtnoohlibgaeklaaGreatDoor
namespace Go.Proofs.YtnoohlibgaeklaaGreatDoor
open Go.RowKit
def cubeOk (M : Nat) (c : List Int) : Prop := (∀ m ∈ c, 1 ≤ m.natAbs ∧ m.natAbs ≤ M) ∧ c.Pairwise (fun a b => a.natAbs < b.natAbs)
def bothWays (c : List Int) : Bool := c.any (fun m => c.contains (-m))
def atomIn (c : List Int) (n : Int) : List Int := if c.contains n = true then [n] else if c.contains (-n) = true then [-n] else []
def joinC (c d : List Int) : List Int := [1, 2, 3, 4, 5, 6].flatMap (atomIn (c ++ d))
def putC (L : List (List Int)) (c : List Int) : List (List Int) := if L.contains c = true then L else L ++ [c]
def andS (c : List Int) (L : List (List Int)) (d : List Int) : List (List Int) := if bothWays (c ++ d) = true then L else putC L (joinC c d)
def andR (B : List (List Int)) (L : List (List Int)) (c : List Int) : List (List Int) := B.foldl (andS c) L
def andC (A B : List (List Int)) : List (List Int) := A.foldl (andR B) []
def orC (A B : List (List Int)) : List (List Int) := (A ++ B).foldl putC []
def turnC (c : List Int) : List (List Int) := c.map (fun m => [-m])
def capC (L : List (List Int)) : Option (List (List Int)) := if 40 < L.length then none else some L
def noC : List (List Int) → List (List Int) → Option (List (List Int))
 | [], out => some out
 | c :: l, out => (capC (andC out (turnC c))).bind (noC l)
def madeC (s : Int) (l : List (List (List Int))) : Option (List (List Int)) :=
 if s = 10 then capC (andC (l.getD 0 []) (l.getD 1 [])) else if s = 11 then capC (orC (l.getD 0 []) (l.getD 1 [])) else if s = 13 then (noC (l.getD 0 []) [[]]).bind (fun x => capC (orC x (l.getD 1 []))) else if s = 12 then noC (l.getD 0 []) [[]] else some [[s + 1]]
def restC (p : List (List (List Int))) (s : Int) : Nat := p.length - (takesF s).toNat
def stepC (p : List (List (List Int))) (s : Int) : Option (List (List (List Int))) := (madeC s (p.drop (restC p s))).map (fun x => p.take (restC p s) ++ [x])
def pileC : List Int → List (List (List Int)) → Option (List (List (List Int)))
 | [], p => some p
 | s :: l, p => (stepC p s).bind (pileC l)
def cubesC (c : List Int) : Option (List (List Int)) := (pileC c []).map (fun p => p.getD 0 [])
theorem bothWays_iff {c : List Int} : bothWays c = true ↔ ∃ m, m ∈ c ∧ -m ∈ c := by
 unfold bothWays; simp [List.any_eq_true]
theorem bothWays_mem {c d : List Int} (h : ∀ m, m ∈ c ↔ m ∈ d) : bothWays c = bothWays d := by
 rw [Bool.eq_iff_iff, bothWays_iff, bothWays_iff]
 simp [h]
theorem cube_noway {M : Nat} {c : List Int} (h : cubeOk M c) : bothWays c = false := by
 rw [← Bool.not_eq_true, bothWays_iff]
 rintro ⟨m, h1, h2⟩
 have hr := h.1 m h1
 have key : ∀ l : List Int, l.Pairwise (fun a b => a.natAbs < b.natAbs) → ∀ x ∈ l, ∀ y ∈ l, x.natAbs = y.natAbs → x = y := by
  intro l hl
  induction hl with
  | nil => intro x hx; cases hx
  | cons hh _ ih =>
   intro x hx y hy e
   rcases List.mem_cons.1 hx with ex | hx'
   ·rcases List.mem_cons.1 hy with ey | hy'
    ·rw [ex, ey]
    ·have := hh y hy'; rw [← ex] at this; omega
   ·rcases List.mem_cons.1 hy with ey | hy'
    ·have := hh x hx'; rw [← ey] at this; omega
    ·exact ih x hx' y hy' e
 have := key c h.2 m h1 (-m) h2 (by simp)
 omega
theorem rising_len {M : Nat} : ∀ (c : List Int) (k : Nat), (∀ m ∈ c, k < m.natAbs ∧ m.natAbs ≤ M) → c.Pairwise (fun a b => a.natAbs < b.natAbs) → c.length + k ≤ M ∨ c = [] := by
 intro c
 induction c with
 | nil => intro k _ _; exact Or.inr rfl
 | cons m l ih =>
  intro k h hp
  have hm := h m (by simp)
  rw [List.pairwise_cons] at hp
  rcases ih m.natAbs (fun x hx => ⟨hp.1 x hx, (h x (by simp [hx])).2⟩) hp.2 with h1 | rfl
  ·left; simp; omega
  ·left; simp; omega
theorem cube_len {M : Nat} {c : List Int} (h : cubeOk M c) : c.length ≤ M := by
 rcases rising_len c 0 (fun m hm => ⟨by have := (h.1 m hm).1; omega, (h.1 m hm).2⟩) h.2 with h1 | rfl
 ·omega
 ·simp
theorem rising_ext : ∀ {c d : List Int}, c.Pairwise (fun a b => a.natAbs < b.natAbs) → d.Pairwise (fun a b => a.natAbs < b.natAbs) → (∀ m, m ∈ c ↔ m ∈ d) → c = d := by
 intro c
 induction c with
 | nil =>
  intro d _ _ h
  cases d with
  | nil => rfl
  | cons x l => have := (h x).2 (by simp); cases this
 | cons a l ih =>
  intro d hc hd h
  cases d with
  | nil => have := (h a).1 (by simp); cases this
  | cons b k =>
   rw [List.pairwise_cons] at hc hd
   have hab : a = b := by
    rcases List.mem_cons.1 ((h a).1 (by simp)) with e | e
    ·exact e
    ·rcases List.mem_cons.1 ((h b).2 (by simp)) with e' | e'
     ·exact e'.symm
     ·have h1 := hd.1 a e; have h2 := hc.1 b e'; omega
   subst hab
   rw [ih hc.2 hd.2 (fun m => ?_)]
   have hm := h m
   constructor
   ·intro hml
    rcases List.mem_cons.1 (hm.1 (by simp [hml])) with rfl | e
    ·have := hc.1 m hml; omega
    ·exact e
   ·intro hmk
    rcases List.mem_cons.1 (hm.2 (by simp [hmk])) with rfl | e
    ·have := hd.1 m hmk; omega
    ·exact e
theorem mem_joinC {c d : List Int} (hr : ∀ m ∈ c ++ d, 1 ≤ m.natAbs ∧ m.natAbs ≤ 6) (hb : bothWays (c ++ d) = false) (m : Int) : m ∈ joinC c d ↔ m ∈ c ++ d := by
 rw [← Bool.not_eq_true, bothWays_iff] at hb
 unfold joinC
 rw [List.mem_flatMap]
 constructor
 ·rintro ⟨n, _, hn⟩
  unfold atomIn at hn
  split at hn
  ·rename_i h; rw [List.mem_singleton.1 hn]; simpa using h
  ·split at hn
   ·rename_i h; rw [List.mem_singleton.1 hn]; simpa using h
   ·cases hn
 ·intro hm
  have h6 := hr m hm
  refine ⟨(m.natAbs : Int), ?_, ?_⟩
  ·have : m.natAbs = 1 ∨ m.natAbs = 2 ∨ m.natAbs = 3 ∨ m.natAbs = 4 ∨ m.natAbs = 5 ∨ m.natAbs = 6 := by omega
   rcases this with e | e | e | e | e | e <;> rw [e] <;> simp
  ·unfold atomIn
   rcases Int.natAbs_eq m with e | e
   ·rw [← e, if_pos (by simpa using hm)]; simp
   ·have e2 : (m.natAbs : Int) = -m := by omega
    rw [e2, if_neg, if_pos]
    ·simp
    ·simpa using hm
    ·intro hc
     exact hb ⟨m, hm, by simpa using hc⟩
theorem join_ok {M : Nat} (hM : M ≤ 6) {c d : List Int} (hc : cubeOk M c) (hd : cubeOk M d) (hb : bothWays (c ++ d) = false) : cubeOk M (joinC c d) := by
 have hr : ∀ m ∈ c ++ d, 1 ≤ m.natAbs ∧ m.natAbs ≤ M := by
  intro m hm
  rcases List.mem_append.1 hm with h | h
  ·exact hc.1 m h
  ·exact hd.1 m h
 refine ⟨fun m hm => hr m ((mem_joinC (fun m h => by have := hr m h; omega) hb m).1 hm), ?_⟩
 unfold joinC
 have one : ∀ n x, x ∈ atomIn (c ++ d) n → x.natAbs = n.natAbs := by
  intro n x hx
  unfold atomIn at hx
  split at hx
  ·rw [List.mem_singleton.1 hx]
  ·split at hx
   ·rw [List.mem_singleton.1 hx]; simp
   ·cases hx
 rw [List.pairwise_flatMap]
 refine ⟨fun n _ => ?_, ?_⟩
 ·unfold atomIn
  split
  ·simp
  ·split <;> simp
 ·have : ([1, 2, 3, 4, 5, 6] : List Int).Pairwise (fun a b => a.natAbs < b.natAbs) := by decide
  refine this.imp ?_
  intro a b hab x hx y hy
  rw [one a x hx, one b y hy]; exact hab
def okL (M : Nat) (L : List (List Int)) : Prop := (∀ c ∈ L, cubeOk M c) ∧ L.Nodup
theorem put_ok {M : Nat} {L : List (List Int)} {c : List Int} (h : okL M L) (hc : cubeOk M c) : okL M (putC L c) := by
 unfold putC
 split
 ·exact h
 ·rename_i hn
  refine ⟨fun x hx => ?_, ?_⟩
  ·rcases List.mem_append.1 hx with hx | hx
   ·exact h.1 x hx
   ·rw [List.mem_singleton.1 hx]; exact hc
  ·rw [List.nodup_append]
   refine ⟨h.2, by simp, ?_⟩
   intro x hx y hy e
   rw [List.mem_singleton.1 hy] at e
   subst e
   exact hn (by simpa using hx)
theorem put_len (L : List (List Int)) (c : List Int) : L.length ≤ (putC L c).length ∧ (putC L c).length ≤ L.length + 1 := by
 unfold putC; split <;> simp
theorem andS_ok {M : Nat} (hM : M ≤ 6) {L : List (List Int)} {c d : List Int} (h : okL M L) (hc : cubeOk M c) (hd : cubeOk M d) : okL M (andS c L d) := by
 unfold andS
 split
 ·exact h
 ·rename_i hb
  exact put_ok h (join_ok hM hc hd (by simpa using hb))
theorem andS_len (L : List (List Int)) (c d : List Int) : L.length ≤ (andS c L d).length ∧ (andS c L d).length ≤ L.length + 1 := by
 unfold andS; split
 ·simp
 ·exact put_len _ _
theorem andR_ok {M : Nat} (hM : M ≤ 6) {B : List (List Int)} (hB : ∀ d ∈ B, cubeOk M d) : ∀ {L : List (List Int)} {c : List Int}, okL M L → cubeOk M c → okL M (andR B L c) := by
 induction B with
 | nil => intro L c h _; exact h
 | cons d l ih =>
  intro L c h hc
  exact ih (fun x hx => hB x (by simp [hx])) (andS_ok hM h hc (hB d (by simp))) hc
theorem andR_len (B : List (List Int)) : ∀ (L : List (List Int)) (c : List Int), L.length ≤ (andR B L c).length := by
 induction B with
 | nil => intro L c; exact Nat.le_refl _
 | cons d l ih => intro L c; exact Nat.le_trans (andS_len L c d).1 (ih _ c)
theorem andF_ok {M : Nat} (hM : M ≤ 6) {A B : List (List Int)} (hA : ∀ c ∈ A, cubeOk M c) (hB : ∀ d ∈ B, cubeOk M d) : ∀ {L : List (List Int)}, okL M L → okL M (A.foldl (andR B) L) := by
 induction A with
 | nil => intro L h; exact h
 | cons c l ih => intro L h; exact ih (fun x hx => hA x (by simp [hx])) (andR_ok hM hB h (hA c (by simp)))
theorem andF_len (A B : List (List Int)) : ∀ (L : List (List Int)), L.length ≤ (A.foldl (andR B) L).length := by
 induction A with
 | nil => intro L; exact Nat.le_refl _
 | cons c l ih => intro L; exact Nat.le_trans (andR_len B L c) (ih _)
theorem okL_nil (M : Nat) : okL M [] := ⟨fun c h => (by cases h), List.nodup_nil⟩
theorem and_ok {M : Nat} (hM : M ≤ 6) {A B : List (List Int)} (hA : ∀ c ∈ A, cubeOk M c) (hB : ∀ d ∈ B, cubeOk M d) : okL M (andC A B) := andF_ok hM hA hB (okL_nil M)
theorem putF_ok {M : Nat} {B : List (List Int)} (hB : ∀ d ∈ B, cubeOk M d) : ∀ {L : List (List Int)}, okL M L → okL M (B.foldl putC L) := by
 induction B with
 | nil => intro L h; exact h
 | cons c l ih => intro L h; exact ih (fun x hx => hB x (by simp [hx])) (put_ok h (hB c (by simp)))
theorem putF_len (B : List (List Int)) : ∀ (L : List (List Int)), L.length ≤ (B.foldl putC L).length ∧ (B.foldl putC L).length ≤ L.length + B.length := by
 induction B with
 | nil => intro L; simp
 | cons c l ih => intro L; have h1 := put_len L c; have h2 := ih (putC L c); simp only [List.foldl_cons, List.length_cons]; omega
theorem or_ok {M : Nat} {A B : List (List Int)} (hA : ∀ c ∈ A, cubeOk M c) (hB : ∀ d ∈ B, cubeOk M d) : okL M (orC A B) := by
 refine putF_ok (fun d hd => ?_) (okL_nil M)
 rcases List.mem_append.1 hd with h | h
 ·exact hA d h
 ·exact hB d h
theorem putF_nodup : ∀ (A L : List (List Int)), (L ++ A).Nodup → A.foldl putC L = L ++ A := by
 intro A
 induction A with
 | nil => intro L _; simp
 | cons c l ih =>
  intro L h
  have hc : ¬ L.contains c = true := by
   intro hc
   rw [List.nodup_append] at h
   exact h.2.2 c (by simpa using hc) c (by simp) rfl
  show l.foldl putC (putC L c) = _
  rw [show putC L c = L ++ [c] by unfold putC; rw [if_neg hc], ih]
  ·simp
  ·simpa using h
theorem or_eq {A B : List (List Int)} (hA : A.Nodup) : orC A B = B.foldl putC A := by
 unfold orC
 rw [List.foldl_append, putF_nodup A [] (by simpa using hA)]
 simp
theorem turn_ok {M : Nat} {c : List Int} (h : cubeOk M c) : ∀ d ∈ turnC c, cubeOk M d := by
 intro d hd
 obtain ⟨m, hm, rfl⟩ := List.mem_map.1 hd
 exact ⟨fun x hx => by rw [List.mem_singleton.1 hx]; have := h.1 m hm; simpa using this, by simp⟩
theorem cap_some {L K : List (List Int)} (h : capC L = some K) : K = L ∧ L.length ≤ 40 := by
 unfold capC at h
 split at h
 ·cases h
 ·exact ⟨(Option.some.inj h).symm, by omega⟩
theorem okL_one (M : Nat) : okL M [[]] := ⟨fun c h => by rw [List.mem_singleton.1 h]; exact ⟨fun m hm => (by cases hm), List.Pairwise.nil⟩, by simp⟩
theorem no_ok {M : Nat} (hM : M ≤ 6) : ∀ (L out K : List (List Int)), (∀ c ∈ L, cubeOk M c) → okL M out → out.length ≤ 40 → noC L out = some K → okL M K ∧ K.length ≤ 40 := by
 intro L
 induction L with
 | nil => intro out K _ ho hl h; cases h; exact ⟨ho, hl⟩
 | cons c l ih =>
  intro out K hL ho hl h
  unfold noC at h
  cases he : capC (andC out (turnC c)) with
  | none => rw [he] at h; cases h
  | some x =>
   rw [he] at h
   obtain ⟨rfl, hx⟩ := cap_some he
   exact ih _ K (fun d hd => hL d (by simp [hd])) (and_ok hM ho.1 (turn_ok (hL c (by simp)))) hx h
def litC (held : List Bool) (m : Int) : Bool := held.getD (m.natAbs - 1) false == decide (0 < m)
def allC (held : List Bool) (c : List Int) : Bool := c.all (litC held)
def anyC (held : List Bool) (L : List (List Int)) : Bool := L.any (allC held)
theorem anyC_append (held : List Bool) (L K : List (List Int)) : anyC held (L ++ K) = (anyC held L || anyC held K) := by simp [anyC]
theorem any_put (held : List Bool) (L : List (List Int)) (c : List Int) : anyC held (putC L c) = (anyC held L || allC held c) := by
 unfold putC
 split
 ·rename_i h
  have hm : c ∈ L := by simpa using h
  cases hc : allC held c with
  | false => simp
  | true =>
   simp only [Bool.or_true]
   exact List.any_eq_true.2 ⟨c, hm, hc⟩
 ·simp [anyC]
theorem lit_neg (held : List Bool) {m : Int} (h : m ≠ 0) : litC held (-m) = !litC held m := by
 unfold litC
 rw [Int.natAbs_neg]
 have : decide (0 < -m) = !decide (0 < m) := by
  by_cases h1 : 0 < m
  ·simp [h1]; omega
  ·have h2 : 0 < -m := by omega
   simp [h1]; omega
 rw [this]
 cases held.getD (m.natAbs - 1) false <;> cases decide (0 < m) <;> rfl
theorem all_append (held : List Bool) (c d : List Int) : allC held (c ++ d) = (allC held c && allC held d) := by simp [allC]
theorem all_mem (held : List Bool) {c d : List Int} (h : ∀ m, m ∈ c ↔ m ∈ d) : allC held c = allC held d := by
 rw [Bool.eq_iff_iff]
 unfold allC
 rw [List.all_eq_true, List.all_eq_true]
 simp [h]
theorem any_andS (held : List Bool) {M : Nat} (hM : M ≤ 6) (L : List (List Int)) {c d : List Int} (hc : cubeOk M c) (hd : cubeOk M d) : anyC held (andS c L d) = (anyC held L || (allC held c && allC held d)) := by
 have hr : ∀ m ∈ c ++ d, 1 ≤ m.natAbs ∧ m.natAbs ≤ 6 := by
  intro m hm
  rcases List.mem_append.1 hm with h | h
  ·have := hc.1 m h; omega
  ·have := hd.1 m h; omega
 unfold andS
 split
 ·rename_i hb
  obtain ⟨m, h1, h2⟩ := bothWays_iff.1 hb
  have : allC held (c ++ d) = false := by
   rw [← Bool.not_eq_true]
   intro hall
   have a1 := List.all_eq_true.1 hall m h1
   have a2 := List.all_eq_true.1 hall (-m) h2
   rw [lit_neg held (by have := hr m h1; omega), a1] at a2
   cases a2
  rw [← all_append, this]; simp
 ·rename_i hb
  rw [any_put, ← all_append, all_mem held (mem_joinC hr (by simpa using hb))]
theorem any_andR (held : List Bool) {M : Nat} (hM : M ≤ 6) {c : List Int} (hc : cubeOk M c) : ∀ (B L : List (List Int)), (∀ d ∈ B, cubeOk M d) → anyC held (andR B L c) = (anyC held L || (allC held c && anyC held B)) := by
 intro B
 induction B with
 | nil => intro L _; simp [andR, anyC]
 | cons d l ih =>
  intro L hB
  have e : andR (d :: l) L c = andR l (andS c L d) c := rfl
  rw [e, ih _ (fun x hx => hB x (by simp [hx])), any_andS held hM L hc (hB d (by simp))]
  have : anyC held (d :: l) = (allC held d || anyC held l) := rfl
  rw [this]
  cases anyC held L <;> cases allC held c <;> cases allC held d <;> cases anyC held l <;> rfl
theorem any_and (held : List Bool) {M : Nat} (hM : M ≤ 6) {A B : List (List Int)} (hA : ∀ c ∈ A, cubeOk M c) (hB : ∀ d ∈ B, cubeOk M d) : anyC held (andC A B) = (anyC held A && anyC held B) := by
 have key : ∀ (A L : List (List Int)), (∀ c ∈ A, cubeOk M c) → anyC held (A.foldl (andR B) L) = (anyC held L || (anyC held A && anyC held B)) := by
  intro A
  induction A with
  | nil => intro L _; simp [anyC]
  | cons c l ih =>
   intro L hA
   show anyC held (l.foldl (andR B) (andR B L c)) = _
   rw [ih _ (fun x hx => hA x (by simp [hx])), any_andR held hM (hA c (by simp)) B L hB]
   have : anyC held (c :: l) = (allC held c || anyC held l) := rfl
   rw [this]
   cases anyC held L <;> cases allC held c <;> cases anyC held B <;> cases anyC held l <;> rfl
 unfold andC
 rw [key A [] hA]
 simp [anyC]
theorem any_putF (held : List Bool) : ∀ (B L : List (List Int)), anyC held (B.foldl putC L) = (anyC held L || anyC held B) := by
 intro B
 induction B with
 | nil => intro L; simp [anyC]
 | cons c l ih =>
  intro L
  show anyC held (l.foldl putC (putC L c)) = _
  rw [ih, any_put]
  have : anyC held (c :: l) = (allC held c || anyC held l) := rfl
  rw [this, Bool.or_assoc]
theorem any_or (held : List Bool) (A B : List (List Int)) : anyC held (orC A B) = (anyC held A || anyC held B) := by
 unfold orC
 rw [any_putF, anyC_append]
 simp [anyC]
theorem any_turn (held : List Bool) {c : List Int} (h : ∀ m ∈ c, m ≠ 0) : anyC held (turnC c) = !allC held c := by
 induction c with
 | nil => rfl
 | cons m l ih =>
  have e1 : anyC held (turnC (m :: l)) = (litC held (-m) || anyC held (turnC l)) := by
   simp [anyC, turnC, allC]
  have e2 : allC held (m :: l) = (litC held m && allC held l) := rfl
  rw [e1, e2, ih (fun x hx => h x (by simp [hx])), lit_neg held (h m (by simp))]
  cases litC held m <;> simp
theorem any_no (held : List Bool) {M : Nat} (hM : M ≤ 6) : ∀ (L out K : List (List Int)), (∀ c ∈ L, cubeOk M c) → (∀ c ∈ out, cubeOk M c) → noC L out = some K → anyC held K = (anyC held out && !anyC held L) := by
 intro L
 induction L with
 | nil => intro out K _ _ h; cases h; simp [anyC]
 | cons c l ih =>
  intro out K hL ho h
  unfold noC at h
  cases he : capC (andC out (turnC c)) with
  | none => rw [he] at h; cases h
  | some x =>
   rw [he] at h
   obtain ⟨rfl, hx⟩ := cap_some he
   have hc := hL c (by simp)
   rw [ih _ K (fun d hd => hL d (by simp [hd])) (and_ok hM ho (turn_ok hc)).1 h, any_and held hM ho (turn_ok hc), any_turn held (fun m hm => by have := hc.1 m hm; omega)]
   have : anyC held (c :: l) = (allC held c || anyC held l) := rfl
   rw [this]
   cases anyC held out <;> cases allC held c <;> cases anyC held l <;> rfl
theorem pileC_append (a b : List Int) (p : List (List (List Int))) : pileC (a ++ b) p = (pileC a p).bind (pileC b) := by
 induction a generalizing p with
 | nil => rfl
 | cons s l ih =>
  show (stepC p s).bind (pileC (l ++ b)) = ((stepC p s).bind (pileC l)).bind (pileC b)
  cases stepC p s with
  | none => rfl
  | some q => exact ih q
theorem pileC_succ (t : List Int) (p : List (List (List Int))) {k : Nat} (h : k < t.length) : pileC (t.take (k + 1)) p = (pileC (t.take k) p).bind (fun q => stepC q (t.getD k 0)) := by
 rw [takeF_succ t h, pileC_append]
 congr 1
 funext q
 show (stepC q (t.getD k 0)).bind (pileC []) = _
 cases stepC q (t.getD k 0) <;> rfl
theorem pileC_none (t : List Int) (p : List (List (List Int))) (k : Nat) (h : pileC (t.take k) p = none) : pileC t p = none := by
 have : pileC (t.take k ++ t.drop k) p = none := by rw [pileC_append, h]; rfl
 rwa [List.take_append_drop] at this
def okP (M : Nat) (p : List (List (List Int))) : Prop := ∀ L ∈ p, okL M L ∧ L.length ≤ 40
theorem cubes_made_ok {M : Nat} (hM : M ≤ 6) {s : Int} (hs : takesF s ≠ 0 ∨ (0 ≤ s ∧ s < M)) {l : List (List (List Int))} (hl : okP M l) {K : List (List Int)} (h : madeC s l = some K) : okL M K ∧ K.length ≤ 40 := by
 have h0 : ∀ i, okL M (l.getD i []) ∧ (l.getD i []).length ≤ 40 := by
  intro i
  rw [List.getD_eq_getElem?_getD]
  cases hi : l[i]? with
  | none => exact ⟨okL_nil M, by simp⟩
  | some x => exact hl x (List.mem_of_getElem? hi)
 unfold madeC at h
 split at h
 ·obtain ⟨rfl, hk⟩ := cap_some h
  exact ⟨and_ok hM (h0 0).1.1 (h0 1).1.1, hk⟩
 split at h
 ·obtain ⟨rfl, hk⟩ := cap_some h
  exact ⟨or_ok (h0 0).1.1 (h0 1).1.1, hk⟩
 split at h
 ·cases he : noC (l.getD 0 []) [[]] with
  | none => rw [he] at h; cases h
  | some x =>
   rw [he] at h
   have hx := no_ok hM _ _ _ (h0 0).1.1 (okL_one M) (by simp) he
   obtain ⟨rfl, hk⟩ := cap_some h
   exact ⟨or_ok hx.1.1 (h0 1).1.1, hk⟩
 split at h
 ·exact no_ok hM _ _ _ (h0 0).1.1 (okL_one M) (by simp) h
 ·rename_i h1 h2 h3 h4
  have ht : takesF s = 0 := by unfold takesF; rw [if_neg (by omega), if_neg h4]
  have hs' := hs.resolve_left (by simp [ht])
  obtain rfl := Option.some.inj h
  refine ⟨⟨fun c hc => ?_, by simp⟩, by simp⟩
  rw [List.mem_singleton.1 hc]
  refine ⟨fun m hm => ?_, by simp⟩
  rw [List.mem_singleton.1 hm]; omega
theorem made_any (held : List Bool) {M : Nat} (hM : M ≤ 6) {s : Int} (hs : takesF s ≠ 0 ∨ (0 ≤ s ∧ s < M)) {l : List (List (List Int))} (hl : okP M l) {K : List (List Int)} (h : madeC s l = some K) : anyC held K = madeF held s (l.map (anyC held)) := by
 have h0 : ∀ i, ∀ c ∈ l.getD i [], cubeOk M c := by
  intro i
  rw [List.getD_eq_getElem?_getD]
  cases hi : l[i]? with
  | none => intro c hc; cases hc
  | some x => exact (hl x (List.mem_of_getElem? hi)).1.1
 have g : ∀ i, (l.map (anyC held)).getD i false = anyC held (l.getD i []) := by
  intro i
  rw [List.getD_eq_getElem?_getD, List.getD_eq_getElem?_getD, List.getElem?_map]
  cases l[i]? <;> rfl
 unfold madeC at h
 unfold madeF
 rw [g, g]
 split at h
 ·rename_i e; subst e
  obtain ⟨rfl, hk⟩ := cap_some h
  rw [if_pos rfl]
  exact any_and held hM (h0 0) (h0 1)
 split at h
 ·rename_i e; subst e
  obtain ⟨rfl, hk⟩ := cap_some h
  rw [if_neg (by decide), if_pos rfl]
  exact any_or held _ _
 split at h
 ·rename_i e; subst e
  rw [if_neg (by decide), if_neg (by decide), if_pos rfl]
  cases he : noC (l.getD 0 []) [[]] with
  | none => rw [he] at h; cases h
  | some x =>
   rw [he] at h
   obtain ⟨rfl, hk⟩ := cap_some h
   rw [any_or, any_no held hM _ _ _ (h0 0) (okL_one M).1 he]
   simp [anyC, allC]
 split at h
 ·rename_i e; subst e
  rw [if_neg (by decide), if_neg (by decide), if_neg (by decide), if_pos rfl]
  rw [any_no held hM _ _ _ (h0 0) (okL_one M).1 h]
  simp [anyC, allC]
 ·rename_i h1 h2 h3 h4
  have ht : takesF s = 0 := by unfold takesF; rw [if_neg (by omega), if_neg h4]
  have hs' := hs.resolve_left (by simp [ht])
  obtain rfl := Option.some.inj h
  rw [if_neg h1, if_neg h2, if_neg h3, if_neg h4]
  have e1 : (s + 1).natAbs - 1 = s.toNat := by omega
  have e2 : decide (0 < s + 1) = true := by simp; omega
  simp [anyC, allC, litC, e1, e2]
theorem step_ok (held : List Bool) {M : Nat} (hM : M ≤ 6) {s : Int} (hs : takesF s ≠ 0 ∨ (0 ≤ s ∧ s < M)) {p q : List (List (List Int))} (hp : okP M p) (h : stepC p s = some q) : okP M q ∧ q.map (anyC held) = stepF held (p.map (anyC held)) s := by
 unfold stepC at h
 cases he : madeC s (p.drop (restC p s)) with
 | none => rw [he] at h; cases h
 | some K =>
  rw [he] at h
  obtain rfl := Option.some.inj h
  have hd : okP M (p.drop (restC p s)) := fun L hL => hp L (List.mem_of_mem_drop hL)
  refine ⟨fun L hL => ?_, ?_⟩
  ·rcases List.mem_append.1 hL with hL | hL
   ·exact hp L (List.mem_of_mem_take hL)
   ·rw [List.mem_singleton.1 hL]; exact cubes_made_ok hM hs hd he
  ·unfold stepF restF
   rw [List.map_append, List.length_map, ← List.map_take, ← List.map_drop]
   show _ ++ [anyC held K] = _
   rw [made_any held hM hs hd he]; rfl
theorem pile_ok (held : List Bool) {M : Nat} (hM : M ≤ 6) : ∀ (c : List Int) (p q : List (List (List Int))), c.all (signF M) = true → okP M p → pileC c p = some q → okP M q ∧ q.map (anyC held) = pileF held c (p.map (anyC held)) := by
 intro c
 induction c with
 | nil => intro p q _ hp h; cases h; exact ⟨hp, rfl⟩
 | cons s l ih =>
  intro p q hs hp h
  rw [List.all_cons, Bool.and_eq_true] at hs
  unfold pileC at h
  cases he : stepC p s with
  | none => rw [he] at h; cases h
  | some x =>
   rw [he] at h
   obtain ⟨h1, h2⟩ := step_ok held hM (signF_iff.1 hs.1) hp he
   obtain ⟨g1, g2⟩ := ih x q hs.2 h1 h
   refine ⟨g1, ?_⟩
   rw [g2, h2]; rfl
theorem stepC_length {p q : List (List (List Int))} {s : Int} (ht : takesF s ≤ p.length) (h : stepC p s = some q) : (q.length : Int) = p.length + 1 - takesF s := by
 have := takesF_range s
 unfold stepC at h
 cases he : madeC s (p.drop (restC p s)) with
 | none => rw [he] at h; cases h
 | some K =>
  rw [he] at h
  obtain rfl := Option.some.inj h
  simp [restC]
  omega
theorem pileC_length : ∀ (t : List Int) (p q : List (List (List Int))) {n : Int}, cntF t p.length = some n → pileC t p = some q → (q.length : Int) = n := by
 intro t
 induction t with
 | nil => intro p q n h hq; cases hq; simp [cntF] at h; exact h
 | cons s l ih =>
  intro p q n h hq
  unfold cntF at h
  split at h
  ·cases h
  ·rename_i hs
   unfold pileC at hq
   cases he : stepC p s with
   | none => rw [he] at hq; cases hq
   | some x =>
    rw [he] at hq
    refine ih x q ?_ hq
    rw [stepC_length (by omega) he]; exact h
theorem cubes_say (held : List Bool) {ats : List At} {c : List Int} (hf : formFault ats c = 0) {L : List (List Int)} (h : cubesC c = some L) : okL ats.length L ∧ L.length ≤ 40 ∧ anyC held L = valF held c := by
 obtain ⟨⟨_, h6⟩, _, _, hs, hone⟩ := formFault_zero.1 hf
 unfold cubesC at h
 cases he : pileC c [] with
 | none => rw [he] at h; cases h
 | some q =>
  rw [he] at h
  obtain rfl := Option.some.inj h
  obtain ⟨h1, h2⟩ := pile_ok held h6 c [] q hs (fun L hL => by cases hL) he
  have hl := pileC_length c [] q hone he
  match q, hl with
  | [x], _ =>
   have := h1 x (by simp)
   refine ⟨this.1, this.2, ?_⟩
   show anyC held x = valF held c
   unfold valF
   have e : pileF held c [] = [anyC held x] := h2.symm
   rw [e]; rfl
  | [], h => simp at h
  | _ :: _ :: _, h => simp at h; omega
end Go.Proofs.YtnoohlibgaeklaaGreatDoor