/-
  Facts and contracts that the statement leans on.
-/
import Derived.Test.YtjmeakkmfeoigaaGreatDoorLibT4
namespace Go.Proofs.YtjmeakkmfeoigaaGreatDoor
open Go.RowKit
def putN (N : Nat → Int) (f : Nat) (x : Int) : Nat → Int := fun g => if g = f then x else N g
theorem putN_same (N : Nat → Int) (f : Nat) (x : Int) : putN N f x f = x := by unfold putN; rw [if_pos rfl]
theorem putN_other (N : Nat → Int) {f g : Nat} (h : g ≠ f) (x : Int) : putN N f x g = N g := by unfold putN; rw [if_neg h]
def allF : Nat → Nat → (Nat → Int) → List (Nat → Int)
 | 0, u, N => [putN N 7 u]
 | r + 1, u, N => (List.range (u + 1)).flatMap fun k => allF r (u - k) (putN N (6 - r) k)
def everyC (u : Nat) : List (Nat → Int) := allF 7 u fun _ => 0
def allTo (r u : Nat) (N : Nat → Int) (k : Nat) : List (Nat → Int) := (List.range k).flatMap fun j => allF r (u - j) (putN N (6 - r) j)
def waysN : Nat → Nat → Nat
 | 0, _ => 1
 | r + 1, u => ((List.range (u + 1)).map fun k => waysN r (u - k)).sum
theorem length_allF (r : Nat) : ∀ (u : Nat) (N : Nat → Int), (allF r u N).length = waysN r u := by
 induction r with
 | zero => intro u N; rfl
 | succ r ih =>
  intro u N
  unfold allF waysN
  rw [List.length_flatMap]
  congr 1
  apply List.map_congr_left
  intro k _
  exact ih _ _
theorem ways_le : ∀ r, r ≤ 7 → ∀ u, u ≤ 6 → waysN r u ≤ 1716 := by decide +kernel
theorem length_everyC {u : Nat} (h : u ≤ 6) : (everyC u).length ≤ 1716 := by
 unfold everyC; rw [length_allF]; exact ways_le 7 (by omega) u h
theorem allF_sum (r : Nat) (hr : r ≤ 7) : ∀ (u : Nat) (N : Nat → Int), ∀ M ∈ allF r u N, (∀ g, g < 7 - r → M g = N g) ∧ (∀ g, 7 - r ≤ g → g < 8 → 0 ≤ M g ∧ M g ≤ u) ∧ sumN M 8 = sumN N (7 - r) + u := by
 induction r with
 | zero =>
  intro u N M hM
  obtain rfl : M = putN N 7 u := by simpa [allF] using hM
  refine ⟨fun g hg => putN_other N (by omega) _, fun g h1 h2 => ?_, ?_⟩
  ·obtain rfl : g = 7 := by omega
   rw [putN_same]; omega
  ·show sumN (putN N 7 u) 7 + putN N 7 u 7 = _
   rw [putN_same, sumN_same (M := N) fun f hf => putN_other N (by omega) _]
 | succ r ih =>
  intro u N M hM
  unfold allF at hM
  rw [List.mem_flatMap] at hM
  obtain ⟨k, hk, hM⟩ := hM
  have hk' : k < u + 1 := List.mem_range.1 hk
  obtain ⟨i1, i2, i3⟩ := ih (by omega) (u - k) _ M hM
  have e7 : 7 - r = 7 - (r + 1) + 1 := by omega
  have e6 : 6 - r = 7 - (r + 1) := by omega
  rw [e6] at i1 i3
  refine ⟨fun g hg => ?_, fun g h1 h2 => ?_, ?_⟩
  ·rw [i1 g (by omega)]; exact putN_other N (by omega) _
  ·by_cases e : g = 7 - (r + 1)
   ·rw [i1 g (by omega), e, putN_same]; omega
   ·have := i2 g (by omega) h2
    omega
  ·rw [i3, e7]
   show sumN _ (7 - (r + 1)) + putN N (7 - (r + 1)) k (7 - (r + 1)) + _ = _
   rw [putN_same, sumN_same (M := N) fun f hf => putN_other N (by omega) _]
   omega
theorem everyC_sum {u : Nat} {M : Nat → Int} (h : M ∈ everyC u) : (∀ g, g < 8 → 0 ≤ M g ∧ M g ≤ u) ∧ sumN M 8 = u := by
 obtain ⟨_, h2, h3⟩ := allF_sum 7 (by omega) u (fun _ => 0) M h
 refine ⟨fun g hg => h2 g (by omega) hg, ?_⟩
 rw [h3]; show (0 : Int) + u = u; omega
theorem everyC_right {u : Nat} (hu : u ≤ 6) {M : Nat → Int} (h : M ∈ everyC u) : countsFault M = 0 := by
 obtain ⟨h1, h2⟩ := everyC_sum h
 exact counts_zero.2 ⟨fun f hf => by have := h1 f hf; omega, by omega⟩
end Go.Proofs.YtjmeakkmfeoigaaGreatDoor
namespace Go.Proofs.YtjmeakkmfeoigaaGreatDoor
open Go.RowKit
def aheadC (N M : Nat → Int) : Prop := ∃ f, f < 8 ∧ (∀ g, g < f → N g = M g) ∧ N f < M f
theorem sumN_up {N : Nat → Int} {k l : Nat} (hkl : k ≤ l) (h : ∀ g, k ≤ g → g < l → 0 ≤ N g) : sumN N k ≤ sumN N l := by
 induction l with
 | zero => obtain rfl : k = 0 := by omega
           exact Int.le_refl _
 | succ l ih =>
  rcases Nat.lt_or_ge l k with h' | h'
  ·obtain rfl : k = l + 1 := by omega
   exact Int.le_refl _
  ·have := ih h' fun g h1 h2 => h g h1 (by omega)
   have := h l h' (by omega)
   have e : sumN N (l + 1) = sumN N l + N l := rfl
   rw [e]; omega
theorem allF_all (r : Nat) (hr : r ≤ 7) : ∀ (u : Nat) (N M : Nat → Int), (∀ g, g < 7 - r → M g = N g) → (∀ g, 7 - r ≤ g → g < 8 → 0 ≤ M g) → sumN M 8 = sumN N (7 - r) + u → ∃ A ∈ allF r u N, ∀ g, g < 8 → A g = M g := by
 induction r with
 | zero =>
  intro u N M h1 h2 h3
  refine ⟨putN N 7 u, by simp [allF], fun g hg => ?_⟩
  by_cases e : g = 7
  ·subst e
   rw [putN_same]
   have e8 : sumN M 8 = sumN M 7 + M 7 := rfl
   have e7 : sumN M 7 = sumN N 7 := sumN_same fun f hf => h1 f (by omega)
   have : sumN N (7 - 0) = sumN N 7 := rfl
   omega
  ·rw [putN_other N e, h1 g (by omega)]
 | succ r ih =>
  intro u N M h1 h2 h3
  obtain ⟨f, hf⟩ := nm (7 - (r + 1))
  have e6 : 6 - r = f := by omega
  have e7 : 7 - r = f + 1 := by omega
  rw [← hf] at h1 h2 h3
  have m0 := h2 f (Nat.le_refl _) (by omega)
  obtain ⟨k, hk⟩ := Int.eq_ofNat_of_zero_le m0
  have ef : sumN M (f + 1) = sumN N f + k := by
   show sumN M f + M f = _
   rw [sumN_same (M := N) fun g hg => h1 g hg, hk]
  have hup := sumN_up (N := M) (k := f + 1) (l := 8) (by omega) fun g a b => h2 g (by omega) b
  have hku : k ≤ u := by omega
  obtain ⟨A, hA, hAM⟩ := ih (by omega) (u - k) (putN N f k) M (fun g hg => by
   by_cases e : g = f
   ·rw [e, putN_same, hk]
   ·rw [putN_other N e, h1 g (by omega)]) (fun g a b => h2 g (by omega) b) (by
   rw [e7]
   show _ = sumN (putN N f k) f + putN N f k f + _
   rw [putN_same, sumN_same (M := N) fun g hg => putN_other N (by omega) _]
   omega)
  refine ⟨A, ?_, hAM⟩
  unfold allF
  rw [List.mem_flatMap]
  exact ⟨k, List.mem_range.2 (by omega), by rw [e6]; exact hA⟩
theorem everyC_all {u : Nat} {M : Nat → Int} (h0 : ∀ g, g < 8 → 0 ≤ M g) (hs : sumN M 8 = u) : ∃ A ∈ everyC u, ∀ g, g < 8 → A g = M g :=
 allF_all 7 (by omega) u _ M (fun g hg => by omega) (fun g _ hg => h0 g hg) (by rw [hs]; show _ = (0 : Int) + u; omega)
end Go.Proofs.YtjmeakkmfeoigaaGreatDoor
namespace Go.Proofs.YtjmeakkmfeoigaaGreatDoor
open Go.RowKit
def fitB (l : List Rw) (N : Nat → Int) : Bool := l.all fun r => r.so N
def zeroC : Nat → Int := fun _ => 0
def manyD (A : List (Nat → Int)) (p : (Nat → Int) → Bool) (j : Nat) : Nat := ((A.drop j).filter p).length
def leastD (A : List (Nat → Int)) (p : (Nat → Int) → Bool) (j : Nat) : Nat → Int := ((A.drop j).find? p).getD zeroC
theorem manyD_none {A : List (Nat → Int)} {p : (Nat → Int) → Bool} {j : Nat} (h : manyD A p j = 0) : leastD A p j = zeroC := by
 unfold manyD at h
 have hn := List.eq_nil_of_length_eq_zero h
 have : (A.drop j).find? p = none := by
  rw [List.find?_eq_none]
  intro x hx hp
  have : x ∈ (A.drop j).filter p := List.mem_filter.2 ⟨hx, hp⟩
  rw [hn] at this
  cases this
 unfold leastD
 rw [this]
 rfl
def nextTo (A : List (Nat → Int)) (q : (Nat → Int) → Bool) : Nat → Option (Nat → Int)
 | 0 => none
 | i + 1 => if q (A.getD i zeroC) = true then some (A.getD (i + 1) zeroC) else nextTo A q i
def fitFault (u : Int) (l : List Rw) : Int := if 0 ≤ u ∧ u ≤ 6 then rowsFault l else 1
def fitManyN (u : Int) (l : List Rw) : Int := if fitFault u l = 0 then (manyD (everyC u.toNat) (fitB l) 0 : Int) else 0
def leastFault (u : Int) (l : List Rw) : Int := if fitFault u l = 0 then (if fitManyN u l = 0 then 5 else 0) else fitFault u l
def leastN (u : Int) (l : List Rw) : Nat → Int := if fitFault u l = 0 then leastD (everyC u.toNat) (fitB l) 0 else zeroC
def nextO (u : Int) (N : Nat → Int) : Option (Nat → Int) := nextTo (everyC u.toNat) (fun M => (List.range 8).all fun f => M f == N f) ((everyC u.toNat).length - 1)
def nextFault (u : Int) (N : Nat → Int) : Int :=
 if 0 ≤ u ∧ u ≤ 6 then (if countsFault N = 0 then (if sumN N 8 = u then (if (nextO u N).isSome = true then 0 else 5) else 3) else countsFault N) else 1
def nextN (u : Int) (N : Nat → Int) : Nat → Int := if nextFault u N = 0 then (nextO u N).getD zeroC else zeroC
end Go.Proofs.YtjmeakkmfeoigaaGreatDoor
namespace Go.Proofs.YtjmeakkmfeoigaaGreatDoor
open Go.RowKit
theorem allF_ne (r : Nat) : ∀ (u : Nat) (N : Nat → Int), allF r u N ≠ [] := by
 induction r with
 | zero => intro u N h; cases h
 | succ r ih =>
  intro u N h
  unfold allF at h
  rw [List.flatMap_eq_nil_iff] at h
  exact ih _ _ (h 0 (List.mem_range.2 (by omega)))
theorem allF_head (r : Nat) : ∀ (u : Nat) (N : Nat → Int), ∃ M, (allF r u N)[0]? = some M ∧ M 7 = (u : Int) := by
 induction r with
 | zero => intro u N; exact ⟨putN N 7 u, rfl, putN_same _ _ _⟩
 | succ r ih =>
  intro u N
  obtain ⟨M, h1, h2⟩ := ih u (putN N (6 - r) (0 : Nat))
  refine ⟨M, ?_, h2⟩
  unfold allF
  rw [List.range_succ_eq_map, List.flatMap_cons, List.getElem?_append_left (by have := (List.getElem?_eq_some_iff.1 h1).1; exact this)]
  exact h1
theorem fitB_same {l : List Rw} {N M : Nat → Int} (h : ∀ g, g < 8 → N g = M g) : fitB l N = fitB l M := by
 unfold fitB
 have : ∀ r : Rw, r.so N = r.so M := fun r => by unfold Rw.so; rw [sumT_same (fun _ _ => rfl) h]
 simp only [this]
end Go.Proofs.YtjmeakkmfeoigaaGreatDoor
namespace Go.Proofs.YtjmeakkmfeoigaaGreatDoor
open Go.RowKit
def lastTo (N : Nat → Int) : Nat → Nat
 | 0 => 0
 | k + 1 => if 0 < N k then k else lastTo N k
theorem lastTo_lt (N : Nat → Int) (k : Nat) (h : lastTo N k ≠ 0) : lastTo N k < k := by
 induction k with
 | zero => exact absurd rfl h
 | succ k ih =>
  unfold lastTo at h ⊢
  split
  ·omega
  ·rename_i hn
   rw [if_neg hn] at h
   have := ih h
   omega
def afterL (N : Nat → Int) (L : Nat) : Nat → Int := putN (putN (putN N L 0) (L - 1) (N (L - 1) + 1)) 7 (N L - 1)
def afterN (N : Nat → Int) : Nat → Int := afterL N (lastTo N 8)
def afterO (N : Nat → Int) : Nat → Int := if lastTo N 8 = 0 then zeroC else afterN N
def stepsB : List (Nat → Int) → Bool
 | [] => true
 | M :: L => (match L with
  | [] => lastTo M 8 == 0
  | M' :: _ => lastTo M 8 != 0 && (List.range 8).all fun f => afterN M f == M' f) && stepsB L
theorem steps_all : ∀ u, u ≤ 6 → stepsB (everyC u) = true := by decide +kernel
theorem steps_at {A : List (Nat → Int)} (h : stepsB A = true) : ∀ {i : Nat} {M : Nat → Int}, A[i]? = some M →
    (lastTo M 8 ≠ 0 ∧ ∃ M', A[i + 1]? = some M' ∧ ∀ f, f < 8 → afterN M f = M' f) ∨ (lastTo M 8 = 0 ∧ i + 1 = A.length) := by
 induction A with
 | nil => intro i M hi; simp at hi
 | cons X L ih =>
  intro i M hi
  unfold stepsB at h
  rw [Bool.and_eq_true] at h
  cases i with
  | zero =>
   obtain rfl : X = M := by simpa using hi
   cases L with
   | nil =>
    have h1 := h.1
    simp only [beq_iff_eq] at h1
    exact Or.inr ⟨h1, rfl⟩
   | cons M' L =>
    have h1 := h.1
    simp only [Bool.and_eq_true, bne_iff_ne, ne_eq, List.all_eq_true, beq_iff_eq, List.mem_range] at h1
    exact Or.inl ⟨h1.1, M', rfl, h1.2⟩
  | succ i =>
   rcases ih h.2 (i := i) (M := M) (by simpa using hi) with ⟨a, M', b, c⟩ | ⟨a, b⟩
   ·exact Or.inl ⟨a, M', by simpa using b, c⟩
   ·exact Or.inr ⟨a, by simp [b]⟩
theorem every_steps {u : Nat} (hu : u ≤ 6) {i : Nat} {M : Nat → Int} (hi : (everyC u)[i]? = some M) :
    (lastTo M 8 ≠ 0 ∧ ∃ M', (everyC u)[i + 1]? = some M' ∧ ∀ f, f < 8 → afterN M f = M' f) ∨ (lastTo M 8 = 0 ∧ i + 1 = (everyC u).length) := steps_at (steps_all u hu) hi
end Go.Proofs.YtjmeakkmfeoigaaGreatDoor