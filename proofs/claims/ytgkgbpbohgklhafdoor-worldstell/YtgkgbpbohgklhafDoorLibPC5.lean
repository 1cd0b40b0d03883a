/-
  Plain facts on where a formula does not hold, whether it is sure, and on a formula that a name has at least so many things (chapter 9). No program is read here.
  Plain facts on how many worlds there are, how many are alike, and in how many a formula holds (chapter 11). No program is read here.
  Plain facts on how many worlds are alike, as they are counted one thing behind the other (chapter 11). No program is read here.
  Proved: what sets.Check and sets.Do return, of any numbers, and that it leaves memory as it was (contracts that the statements lean on).
  Proved: what term.Check returns, of any row of signs, and that it leaves memory as it was (a contract that the statements lean on); with it takes, isOne, and slices.ContainsFunc at Check's own function.
  Proved: what term.made returns, of a right sign, the sets that it takes, and a right world; what was in memory is as it was (a contract that the statements lean on).
-/
import Derived.Test.YtgkgbpbohgklhafDoorLibPC4
import Derived.Test.YtgkgbpbohgklhafDoorRows
import Derived.Test.YtgkgbpbohgklhafDoorLibPC1
import Derived.WalkKit
import Derived.ProofKit
import Derived.OpenShut
import Derived.Deep.QuietTactic
import Derived.BigQuiet
import Derived.RegionTactic
import Derived.ChangeAlike
namespace Go.Proofs.YtgkgbpbohgklhafDoor
open Go.RowKit

def againstFault (ats : List At) (c : List Int) (u : Int) : Int := if negFault ats c = 0 then modelFault ats (c ++ [12]) u else negFault ats c
def againstW (ats : List At) (c : List Int) (u : Int) : Wd := if negFault ats c = 0 then modelW ats (c ++ [12]) u else ⟨0, 0, 0, 0⟩
def sureB (ats : List At) (c : List Int) (u : Int) : Bool := decide (againstFault ats c u = 5 ∧ formFault ats c = 0)
def sureFault (ats : List At) (c : List Int) (u : Int) : Int := if sureB ats c u = true then 0 else againstFault ats c u
theorem neg_good {ats : List At} {c : List Int} (h : negFault ats c = 0) : formFault ats c = 0 ∧ c.length ≤ 19 ∧ formFault ats (c ++ [12]) = 0 := by
  unfold negFault at h
  by_cases hf : formFault ats c = 0
  · rw [if_pos hf] at h
    by_cases h19 : 19 < c.length
    · rw [if_pos h19] at h; exact absurd h (by decide)
    · exact ⟨hf, by omega, good_no hf (by omega)⟩
  · rw [if_neg hf] at h; exact absurd h hf
theorem neg_five {ats : List At} {c : List Int} (h : negFault ats c = 5) : formFault ats c = 5 := by
  unfold negFault at h
  by_cases hf : formFault ats c = 0
  · rw [if_pos hf] at h
    by_cases h19 : 19 < c.length
    · rw [if_pos h19] at h; exact absurd h (by decide)
    · rw [if_neg h19] at h; exact absurd h (by decide)
  · rw [if_neg hf] at h; exact h
/-- the formula that a name has at least n things. -/
def manyA (name n : Int) : List At := [⟨3, [name], [], n⟩]
/-- what a world has of a name. -/
def Wd.has (w : Wd) : Nat → Int
  | 0 => w.a
  | 1 => w.b
  | _ => w.c
theorem many_facts : ∀ name : Nat, name < 3 → ∀ n : Nat, n < 6 → modelFault (manyA (name : Int) ((n : Int) + 1)) [0] ((n : Int) + 1) = 0 ∧ (modelW (manyA (name : Int) ((n : Int) + 1)) [0] ((n : Int) + 1)).has name + 1 = pw (n + 1) ∧ modelFault (manyA (name : Int) ((n : Int) + 1)) [0] (n : Int) = 5 ∧ sureB (manyA (name : Int) ((n : Int) + 1)) [0] (n : Int) = false ∧ sureFault (manyA (name : Int) ((n : Int) + 1)) [0] (n : Int) = 0 := by decide +kernel
theorem model_zero {ats : List At} {c : List Int} {u : Int} (h : modelFault ats c u = 0) : formFault ats c = 0 ∧ (modelW ats c u).ok = true ∧ (modelW ats c u).u = u ∧ (modelW ats c u).formIs ats c = true := by
  have h0 := h
  unfold modelFault at h
  by_cases hf : formFault ats c = 0
  · rw [if_pos hf] at h
    cases hL : cubesC c with
    | none => rw [hL] at h; have h : (4 : Int) = 0 := h; omega
    | some L =>
      rw [hL] at h
      have h : (if 0 ≤ u ∧ u ≤ 6 then (if (modelL ats u.toNat L).isSome = true then (0 : Int) else 5) else 1) = 0 := h
      by_cases hu : 0 ≤ u ∧ u ≤ 6
      · rw [if_pos hu] at h
        cases hm : modelL ats u.toNat L with
        | none => rw [hm] at h; have h : (5 : Int) = 0 := h; omega
        | some N =>
          have e : modelW ats c u = madeN N 8 := by
            unfold modelW modelN
            rw [if_pos h0, hL]
            show madeN ((modelL ats u.toNat L).getD zeroC) 8 = _
            rw [hm]; rfl
          obtain ⟨_, g2, g3, g4⟩ := model_holds hf hL (by omega) hm
          rw [e]
          exact ⟨hf, g2, by rw [g3]; omega, g4⟩
      · rw [if_neg hu] at h; exact absurd h (by decide)
  · rw [if_neg hf] at h; exact absurd h hf
theorem model_five {ats : List At} {c : List Int} {u : Int} (h : modelFault ats c u = 5) (hf : formFault ats c = 0) {w : Wd} (hw : w.ok = true) (hwu : w.u = u) : w.formIs ats c = false := by
  unfold modelFault at h
  rw [if_pos hf] at h
  cases hL : cubesC c with
  | none => rw [hL] at h; have h : (4 : Int) = 5 := h; omega
  | some L =>
    rw [hL] at h
    have h : (if 0 ≤ u ∧ u ≤ 6 then (if (modelL ats u.toNat L).isSome = true then (0 : Int) else 5) else 1) = 5 := h
    by_cases hu : 0 ≤ u ∧ u ≤ 6
    · rw [if_pos hu] at h
      cases hm : modelL ats u.toNat L with
      | none => exact model_never hf hL hm hw (by rw [hwu]; omega)
      | some N => rw [hm] at h; have h : (0 : Int) = 5 := h; omega
    · rw [if_neg hu] at h; exact absurd h (by decide)
theorem formIs_no {ats : List At} {c : List Int} (hf : formFault ats c = 0) (h19 : c.length ≤ 19) {w : Wd} (hw : w.ok = true) : w.formIs ats (c ++ [12]) = !w.formIs ats c := by
  unfold Wd.formIs
  rw [if_pos (wdForm_zero.2 ⟨hf, hw⟩), if_pos (wdForm_zero.2 ⟨good_no hf h19, hw⟩)]
  exact val_no _ (formFault_zero.1 hf).2.2.2.2
theorem one_facts : modelFault (manyA 0 2) [0] 2 = 0 ∧ modelW (manyA 0 2) [0] 2 = ⟨2, 3, 3, 3⟩ ∧ modelFault (manyA 0 2) [0] 1 = 5 ∧ modelW (manyA 0 2) [0] 1 = ⟨0, 0, 0, 0⟩ := by
  have h : modelFault (manyA 0 2) [0] 2 = 0 ∧ ((modelW (manyA 0 2) [0] 2).u = 2 ∧ (modelW (manyA 0 2) [0] 2).a = 3 ∧ (modelW (manyA 0 2) [0] 2).b = 3 ∧ (modelW (manyA 0 2) [0] 2).c = 3) ∧ modelFault (manyA 0 2) [0] 1 = 5 := by decide +kernel
  obtain ⟨h1, ⟨h2, h3, h4, h5⟩, h6⟩ := h
  refine ⟨h1, ?_, h6, by unfold modelW; rw [if_neg (by rw [h6]; decide)]⟩
  cases e : modelW (manyA 0 2) [0] 2 with
  | mk u a b c => rw [e] at h2 h3 h4 h5; simp only at h2 h3 h4 h5; rw [h2, h3, h4, h5]
end Go.Proofs.YtgkgbpbohgklhafDoor

namespace Go.Proofs.YtgkgbpbohgklhafDoor
open Go.RowKit

def facN : Nat → Int
  | 0 => 1
  | n + 1 => ((n : Int) + 1) * facN n
/-- parted by 2, by 3, and on, up to n. -/
def downN (w : Int) : Nat → Int
  | 0 => w
  | 1 => w
  | k + 2 => (downN w (k + 1)).tdiv ((k : Int) + 2)
def likeTo (N : Nat → Int) : Nat → Int
  | 0 => facN (sumN N 8).toNat
  | i + 1 => downN (likeTo N i) (N i).toNat
/-- how many worlds have so many things in each field. -/
def likeN (N : Nat → Int) : Int := likeTo N 8
def eightN : Nat → Int
  | 0 => 1
  | n + 1 => eightN n * 8
/-- the worlds of those counts that are so. -/
def sumL (p : (Nat → Int) → Bool) : List (Nat → Int) → Int
  | [] => 0
  | N :: A => (if p N = true then likeN N else 0) + sumL p A

theorem downN_range {w : Int} (h : 0 ≤ w) (k : Nat) : 0 ≤ downN w k ∧ downN w k ≤ w := by
  induction k with
  | zero => exact ⟨h, Int.le_refl _⟩
  | succ k ih =>
    cases k with
    | zero => exact ⟨h, Int.le_refl _⟩
    | succ k =>
      show 0 ≤ (downN w (k + 1)).tdiv ((k : Int) + 2) ∧ (downN w (k + 1)).tdiv ((k : Int) + 2) ≤ w
      exact ⟨Int.tdiv_nonneg ih.1 (by omega), Int.le_trans (Int.tdiv_le_self _ ih.1) ih.2⟩
theorem downN_step (w : Int) (k : Nat) : downN w (k + 2) = (downN w (k + 1)).tdiv ((k : Int) + 2) := rfl
theorem facN_range : ∀ n, n ≤ 6 → 1 ≤ facN n ∧ facN n ≤ 720 := by decide
theorem likeTo_range {N : Nat → Int} (h : countsFault N = 0) (i : Nat) : 0 ≤ likeTo N i ∧ likeTo N i ≤ 720 := by
  induction i with
  | zero =>
    have := facN_range (sumN N 8).toNat (by have := (counts_zero.1 h).2; omega)
    exact ⟨by show 0 ≤ facN _; omega, this.2⟩
  | succ i ih =>
    have := downN_range ih.1 (N i).toNat
    exact ⟨this.1, Int.le_trans this.2 ih.2⟩
theorem likeTo_same {N M : Nat → Int} (h : ∀ g, g < 8 → N g = M g) : ∀ i, i ≤ 8 → likeTo N i = likeTo M i := by
  intro i
  induction i with
  | zero =>
    intro _
    have e : ∀ k, k ≤ 8 → sumN N k = sumN M k := by
      intro k
      induction k with
      | zero => intro _; rfl
      | succ k ih => intro hk; unfold sumN; rw [ih (by omega), h k (by omega)]
    show facN _ = facN _
    rw [e 8 (by omega)]
  | succ i ih =>
    intro hi
    show downN _ _ = downN _ _
    rw [ih (by omega), h i (by omega)]
theorem likeN_same {N M : Nat → Int} (h : ∀ g, g < 8 → N g = M g) : likeN N = likeN M := likeTo_same h 8 (by omega)
theorem like_facts : ∀ u, u ≤ 6 → ((everyC u).all fun N => decide (1 ≤ likeN N)) = true ∧ sumL (fun _ => true) (everyC u) = eightN u := by decide +kernel
theorem like_pos {u : Nat} (hu : u ≤ 6) {N : Nat → Int} (h : N ∈ everyC u) : 1 ≤ likeN N := of_decide_eq_true (List.all_eq_true.1 (like_facts u hu).1 N h)
theorem eight_le : ∀ u, u ≤ 6 → eightN u ≤ 262144 := by decide
theorem sumL_take {p : (Nat → Int) → Bool} : ∀ {A : List (Nat → Int)} {k : Nat} {N : Nat → Int}, A[k]? = some N → sumL p (A.take (k + 1)) = sumL p (A.take k) + if p N = true then likeN N else 0 := by
  intro A
  induction A with
  | nil => intro k N h; simp at h
  | cons M A ih =>
    intro k N h
    cases k with
    | zero =>
      obtain rfl : M = N := by simpa using h
      simp [sumL]
    | succ k =>
      have := ih (k := k) (N := N) (by simpa using h)
      simp only [List.take_succ_cons, sumL]
      rw [this]
      omega
theorem eight_pos (u : Nat) : 1 ≤ eightN u := by
  induction u with
  | zero => exact Int.le_refl _
  | succ u ih => show 1 ≤ eightN u * 8; omega
theorem sumL_part {A : List (Nat → Int)} (hp : ∀ N ∈ A, 0 ≤ likeN N) {p : (Nat → Int) → Bool} : ∀ k, sumL p (A.take k) ≤ sumL p A := by
  induction A with
  | nil => intro k; simp
  | cons M A ih =>
    intro k
    have h1 := hp M List.mem_cons_self
    have h2 := ih fun N hN => hp N (List.mem_cons_of_mem _ hN)
    cases k with
    | zero =>
      have h3 := h2 0
      simp only [List.take_zero, sumL] at h3 ⊢
      by_cases h : p M = true
      · rw [if_pos h]; omega
      · rw [if_neg h]; omega
    | succ k =>
      have := h2 k
      simp only [List.take_succ_cons, sumL]
      omega
theorem sumL_range {A : List (Nat → Int)} (hp : ∀ N ∈ A, 1 ≤ likeN N) (p : (Nat → Int) → Bool) : 0 ≤ sumL p A ∧ sumL p A ≤ sumL (fun _ => true) A := by
  induction A with
  | nil => exact ⟨Int.le_refl _, Int.le_refl _⟩
  | cons N A ih =>
    have h1 := hp N List.mem_cons_self
    have h2 := ih fun M hM => hp M (List.mem_cons_of_mem _ hM)
    simp only [sumL, if_true]
    by_cases h : p N = true
    · rw [if_pos h]; omega
    · rw [if_neg h]; omega
theorem sumL_not {A : List (Nat → Int)} {p q : (Nat → Int) → Bool} (h : ∀ N ∈ A, q N = !p N) : sumL p A + sumL q A = sumL (fun _ => true) A := by
  induction A with
  | nil => rfl
  | cons N A ih =>
    have h1 := h N List.mem_cons_self
    have h2 := ih fun M hM => h M (List.mem_cons_of_mem _ hM)
    simp only [sumL, if_true]
    rw [h1]
    cases p N <;> simp <;> omega
theorem sumL_has {A : List (Nat → Int)} (hp : ∀ N ∈ A, 1 ≤ likeN N) {p : (Nat → Int) → Bool} {N : Nat → Int} (hN : N ∈ A) (h : p N = true) : likeN N ≤ sumL p A := by
  induction A with
  | nil => cases hN
  | cons M A ih =>
    have h1 := hp M List.mem_cons_self
    have h2 := sumL_range (fun M hM => hp M (List.mem_cons_of_mem _ hM)) p
    simp only [sumL]
    rcases List.mem_cons.1 hN with rfl | hN
    · rw [if_pos h]; omega
    · have := ih (fun M hM => hp M (List.mem_cons_of_mem _ hM)) hN
      by_cases hm : p M = true
      · rw [if_pos hm]; omega
      · rw [if_neg hm]; omega
theorem sumL_none {A : List (Nat → Int)} {p : (Nat → Int) → Bool} (h : ∀ N ∈ A, p N = false) : sumL p A = 0 := by
  induction A with
  | nil => rfl
  | cons M A ih =>
    simp only [sumL]
    rw [h M List.mem_cons_self, if_neg (by decide), ih fun N hN => h N (List.mem_cons_of_mem _ hN)]
    rfl

theorem made_same {N M : Nat → Int} (h : ∀ g, g < 8 → N g = M g) : madeN N 8 = madeN M 8 := by
  have e : ∀ k, k ≤ 8 → madeN N k = madeN M k := by
    intro k
    induction k with
    | zero => intro _; rfl
    | succ k ih => intro hk; unfold madeN; rw [ih (by omega), h k (by omega)]
  exact e 8 (by omega)

def allFault (u : Int) : Int := if 0 ≤ u ∧ u ≤ 6 then 0 else 1
def allW (u : Int) : Int := if 0 ≤ u ∧ u ≤ 6 then eightN u.toNat else 0
def likeW (w : Wd) : Int := if w.ok = true then likeN (w.fc w.u.toNat) else 0
def worldsFault (ats : List At) (c : List Int) (u : Int) : Int := if formFault ats c = 0 then allFault u else formFault ats c
def worldsN (ats : List At) (c : List Int) (u : Int) : Int := if worldsFault ats c u = 0 then sumL (fun N => (madeN N 8).formIs ats c) (everyC u.toNat) else 0
theorem worlds_zero {ats : List At} {c : List Int} {u : Int} (h : worldsFault ats c u = 0) : formFault ats c = 0 ∧ (0 ≤ u ∧ u ≤ 6) := by
  unfold worldsFault at h
  by_cases hf : formFault ats c = 0
  · rw [if_pos hf] at h
    unfold allFault at h
    by_cases hu : 0 ≤ u ∧ u ≤ 6
    · exact ⟨hf, hu⟩
    · rw [if_neg hu] at h; exact absurd h (by decide)
  · rw [if_neg hf] at h; exact absurd h hf
theorem worlds_range {ats : List At} {c : List Int} {u : Int} (h : worldsFault ats c u = 0) : 0 ≤ worldsN ats c u ∧ worldsN ats c u ≤ allW u := by
  obtain ⟨_, hu⟩ := worlds_zero h
  have hn : u.toNat ≤ 6 := by omega
  unfold worldsN allW
  rw [if_pos h, if_pos hu, ← (like_facts _ hn).2]
  exact sumL_range (fun N hN => like_pos hn hN) _
/-- where it holds and where it does not is all. -/
theorem worlds_not {ats : List At} {c : List Int} {u : Int} (h : worldsFault ats c u = 0) (hn : negFault ats c = 0) : worldsFault ats (c ++ [12]) u = 0 ∧ worldsN ats c u + worldsN ats (c ++ [12]) u = allW u := by
  obtain ⟨hf, hu⟩ := worlds_zero h
  obtain ⟨_, h19, hf'⟩ := neg_good hn
  have hn6 : u.toNat ≤ 6 := by omega
  have h' : worldsFault ats (c ++ [12]) u = 0 := by unfold worldsFault allFault; rw [if_pos hf', if_pos hu]
  refine ⟨h', ?_⟩
  unfold worldsN allW
  rw [if_pos h, if_pos h', if_pos hu, ← (like_facts _ hn6).2]
  refine sumL_not fun N hN => ?_
  exact formIs_no hf h19 (made_ok (everyC_right hn6 hN))
/-- the counts of a world are among all. -/
theorem world_counts {w : Wd} (hw : w.ok = true) {u : Int} (hu : w.u = u) : ∃ A ∈ everyC u.toNat, (∀ g, g < 8 → A g = w.fc w.u.toNat g) ∧ ∀ ats c, (madeN A 8).formIs ats c = w.formIs ats c := by
  have hcf := counts_fc hw
  have hsum : sumN (w.fc w.u.toNat) 8 = ((u.toNat : Nat) : Int) := by rw [sum_fc, hu]
  obtain ⟨A, hA, hAw⟩ := everyC_all (u := u.toNat) (fun g hg => ((counts_zero.1 hcf).1 g hg).1) hsum
  refine ⟨A, hA, hAw, fun ats c => ?_⟩
  have e := made_same (N := A) (M := w.fc w.u.toNat) hAw
  rw [e]
  exact (alike_made hw).form ats c
theorem worlds_some {ats : List At} {c : List Int} {u : Int} (h : worldsFault ats c u = 0) {w : Wd} (hw : w.ok = true) (hu : w.u = u) (hh : w.formIs ats c = true) : likeW w ≤ worldsN ats c u := by
  obtain ⟨_, hu6⟩ := worlds_zero h
  obtain ⟨A, hA, hAw, hAf⟩ := world_counts hw hu
  unfold likeW worldsN
  rw [if_pos hw, if_pos h, ← likeN_same hAw]
  exact sumL_has (fun N hN => like_pos (by omega) hN) hA (by rw [hAf]; exact hh)
theorem worlds_rest {ats : List At} {c : List Int} {u : Int} (h : worldsFault ats c u = 0) {w : Wd} (hw : w.ok = true) (hu : w.u = u) (hh : w.formIs ats c = false) : likeW w ≤ allW u - worldsN ats c u := by
  obtain ⟨_, hu6⟩ := worlds_zero h
  have hn6 : u.toNat ≤ 6 := by omega
  obtain ⟨A, hA, hAw, hAf⟩ := world_counts hw hu
  have hs := sumL_not (A := everyC u.toNat) (p := fun N => (madeN N 8).formIs ats c) (q := fun N => !(madeN N 8).formIs ats c) fun _ _ => rfl
  have hq := sumL_has (A := everyC u.toNat) (fun N hN => like_pos hn6 hN) (p := fun N => !(madeN N 8).formIs ats c) hA (by simp only [hAf, hh]; rfl)
  unfold likeW worldsN allW
  rw [if_pos hw, if_pos h, if_pos hu6, ← likeN_same hAw, ← (like_facts _ hn6).2]
  omega
theorem like_range {w : Wd} (hw : w.ok = true) {u : Int} (hu : w.u = u) (hu6 : 0 ≤ u ∧ u ≤ 6) : 1 ≤ likeW w ∧ likeW w ≤ allW u := by
  have hn6 : u.toNat ≤ 6 := by omega
  obtain ⟨A, hA, hAw, _⟩ := world_counts hw hu
  unfold likeW allW
  rw [if_pos hw, if_pos hu6, ← likeN_same hAw, ← (like_facts _ hn6).2]
  exact ⟨like_pos hn6 hA, sumL_has (fun N hN => like_pos hn6 hN) hA rfl⟩
/-- there is one just if there is a model. -/
theorem worlds_model {ats : List At} {c : List Int} {u : Int} (h : worldsFault ats c u = 0) : (modelFault ats c u = 0 → ¬ worldsN ats c u = 0) ∧ (modelFault ats c u = 5 → worldsN ats c u = 0) := by
  obtain ⟨hf, hu6⟩ := worlds_zero h
  refine ⟨fun hm => ?_, fun hm => ?_⟩
  · obtain ⟨_, g2, g3, g4⟩ := model_zero hm
    have h1 := worlds_some h g2 g3 g4
    have h2 := (like_range g2 g3 hu6).1
    omega
  · unfold worldsN
    rw [if_pos h]
    refine sumL_none fun N hN => ?_
    have hc := everyC_right (by omega) hN
    exact model_five hm hf (made_ok hc) (by rw [made_u hc, (everyC_sum hN).2]; omega)
end Go.Proofs.YtgkgbpbohgklhafDoor

namespace Go.Proofs.YtgkgbpbohgklhafDoor
open Go.RowKit

/-- k more things lie in a field, behind p things. -/
def fillN (m p : Int) : Nat → Int
  | 0 => m
  | k + 1 => (fillN m p k * (p + k + 1)).tdiv ((k : Int) + 1)
def layTo (N : Nat → Int) : Nat → Int
  | 0 => 1
  | i + 1 => fillN (layTo N i) (sumN N i) (N i).toNat
theorem lay_facts : ∀ u, u ≤ 6 → ((everyC u).all fun N => decide (layTo N 8 = likeN N) && (List.range 8).all fun i => (List.range 7).all fun k => decide (N i < (k : Int)) || decide (0 ≤ fillN (layTo N i) (sumN N i) k ∧ fillN (layTo N i) (sumN N i) k ≤ 720)) = true := by decide +kernel
theorem sum_same {N M : Nat → Int} (h : ∀ g, g < 8 → N g = M g) : ∀ k, k ≤ 8 → sumN N k = sumN M k := by
  intro k
  induction k with
  | zero => intro _; rfl
  | succ k ih => intro hk; unfold sumN; rw [ih (by omega), h k (by omega)]
theorem lay_same {N M : Nat → Int} (h : ∀ g, g < 8 → N g = M g) : ∀ k, k ≤ 8 → layTo N k = layTo M k := by
  intro k
  induction k with
  | zero => intro _; rfl
  | succ k ih => intro hk; unfold layTo; rw [ih (by omega), h k (by omega), sum_same h k (by omega)]
theorem sum_up {N : Nat → Int} (h : ∀ g, g < 8 → 0 ≤ N g) : ∀ k, k ≤ 8 → 0 ≤ sumN N k := by
  intro k
  induction k with
  | zero => intro _; exact Int.le_refl _
  | succ k ih => intro hk; have := ih (by omega); have := h k (by omega); show 0 ≤ sumN N k + N k; omega
theorem sum_more {N : Nat → Int} (h : ∀ g, g < 8 → 0 ≤ N g) : ∀ d k, k + d = 8 → sumN N k ≤ sumN N 8 := by
  intro d
  induction d with
  | zero => intro k hk; obtain rfl : k = 8 := by omega
            exact Int.le_refl _
  | succ d ih =>
    intro k hk
    have h1 := ih (k + 1) (by omega)
    have h2 := h k (by omega)
    have e : sumN N (k + 1) = sumN N k + N k := rfl
    omega
theorem lay_right {N : Nat → Int} (h : countsFault N = 0) : layTo N 8 = likeN N ∧ ∀ i, i < 8 → 0 ≤ sumN N i ∧ sumN N i + N i ≤ 6 ∧ ∀ k : Nat, (k : Int) ≤ N i → 0 ≤ fillN (layTo N i) (sumN N i) k ∧ fillN (layTo N i) (sumN N i) k ≤ 720 := by
  obtain ⟨h1, h2⟩ := counts_zero.1 h
  have hp : ∀ g, g < 8 → 0 ≤ N g := fun g hg => (h1 g hg).1
  have h0 := sum_up hp 8 (by omega)
  have hs : sumN N 8 = (((sumN N 8).toNat : Nat) : Int) := by omega
  obtain ⟨A, hA, hAN⟩ := everyC_all (u := (sumN N 8).toNat) hp hs
  have hf := List.all_eq_true.1 (lay_facts (sumN N 8).toNat (by omega)) A hA
  rw [Bool.and_eq_true] at hf
  refine ⟨?_, fun i hi => ⟨sum_up hp i (by omega), ?_, fun k hk => ?_⟩⟩
  · rw [← lay_same hAN 8 (by omega), ← likeN_same hAN]; exact of_decide_eq_true hf.1
  · have := sum_more hp (8 - (i + 1)) (i + 1) (by omega)
    have e : sumN N (i + 1) = sumN N i + N i := rfl
    omega
  · have h3 := h1 i hi
    have := sum_more hp (8 - (i + 1)) (i + 1) (by omega)
    have e : sumN N (i + 1) = sumN N i + N i := rfl
    have := sum_up hp i (by omega)
    have hq := List.all_eq_true.1 (List.all_eq_true.1 hf.2 i (List.mem_range.2 hi)) k (List.mem_range.2 (by omega))
    rw [Bool.or_eq_true] at hq
    rw [← lay_same hAN i (by omega), ← sum_same hAN i (by omega)]
    rcases hq with hq | hq
    · have := of_decide_eq_true hq
      rw [hAN i hi] at this
      omega
    · exact of_decide_eq_true hq
theorem lay_step (N : Nat → Int) (i : Nat) : layTo N (i + 1) = fillN (layTo N i) (sumN N i) (N i).toNat := rfl
theorem fill_step (m p : Int) (k : Nat) : fillN m p (k + 1) = (fillN m p k * (p + k + 1)).tdiv ((k : Int) + 1) := rfl
end Go.Proofs.YtgkgbpbohgklhafDoor

namespace Go.Proofs.YtgkgbpbohgklhafDoor
open Go.ChangeShapes Go.WideShapes Go.ChangeAt Go.RowKit

theorem ret_int {k : IntKind} {a b : Int} (h : a = b) : Ending.returned (.int k a) = .returned (.int k b) := by rw [h]

theorem all_any (u : Int) (h0 : 0 ≤ u) (h1 : u ≤ 6) (w : World) :
    Calls Tryd.prog 63 #[.int .i64 u] w fun e w' => e = .returned (.int .i64 (allN u)) ∧ w = w' := by
  rcases seven h0 h1 with rfl | rfl | rfl | rfl | rfl | rfl | rfl
  all_goals
    go_enter Tryd.func63, Tryd.ntmps63
    go_wp2
    go_ret
    exact ⟨rfl, rfl⟩

theorem check_ok (u s : Int) (h : okB u s = true) (w : World) :
    Calls Tryd.prog 43 #[.int .i64 u, .int .i64 s] w fun e w' => e = .returned .nilIface ∧ w = w' := by
  obtain ⟨h0, h1, h2, h3⟩ := okB_iff.1 h
  clear h
  go_enter Tryd.func43, Tryd.ntmps43
  go_wp2_with (go_at_call 63; refine (all_any _ h0 h1 _).mono ?_; rintro e w' ⟨rfl, rfl⟩)
  go_ret
  exact ⟨rfl, rfl⟩

theorem check_no (u s : Int) (h : okB u s = false) (w : World) :
    Calls Tryd.prog 43 #[.int .i64 u, .int .i64 s] w fun e w' => e = .returned (.iface 59 (.int .i64 1)) ∧ w = w' := by
  have h' := okB_not.1 h
  clear h
  by_cases h0 : u < 0
  · clear h'
    go_enter Tryd.func43, Tryd.ntmps43
    go_wp2_with fail
    go_ret
    exact ⟨rfl, rfl⟩
  by_cases h1 : 6 < u
  · clear h'
    go_enter Tryd.func43, Tryd.ntmps43
    go_wp2_with fail
    go_ret
    exact ⟨rfl, rfl⟩
  by_cases h2 : s < 0
  · clear h'
    go_enter Tryd.func43, Tryd.ntmps43
    go_wp2_with fail
    go_ret
    exact ⟨rfl, rfl⟩
  have h3 : allN u < s := by omega
  have h0' : 0 ≤ u := by omega
  have h1' : u ≤ 6 := by omega
  clear h'
  go_enter Tryd.func43, Tryd.ntmps43
  go_wp2_with (go_at_call 63; refine (all_any _ h0' h1' _).mono ?_; rintro e w' ⟨rfl, rfl⟩)
  go_ret
  exact ⟨rfl, rfl⟩

theorem ret_two {k : IntKind} {a b : Int} {v : Value} (h : a = b) : Ending.returned (.tuple #[.int k a, v]) = .returned (.tuple #[.int k b, v]) := by rw [h]

theorem do_ok (what u a b : Int) (hl : 5 ≤ what) (hm : what ≤ 8) (ha : okB u a = true) (hb : okB u b = true) (w : World) :
    Calls Tryd.prog 89 #[.int .i64 what, .int .i64 u, .int .i64 a, .int .i64 b] w fun e w' => e = .returned (.tuple #[.int .i64 (doN what u a b), .nilIface]) ∧ w = w' := by
  obtain ⟨u0, u1, a0, a1⟩ := okB_lt ha
  obtain ⟨_, _, b0, b1⟩ := okB_lt hb
  have hd : what = 5 ∨ what = 6 ∨ what = 7 ∨ what = 8 := by omega
  clear hl hm
  rcases hd with rfl | rfl | rfl | rfl
  · go_enter Tryd.func89, Tryd.ntmps89
    go_wp2_with (go_at_call 43; refine (check_ok _ _ ?_ _).mono ?_; assumption; rintro e w' ⟨rfl, rfl⟩)
    go_ret2
    exact ⟨ret_two (or_bits a b a0 a1 b0 b1), rfl⟩
  · go_enter Tryd.func89, Tryd.ntmps89
    go_wp2_with (go_at_call 43; refine (check_ok _ _ ?_ _).mono ?_; assumption; rintro e w' ⟨rfl, rfl⟩)
    go_ret2
    exact ⟨ret_two (and_bits a b a0 a1 b0 b1), rfl⟩
  · go_enter Tryd.func89, Tryd.ntmps89
    go_wp2_with (go_at_call 43; refine (check_ok _ _ ?_ _).mono ?_; assumption; rintro e w' ⟨rfl, rfl⟩)
    go_ret2
    exact ⟨ret_two (less_bits a b a0 a1 b0 b1), rfl⟩
  · go_enter Tryd.func89, Tryd.ntmps89
    go_wp2_with (first | (go_at_call 43; refine (check_ok _ _ ?_ _).mono ?_; assumption; rintro e w' ⟨rfl, rfl⟩) | (go_at_call 63; refine (all_any _ u0 u1 _).mono ?_; rintro e w' ⟨rfl, rfl⟩))
    go_ret2
    have hu := allN_le u0 u1
    exact ⟨ret_two (less_bits (allN u) a hu.1 (by omega) a0 a1), rfl⟩

theorem do_no (what u a b : Int) (h : okB u a = false ∨ okB u b = false ∨ what < 5 ∨ 8 < what) (w : World) :
    Calls Tryd.prog 89 #[.int .i64 what, .int .i64 u, .int .i64 a, .int .i64 b] w fun e w' => e = .returned (.tuple #[.int .i64 0, .iface 59 (.int .i64 1)]) ∧ w = w' := by
  by_cases ha : okB u a = false
  · clear h
    go_enter Tryd.func89, Tryd.ntmps89
    go_wp2_with (go_at_call 43; refine (check_no _ _ ha _).mono ?_; rintro e w' ⟨rfl, rfl⟩)
    go_ret2
    exact ⟨rfl, rfl⟩
  have ha' : okB u a = true := by simpa using ha
  by_cases hb : okB u b = false
  · clear h ha
    go_enter Tryd.func89, Tryd.ntmps89
    go_wp2_with (go_at_call 43; (first | (refine (check_ok _ _ ?_ _).mono ?_; assumption) | (refine (check_no _ _ ?_ _).mono ?_; assumption)); rintro e w' ⟨rfl, rfl⟩)
    go_ret2
    exact ⟨rfl, rfl⟩
  have hb' : okB u b = true := by simpa using hb
  have hw : what < 5 ∨ 8 < what := by simpa [ha', hb'] using h
  clear ha hb h
  rcases hw with hw | hw
  all_goals
    go_enter Tryd.func89, Tryd.ntmps89
    go_wp2_with (go_at_call 43; refine (check_ok _ _ ?_ _).mono ?_; assumption; rintro e w' ⟨rfl, rfl⟩)
    go_ret2
    exact ⟨rfl, rfl⟩
end Go.Proofs.YtgkgbpbohgklhafDoor

namespace Go.Proofs.YtgkgbpbohgklhafDoor
open Go.ChangeShapes Go.WideShapes Go.ChangeAt Go.RowKit

/-- the slice v reads, in the world w, as the numbers t. -/
def Reads (w : World) (v : Value) (t : List Int) : Prop :=
  (∃ ao cap, v = .slice ao 0 cap ∧ t = []) ∨ (∃ b off cap, v = .slice (some ⟨b, off, none⟩) t.length cap ∧ b < w.heap.size ∧ 0 < t.length ∧ (t.length ≤ 9223372036854775807 ∧ t.length ≤ cap) ∧ ∀ k, k < t.length → w.cell? ⟨b, off + k, none⟩ = some (.int .i64 (t.getD k 0)))
theorem Reads.below {w w' : World} {v : Value} {t : List Int} (h : Reads w v t) (hb : Below w.heap.size w w') : Reads w' v t := by
  rcases h with h | ⟨b, off, cap, h1, h2, h3, h4, h5⟩
  · exact Or.inl h
  · exact Or.inr ⟨b, off, cap, h1, Nat.lt_of_lt_of_le h2 hb.size, h3, h4, fun k hk => by rw [hb.cell h2]; exact h5 k hk⟩

/-- a world as a value. -/
def Wd.v (w : Wd) : Value := .agg #[.int .i64 w.u, .int .i64 w.a, .int .i64 w.b, .int .i64 w.c]
/-- an error by its number: 0 is none. -/
def errV (n : Int) : Value := if n = 0 then .nilIface else .iface 59 (.int .i64 n)

theorem back_b {a b : Bool} (h : a = b) : Ending.returned (.bool a) = .returned (.bool b) := by rw [h]
theorem back_i {k : IntKind} {a b : Int} (h : a = b) : Ending.returned (.int k a) = .returned (.int k b) := by rw [h]
theorem back_v {a b : Value} (h : a = b) : Ending.returned a = .returned b := by rw [h]

theorem takes_any (s : Int) (w : World) :
    Calls Tryd.prog 78 #[.int .i64 s] w fun e w' => e = .returned (.int .i64 (takesN s)) ∧ w = w' := by
  by_cases h5 : s = 5
  · subst h5
    go_enter Tryd.func78, Tryd.ntmps78
    go_wp2
    go_ret
    exact ⟨rfl, rfl⟩
  by_cases h6 : s = 6
  · subst h6
    go_enter Tryd.func78, Tryd.ntmps78
    go_wp2
    go_ret
    exact ⟨rfl, rfl⟩
  by_cases h7 : s = 7
  · subst h7
    go_enter Tryd.func78, Tryd.ntmps78
    go_wp2
    go_ret
    exact ⟨rfl, rfl⟩
  by_cases h8 : s = 8
  · subst h8
    go_enter Tryd.func78, Tryd.ntmps78
    go_wp2
    go_ret
    exact ⟨rfl, rfl⟩
  have e : takesN s = 0 := by unfold takesN; rw [if_neg (by omega), if_neg h8]
  rw [e]
  clear e
  have h5' : (s == 5) = false := by simpa using h5
  have h6' : (s == 6) = false := by simpa using h6
  have h7' : (s == 7) = false := by simpa using h7
  have h8' : (s == 8) = false := by simpa using h8
  clear h5 h6 h7 h8
  go_enter Tryd.func78, Tryd.ntmps78
  go_wp2
  go_ret
  exact ⟨rfl, rfl⟩

theorem noSign_any (s : Int) (w : World) :
    Calls Tryd.prog 61 #[.int .i64 s] w fun e w' => e = .returned (.bool (!signB s)) ∧ w = w' := by
  by_cases h0 : s < 0
  · have e : signB s = false := by simp [signB]; omega
    rw [e]
    clear e
    go_enter Tryd.func61, Tryd.ntmps61
    go_wp2
    go_ret
    exact ⟨rfl, rfl⟩
  by_cases h8 : 8 < s
  · have e : signB s = false := by simp [signB]; omega
    rw [e]
    clear e
    go_enter Tryd.func61, Tryd.ntmps61
    go_wp2
    go_ret
    exact ⟨rfl, rfl⟩
  have e : signB s = true := by simp [signB]; omega
  rw [e]
  clear e
  go_enter Tryd.func61, Tryd.ntmps61
  go_wp2
  go_ret
  exact ⟨rfl, rfl⟩

/-- the first sign that is none, or -1. -/
def firstBad : List Int → Nat → Int
  | [], _ => -1
  | s :: l, k => if signB s = true then firstBad l (k + 1) else k
theorem firstBad_lt (t : List Int) (k : Nat) : (firstBad t k < 0 ↔ t.all signB = true) ∧ -1 ≤ firstBad t k := by
  induction t generalizing k with
  | nil => exact ⟨⟨fun _ => rfl, fun _ => show (-1 : Int) < 0 by decide⟩, Int.le_refl _⟩
  | cons s l ih =>
    unfold firstBad
    by_cases h : signB s = true
    · rw [if_pos h]; simpa [h] using ih (k + 1)
    · rw [if_neg h]; simp only [List.all_cons, h]; simp
theorem firstBad_drop (t : List Int) {k : Nat} (hk : k < t.length) : firstBad (t.drop k) k = if signB (t.getD k 0) = true then firstBad (t.drop (k + 1)) (k + 1) else k := by
  rw [List.drop_eq_getElem_cons hk]
  simp [firstBad, List.getElem?_eq_getElem hk]

theorem indexFunc_any (b off cap : Nat) (t : List Int) (w : World) (hl : t.length ≤ 9223372036854775807) (hc : ∀ k, k < t.length → w.cell? ⟨b, off + k, none⟩ = some (.int .i64 (t.getD k 0))) :
    Calls Tryd.prog 72 #[.slice (some ⟨b, off, none⟩) t.length cap, .func (.func 61) #[] #[]] w fun e w' => e = .returned (.int .i64 (firstBad t 0)) ∧ w = w' := by
  have HF : Hid (∀ {k : Nat}, k < t.length → firstBad (t.drop k) k = if signB (t.getD k 0) = true then firstBad (t.drop (k + 1)) (k + 1) else k) := fun {_} h => firstBad_drop t h
  have HC : Hid (∀ k, k < t.length → w.cell? ⟨b, off + k, none⟩ = some (.int .i64 (t.getD k 0))) := hc
  clear hc
  obtain ⟨n, hn⟩ : ∃ n, n = t.length := ⟨_, rfl⟩
  rw [← hn] at hl ⊢
  have HN : Hid (n = t.length) := hn
  clear hn
  go_enter Tryd.func72, Tryd.ntmps72
  go_wp2
  go_loop [8] (fun i => ∃ k : Nat, k ≤ n ∧ i = .int .i64 k ∧ firstBad (t.drop k) k = firstBad t 0) (fun i => n - (intOf i).toNat)
  case atStart => exact ⟨0, Nat.zero_le _, rfl, rfl⟩
  case round =>
    obtain ⟨k, hk, rfl, hF⟩ := hrel
    have HK : Hid (firstBad (t.drop k) k = firstBad t 0) := hF
    clear hF
    by_cases hlt : k < n
    · obtain ⟨s, hs⟩ : ∃ s, s = t.getD k 0 := ⟨_, rfl⟩
      have hc := HC.out k (by rw [← HN.out]; exact hlt)
      rw [← hs] at hc
      have HS : Hid (s = t.getD k 0) := hs
      clear hs
      have HD : Hid (firstBad (t.drop k) k = if signB s = true then firstBad (t.drop (k + 1)) (k + 1) else k) := by
        have := HF.out (k := k) (by rw [← HN.out]; exact hlt)
        rw [← HS.out] at this; exact this
      by_cases hb : signB s = true
      · have HD' : Hid (firstBad (t.drop (k + 1)) (k + 1) = firstBad t 0) := by
          have h1 := HD.out
          rw [if_pos hb] at h1
          exact h1.symm.trans HK.out
        go_wp2_with (go_at_call 61; refine (noSign_any _ _).mono ?_; rintro e w' ⟨rfl, rfl⟩)
        go_round
        case rel => exact ⟨k + 1, by omega, by go_num, HD'.out⟩
        case measure => simp [intOf]; omega
      · have HD' : Hid ((k : Int) = firstBad t 0) := by
          have h1 := HD.out
          rw [if_neg hb] at h1
          exact h1.symm.trans HK.out
        have hb' : signB s = false := by simpa using hb
        clear hb
        go_wp2_with (go_at_call 61; refine (noSign_any _ _).mono ?_; rintro e w' ⟨rfl, rfl⟩)
        go_ret
        exact ⟨back_i HD'.out, rfl⟩
    · have HE : Hid (firstBad t 0 = -1) := by
        have h1 := HK.out
        rw [List.drop_eq_nil_of_le (by have := HN.out; omega)] at h1
        exact h1.symm
      go_wp2
      go_ret
      exact ⟨back_i HE.out.symm, rfl⟩

theorem containsFunc_any (b off cap : Nat) (t : List Int) (w : World) (hl : t.length ≤ 9223372036854775807) (hc : ∀ k, k < t.length → w.cell? ⟨b, off + k, none⟩ = some (.int .i64 (t.getD k 0))) :
    Calls Tryd.prog 52 #[.slice (some ⟨b, off, none⟩) t.length cap, .func (.func 61) #[] #[]] w fun e w' => e = .returned (.bool (!t.all signB)) ∧ w = w' := by
  have c := indexFunc_any b off cap t w hl hc
  clear hc
  obtain ⟨h1, h2⟩ := firstBad_lt t 0
  obtain ⟨n, hn⟩ : ∃ n, n = firstBad t 0 := ⟨_, rfl⟩
  rw [← hn] at c h1 h2
  clear hn
  by_cases h : t.all signB = true
  · obtain rfl : n = -1 := by have := h1.2 h; omega
    rw [h]
    clear h1 h2 h
    go_enter Tryd.func52, Tryd.ntmps52
    go_wp2_with (go_at_call 72; refine c.mono ?_; rintro e w' ⟨rfl, rfl⟩)
    go_ret
    exact ⟨rfl, rfl⟩
  · have h0 : 0 ≤ n := by
      rcases Int.lt_or_le n 0 with h' | h'
      · exact absurd (h1.1 h') h
      · exact h'
    have h' : t.all signB = false := by simpa using h
    rw [h']
    clear h1 h2 h h'
    go_enter Tryd.func52, Tryd.ntmps52
    go_wp2_with (go_at_call 72; refine c.mono ?_; rintro e w' ⟨rfl, rfl⟩)
    go_ret
    exact ⟨rfl, rfl⟩

theorem isOne_any (b off cap : Nat) (t : List Int) (w : World) (hl : t.length ≤ 12) (hc : ∀ k, k < t.length → w.cell? ⟨b, off + k, none⟩ = some (.int .i64 (t.getD k 0))) :
    Calls Tryd.prog 62 #[.slice (some ⟨b, off, none⟩) t.length cap] w fun e w' => e = .returned (.bool (decide (cnt t 0 = some 1))) ∧ w = w' := by
  have HC : Hid (∀ k, k < t.length → w.cell? ⟨b, off + k, none⟩ = some (.int .i64 (t.getD k 0))) := hc
  clear hc
  obtain ⟨n, hn⟩ : ∃ n, n = t.length := ⟨_, rfl⟩
  rw [← hn] at hl ⊢
  have HN : Hid (n = t.length) := hn
  clear hn
  obtain ⟨R, hR⟩ : ∃ R, R = decide (cnt t 0 = some 1) := ⟨_, rfl⟩
  rw [← hR]
  have HR : Hid (R = decide (cnt t 0 = some 1)) := hR
  clear hR
  go_enter Tryd.func62, Tryd.ntmps62
  go_wp2
  go_loop [3, 8] (fun c i => ∃ (k : Nat) (m : Int), k ≤ n ∧ i = .int .i64 k ∧ c = .int .i64 m ∧ cnt (t.take k) 0 = some m) (fun _ i => n - (intOf i).toNat)
  case atStart => exact ⟨0, 0, Nat.zero_le _, rfl, rfl, rfl⟩
  case round =>
    obtain ⟨k, m, hk, rfl, rfl, hm⟩ := hrel
    have HM : Hid (cnt (t.take k) 0 = some m) := hm
    have hm0 : 0 ≤ m ∧ m ≤ 12 := by
      have := cnt_nonneg (Int.le_refl 0) hm
      simp at this
      omega
    clear hm
    by_cases hlt : k < n
    · obtain ⟨s, hs⟩ : ∃ s, s = t.getD k 0 := ⟨_, rfl⟩
      have hc := HC.out k (by rw [← HN.out]; exact hlt)
      rw [← hs] at hc
      have HD : Hid (cnt (t.take (k + 1)) 0 = if m < takesN s then none else some (m + 1 - takesN s)) := by
        have := cnt_take_succ t (k := k) (by rw [← HN.out]; exact hlt) HM.out
        rw [← hs] at this; exact this
      clear hs
      have ht := takesN_range s
      by_cases hb : m < takesN s
      · have HE : Hid (R = false) := by
          have h1 := HD.out
          rw [if_pos hb] at h1
          have h2 := cnt_take_none t (k + 1) h1
          have h3 := HR.out
          rw [h2] at h3
          exact h3.trans (by decide)
        go_wp2_with (go_at_call 78; refine (takes_any _ _).mono ?_; rintro e w' ⟨rfl, rfl⟩)
        go_ret
        exact ⟨back_b HE.out.symm, rfl⟩
      · have HE : Hid (cnt (t.take (k + 1)) 0 = some (m + (1 - takesN s))) := by
          have h1 := HD.out
          rw [if_neg hb] at h1
          rw [show m + (1 - takesN s) = m + 1 - takesN s by omega]
          exact h1
        go_wp2_with (go_at_call 78; refine (takes_any _ _).mono ?_; rintro e w' ⟨rfl, rfl⟩)
        go_round
        case rel => exact ⟨k + 1, _, by omega, by go_num, rfl, HE.out⟩
        case measure => simp [intOf]; omega
    · have HE : Hid (R = (m == 1)) := by
        have h1 := HM.out
        rw [List.take_of_length_le (by have := HN.out; omega)] at h1
        have h3 := HR.out
        rw [h1] at h3
        rw [h3]
        by_cases h : m = 1
        · subst h; rfl
        · rw [decide_eq_false (by simpa using h)]; exact (beq_eq_false_iff_ne.2 h).symm
      go_wp2
      go_ret
      exact ⟨back_b HE.out.symm, rfl⟩

/-- Check, whatever the row of signs. -/
theorem tcheck_any (t : List Int) (v : Value) (w : World) (h : Reads w v t) :
    Calls Tryd.prog 40 #[v] w fun e w' => e = .returned (errV (faultN t)) ∧ w = w' := by
  rcases h with ⟨ao, cap, rfl, rfl⟩ | ⟨b, off, cap, rfl, -, h0, ⟨hl, _⟩, hc⟩
  · go_enter Tryd.func40, Tryd.ntmps40
    go_wp2
    go_ret
    exact ⟨rfl, rfl⟩
  · have cF := containsFunc_any b off cap t w hl hc
    by_cases h12 : 12 < t.length
    · have e : errV (faultN t) = .iface 59 (.int .i64 4) := by unfold faultN; rw [if_neg (by omega), if_pos h12]; rfl
      rw [e]
      clear e hc cF
      obtain ⟨n, hn⟩ : ∃ n, n = t.length := ⟨_, rfl⟩
      rw [← hn] at h0 hl h12 ⊢
      clear hn
      go_enter Tryd.func40, Tryd.ntmps40
      go_wp2
      go_ret
      exact ⟨rfl, rfl⟩
    have hl12 : t.length ≤ 12 := by omega
    have cO := isOne_any b off cap t w hl12 hc
    clear hc
    obtain ⟨F, hF⟩ : ∃ F, F = faultN t := ⟨_, rfl⟩
    rw [← hF]
    have HF : Hid (F = if t.all signB = true then (if cnt t 0 = some 1 then 0 else 3) else 1) := by
      unfold Hid; rw [hF]; unfold faultN; rw [if_neg (by omega), if_neg h12]
    clear hF
    obtain ⟨n, hn⟩ : ∃ n, n = t.length := ⟨_, rfl⟩
    rw [← hn] at h0 hl hl12 h12 cF cO ⊢
    clear hn
    obtain ⟨x, hx⟩ : ∃ x, x = t.all signB := ⟨_, rfl⟩
    obtain ⟨y, hy⟩ : ∃ y, y = decide (cnt t 0 = some 1) := ⟨_, rfl⟩
    rw [← hx] at cF
    rw [← hy] at cO
    have HF' : Hid (F = if x = true then (if y = true then 0 else 3) else 1) := by
      unfold Hid; rw [HF.out, hx, hy]; simp only [decide_eq_true_eq]
    clear HF hx hy
    have HP : Hid (Calls Tryd.prog 52 #[.slice (some ⟨b, off, none⟩) n cap, .func (.func 61) #[] #[]] w fun e w' => e = .returned (.bool (!x)) ∧ w = w') := cF
    have HQ : Hid (Calls Tryd.prog 62 #[.slice (some ⟨b, off, none⟩) n cap] w fun e w' => e = .returned (.bool y) ∧ w = w') := cO
    clear cF cO
    cases x <;> cases y
    all_goals
      go_enter Tryd.func40, Tryd.ntmps40
      go_wp2_with (first | (go_at_call 52; refine HP.out.mono ?_; rintro e w' ⟨rfl, rfl⟩) | (go_at_call 62; refine HQ.out.mono ?_; rintro e w' ⟨rfl, rfl⟩))
      go_ret
      exact ⟨back_v (by rw [HF'.out]; rfl), rfl⟩
theorem below_alloc1 (w : World) (o : Obj) : Below w.heap.size w (w.alloc o) := (Below.refl _ _).alloc (Nat.le_refl _) _
theorem errV_no {n : Int} (h : ¬ n = 0) : errV n = .iface 59 (.int .i64 n) := by unfold errV; rw [if_neg h]
end Go.Proofs.YtgkgbpbohgklhafDoor

namespace Go.Proofs.YtgkgbpbohgklhafDoor
open Go.ChangeShapes Go.WideShapes Go.ChangeAt Go.RowKit

theorem below_drewNs (w : World) : ∀ n, Below w.heap.size w (w.drewN n)
  | 0 => Below.refl _ _
  | n + 1 => (below_drewNs w n).drew

theorem back_two {k : IntKind} {a b : Int} {v : Value} (h : a = b) : Ending.returned (.tuple #[.int k a, v]) = .returned (.tuple #[.int k b, v]) := by rw [h]

set_option maxHeartbeats 1000000 in
theorem made_leaf_any (u a b c s : Int) (v : Value) (w : World) (h0 : 0 ≤ s) (h4 : s ≤ 4) (hw : (Wd.mk u a b c).ok = true) :
    Calls Tryd.prog 86 #[.int .i64 s, v, .agg #[.int .i64 u, .int .i64 a, .int .i64 b, .int .i64 c]] w fun e w' => e = .returned (.tuple #[.int .i64 ((Wd.mk u a b c).made s []), .nilIface]) ∧ Below w.heap.size w w' := by
  have hd : s = 0 ∨ s = 1 ∨ s = 2 ∨ s = 3 ∨ s = 4 := by omega
  have z : okB u 0 = true := ok_zero (ok_u hw).1 (ok_u hw).2
  clear h0 h4 hw
  rcases hd with rfl | rfl | rfl | rfl | rfl
  · go_enter Tryd.func86, Tryd.ntmps86
    go_wp2
    go_ret2
    exact ⟨rfl, below_alloc1 _ _⟩
  · go_enter Tryd.func86, Tryd.ntmps86
    go_wp2
    go_ret2
    exact ⟨rfl, below_alloc1 _ _⟩
  · go_enter Tryd.func86, Tryd.ntmps86
    go_wp2
    go_ret2
    exact ⟨rfl, below_alloc1 _ _⟩
  · go_enter Tryd.func86, Tryd.ntmps86
    go_wp2
    go_ret2
    exact ⟨rfl, below_alloc1 _ _⟩
  · go_enter Tryd.func86, Tryd.ntmps86
    go_wp2_with (go_at_call 89; refine (do_ok _ _ _ _ ?_ ?_ z z _).mono ?_; decide; decide; rintro e w' ⟨rfl, rfl⟩)
    go_ret2
    exact ⟨rfl, below_alloc1 _ _⟩

set_option maxHeartbeats 1000000 in
theorem made_one_any (u a b c s x : Int) (B off cap : Nat) (w : World) (h5 : 5 ≤ s) (h8 : s ≤ 8) (hx : okB u x = true) (hB : B < w.heap.size) (c0 : w.cell? ⟨B, off, none⟩ = some (.int .i64 x)) :
    Calls Tryd.prog 86 #[.int .i64 s, .slice (some ⟨B, off, none⟩) 1 cap, .agg #[.int .i64 u, .int .i64 a, .int .i64 b, .int .i64 c]] w fun e w' => e = .returned (.tuple #[.int .i64 (doN s u x x), .nilIface]) ∧ Below w.heap.size w w' := by
  have g0 : (s == 0) = false := by simp; omega
  have g1 : (s == 1) = false := by simp; omega
  have g2 : (s == 2) = false := by simp; omega
  have g3 : (s == 3) = false := by simp; omega
  have g4 : (s == 4) = false := by simp; omega
  have HD : Hid (∀ W, Calls Tryd.prog 89 #[.int .i64 s, .int .i64 u, .int .i64 x, .int .i64 x] W fun e w' => e = .returned (.tuple #[.int .i64 (doN s u x x), .nilIface]) ∧ w' = W) := fun W => (do_ok s u x x h5 h8 hx hx W).mono fun _ _ h => (And.intro h.1 h.2.symm)
  clear hx
  have d0 : (w.alloc (.cells #[.int .i64 u, .int .i64 a, .int .i64 b, .int .i64 c] 28)).cell? ⟨B, off, none⟩ = some (.int .i64 x) := by
    rw [World.cell?_alloc_lt _ _ ⟨B, off, none⟩ hB]; exact c0
  clear c0 hB
  go_enter Tryd.func86, Tryd.ntmps86
  go_wp2_with fail
  go_quiet (first | (go_at_call 89; exact Calls.quiet_of_same (HD.out _)))
  go_wp2
  go_ret2
  exact ⟨rfl, (below_alloc1 _ _).trans ((below_drewNs _ _).mono (by simp))⟩

set_option maxHeartbeats 1000000 in
theorem made_two_any (u a b c s x y : Int) (B off cap : Nat) (w : World) (h5 : 5 ≤ s) (h8 : s ≤ 8) (hx : okB u x = true) (hy : okB u y = true) (hB : B < w.heap.size)
    (c0 : w.cell? ⟨B, off, none⟩ = some (.int .i64 x)) (c1 : w.cell? ⟨B, off + 1, none⟩ = some (.int .i64 y)) :
    Calls Tryd.prog 86 #[.int .i64 s, .slice (some ⟨B, off, none⟩) 2 cap, .agg #[.int .i64 u, .int .i64 a, .int .i64 b, .int .i64 c]] w fun e w' => e = .returned (.tuple #[.int .i64 (doN s u x y), .nilIface]) ∧ Below w.heap.size w w' := by
  have g0 : (s == 0) = false := by simp; omega
  have g1 : (s == 1) = false := by simp; omega
  have g2 : (s == 2) = false := by simp; omega
  have g3 : (s == 3) = false := by simp; omega
  have g4 : (s == 4) = false := by simp; omega
  have HD : Hid (∀ W, Calls Tryd.prog 89 #[.int .i64 s, .int .i64 u, .int .i64 x, .int .i64 y] W fun e w' => e = .returned (.tuple #[.int .i64 (doN s u x y), .nilIface]) ∧ w' = W) := fun W => (do_ok s u x y h5 h8 hx hy W).mono fun _ _ h => (And.intro h.1 h.2.symm)
  clear hx hy
  have d0 : (w.alloc (.cells #[.int .i64 u, .int .i64 a, .int .i64 b, .int .i64 c] 28)).cell? ⟨B, off, none⟩ = some (.int .i64 x) := by
    rw [World.cell?_alloc_lt _ _ ⟨B, off, none⟩ hB]; exact c0
  have d1 : (w.alloc (.cells #[.int .i64 u, .int .i64 a, .int .i64 b, .int .i64 c] 28)).cell? ⟨B, off + 1, none⟩ = some (.int .i64 y) := by
    rw [World.cell?_alloc_lt _ _ ⟨B, off + 1, none⟩ hB]; exact c1
  clear c0 c1 hB
  go_enter Tryd.func86, Tryd.ntmps86
  go_wp2_with fail
  go_quiet (first | (go_at_call 89; exact Calls.quiet_of_same (HD.out _)))
  go_wp2
  go_ret2
  exact ⟨rfl, (below_alloc1 _ _).trans ((below_drewNs _ _).mono (by simp))⟩
end Go.Proofs.YtgkgbpbohgklhafDoor
