/-
  Plain facts on how many worlds there are, how many are alike, and in how many a formula holds (chapter 11). No program is read here.
-/
import Derived.Test.YtedgbohobgnedafDoorModelFacts
namespace Go.Proofs.YtedgbohobgnedafDoor
open Go.RowKit

def facN : Nat → Int
  | 0 => 1
  | n + 1 => ((n : Int) + 1) * facN n
/-- parted by 2, by 3, and on, up to n. -/
def downN (w : Int) : Nat → Int
  | 0 => w
  | 1 => w
  | k + 2 => (downN w (k + 1)).tdiv ((k : Int) + 2)
def likeTo (N : Nat → Int) : Nat → Int
  | 0 => facN (sumN N 8).toNat
  | i + 1 => downN (likeTo N i) (N i).toNat
/-- how many worlds have so many things in each field. -/
def likeN (N : Nat → Int) : Int := likeTo N 8
def eightN : Nat → Int
  | 0 => 1
  | n + 1 => eightN n * 8
/-- the worlds of those counts that are so. -/
def sumL (p : (Nat → Int) → Bool) : List (Nat → Int) → Int
  | [] => 0
  | N :: A => (if p N = true then likeN N else 0) + sumL p A

theorem downN_range {w : Int} (h : 0 ≤ w) (k : Nat) : 0 ≤ downN w k ∧ downN w k ≤ w := by
  induction k with
  | zero => exact ⟨h, Int.le_refl _⟩
  | succ k ih =>
    cases k with
    | zero => exact ⟨h, Int.le_refl _⟩
    | succ k =>
      show 0 ≤ (downN w (k + 1)).tdiv ((k : Int) + 2) ∧ (downN w (k + 1)).tdiv ((k : Int) + 2) ≤ w
      exact ⟨Int.tdiv_nonneg ih.1 (by omega), Int.le_trans (Int.tdiv_le_self _ ih.1) ih.2⟩
theorem downN_step (w : Int) (k : Nat) : downN w (k + 2) = (downN w (k + 1)).tdiv ((k : Int) + 2) := rfl
theorem facN_range : ∀ n, n ≤ 6 → 1 ≤ facN n ∧ facN n ≤ 720 := by decide
theorem likeTo_range {N : Nat → Int} (h : countsFault N = 0) (i : Nat) : 0 ≤ likeTo N i ∧ likeTo N i ≤ 720 := by
  induction i with
  | zero =>
    have := facN_range (sumN N 8).toNat (by have := (counts_zero.1 h).2; omega)
    exact ⟨by show 0 ≤ facN _; omega, this.2⟩
  | succ i ih =>
    have := downN_range ih.1 (N i).toNat
    exact ⟨this.1, Int.le_trans this.2 ih.2⟩
theorem likeTo_same {N M : Nat → Int} (h : ∀ g, g < 8 → N g = M g) : ∀ i, i ≤ 8 → likeTo N i = likeTo M i := by
  intro i
  induction i with
  | zero =>
    intro _
    have e : ∀ k, k ≤ 8 → sumN N k = sumN M k := by
      intro k
      induction k with
      | zero => intro _; rfl
      | succ k ih => intro hk; unfold sumN; rw [ih (by omega), h k (by omega)]
    show facN _ = facN _
    rw [e 8 (by omega)]
  | succ i ih =>
    intro hi
    show downN _ _ = downN _ _
    rw [ih (by omega), h i (by omega)]
theorem likeN_same {N M : Nat → Int} (h : ∀ g, g < 8 → N g = M g) : likeN N = likeN M := likeTo_same h 8 (by omega)
theorem like_facts : ∀ u, u ≤ 6 → ((everyC u).all fun N => decide (1 ≤ likeN N)) = true ∧ sumL (fun _ => true) (everyC u) = eightN u := by decide +kernel
theorem like_pos {u : Nat} (hu : u ≤ 6) {N : Nat → Int} (h : N ∈ everyC u) : 1 ≤ likeN N := of_decide_eq_true (List.all_eq_true.1 (like_facts u hu).1 N h)
theorem eight_le : ∀ u, u ≤ 6 → eightN u ≤ 262144 := by decide
theorem sumL_take {p : (Nat → Int) → Bool} : ∀ {A : List (Nat → Int)} {k : Nat} {N : Nat → Int}, A[k]? = some N → sumL p (A.take (k + 1)) = sumL p (A.take k) + if p N = true then likeN N else 0 := by
  intro A
  induction A with
  | nil => intro k N h; simp at h
  | cons M A ih =>
    intro k N h
    cases k with
    | zero =>
      obtain rfl : M = N := by simpa using h
      simp [sumL]
    | succ k =>
      have := ih (k := k) (N := N) (by simpa using h)
      simp only [List.take_succ_cons, sumL]
      rw [this]
      omega
theorem eight_pos (u : Nat) : 1 ≤ eightN u := by
  induction u with
  | zero => exact Int.le_refl _
  | succ u ih => show 1 ≤ eightN u * 8; omega
theorem sumL_part {A : List (Nat → Int)} (hp : ∀ N ∈ A, 0 ≤ likeN N) {p : (Nat → Int) → Bool} : ∀ k, sumL p (A.take k) ≤ sumL p A := by
  induction A with
  | nil => intro k; simp
  | cons M A ih =>
    intro k
    have h1 := hp M List.mem_cons_self
    have h2 := ih fun N hN => hp N (List.mem_cons_of_mem _ hN)
    cases k with
    | zero =>
      have h3 := h2 0
      simp only [List.take_zero, sumL] at h3 ⊢
      by_cases h : p M = true
      · rw [if_pos h]; omega
      · rw [if_neg h]; omega
    | succ k =>
      have := h2 k
      simp only [List.take_succ_cons, sumL]
      omega
theorem sumL_range {A : List (Nat → Int)} (hp : ∀ N ∈ A, 1 ≤ likeN N) (p : (Nat → Int) → Bool) : 0 ≤ sumL p A ∧ sumL p A ≤ sumL (fun _ => true) A := by
  induction A with
  | nil => exact ⟨Int.le_refl _, Int.le_refl _⟩
  | cons N A ih =>
    have h1 := hp N List.mem_cons_self
    have h2 := ih fun M hM => hp M (List.mem_cons_of_mem _ hM)
    simp only [sumL, if_true]
    by_cases h : p N = true
    · rw [if_pos h]; omega
    · rw [if_neg h]; omega
theorem sumL_not {A : List (Nat → Int)} {p q : (Nat → Int) → Bool} (h : ∀ N ∈ A, q N = !p N) : sumL p A + sumL q A = sumL (fun _ => true) A := by
  induction A with
  | nil => rfl
  | cons N A ih =>
    have h1 := h N List.mem_cons_self
    have h2 := ih fun M hM => h M (List.mem_cons_of_mem _ hM)
    simp only [sumL, if_true]
    rw [h1]
    cases p N <;> simp <;> omega
theorem sumL_has {A : List (Nat → Int)} (hp : ∀ N ∈ A, 1 ≤ likeN N) {p : (Nat → Int) → Bool} {N : Nat → Int} (hN : N ∈ A) (h : p N = true) : likeN N ≤ sumL p A := by
  induction A with
  | nil => cases hN
  | cons M A ih =>
    have h1 := hp M List.mem_cons_self
    have h2 := sumL_range (fun M hM => hp M (List.mem_cons_of_mem _ hM)) p
    simp only [sumL]
    rcases List.mem_cons.1 hN with rfl | hN
    · rw [if_pos h]; omega
    · have := ih (fun M hM => hp M (List.mem_cons_of_mem _ hM)) hN
      by_cases hm : p M = true
      · rw [if_pos hm]; omega
      · rw [if_neg hm]; omega
theorem sumL_none {A : List (Nat → Int)} {p : (Nat → Int) → Bool} (h : ∀ N ∈ A, p N = false) : sumL p A = 0 := by
  induction A with
  | nil => rfl
  | cons M A ih =>
    simp only [sumL]
    rw [h M List.mem_cons_self, if_neg (by decide), ih fun N hN => h N (List.mem_cons_of_mem _ hN)]
    rfl

theorem made_same {N M : Nat → Int} (h : ∀ g, g < 8 → N g = M g) : madeN N 8 = madeN M 8 := by
  have e : ∀ k, k ≤ 8 → madeN N k = madeN M k := by
    intro k
    induction k with
    | zero => intro _; rfl
    | succ k ih => intro hk; unfold madeN; rw [ih (by omega), h k (by omega)]
  exact e 8 (by omega)

def allFault (u : Int) : Int := if 0 ≤ u ∧ u ≤ 6 then 0 else 1
def allW (u : Int) : Int := if 0 ≤ u ∧ u ≤ 6 then eightN u.toNat else 0
def likeW (w : Wd) : Int := if w.ok = true then likeN (w.fc w.u.toNat) else 0
def worldsFault (ats : List At) (c : List Int) (u : Int) : Int := if formFault ats c = 0 then allFault u else formFault ats c
def worldsN (ats : List At) (c : List Int) (u : Int) : Int := if worldsFault ats c u = 0 then sumL (fun N => (madeN N 8).formIs ats c) (everyC u.toNat) else 0
theorem worlds_zero {ats : List At} {c : List Int} {u : Int} (h : worldsFault ats c u = 0) : formFault ats c = 0 ∧ (0 ≤ u ∧ u ≤ 6) := by
  unfold worldsFault at h
  by_cases hf : formFault ats c = 0
  · rw [if_pos hf] at h
    unfold allFault at h
    by_cases hu : 0 ≤ u ∧ u ≤ 6
    · exact ⟨hf, hu⟩
    · rw [if_neg hu] at h; exact absurd h (by decide)
  · rw [if_neg hf] at h; exact absurd h hf
theorem worlds_range {ats : List At} {c : List Int} {u : Int} (h : worldsFault ats c u = 0) : 0 ≤ worldsN ats c u ∧ worldsN ats c u ≤ allW u := by
  obtain ⟨_, hu⟩ := worlds_zero h
  have hn : u.toNat ≤ 6 := by omega
  unfold worldsN allW
  rw [if_pos h, if_pos hu, ← (like_facts _ hn).2]
  exact sumL_range (fun N hN => like_pos hn hN) _
/-- where it holds and where it does not is all. -/
theorem worlds_not {ats : List At} {c : List Int} {u : Int} (h : worldsFault ats c u = 0) (hn : negFault ats c = 0) : worldsFault ats (c ++ [12]) u = 0 ∧ worldsN ats c u + worldsN ats (c ++ [12]) u = allW u := by
  obtain ⟨hf, hu⟩ := worlds_zero h
  obtain ⟨_, h19, hf'⟩ := neg_good hn
  have hn6 : u.toNat ≤ 6 := by omega
  have h' : worldsFault ats (c ++ [12]) u = 0 := by unfold worldsFault allFault; rw [if_pos hf', if_pos hu]
  refine ⟨h', ?_⟩
  unfold worldsN allW
  rw [if_pos h, if_pos h', if_pos hu, ← (like_facts _ hn6).2]
  refine sumL_not fun N hN => ?_
  exact formIs_no hf h19 (made_ok (everyC_right hn6 hN))
/-- the counts of a world are among all. -/
theorem world_counts {w : Wd} (hw : w.ok = true) {u : Int} (hu : w.u = u) : ∃ A ∈ everyC u.toNat, (∀ g, g < 8 → A g = w.fc w.u.toNat g) ∧ ∀ ats c, (madeN A 8).formIs ats c = w.formIs ats c := by
  have hcf := counts_fc hw
  have hsum : sumN (w.fc w.u.toNat) 8 = ((u.toNat : Nat) : Int) := by rw [sum_fc, hu]
  obtain ⟨A, hA, hAw⟩ := everyC_all (u := u.toNat) (fun g hg => ((counts_zero.1 hcf).1 g hg).1) hsum
  refine ⟨A, hA, hAw, fun ats c => ?_⟩
  have e := made_same (N := A) (M := w.fc w.u.toNat) hAw
  rw [e]
  exact (alike_made hw).form ats c
theorem worlds_some {ats : List At} {c : List Int} {u : Int} (h : worldsFault ats c u = 0) {w : Wd} (hw : w.ok = true) (hu : w.u = u) (hh : w.formIs ats c = true) : likeW w ≤ worldsN ats c u := by
  obtain ⟨_, hu6⟩ := worlds_zero h
  obtain ⟨A, hA, hAw, hAf⟩ := world_counts hw hu
  unfold likeW worldsN
  rw [if_pos hw, if_pos h, ← likeN_same hAw]
  exact sumL_has (fun N hN => like_pos (by omega) hN) hA (by rw [hAf]; exact hh)
theorem worlds_rest {ats : List At} {c : List Int} {u : Int} (h : worldsFault ats c u = 0) {w : Wd} (hw : w.ok = true) (hu : w.u = u) (hh : w.formIs ats c = false) : likeW w ≤ allW u - worldsN ats c u := by
  obtain ⟨_, hu6⟩ := worlds_zero h
  have hn6 : u.toNat ≤ 6 := by omega
  obtain ⟨A, hA, hAw, hAf⟩ := world_counts hw hu
  have hs := sumL_not (A := everyC u.toNat) (p := fun N => (madeN N 8).formIs ats c) (q := fun N => !(madeN N 8).formIs ats c) fun _ _ => rfl
  have hq := sumL_has (A := everyC u.toNat) (fun N hN => like_pos hn6 hN) (p := fun N => !(madeN N 8).formIs ats c) hA (by simp only [hAf, hh]; rfl)
  unfold likeW worldsN allW
  rw [if_pos hw, if_pos h, if_pos hu6, ← likeN_same hAw, ← (like_facts _ hn6).2]
  omega
theorem like_range {w : Wd} (hw : w.ok = true) {u : Int} (hu : w.u = u) (hu6 : 0 ≤ u ∧ u ≤ 6) : 1 ≤ likeW w ∧ likeW w ≤ allW u := by
  have hn6 : u.toNat ≤ 6 := by omega
  obtain ⟨A, hA, hAw, _⟩ := world_counts hw hu
  unfold likeW allW
  rw [if_pos hw, if_pos hu6, ← likeN_same hAw, ← (like_facts _ hn6).2]
  exact ⟨like_pos hn6 hA, sumL_has (fun N hN => like_pos hn6 hN) hA rfl⟩
/-- there is one just if there is a model. -/
theorem worlds_model {ats : List At} {c : List Int} {u : Int} (h : worldsFault ats c u = 0) : (modelFault ats c u = 0 → ¬ worldsN ats c u = 0) ∧ (modelFault ats c u = 5 → worldsN ats c u = 0) := by
  obtain ⟨hf, hu6⟩ := worlds_zero h
  refine ⟨fun hm => ?_, fun hm => ?_⟩
  · obtain ⟨_, g2, g3, g4⟩ := model_zero hm
    have h1 := worlds_some h g2 g3 g4
    have h2 := (like_range g2 g3 hu6).1
    omega
  · unfold worldsN
    rw [if_pos h]
    refine sumL_none fun N hN => ?_
    have hc := everyC_right (by omega) hN
    exact model_five hm hf (made_ok hc) (by rw [made_u hc, (everyC_sum hN).2]; omega)
end Go.Proofs.YtedgbohobgnedafDoor
