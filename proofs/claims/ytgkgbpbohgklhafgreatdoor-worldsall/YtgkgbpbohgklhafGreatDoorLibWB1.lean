/-
  Plain facts on how many worlds there are, how many are alike, and in how many a formula holds (chapter 11). No program is read here.
  Plain facts on how many worlds are alike, as they are counted one thing behind the other (chapter 11). No program is read here.
  Proved: what worlds.check, worlds.All and worlds.alike return, of any number of things, and of right counts; what was in memory is as it was (contracts that the statements lean on).
  Proved: what fields.lies returns; what was in memory is as it was (a contract that the statements lean on).
  Proved: what fields.Of returns, of any world; what was in memory is as it was (a contract that the statements lean on).
  Proved: what math/bits.OnesCount returns, of a number of at most six bits, and that it leaves memory as it was (a contract that the statements lean on).
-/
import Derived.Test.YtgkgbpbohgklhafGreatDoorLibPB23
import Derived.Test.YtgkgbpbohgklhafGreatDoorLibPB4
import Derived.Test.YtgkgbpbohgklhafGreatDoorLibPB13
import Derived.Test.YtgkgbpbohgklhafGreatDoorLibPB1
import Derived.Test.YtgkgbpbohgklhafGreatDoorLibPB12
namespace Go.Proofs.YtgkgbpbohgklhafGreatDoor
open Go.RowKit

def facN : Nat → Int
  | 0 => 1
  | n + 1 => ((n : Int) + 1) * facN n
/-- parted by 2, by 3, and on, up to n. -/
def downN (w : Int) : Nat → Int
  | 0 => w
  | 1 => w
  | k + 2 => (downN w (k + 1)).tdiv ((k : Int) + 2)
def likeTo (N : Nat → Int) : Nat → Int
  | 0 => facN (sumN N 8).toNat
  | i + 1 => downN (likeTo N i) (N i).toNat
/-- how many worlds have so many things in each field. -/
def likeN (N : Nat → Int) : Int := likeTo N 8
def eightN : Nat → Int
  | 0 => 1
  | n + 1 => eightN n * 8
/-- the worlds of those counts that are so. -/
def sumL (p : (Nat → Int) → Bool) : List (Nat → Int) → Int
  | [] => 0
  | N :: A => (if p N = true then likeN N else 0) + sumL p A

theorem downN_range {w : Int} (h : 0 ≤ w) (k : Nat) : 0 ≤ downN w k ∧ downN w k ≤ w := by
  induction k with
  | zero => exact ⟨h, Int.le_refl _⟩
  | succ k ih =>
    cases k with
    | zero => exact ⟨h, Int.le_refl _⟩
    | succ k =>
      show 0 ≤ (downN w (k + 1)).tdiv ((k : Int) + 2) ∧ (downN w (k + 1)).tdiv ((k : Int) + 2) ≤ w
      exact ⟨Int.tdiv_nonneg ih.1 (by omega), Int.le_trans (Int.tdiv_le_self _ ih.1) ih.2⟩
theorem downN_step (w : Int) (k : Nat) : downN w (k + 2) = (downN w (k + 1)).tdiv ((k : Int) + 2) := rfl
theorem facN_range : ∀ n, n ≤ 6 → 1 ≤ facN n ∧ facN n ≤ 720 := by decide
theorem likeTo_range {N : Nat → Int} (h : countsFault N = 0) (i : Nat) : 0 ≤ likeTo N i ∧ likeTo N i ≤ 720 := by
  induction i with
  | zero =>
    have := facN_range (sumN N 8).toNat (by have := (counts_zero.1 h).2; omega)
    exact ⟨by show 0 ≤ facN _; omega, this.2⟩
  | succ i ih =>
    have := downN_range ih.1 (N i).toNat
    exact ⟨this.1, Int.le_trans this.2 ih.2⟩
theorem likeTo_same {N M : Nat → Int} (h : ∀ g, g < 8 → N g = M g) : ∀ i, i ≤ 8 → likeTo N i = likeTo M i := by
  intro i
  induction i with
  | zero =>
    intro _
    have e : ∀ k, k ≤ 8 → sumN N k = sumN M k := by
      intro k
      induction k with
      | zero => intro _; rfl
      | succ k ih => intro hk; unfold sumN; rw [ih (by omega), h k (by omega)]
    show facN _ = facN _
    rw [e 8 (by omega)]
  | succ i ih =>
    intro hi
    show downN _ _ = downN _ _
    rw [ih (by omega), h i (by omega)]
theorem likeN_same {N M : Nat → Int} (h : ∀ g, g < 8 → N g = M g) : likeN N = likeN M := likeTo_same h 8 (by omega)
theorem like_facts : ∀ u, u ≤ 6 → ((everyC u).all fun N => decide (1 ≤ likeN N)) = true ∧ sumL (fun _ => true) (everyC u) = eightN u := by decide +kernel
theorem like_pos {u : Nat} (hu : u ≤ 6) {N : Nat → Int} (h : N ∈ everyC u) : 1 ≤ likeN N := of_decide_eq_true (List.all_eq_true.1 (like_facts u hu).1 N h)
theorem eight_le : ∀ u, u ≤ 6 → eightN u ≤ 262144 := by decide
theorem sumL_take {p : (Nat → Int) → Bool} : ∀ {A : List (Nat → Int)} {k : Nat} {N : Nat → Int}, A[k]? = some N → sumL p (A.take (k + 1)) = sumL p (A.take k) + if p N = true then likeN N else 0 := by
  intro A
  induction A with
  | nil => intro k N h; simp at h
  | cons M A ih =>
    intro k N h
    cases k with
    | zero =>
      obtain rfl : M = N := by simpa using h
      simp [sumL]
    | succ k =>
      have := ih (k := k) (N := N) (by simpa using h)
      simp only [List.take_succ_cons, sumL]
      rw [this]
      omega
theorem eight_pos (u : Nat) : 1 ≤ eightN u := by
  induction u with
  | zero => exact Int.le_refl _
  | succ u ih => show 1 ≤ eightN u * 8; omega
theorem sumL_part {A : List (Nat → Int)} (hp : ∀ N ∈ A, 0 ≤ likeN N) {p : (Nat → Int) → Bool} : ∀ k, sumL p (A.take k) ≤ sumL p A := by
  induction A with
  | nil => intro k; simp
  | cons M A ih =>
    intro k
    have h1 := hp M List.mem_cons_self
    have h2 := ih fun N hN => hp N (List.mem_cons_of_mem _ hN)
    cases k with
    | zero =>
      have h3 := h2 0
      simp only [List.take_zero, sumL] at h3 ⊢
      by_cases h : p M = true
      · rw [if_pos h]; omega
      · rw [if_neg h]; omega
    | succ k =>
      have := h2 k
      simp only [List.take_succ_cons, sumL]
      omega
theorem sumL_range {A : List (Nat → Int)} (hp : ∀ N ∈ A, 1 ≤ likeN N) (p : (Nat → Int) → Bool) : 0 ≤ sumL p A ∧ sumL p A ≤ sumL (fun _ => true) A := by
  induction A with
  | nil => exact ⟨Int.le_refl _, Int.le_refl _⟩
  | cons N A ih =>
    have h1 := hp N List.mem_cons_self
    have h2 := ih fun M hM => hp M (List.mem_cons_of_mem _ hM)
    simp only [sumL, if_true]
    by_cases h : p N = true
    · rw [if_pos h]; omega
    · rw [if_neg h]; omega
theorem sumL_not {A : List (Nat → Int)} {p q : (Nat → Int) → Bool} (h : ∀ N ∈ A, q N = !p N) : sumL p A + sumL q A = sumL (fun _ => true) A := by
  induction A with
  | nil => rfl
  | cons N A ih =>
    have h1 := h N List.mem_cons_self
    have h2 := ih fun M hM => h M (List.mem_cons_of_mem _ hM)
    simp only [sumL, if_true]
    rw [h1]
    cases p N <;> simp <;> omega
theorem sumL_has {A : List (Nat → Int)} (hp : ∀ N ∈ A, 1 ≤ likeN N) {p : (Nat → Int) → Bool} {N : Nat → Int} (hN : N ∈ A) (h : p N = true) : likeN N ≤ sumL p A := by
  induction A with
  | nil => cases hN
  | cons M A ih =>
    have h1 := hp M List.mem_cons_self
    have h2 := sumL_range (fun M hM => hp M (List.mem_cons_of_mem _ hM)) p
    simp only [sumL]
    rcases List.mem_cons.1 hN with rfl | hN
    · rw [if_pos h]; omega
    · have := ih (fun M hM => hp M (List.mem_cons_of_mem _ hM)) hN
      by_cases hm : p M = true
      · rw [if_pos hm]; omega
      · rw [if_neg hm]; omega
theorem sumL_none {A : List (Nat → Int)} {p : (Nat → Int) → Bool} (h : ∀ N ∈ A, p N = false) : sumL p A = 0 := by
  induction A with
  | nil => rfl
  | cons M A ih =>
    simp only [sumL]
    rw [h M List.mem_cons_self, if_neg (by decide), ih fun N hN => h N (List.mem_cons_of_mem _ hN)]
    rfl

theorem made_same {N M : Nat → Int} (h : ∀ g, g < 8 → N g = M g) : madeN N 8 = madeN M 8 := by
  have e : ∀ k, k ≤ 8 → madeN N k = madeN M k := by
    intro k
    induction k with
    | zero => intro _; rfl
    | succ k ih => intro hk; unfold madeN; rw [ih (by omega), h k (by omega)]
  exact e 8 (by omega)

def allFault (u : Int) : Int := if 0 ≤ u ∧ u ≤ 6 then 0 else 1
def allW (u : Int) : Int := if 0 ≤ u ∧ u ≤ 6 then eightN u.toNat else 0
def likeW (w : Wd) : Int := if w.ok = true then likeN (w.fc w.u.toNat) else 0
def worldsFault (ats : List At) (c : List Int) (u : Int) : Int := if formFault ats c = 0 then allFault u else formFault ats c
def worldsN (ats : List At) (c : List Int) (u : Int) : Int := if worldsFault ats c u = 0 then sumL (fun N => (madeN N 8).formIs ats c) (everyC u.toNat) else 0
theorem worlds_zero {ats : List At} {c : List Int} {u : Int} (h : worldsFault ats c u = 0) : formFault ats c = 0 ∧ (0 ≤ u ∧ u ≤ 6) := by
  unfold worldsFault at h
  by_cases hf : formFault ats c = 0
  · rw [if_pos hf] at h
    unfold allFault at h
    by_cases hu : 0 ≤ u ∧ u ≤ 6
    · exact ⟨hf, hu⟩
    · rw [if_neg hu] at h; exact absurd h (by decide)
  · rw [if_neg hf] at h; exact absurd h hf
theorem worlds_range {ats : List At} {c : List Int} {u : Int} (h : worldsFault ats c u = 0) : 0 ≤ worldsN ats c u ∧ worldsN ats c u ≤ allW u := by
  obtain ⟨_, hu⟩ := worlds_zero h
  have hn : u.toNat ≤ 6 := by omega
  unfold worldsN allW
  rw [if_pos h, if_pos hu, ← (like_facts _ hn).2]
  exact sumL_range (fun N hN => like_pos hn hN) _
/-- where it holds and where it does not is all. -/
theorem worlds_not {ats : List At} {c : List Int} {u : Int} (h : worldsFault ats c u = 0) (hn : negFault ats c = 0) : worldsFault ats (c ++ [12]) u = 0 ∧ worldsN ats c u + worldsN ats (c ++ [12]) u = allW u := by
  obtain ⟨hf, hu⟩ := worlds_zero h
  obtain ⟨_, h19, hf'⟩ := neg_good hn
  have hn6 : u.toNat ≤ 6 := by omega
  have h' : worldsFault ats (c ++ [12]) u = 0 := by unfold worldsFault allFault; rw [if_pos hf', if_pos hu]
  refine ⟨h', ?_⟩
  unfold worldsN allW
  rw [if_pos h, if_pos h', if_pos hu, ← (like_facts _ hn6).2]
  refine sumL_not fun N hN => ?_
  exact formIs_no hf h19 (made_ok (everyC_right hn6 hN))
/-- the counts of a world are among all. -/
theorem world_counts {w : Wd} (hw : w.ok = true) {u : Int} (hu : w.u = u) : ∃ A ∈ everyC u.toNat, (∀ g, g < 8 → A g = w.fc w.u.toNat g) ∧ ∀ ats c, (madeN A 8).formIs ats c = w.formIs ats c := by
  have hcf := counts_fc hw
  have hsum : sumN (w.fc w.u.toNat) 8 = ((u.toNat : Nat) : Int) := by rw [sum_fc, hu]
  obtain ⟨A, hA, hAw⟩ := everyC_all (u := u.toNat) (fun g hg => ((counts_zero.1 hcf).1 g hg).1) hsum
  refine ⟨A, hA, hAw, fun ats c => ?_⟩
  have e := made_same (N := A) (M := w.fc w.u.toNat) hAw
  rw [e]
  exact (alike_made hw).form ats c
theorem worlds_some {ats : List At} {c : List Int} {u : Int} (h : worldsFault ats c u = 0) {w : Wd} (hw : w.ok = true) (hu : w.u = u) (hh : w.formIs ats c = true) : likeW w ≤ worldsN ats c u := by
  obtain ⟨_, hu6⟩ := worlds_zero h
  obtain ⟨A, hA, hAw, hAf⟩ := world_counts hw hu
  unfold likeW worldsN
  rw [if_pos hw, if_pos h, ← likeN_same hAw]
  exact sumL_has (fun N hN => like_pos (by omega) hN) hA (by rw [hAf]; exact hh)
theorem worlds_rest {ats : List At} {c : List Int} {u : Int} (h : worldsFault ats c u = 0) {w : Wd} (hw : w.ok = true) (hu : w.u = u) (hh : w.formIs ats c = false) : likeW w ≤ allW u - worldsN ats c u := by
  obtain ⟨_, hu6⟩ := worlds_zero h
  have hn6 : u.toNat ≤ 6 := by omega
  obtain ⟨A, hA, hAw, hAf⟩ := world_counts hw hu
  have hs := sumL_not (A := everyC u.toNat) (p := fun N => (madeN N 8).formIs ats c) (q := fun N => !(madeN N 8).formIs ats c) fun _ _ => rfl
  have hq := sumL_has (A := everyC u.toNat) (fun N hN => like_pos hn6 hN) (p := fun N => !(madeN N 8).formIs ats c) hA (by simp only [hAf, hh]; rfl)
  unfold likeW worldsN allW
  rw [if_pos hw, if_pos h, if_pos hu6, ← likeN_same hAw, ← (like_facts _ hn6).2]
  omega
theorem like_range {w : Wd} (hw : w.ok = true) {u : Int} (hu : w.u = u) (hu6 : 0 ≤ u ∧ u ≤ 6) : 1 ≤ likeW w ∧ likeW w ≤ allW u := by
  have hn6 : u.toNat ≤ 6 := by omega
  obtain ⟨A, hA, hAw, _⟩ := world_counts hw hu
  unfold likeW allW
  rw [if_pos hw, if_pos hu6, ← likeN_same hAw, ← (like_facts _ hn6).2]
  exact ⟨like_pos hn6 hA, sumL_has (fun N hN => like_pos hn6 hN) hA rfl⟩
/-- there is one just if there is a model. -/
theorem worlds_model {ats : List At} {c : List Int} {u : Int} (h : worldsFault ats c u = 0) : (modelFault ats c u = 0 → ¬ worldsN ats c u = 0) ∧ (modelFault ats c u = 5 → worldsN ats c u = 0) := by
  obtain ⟨hf, hu6⟩ := worlds_zero h
  refine ⟨fun hm => ?_, fun hm => ?_⟩
  · obtain ⟨_, g2, g3, g4⟩ := model_zero hm
    have h1 := worlds_some h g2 g3 g4
    have h2 := (like_range g2 g3 hu6).1
    omega
  · unfold worldsN
    rw [if_pos h]
    refine sumL_none fun N hN => ?_
    have hc := everyC_right (by omega) hN
    exact model_five hm hf (made_ok hc) (by rw [made_u hc, (everyC_sum hN).2]; omega)
end Go.Proofs.YtgkgbpbohgklhafGreatDoor

namespace Go.Proofs.YtgkgbpbohgklhafGreatDoor
open Go.RowKit

/-- k more things lie in a field, behind p things. -/
def fillN (m p : Int) : Nat → Int
  | 0 => m
  | k + 1 => (fillN m p k * (p + k + 1)).tdiv ((k : Int) + 1)
def layTo (N : Nat → Int) : Nat → Int
  | 0 => 1
  | i + 1 => fillN (layTo N i) (sumN N i) (N i).toNat
theorem lay_facts : ∀ u, u ≤ 6 → ((everyC u).all fun N => decide (layTo N 8 = likeN N) && (List.range 8).all fun i => (List.range 7).all fun k => decide (N i < (k : Int)) || decide (0 ≤ fillN (layTo N i) (sumN N i) k ∧ fillN (layTo N i) (sumN N i) k ≤ 720)) = true := by decide +kernel
theorem sum_same {N M : Nat → Int} (h : ∀ g, g < 8 → N g = M g) : ∀ k, k ≤ 8 → sumN N k = sumN M k := by
  intro k
  induction k with
  | zero => intro _; rfl
  | succ k ih => intro hk; unfold sumN; rw [ih (by omega), h k (by omega)]
theorem lay_same {N M : Nat → Int} (h : ∀ g, g < 8 → N g = M g) : ∀ k, k ≤ 8 → layTo N k = layTo M k := by
  intro k
  induction k with
  | zero => intro _; rfl
  | succ k ih => intro hk; unfold layTo; rw [ih (by omega), h k (by omega), sum_same h k (by omega)]
theorem sum_up {N : Nat → Int} (h : ∀ g, g < 8 → 0 ≤ N g) : ∀ k, k ≤ 8 → 0 ≤ sumN N k := by
  intro k
  induction k with
  | zero => intro _; exact Int.le_refl _
  | succ k ih => intro hk; have := ih (by omega); have := h k (by omega); show 0 ≤ sumN N k + N k; omega
theorem sum_more {N : Nat → Int} (h : ∀ g, g < 8 → 0 ≤ N g) : ∀ d k, k + d = 8 → sumN N k ≤ sumN N 8 := by
  intro d
  induction d with
  | zero => intro k hk; obtain rfl : k = 8 := by omega
            exact Int.le_refl _
  | succ d ih =>
    intro k hk
    have h1 := ih (k + 1) (by omega)
    have h2 := h k (by omega)
    have e : sumN N (k + 1) = sumN N k + N k := rfl
    omega
theorem lay_right {N : Nat → Int} (h : countsFault N = 0) : layTo N 8 = likeN N ∧ ∀ i, i < 8 → 0 ≤ sumN N i ∧ sumN N i + N i ≤ 6 ∧ ∀ k : Nat, (k : Int) ≤ N i → 0 ≤ fillN (layTo N i) (sumN N i) k ∧ fillN (layTo N i) (sumN N i) k ≤ 720 := by
  obtain ⟨h1, h2⟩ := counts_zero.1 h
  have hp : ∀ g, g < 8 → 0 ≤ N g := fun g hg => (h1 g hg).1
  have h0 := sum_up hp 8 (by omega)
  have hs : sumN N 8 = (((sumN N 8).toNat : Nat) : Int) := by omega
  obtain ⟨A, hA, hAN⟩ := everyC_all (u := (sumN N 8).toNat) hp hs
  have hf := List.all_eq_true.1 (lay_facts (sumN N 8).toNat (by omega)) A hA
  rw [Bool.and_eq_true] at hf
  refine ⟨?_, fun i hi => ⟨sum_up hp i (by omega), ?_, fun k hk => ?_⟩⟩
  · rw [← lay_same hAN 8 (by omega), ← likeN_same hAN]; exact of_decide_eq_true hf.1
  · have := sum_more hp (8 - (i + 1)) (i + 1) (by omega)
    have e : sumN N (i + 1) = sumN N i + N i := rfl
    omega
  · have h3 := h1 i hi
    have := sum_more hp (8 - (i + 1)) (i + 1) (by omega)
    have e : sumN N (i + 1) = sumN N i + N i := rfl
    have := sum_up hp i (by omega)
    have hq := List.all_eq_true.1 (List.all_eq_true.1 hf.2 i (List.mem_range.2 hi)) k (List.mem_range.2 (by omega))
    rw [Bool.or_eq_true] at hq
    rw [← lay_same hAN i (by omega), ← sum_same hAN i (by omega)]
    rcases hq with hq | hq
    · have := of_decide_eq_true hq
      rw [hAN i hi] at this
      omega
    · exact of_decide_eq_true hq
theorem lay_step (N : Nat → Int) (i : Nat) : layTo N (i + 1) = fillN (layTo N i) (sumN N i) (N i).toNat := rfl
theorem fill_step (m p : Int) (k : Nat) : fillN m p (k + 1) = (fillN m p k * (p + k + 1)).tdiv ((k : Int) + 1) := rfl
end Go.Proofs.YtgkgbpbohgklhafGreatDoor

namespace Go.Proofs.YtgkgbpbohgklhafGreatDoor
open Go.ChangeShapes Go.WideShapes Go.ChangeAt Go.RowKit
set_option maxRecDepth 100000

theorem wcheck_ok (n : Nat) (hn : n ≤ 6) (w : World) : Calls Tryz.prog 27 #[.int .i64 n] w fun e w' => e = .returned .nilIface ∧ w = w' := by
  have h : okB (n : Int) 0 = true := ok_zero (by omega) (by omega)
  go_enter Tryz.func27, Tryz.ntmps27
  go_wp2_with fail
  go_at_call 37
  refine (check_ok _ _ h _).mono ?_
  rintro e w' ⟨rfl, rfl⟩
  go_wp2
  go_ret
  exact ⟨rfl, rfl⟩
theorem wcheck_no (u : Int) (hu : ¬ (0 ≤ u ∧ u ≤ 6)) (w : World) : Calls Tryz.prog 27 #[.int .i64 u] w fun e w' => e = .returned (.iface 61 (.int .i64 1)) ∧ w = w' := by
  have h : okB u 0 = false := okB_not.2 fun h => hu ⟨h.1, h.2.1⟩
  go_enter Tryz.func27, Tryz.ntmps27
  go_wp2_with fail
  go_at_call 37
  refine (check_no _ _ h _).mono ?_
  rintro e w' ⟨rfl, rfl⟩
  go_wp2
  go_ret
  exact ⟨rfl, rfl⟩

theorem wall_right (n : Nat) (hn : n ≤ 6) (w : World) : Calls Tryz.prog 10 #[.int .i64 n] w fun e w' => e = .returned (.tuple #[.int .i64 (eightN n), .nilIface]) ∧ w' = w := by
  have hb : ∀ k, k ≤ 6 → 1 ≤ eightN k ∧ eightN k ≤ 262144 := by decide
  have HB : Hid (∀ k, k ≤ 6 → 1 ≤ eightN k ∧ eightN k ≤ 262144) := hb
  have HCk : Hid (∀ W, Calls Tryz.prog 27 #[.int .i64 n] W fun e w' => e = .returned .nilIface ∧ W = w') := fun W => wcheck_ok n hn W
  clear hb
  go_enter Tryz.func10, Tryz.ntmps10
  go_wp2_with fail
  go_at_call 27
  refine (HCk.out _).mono ?_
  rintro e w1 ⟨rfl, rfl⟩
  go_wp2
  go_loop [5, 12] (fun p i => ∃ k : Nat, k ≤ n ∧ i = .int .i64 k ∧ p = .int .i64 (eightN k)) (fun _ i => n - (intOf i).toNat)
  case atStart => exact ⟨0, Nat.zero_le _, rfl, rfl⟩
  case round =>
    obtain ⟨k, hk, rfl, rfl⟩ := hrel
    by_cases hlt : k < n
    · have h1 := HB.out (k + 1) (by omega)
      have h2 := HB.out k (by omega)
      have HS : Hid (eightN (k + 1) = eightN k * 8) := rfl
      rw [HS.out] at h1
      go_wp2
      go_round
      case rel => exact ⟨k + 1, by omega, by go_num, by rw [HS.out]⟩
      case measure => simp [intOf]; omega
    · obtain rfl : k = n := by omega
      go_wp2
      go_ret2
      exact ⟨rfl, rfl⟩
theorem wall_wrong (u : Int) (hu : ¬ (0 ≤ u ∧ u ≤ 6)) (w : World) : Calls Tryz.prog 10 #[.int .i64 u] w fun e w' => e = .returned (.tuple #[.int .i64 0, .iface 61 (.int .i64 1)]) ∧ w' = w := by
  have HCk : Hid (∀ W, Calls Tryz.prog 27 #[.int .i64 u] W fun e w' => e = .returned (.iface 61 (.int .i64 1)) ∧ W = w') := fun W => wcheck_no u hu W
  clear hu
  go_enter Tryz.func10, Tryz.ntmps10
  go_wp2_with fail
  go_at_call 27
  refine (HCk.out _).mono ?_
  rintro e w1 ⟨rfl, rfl⟩
  go_wp2
  go_ret2
  exact ⟨rfl, rfl⟩
/-- how many worlds there are. -/
theorem worldsAll_any (u : Int) (w : World) : Calls Tryz.prog 10 #[.int .i64 u] w fun e w' => e = .returned (.tuple #[.int .i64 (allW u), errV (allFault u)]) ∧ Below w.heap.size w w' := by
  by_cases hu : 0 ≤ u ∧ u ≤ 6
  · obtain ⟨n, rfl⟩ := Int.eq_ofNat_of_zero_le hu.1
    refine (wall_right n (by omega) w).mono ?_
    rintro e w' ⟨rfl, rfl⟩
    unfold allW allFault
    rw [if_pos hu, if_pos hu]
    exact ⟨rfl, Below.refl _ _⟩
  · refine (wall_wrong u hu w).mono ?_
    rintro e w' ⟨rfl, rfl⟩
    unfold allW allFault
    rw [if_neg hu, if_neg hu]
    exact ⟨rfl, Below.refl _ _⟩

set_option maxHeartbeats 4000000 in
/-- how many worlds have so many things in each field. -/
theorem walike_any (N : Nat → Int) (h0 : countsFault N = 0) (w : World) :
    Calls Tryz.prog 29 #[.agg #[.int .i64 (N 0), .int .i64 (N 1), .int .i64 (N 2), .int .i64 (N 3), .int .i64 (N 4), .int .i64 (N 5), .int .i64 (N 6), .int .i64 (N 7)]] w fun e w' => e = .returned (.int .i64 (likeN N)) ∧ Below w.heap.size w w' := by
  obtain ⟨hlk, hlay⟩ := lay_right h0
  have HLK : Hid (layTo N 8 = likeN N) := hlk
  have HLY : Hid (∀ i, i < 8 → 0 ≤ sumN N i ∧ sumN N i + N i ≤ 6 ∧ ∀ k : Nat, (k : Int) ≤ N i → 0 ≤ fillN (layTo N i) (sumN N i) k ∧ fillN (layTo N i) (sumN N i) k ≤ 720) := hlay
  have HN : Hid (∀ f, f < 8 → 0 ≤ N f ∧ N f ≤ 6) := (counts_zero.1 h0).1
  clear h0 hlk hlay
  obtain ⟨w1, hw1⟩ : ∃ w1, w1 = w.alloc (.cells #[.int .i64 (N 0), .int .i64 (N 1), .int .i64 (N 2), .int .i64 (N 3), .int .i64 (N 4), .int .i64 (N 5), .int .i64 (N 6), .int .i64 (N 7)] 64) := ⟨_, rfl⟩
  have HB1 : Hid (Below w.heap.size w w1) := by unfold Hid; rw [hw1]; exact below_alloc1 _ _
  have HK1 : Hid (∀ k, k < 8 → w1.cell? ⟨w.heap.size, k, none⟩ = some (.int .i64 (N k))) := fun k hk => by
    have hb : Blk w1 w.heap.size 64 (arr8 N) := by rw [hw1]; exact Blk.new _ _ _
    rw [hb.cell, arr8_get _ hk]
  go_enter Tryz.func29, Tryz.ntmps29
  go_wp2_with fail
  rw [← hw1]
  clear hw1
  go_loop [3, 4, 7] (fun m p i => ∃ k : Nat, k ≤ 8 ∧ i = .int .i64 k ∧ m = .int .i64 (layTo N k) ∧ p = .int .i64 (sumN N k)) (fun _ _ i => 8 - (intOf i).toNat)
  case atStart => exact ⟨0, Nat.zero_le _, rfl, rfl, rfl⟩
  case round =>
    obtain ⟨k, hk, rfl, rfl, rfl⟩ := hrel
    by_cases hlt : k < 8
    · have c := HK1.out k hlt
      have hN := HN.out k hlt
      obtain ⟨hp0, hp1, hf⟩ := HLY.out k hlt
      obtain ⟨n, hn⟩ : ∃ n : Nat, N k = n := ⟨(N k).toNat, by omega⟩
      have HLk : Hid (layTo N (k + 1) = fillN (layTo N k) (sumN N k) n) := by unfold Hid; rw [lay_step, hn]; rfl
      have HSk : Hid (sumN N (k + 1) = sumN N k + n) := by unfold Hid; rw [← hn]; rfl
      rw [hn] at c hN hp1 hf
      obtain ⟨m, hm⟩ : ∃ m, m = layTo N k := ⟨_, rfl⟩
      obtain ⟨p, hp⟩ : ∃ p, p = sumN N k := ⟨_, rfl⟩
      rw [← hm, ← hp] at HLk
      rw [← hp] at HSk hp0 hp1
      rw [← hm, ← hp] at hf ⊢
      have HF : Hid (∀ j : Nat, (j : Int) ≤ n → 0 ≤ fillN m p j ∧ fillN m p j ≤ 720) := hf
      have HF0 : Hid (fillN m p 0 = m) := rfl
      clear hm hp hn hN hf
      have hn6 : n ≤ 6 := by omega
      go_wp2
      go_loop [3, 4, 13] (fun x q i => ∃ j : Nat, j ≤ n ∧ i = .int .i64 j ∧ x = .int .i64 (fillN m p j) ∧ q = .int .i64 (p + j)) (fun _ _ i => n - (intOf i).toNat)
      case atStart => exact ⟨0, Nat.zero_le _, rfl, rfl, by simp⟩
      case round =>
        obtain ⟨j, hj, rfl, rfl, rfl⟩ := hrel
        by_cases hl2 : j < n
        · have h1 := HF.out j (by omega)
          have h2 := HF.out (j + 1) (by omega)
          have HS : Hid (fillN m p (j + 1) = (fillN m p j * (p + j + 1)).tdiv ((j : Int) + 1)) := rfl
          rw [HS.out] at h2
          obtain ⟨y, hy⟩ : ∃ y, y = fillN m p j := ⟨_, rfl⟩
          rw [← hy] at HS h1 h2 ⊢
          have hq : 0 ≤ y * (p + j + 1) := Int.mul_nonneg h1.1 (by omega)
          have hq2 : y * (p + j + 1) ≤ 720 * 6 := Int.mul_le_mul h1.2 (by omega) (by omega) (by omega)
          have hz : ¬ ((j : Int) + 1 = 0) := by omega
          clear hy
          go_wp2
          go_round
          case rel => exact ⟨j + 1, by omega, by go_num, by rw [HS.out], by go_num⟩
          case measure => simp [intOf]; omega
        · obtain rfl : j = n := by omega
          go_wp2
          go_round
          case rel => exact ⟨k + 1, by omega, by go_num, by rw [HLk.out], by rw [HSk.out]⟩
          case measure => simp [intOf]; omega
    · obtain rfl : k = 8 := by omega
      go_wp2
      go_ret
      exact ⟨back_i HLK.out, HB1.out⟩
end Go.Proofs.YtgkgbpbohgklhafGreatDoor

namespace Go.Proofs.YtgkgbpbohgklhafGreatDoor
open Go.ChangeShapes Go.WideShapes Go.ChangeAt Go.RowKit

theorem or_one (x : Bool) : bits .or .i64 0 (wrap64 (oneB x)) = oneB x := by cases x <;> decide +kernel
theorem or_two (x y : Bool) : bits .or .i64 (oneB x) (wrap64 (oneB y * 2)) = oneB x + 2 * oneB y := by cases x <;> cases y <;> decide +kernel
theorem or_three (x y z : Bool) : bits .or .i64 (oneB x + 2 * oneB y) (wrap64 (oneB z * 4)) = oneB x + 2 * oneB y + 4 * oneB z := by cases x <;> cases y <;> cases z <;> decide +kernel
theorem field_int (w : Wd) (i : Nat) : (w.field i : Int) = oneB (hasB w.a i) + 2 * oneB (hasB w.b i) + 4 * oneB (hasB w.c i) := by
  unfold Wd.field
  cases hasB w.a i <;> cases hasB w.b i <;> cases hasB w.c i <;> decide

set_option maxRecDepth 100000 in
set_option maxHeartbeats 4000000 in
theorem lies_any (u a b c : Int) (i : Nat) (hok : (Wd.mk u a b c).ok = true) (hi : (i : Int) < u) (w : World) :
    Calls Tryz.prog 52 #[.agg #[.int .i64 u, .int .i64 a, .int .i64 b, .int .i64 c], .int .i64 i] w fun e w' => e = .returned (.int .i64 ((Wd.mk u a b c).field i)) ∧ Below w.heap.size w w' := by
  obtain ⟨w1, hw1⟩ : ∃ w1, w1 = w.alloc (.cells #[.int .i64 u, .int .i64 a, .int .i64 b, .int .i64 c] 37) := ⟨_, rfl⟩
  have HW : Hid (Below w.heap.size w w1) := by unfold Hid; rw [hw1]; exact below_alloc1 _ _
  have x0 : w1.cell? ⟨w.heap.size, 0, none⟩ = some (.int .i64 u) := by rw [hw1]; simp
  have x1 : w1.cell? ⟨w.heap.size, 1, none⟩ = some (.int .i64 a) := by rw [hw1]; simp
  have x2 : w1.cell? ⟨w.heap.size, 2, none⟩ = some (.int .i64 b) := by rw [hw1]; simp
  have x3 : w1.cell? ⟨w.heap.size, 3, none⟩ = some (.int .i64 c) := by rw [hw1]; simp
  obtain ⟨h1, h2, h3⟩ := Wd.ok_iff.1 hok
  obtain ⟨u0, u6, a0, a6⟩ := okB_lt h1
  obtain ⟨_, _, b0, b6⟩ := okB_lt h2
  obtain ⟨_, _, c0, c6⟩ := okB_lt h3
  simp only at u0 u6 a0 a6 b0 b6 c0 c6
  have hi6 : i < 6 := by omega
  have HB : Hid (bits .and .i64 (a / 2 ^ i) 1 = oneB (hasB a i) ∧ bits .and .i64 (b / 2 ^ i) 1 = oneB (hasB b i) ∧ bits .and .i64 (c / 2 ^ i) 1 = oneB (hasB c i)) := ⟨bit_at a i a0 (by omega) (by omega), bit_at b i b0 (by omega) (by omega), bit_at c i c0 (by omega) (by omega)⟩
  have HF : Hid (((Wd.mk u a b c).field i : Int) = oneB (hasB a i) + 2 * oneB (hasB b i) + 4 * oneB (hasB c i)) := field_int _ _
  clear hok h1 h2 h3 hi
  go_enter Tryz.func52, Tryz.ntmps52
  go_wp2
  rw [← hw1]
  clear hw1
  go_loop [5, 7] (fun s j => (j = .int .i64 0 ∧ s = .int .i64 0) ∨ (j = .int .i64 1 ∧ s = .int .i64 (oneB (hasB a i))) ∨ (j = .int .i64 2 ∧ s = .int .i64 (oneB (hasB a i) + 2 * oneB (hasB b i))) ∨ (j = .int .i64 3 ∧ s = .int .i64 (oneB (hasB a i) + 2 * oneB (hasB b i) + 4 * oneB (hasB c i)))) (fun _ i => 3 - (intOf i).toNat)
  case atStart => exact Or.inl ⟨rfl, rfl⟩
  case round =>
    rcases hrel with ⟨rfl, rfl⟩ | ⟨rfl, rfl⟩ | ⟨rfl, rfl⟩ | ⟨rfl, rfl⟩
    · go_wp2
      go_round
      case rel => exact Or.inr (Or.inl ⟨rfl, by rw [HB.out.1, or_one]⟩)
      case measure => simp [intOf]
    · go_wp2
      go_round
      case rel => exact Or.inr (Or.inr (Or.inl ⟨rfl, by rw [HB.out.2.1, or_two]⟩))
      case measure => simp [intOf]
    · go_wp2
      go_round
      case rel => exact Or.inr (Or.inr (Or.inr ⟨rfl, by rw [HB.out.2.2, or_three]⟩))
      case measure => simp [intOf]
    · go_wp2
      go_ret
      exact ⟨back_i HF.out.symm, HW.out⟩

end Go.Proofs.YtgkgbpbohgklhafGreatDoor

namespace Go.Proofs.YtgkgbpbohgklhafGreatDoor
open Go.ChangeShapes Go.WideShapes Go.ChangeAt Go.RowKit

/-- how many lie in each field; none, if the world is wrong. -/
def Wd.cts (w : Wd) : Nat → Int := if w.ok = true then w.fc w.u.toNat else fun _ => 0
/-- what is wrong with a world. -/
def Wd.wrong (w : Wd) : Int := if w.ok = true then 0 else 1

set_option maxRecDepth 100000 in
set_option maxHeartbeats 4000000 in
theorem of_wrong (u a b c : Int) (w : World) (ho : (Wd.mk u a b c).ok = false) :
    Calls Tryz.prog 28 #[.agg #[.int .i64 u, .int .i64 a, .int .i64 b, .int .i64 c]] w fun e w' => e = .returned (.tuple #[.agg (arr8 fun _ => 0), .iface 61 (.int .i64 1)]) ∧ Below w.heap.size w w' := by
  obtain ⟨Z, hZ⟩ : ∃ Z : Nat → Int, Z = fun _ => 0 := ⟨_, rfl⟩
  rw [← hZ]
  obtain ⟨w1, hw1⟩ : ∃ w1, w1 = ((w.alloc (.cells #[.int .i64 u, .int .i64 a, .int .i64 b, .int .i64 c] 37)).alloc (.cells #[.int .i64 0, .int .i64 0, .int .i64 0, .int .i64 0, .int .i64 0, .int .i64 0, .int .i64 0, .int .i64 0] 64)).alloc (.cells #[.int .i64 0, .int .i64 0, .int .i64 0, .int .i64 0, .int .i64 0, .int .i64 0, .int .i64 0, .int .i64 0] 64) := ⟨_, rfl⟩
  have HW : Hid (Below w.heap.size w w1) := by unfold Hid; rw [hw1]; exact ((below_alloc1 _ _).alloc (by simp) _).alloc (by simp; omega) _
  have HK0 : Hid (Blk w1 w.heap.size 37 (arrW (Wd.mk u a b c))) := by unfold Hid; rw [hw1]; exact ((Blk.new _ _ _).old _).old _
  have HK1 : Hid (Blk w1 (w.heap.size + 1) 64 (arr8 Z)) := by
    unfold Hid; rw [hw1, hZ]
    have := Blk.new (w.alloc (.cells #[.int .i64 u, .int .i64 a, .int .i64 b, .int .i64 c] 37)) 64 (arr8 fun _ => 0)
    simp only [World.size_alloc] at this
    exact this.old _
  have HK2 : Hid (Blk w1 (w.heap.size + 1 + 1) 64 (arr8 Z)) := by
    unfold Hid; rw [hw1, hZ]
    have := Blk.new ((w.alloc (.cells #[.int .i64 u, .int .i64 a, .int .i64 b, .int .i64 c] 37)).alloc (.cells (arr8 fun _ => 0) 64)) 64 (arr8 fun _ => 0)
    simp only [World.size_alloc] at this
    exact this
  have HC : Hid (Calls Tryz.prog 44 #[.agg #[.int .i64 u, .int .i64 a, .int .i64 b, .int .i64 c]] w1 fun e w' => e = .returned (.iface 61 (.int .i64 1)) ∧ Below w1.heap.size w1 w') := by
    have := checkWorld_any u a b c w1
    rw [if_neg (by rw [ho]; decide)] at this
    exact this
  clear ho hZ
  obtain ⟨x0, x1, x2, x3⟩ := HK0.out.cells4
  go_enter Tryz.func28, Tryz.ntmps28
  go_wp2_with fail
  rw [← hw1]
  clear hw1
  go_wp2_with fail
  go_at_call 44
  refine HC.out.mono ?_
  rintro e w2 ⟨rfl, hb⟩
  have HB : Hid (Below w.heap.size w w2) := HW.out.trans (hb.mono HW.out.size)
  have HR : Hid (Blk w2 (w.heap.size + 1) 64 (arr8 Z)) := HK1.out.below hb
  have HN : Hid (Blk w2 (w.heap.size + 1 + 1) 64 (arr8 Z)) := HK2.out.below hb
  clear hb x0 x1 x2 x3
  obtain ⟨n0, n1, n2, n3, n4, n5, n6, n7⟩ := HN.out.cells8
  obtain ⟨r0, r1, r2, r3, r4, r5, r6, r7⟩ := HR.out.cells8
  obtain ⟨f0, f1, f2, f3, f4, f5, f6, f7⟩ := HR.out.frozen8
  go_wp2
  have hld := load8 (put8_blk HR.out Z)
  refine bodyPost_ret (v := .tuple #[.agg (arr8 Z), .iface 61 (.int .i64 1)]) ?_ rfl ⟨rfl, ?_⟩
  · rw [results_cell_tmp rfl]
    unfold put8 at hld
    simp [asAddr, Result.andThen, hld]
  · exact put8_below HB.out (by omega) _

set_option maxRecDepth 100000 in
set_option maxHeartbeats 4000000 in
theorem of_right (n : Nat) (a b c : Int) (w : World) (ho : (Wd.mk n a b c).ok = true) :
    Calls Tryz.prog 28 #[.agg #[.int .i64 n, .int .i64 a, .int .i64 b, .int .i64 c]] w fun e w' => e = .returned (.tuple #[.agg (arr8 ((Wd.mk n a b c).fc n)), .nilIface]) ∧ Below w.heap.size w w' := by
  obtain ⟨Z, hZ⟩ : ∃ Z : Nat → Int, Z = fun _ => 0 := ⟨_, rfl⟩
  obtain ⟨w1, hw1⟩ : ∃ w1, w1 = ((w.alloc (.cells #[.int .i64 n, .int .i64 a, .int .i64 b, .int .i64 c] 37)).alloc (.cells #[.int .i64 0, .int .i64 0, .int .i64 0, .int .i64 0, .int .i64 0, .int .i64 0, .int .i64 0, .int .i64 0] 64)).alloc (.cells #[.int .i64 0, .int .i64 0, .int .i64 0, .int .i64 0, .int .i64 0, .int .i64 0, .int .i64 0, .int .i64 0] 64) := ⟨_, rfl⟩
  have HW : Hid (Below w.heap.size w w1) := by unfold Hid; rw [hw1]; exact ((below_alloc1 _ _).alloc (by simp) _).alloc (by simp; omega) _
  have HK0 : Hid (Blk w1 w.heap.size 37 (arrW (Wd.mk n a b c))) := by unfold Hid; rw [hw1]; exact ((Blk.new _ _ _).old _).old _
  have HK1 : Hid (Blk w1 (w.heap.size + 1) 64 (arr8 Z)) := by
    unfold Hid; rw [hw1, hZ]
    have := Blk.new (w.alloc (.cells #[.int .i64 n, .int .i64 a, .int .i64 b, .int .i64 c] 37)) 64 (arr8 fun _ => 0)
    simp only [World.size_alloc] at this
    exact this.old _
  have HK2 : Hid (Blk w1 (w.heap.size + 1 + 1) 64 (arr8 Z)) := by
    unfold Hid; rw [hw1, hZ]
    have := Blk.new ((w.alloc (.cells #[.int .i64 n, .int .i64 a, .int .i64 b, .int .i64 c] 37)).alloc (.cells (arr8 fun _ => 0) 64)) 64 (arr8 fun _ => 0)
    simp only [World.size_alloc] at this
    exact this
  have HC : Hid (Calls Tryz.prog 44 #[.agg #[.int .i64 n, .int .i64 a, .int .i64 b, .int .i64 c]] w1 fun e w' => e = .returned .nilIface ∧ Below w1.heap.size w1 w') := by
    have := checkWorld_any n a b c w1
    rw [if_pos ho] at this
    exact this
  have hn6 : n ≤ 6 := by have := (ok_u ho).2; simp only at this; omega
  have HL : Hid (∀ (k : Nat) W, k < n → Calls Tryz.prog 52 #[.agg #[.int .i64 n, .int .i64 a, .int .i64 b, .int .i64 c], .int .i64 k] W fun e w' => e = .returned (.int .i64 ((Wd.mk n a b c).field k)) ∧ Below W.heap.size W w') := fun k W hk => lies_any n a b c k ho (by omega) W
  obtain ⟨D, hD⟩ : ∃ D, D = Wd.mk n a b c := ⟨_, rfl⟩
  rw [← hD] at HK0 HL ⊢
  have hDu : D.u = n := by rw [hD]
  have hDa : D.a = a := by rw [hD]
  have hDb : D.b = b := by rw [hD]
  have hDc : D.c = c := by rw [hD]
  have HDD : Hid (D.u = n ∧ D.a = a ∧ D.b = b ∧ D.c = c) := ⟨hDu, hDa, hDb, hDc⟩
  have HZ : Hid (arr8 Z = arr8 (D.fc 0)) := by unfold Hid; rw [hZ]; rfl
  clear ho hD hDu hDa hDb hDc hZ
  have HX : Hid (∀ W, Blk W w.heap.size 37 (arrW D) → W.cell? ⟨w.heap.size, 0, none⟩ = some (.int .i64 n) ∧ W.cell? ⟨w.heap.size, 1, none⟩ = some (.int .i64 a) ∧ W.cell? ⟨w.heap.size, 2, none⟩ = some (.int .i64 b) ∧ W.cell? ⟨w.heap.size, 3, none⟩ = some (.int .i64 c)) := fun W h => by
    have := h.cells4
    rw [HDD.out.1, HDD.out.2.1, HDD.out.2.2.1, HDD.out.2.2.2] at this
    exact this
  obtain ⟨x0, x1, x2, x3⟩ := HX.out _ HK0.out
  go_enter Tryz.func28, Tryz.ntmps28
  go_wp2_with fail
  rw [← hw1]
  clear hw1
  go_wp2_with fail
  go_at_call 44
  refine HC.out.mono ?_
  rintro e w2 ⟨rfl, hb⟩
  have HB : Hid (Below w.heap.size w w2) := HW.out.trans (hb.mono HW.out.size)
  have HP : Hid (Blk w2 w.heap.size 37 (arrW D)) := HK0.out.below hb
  have HR : Hid (Blk w2 (w.heap.size + 1) 64 (arr8 Z)) := HK1.out.below hb
  have HN : Hid (Blk w2 (w.heap.size + 1 + 1) 64 (arr8 Z)) := HK2.out.below hb
  clear hb x0 x1 x2 x3
  obtain ⟨x0, x1, x2, x3⟩ := HX.out _ HP.out
  go_wp2
  clear x0 x1 x2 x3
  go_loopw [15] (fun i wr => ∃ k : Nat, k ≤ n ∧ i = .int .i64 k ∧ Below w.heap.size w wr ∧ Blk wr w.heap.size 37 (arrW D) ∧ Blk wr (w.heap.size + 1) 64 (arr8 Z) ∧ Blk wr (w.heap.size + 1 + 1) 64 (arr8 (D.fc k))) (fun i _ => n - (intOf i).toNat)
  case atStart => exact ⟨0, Nat.zero_le _, rfl, HB.out, HP.out, HR.out, by rw [← HZ.out]; exact HN.out⟩
  case round =>
    obtain ⟨k, hk, rfl, hb, hp, hr, hn⟩ := hrel
    have HB1 : Hid (Below w.heap.size w wr) := hb
    have HP1 : Hid (Blk wr w.heap.size 37 (arrW D)) := hp
    have HR1 : Hid (Blk wr (w.heap.size + 1) 64 (arr8 Z)) := hr
    have HN1 : Hid (Blk wr (w.heap.size + 1 + 1) 64 (arr8 (D.fc k))) := hn
    clear hb hp hr hn
    by_cases hlt : k < n
    · obtain ⟨x0, x1, x2, x3⟩ := HX.out _ HP1.out
      have hf8 := field_lt D k
      have HLk : Hid (Calls Tryz.prog 52 #[.agg #[.int .i64 n, .int .i64 a, .int .i64 b, .int .i64 c], .int .i64 k] wr fun e w' => e = .returned (.int .i64 (D.field k)) ∧ Below wr.heap.size wr w') := HL.out k wr hlt
      obtain ⟨f, hf⟩ : ∃ f, f = D.field k := ⟨_, rfl⟩
      rw [← hf] at hf8 HLk
      have HF : Hid (f = D.field k) := hf
      clear hf
      go_wp2_with fail
      go_at_call 52
      refine HLk.out.mono ?_
      rintro e w3 ⟨rfl, hb⟩
      have HB3 : Hid (Below w.heap.size w w3) := HB1.out.trans (hb.mono HB1.out.size)
      have HP3 : Hid (Blk w3 w.heap.size 37 (arrW D)) := HP1.out.below hb
      have HR3 : Hid (Blk w3 (w.heap.size + 1) 64 (arr8 Z)) := HR1.out.below hb
      have hn3 : Blk w3 (w.heap.size + 1 + 1) 64 (arr8 (D.fc k)) := HN1.out.below hb
      clear hb x0 x1 x2 x3
      have c3 : w3.cell? ⟨w.heap.size + 1 + 1, f, none⟩ = some (.int .i64 (D.fc k f)) := by rw [hn3.cell, arr8_get _ hf8]
      have z3 := hn3.frozen f
      have p3 := fc_le D k f
      have HE : Hid (Blk (w3.setCell ⟨w.heap.size + 1 + 1, f, none⟩ (.int .i64 (D.fc k f + 1))) (w.heap.size + 1 + 1) 64 (arr8 (D.fc (k + 1)))) := by
        have := hn3.set f (.int .i64 (D.fc k f + 1))
        rw [arr8_one _ hf8] at this
        have e : (fun g => D.fc k g + if f = g then 1 else 0) = D.fc (k + 1) := by
          funext g; show _ = D.fc k g + _; rw [HF.out]
        rw [e] at this
        exact this
      clear hn3
      go_wp2
      go_roundw
      case rel => exact ⟨k + 1, by omega, by go_num, HB3.out.setCell (by simp; omega) _, HP3.out.far (by omega) _ _, HR3.out.far (by omega) _ _, HE.out⟩
      case measure => simp [intOf]; omega
    · obtain rfl : k = n := by omega
      obtain ⟨n0, n1, n2, n3, n4, n5, n6, n7⟩ := HN1.out.cells8
      obtain ⟨r0, r1, r2, r3, r4, r5, r6, r7⟩ := HR1.out.cells8
      obtain ⟨f0, f1, f2, f3, f4, f5, f6, f7⟩ := HR1.out.frozen8
      go_wp2
      have hld := load8 (put8_blk HR1.out (D.fc k))
      refine bodyPost_ret (v := .tuple #[.agg (arr8 (D.fc k)), .nilIface]) ?_ rfl ⟨rfl, ?_⟩
      · rw [results_cell_tmp rfl]
        unfold put8 at hld
        simp [asAddr, Result.andThen, hld]
      · exact put8_below HB1.out (by omega) _

/-- Of, whatever the world. -/
theorem fieldsOf_any (u a b c : Int) (w : World) :
    Calls Tryz.prog 28 #[.agg #[.int .i64 u, .int .i64 a, .int .i64 b, .int .i64 c]] w fun e w' => e = .returned (.tuple #[.agg (arr8 (Wd.mk u a b c).cts), errV (Wd.mk u a b c).wrong]) ∧ Below w.heap.size w w' := by
  rcases (Bool.eq_false_or_eq_true (Wd.mk u a b c).ok).symm with ho | ho
  · unfold Wd.cts Wd.wrong
    rw [if_neg (by rw [ho]; decide), if_neg (by rw [ho]; decide)]
    exact of_wrong u a b c w ho
  · unfold Wd.cts Wd.wrong
    rw [if_pos ho, if_pos ho]
    obtain ⟨n, rfl⟩ := Int.eq_ofNat_of_zero_le (ok_u ho).1
    exact of_right n a b c w ho
end Go.Proofs.YtgkgbpbohgklhafGreatDoor

namespace Go.Proofs.YtgkgbpbohgklhafGreatDoor
open Go.ChangeShapes Go.WideShapes Go.ChangeAt Go.RowKit

theorem ones64_any (x : Int) (h0 : 0 ≤ x) (h1 : x < 64) (w : World) :
    Calls Tryz.prog 105 #[.int .u64 x] w fun e w' => e = .returned (.int .i64 (pcN x)) ∧ w = w' := by
  go_enter Tryz.func105, Tryz.ntmps105
  go_wp2
  go_ret
  refine ⟨ret_int ?_, rfl⟩
  revert h1 h0
  intro h0 h1
  obtain ⟨n, rfl⟩ := Int.eq_ofNat_of_zero_le h0
  have h : n < 64 := by omega
  clear h0 h1
  revert n
  decide +kernel

theorem ones_any (x : Int) (h0 : 0 ≤ x) (h1 : x < 64) (w : World) :
    Calls Tryz.prog 90 #[.int .u64 x] w fun e w' => e = .returned (.int .i64 (pcN x)) ∧ w = w' := by
  go_enter Tryz.func90, Tryz.ntmps90
  go_wp2_with (go_at_call 105; refine (ones64_any _ h0 h1 _).mono ?_; rintro e w' ⟨rfl, rfl⟩)
  go_ret
  exact ⟨rfl, rfl⟩
end Go.Proofs.YtgkgbpbohgklhafGreatDoor
