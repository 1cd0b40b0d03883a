/-
  Plain facts on the core of some formulas: they are not open, and without any one of them they are (chapter 13). No program is read here.
  Plain facts on formulas as bits: which hold, which are left, which are enough (chapter 13). No program is read here.
  Proved: what form.made and form.work return, of a right Code and which atoms hold; what was in memory is as it was (contracts that the statements lean on).
  Proved: what form.work returns, of a right Code and which atoms hold: whether the pile's last holds; what was in memory is as it was (a contract that the statements lean on).
  Proved: what math/bits.OnesCount returns, of a number of at most six bits, and that it leaves memory as it was (a contract that the statements lean on).
-/
import Derived.Test.YtjaedfjfcghgcaaDoorLibA5
import Derived.Test.YtjaedfjfcghgcaaDoorLibA6
import Derived.Test.YtjaedfjfcghgcaaDoorLibA14
import Derived.Test.YtjaedfjfcghgcaaDoorLibA7
import Derived.Deep.RegionHeld3
import Derived.Deep.AppendLies
namespace Go.Proofs.YtjaedfjfcghgcaaDoor
open Go.RowKit

theorem leftTo_mem {fs : List Fm} {g : Nat → Bool} {f : Fm} : ∀ k, k ≤ fs.length → (f ∈ leftTo fs g k ↔ ∃ j, j < k ∧ g j = false ∧ fs[j]? = some f) := by
  intro k
  induction k with
  | zero => intro _; exact ⟨fun h => by simp [leftTo] at h, fun ⟨j, h, _⟩ => by omega⟩
  | succ k ih =>
    intro hk
    unfold leftTo
    rw [List.mem_append, ih (by omega), List.getElem?_eq_getElem (show k < fs.length by omega)]
    constructor
    · rintro (⟨j, h1, h2, h3⟩ | h)
      · exact ⟨j, by omega, h2, h3⟩
      · cases hg : g k
        · rw [hg] at h
          simp at h
          exact ⟨k, by omega, hg, by rw [List.getElem?_eq_getElem (by omega), h]⟩
        · rw [hg] at h; simp at h
    · rintro ⟨j, h1, h2, h3⟩
      rcases Nat.lt_or_ge j k with h | h
      · exact Or.inl ⟨j, h, h2, h3⟩
      · obtain rfl : j = k := by omega
        right
        rw [h2]
        rw [List.getElem?_eq_getElem (by omega)] at h3
        simp at h3
        simp [h3]
theorem putG_same (g : Nat → Bool) (i : Nat) (b : Bool) : putG g i b i = b := by unfold putG; simp
theorem putG_other (g : Nat → Bool) {i k : Nat} (b : Bool) (h : k ≠ i) : putG g i b k = g k := by unfold putG; simp [h]
theorem goneTo_succ (fs : List Fm) (u i : Nat) : goneTo fs u (i + 1) = if openN (leftF fs (putG (goneTo fs u i) i true)) u = true then putG (goneTo fs u i) i false else putG (goneTo fs u i) i true := rfl
theorem coreTo_succ (fs : List Fm) (u i : Nat) : coreTo fs u (i + 1) = if openN (leftF fs (putG (goneTo fs u i) i true)) u = true then coreTo fs u i ++ [(i : Int)] else coreTo fs u i := rfl
theorem goneTo_far (fs : List Fm) (u : Nat) : ∀ i k, i ≤ k → goneTo fs u i k = false := by
  intro i
  induction i with
  | zero => intro k _; rfl
  | succ i ih =>
    intro k hk
    rw [goneTo_succ]
    split
    · rw [putG_other _ _ (by omega)]; exact ih k (by omega)
    · rw [putG_other _ _ (by omega)]; exact ih k (by omega)
theorem goneTo_keep (fs : List Fm) (u : Nat) : ∀ d i k, k < i → goneTo fs u (i + d) k = goneTo fs u i k := by
  intro d
  induction d with
  | zero => intro i k _; rfl
  | succ d ih =>
    intro i k hk
    rw [← ih i k hk, show i + (d + 1) = i + d + 1 by omega, goneTo_succ]
    split
    · rw [putG_other _ _ (by omega)]
    · rw [putG_other _ _ (by omega)]
/-- what is left is never open, if all together are not. -/
theorem left_closed {fs : List Fm} {u : Nat} (h : openN fs u = false) : ∀ i, i ≤ fs.length → openN (leftF fs (goneTo fs u i)) u = false := by
  intro i
  induction i with
  | zero =>
    intro _
    have hsub : ∀ f ∈ fs, f ∈ leftF fs (goneTo fs u 0) := fun f hf => by
      obtain ⟨j, hj⟩ := List.mem_iff_getElem?.1 hf
      exact (leftTo_mem fs.length (Nat.le_refl _)).2 ⟨j, (List.getElem?_eq_some_iff.1 hj).1, rfl, hj⟩
    cases e : openN (leftF fs (goneTo fs u 0)) u
    · rfl
    · rw [open_less hsub e] at h; exact absurd h (by decide)
  | succ i ih =>
    intro hi
    have ih := ih (by omega)
    rw [goneTo_succ]
    split
    · rename_i ho
      have hsame : putG (goneTo fs u i) i false = goneTo fs u i := by
        funext k
        by_cases hk : k = i
        · rw [hk, putG_same, goneTo_far fs u i i (Nat.le_refl _)]
        · rw [putG_other _ _ hk]
      rw [hsame]; exact ih
    · rename_i ho
      simpa using ho
/-- without any one that is kept the others are open. -/
theorem left_less {fs : List Fm} {u : Nat} {i : Nat} (hi : i < fs.length) (hk : goneTo fs u fs.length i = false) {gs : List Fm} (hgs : ∀ f ∈ gs, ∃ j, j < fs.length ∧ j ≠ i ∧ goneTo fs u fs.length j = false ∧ fs[j]? = some f) : openN gs u = true := by
  have e1 : goneTo fs u (i + 1) i = false := by
    have := goneTo_keep fs u (fs.length - (i + 1)) (i + 1) i (by omega)
    rw [show i + 1 + (fs.length - (i + 1)) = fs.length by omega] at this
    rw [← this]; exact hk
  have ho : openN (leftF fs (putG (goneTo fs u i) i true)) u = true := by
    cases ho : openN (leftF fs (putG (goneTo fs u i) i true)) u
    · have : goneTo fs u (i + 1) i = true := by
        rw [goneTo_succ, if_neg (by rw [ho]; decide), putG_same]
      rw [this] at e1; exact absurd e1 (by decide)
    · rfl
  refine open_less (fun f hf => ?_) ho
  obtain ⟨j, hj, hji, hjk, hfj⟩ := hgs f hf
  refine (leftTo_mem fs.length (Nat.le_refl _)).2 ⟨j, hj, ?_, hfj⟩
  rw [putG_other _ _ hji]
  rcases Nat.lt_or_ge j i with h | h
  · have := goneTo_keep fs u (fs.length - i) i j h
    rw [show i + (fs.length - i) = fs.length by omega] at this
    rw [← this]; exact hjk
  · exact goneTo_far fs u i j h
/-- the core are the places of those that are kept, rising. -/
theorem core_mem {fs : List Fm} {u : Nat} : ∀ i, i ≤ fs.length → (coreTo fs u i).Pairwise (· < ·) ∧ ∀ x : Int, x ∈ coreTo fs u i ↔ ∃ j : Nat, j < i ∧ x = j ∧ goneTo fs u i j = false := by
  intro i
  induction i with
  | zero => intro _; exact ⟨List.Pairwise.nil, fun x => ⟨fun h => (by cases h), fun ⟨j, h, _⟩ => by omega⟩⟩
  | succ i ih =>
    intro hi
    obtain ⟨h1, h2⟩ := ih (by omega)
    have hlow : ∀ j, j < i → goneTo fs u (i + 1) j = goneTo fs u i j := fun j hj => goneTo_keep fs u 1 i j hj
    cases ho : openN (leftF fs (putG (goneTo fs u i) i true)) u
    · have ec : coreTo fs u (i + 1) = coreTo fs u i := by rw [coreTo_succ, if_neg (by rw [ho]; decide)]
      have eg : goneTo fs u (i + 1) i = true := by
        rw [goneTo_succ, if_neg (by rw [ho]; decide), putG_same]
      rw [ec]
      refine ⟨h1, fun x => ?_⟩
      rw [h2 x]
      constructor
      · rintro ⟨j, a, b, c⟩; exact ⟨j, by omega, b, by rw [hlow j a]; exact c⟩
      · rintro ⟨j, a, b, c⟩
        rcases Nat.lt_or_ge j i with h | h
        · exact ⟨j, h, b, by rw [← hlow j h]; exact c⟩
        · obtain rfl : j = i := by omega
          rw [eg] at c; exact absurd c (by decide)
    · have ec : coreTo fs u (i + 1) = coreTo fs u i ++ [(i : Int)] := by rw [coreTo_succ, if_pos ho]
      have eg : goneTo fs u (i + 1) i = false := by
        rw [goneTo_succ, if_pos ho, putG_same]
      rw [ec]
      refine ⟨?_, fun x => ?_⟩
      · rw [List.pairwise_append]
        refine ⟨h1, by simp, fun a ha b hb => ?_⟩
        obtain ⟨j, hj, rfl, _⟩ := (h2 a).1 ha
        obtain rfl : b = (i : Int) := by simpa using hb
        omega
      · rw [List.mem_append, h2 x]
        constructor
        · rintro (⟨j, a, b, c⟩ | h)
          · exact ⟨j, by omega, b, by rw [hlow j a]; exact c⟩
          · exact ⟨i, by omega, by simpa using h, eg⟩
        · rintro ⟨j, a, b, c⟩
          rcases Nat.lt_or_ge j i with h | h
          · exact Or.inl ⟨j, h, b, by rw [← hlow j h]; exact c⟩
          · obtain rfl : j = i := by omega
            exact Or.inr (by simp [b])
/-- the formulas at the places of the core. -/
def coreF (fs : List Fm) (u : Nat) : List Fm := (coreTo fs u fs.length).map fun x => fs.getD x.toNat fmZ
theorem coreF_in {fs : List Fm} {u : Nat} {k : Nat} {x : Int} (hx : (coreTo fs u fs.length)[k]? = some x) : ∃ j : Nat, j < fs.length ∧ x = j ∧ goneTo fs u fs.length j = false ∧ fs[j]? = some (fs.getD x.toNat fmZ) := by
  obtain ⟨j, a, rfl, c⟩ := ((core_mem fs.length (Nat.le_refl _)).2 x).1 (List.mem_of_getElem? hx)
  refine ⟨j, a, rfl, c, ?_⟩
  rw [Int.toNat_natCast, List.getD_eq_getElem?_getD, List.getElem?_eq_getElem a]; rfl
/-- together they are not open. -/
theorem core_closed {fs : List Fm} {u : Nat} (h : openN fs u = false) : openN (coreF fs u) u = false := by
  have hl := left_closed h fs.length (Nat.le_refl _)
  cases e : openN (coreF fs u) u
  · rfl
  · have hsub : ∀ f ∈ leftF fs (goneTo fs u fs.length), f ∈ coreF fs u := fun f hf => by
      obtain ⟨j, h1, h2, h3⟩ := (leftTo_mem fs.length (Nat.le_refl _)).1 hf
      unfold coreF
      rw [List.mem_map]
      refine ⟨(j : Int), ((core_mem fs.length (Nat.le_refl _)).2 _).2 ⟨j, h1, rfl, h2⟩, ?_⟩
      rw [Int.toNat_natCast, List.getD_eq_getElem?_getD, h3]; rfl
    rw [open_less hsub e] at hl; exact absurd hl (by decide)
/-- without the k-th they are. -/
theorem core_without {fs : List Fm} {u : Nat} {k : Nat} (hk : k < (coreF fs u).length) : openN ((coreF fs u).take k ++ (coreF fs u).drop (k + 1)) u = true := by
  have hkc : k < (coreTo fs u fs.length).length := by unfold coreF at hk; simpa using hk
  obtain ⟨i, hi, hx, hg, _⟩ := coreF_in (List.getElem?_eq_getElem hkc)
  refine left_less hi hg fun f hf => ?_
  have hmem : ∃ m, m ≠ k ∧ (coreF fs u)[m]? = some f := by
    rcases List.mem_append.1 hf with h | h
    · obtain ⟨m, hm⟩ := List.mem_iff_getElem?.1 h
      have hmk : m < k := by have := (List.getElem?_eq_some_iff.1 hm).1; simp at this; omega
      exact ⟨m, by omega, by rw [List.getElem?_take_of_lt hmk] at hm; exact hm⟩
    · obtain ⟨m, hm⟩ := List.mem_iff_getElem?.1 h
      rw [List.getElem?_drop] at hm
      exact ⟨k + 1 + m, by omega, hm⟩
  obtain ⟨m, hmk, hm⟩ := hmem
  unfold coreF at hm
  rw [List.getElem?_map] at hm
  cases hy : (coreTo fs u fs.length)[m]? with
  | none => rw [hy] at hm; cases hm
  | some y =>
    rw [hy] at hm
    have hf' : fs.getD y.toNat fmZ = f := by simpa using hm
    obtain ⟨j, hj, hyj, hgj, hfj⟩ := coreF_in hy
    refine ⟨j, hj, ?_, hgj, by rw [← hf']; exact hfj⟩
    intro e
    have hp := (core_mem (fs := fs) (u := u) fs.length (Nat.le_refl _)).1
    have hml := (List.getElem?_eq_some_iff.1 hy).1
    have hyv : (coreTo fs u fs.length)[m] = y := (List.getElem?_eq_some_iff.1 hy).2
    rcases Nat.lt_or_gt_of_ne hmk with h | h
    · have := List.pairwise_iff_getElem.1 hp m k hml hkc h
      rw [hyv, hx, hyj, e] at this; omega
    · have := List.pairwise_iff_getElem.1 hp k m hkc hml h
      rw [hyv, hx, hyj, e] at this; omega
theorem core_some {fs : List Fm} {u : Nat} (h : openN fs u = false) : 0 < (coreF fs u).length := by
  rcases Nat.eq_zero_or_pos (coreF fs u).length with h0 | h0
  · have := core_closed h
    rw [List.eq_nil_of_length_eq_zero h0, open_nil] at this
    exact absurd this (by decide)
  · exact h0
end Go.Proofs.YtjaedfjfcghgcaaDoor

namespace Go.Proofs.YtjaedfjfcghgcaaDoor
open Go.RowKit

theorem or64 : ∀ k : Nat, k < 6 → ∀ m : Nat, m < 2 ^ k → bits .or .i64 (m : Int) (pw k) = (m : Int) + pw k := by decide +kernel
theorem and64 : ∀ n : Nat, n < 64 → ∀ m : Nat, m < 64 → bits .and .i64 (n : Int) (m : Int) = ((n &&& m : Nat) : Int) := by decide +kernel
theorem less64 : ∀ n : Nat, n < 64 → ∀ m : Nat, m < 64 → bits .andNot .i64 (n : Int) (m : Int) = ((n &&& (63 ^^^ m) : Nat) : Int) := by decide +kernel
theorem pw_nat (k : Nat) : pw k = ((2 ^ k : Nat) : Int) := by unfold pw; simp
theorem two_le {n : Nat} (h : n ≤ 6) : 2 ^ n ≤ 64 := Nat.le_trans (Nat.pow_le_pow_right (by decide) h : 2 ^ n ≤ 2 ^ 6) (by decide)

/-- bits, place by place. -/
theorem bits_at (L : Nat → Bool) {n : Nat} (hn : n ≤ 6) : ∃ m : Nat, maskTo L n = (m : Int) ∧ m < 64 ∧ ∀ f, m.testBit f = (decide (f < n) && L f) := by
  obtain ⟨m0, m1⟩ := maskTo_le L n
  obtain ⟨m, hm⟩ := Int.eq_ofNat_of_zero_le m0
  have hlt : m < 2 ^ n := by rw [hm, pw_nat] at m1; omega
  have h64 := two_le hn
  refine ⟨m, hm, by omega, fun f => ?_⟩
  by_cases hf : f < n
  · have h := has_mask L (show n ≤ 8 by omega) hf
    rw [hm] at h
    rw [decide_eq_true hf, Bool.true_and, ← h, Nat.testBit_eq_decide_div_mod_eq]
    unfold hasB
    apply decide_eq_decide.2
    have e : ((m : Int) / 2 ^ ((f : Int)).toNat % 2) = ((m / 2 ^ f % 2 : Nat) : Int) := by simp
    rw [e]
    omega
  · rw [decide_eq_false hf, Bool.false_and]
    exact Nat.testBit_lt_two_pow (Nat.lt_of_lt_of_le hlt (Nat.pow_le_pow_right (by decide) (Nat.le_of_not_lt hf)))
theorem mask_congr {L M : Nat → Bool} : ∀ n, (∀ k, k < n → L k = M k) → maskTo L n = maskTo M n := by
  intro n
  induction n with
  | zero => intro _; rfl
  | succ n ih =>
    intro h
    unfold maskTo
    rw [ih fun k hk => h k (by omega), h n (by omega)]
/-- all of them. -/
theorem mask_all : ∀ n, pw n - 1 = maskTo (fun _ => true) n := by
  intro n
  induction n with
  | zero => rfl
  | succ n ih =>
    have e : pw (n + 1) = pw n + pw n := by rw [pw_nat, pw_nat, Nat.pow_succ]; omega
    unfold maskTo
    rw [← ih, e]
    show _ = _ + 1 * pw n
    omega
/-- one more that holds. -/
theorem mask_or (L : Nat → Bool) {k : Nat} (hk : k < 6) (h : L k = true) : bits .or .i64 (maskTo L k) (pw k) = maskTo L (k + 1) := by
  obtain ⟨m0, m1⟩ := maskTo_le L k
  obtain ⟨m, hm⟩ := Int.eq_ofNat_of_zero_le m0
  have hlt : m < 2 ^ k := by rw [hm, pw_nat] at m1; omega
  show _ = maskTo L k + oneB (L k) * pw k
  rw [hm, or64 k hk m hlt, h]
  show _ = _ + 1 * pw k
  omega
theorem mask_not (L : Nat → Bool) {k : Nat} (h : L k = false) : maskTo L (k + 1) = maskTo L k := by
  show maskTo L k + oneB (L k) * pw k = _
  rw [h]
  show _ + 0 * pw k = _
  omega
/-- without one. -/
theorem mask_less (g : Nat → Bool) {n i : Nat} (hn : n ≤ 6) (hi : i < n) : bits .andNot .i64 (maskTo (fun k => !g k) n) (pw i) = maskTo (fun k => !putG g i true k) n := by
  obtain ⟨m, hm, h64, hb⟩ := bits_at (fun k => !g k) hn
  obtain ⟨q, hq, _, hc⟩ := bits_at (fun k => !putG g i true k) hn
  have hp : 2 ^ i < 64 := Nat.lt_of_lt_of_le (Nat.pow_lt_pow_right (by decide) hi : 2 ^ i < 2 ^ n) (two_le hn)
  rw [hm, hq, pw_nat, less64 m h64 _ hp]
  have e : m &&& (63 ^^^ 2 ^ i) = q := Nat.eq_of_testBit_eq fun f => by
    have h63 : Nat.testBit 63 f = decide (f < 6) := Nat.testBit_two_pow_sub_one 6 f
    rw [Nat.testBit_and, Nat.testBit_xor, hb, hc, h63, Nat.testBit_two_pow]
    by_cases hf : f < n
    · rw [decide_eq_true hf, decide_eq_true (show f < 6 by omega)]
      by_cases hfi : i = f
      · subst hfi; rw [decide_eq_true rfl, putG_same]; simp
      · rw [decide_eq_false hfi, putG_other _ _ (fun e => hfi e.symm)]; simp
    · rw [decide_eq_false hf]; simp
  rw [e]
/-- is one among them? -/
theorem mask_has (L : Nat → Bool) {n i : Nat} (hn : n ≤ 6) (hi : i < n) : (bits .and .i64 (maskTo L n) (pw i) = 0) ↔ L i = false := by
  obtain ⟨m, hm, h64, hb⟩ := bits_at L hn
  have hp : 2 ^ i < 64 := Nat.lt_of_lt_of_le (Nat.pow_lt_pow_right (by decide) hi : 2 ^ i < 2 ^ n) (two_le hn)
  rw [hm, pw_nat, and64 m h64 _ hp]
  have e : (((m &&& 2 ^ i : Nat) : Int) = 0) ↔ (m &&& 2 ^ i) = 0 := by omega
  rw [e]
  constructor
  · intro h
    have := congrArg (fun x => Nat.testBit x i) h
    simp only [Nat.testBit_and, hb, Nat.testBit_two_pow, Nat.zero_testBit, decide_eq_true hi, Bool.true_and] at this
    simpa using this
  · intro h
    refine Nat.eq_of_testBit_eq fun f => ?_
    rw [Nat.testBit_and, hb, Nat.testBit_two_pow, Nat.zero_testBit]
    by_cases hfi : i = f
    · subst hfi; rw [h]; simp
    · rw [decide_eq_false hfi]; simp
/-- are all of some among them? -/
theorem mask_in (H L : Nat → Bool) {n : Nat} (hn : n ≤ 6) : (bits .and .i64 (maskTo H n) (maskTo L n) = maskTo L n) ↔ ∀ j, j < n → L j = true → H j = true := by
  obtain ⟨m, hm, hm64, hb⟩ := bits_at H hn
  obtain ⟨q, hq, hq64, hc⟩ := bits_at L hn
  rw [hm, hq, and64 m hm64 q hq64]
  have e : (((m &&& q : Nat) : Int) = (q : Int)) ↔ (m &&& q) = q := by omega
  rw [e]
  constructor
  · intro h j hj hl
    have := congrArg (fun x => Nat.testBit x j) h
    simp only [Nat.testBit_and, hb, hc, decide_eq_true hj, hl, Bool.true_and, Bool.and_true] at this
    exact this
  · intro h
    refine Nat.eq_of_testBit_eq fun f => ?_
    rw [Nat.testBit_and, hb, hc]
    by_cases hf : f < n
    · rw [decide_eq_true hf]
      cases hl : L f
      · simp
      · rw [h f hf hl]; rfl
    · rw [decide_eq_false hf]; simp

/-- does the j-th hold there? -/
def holdsAt (fs : List Fm) (D : Wd) (j : Nat) : Bool := match fs[j]? with | some f => D.formIs f.ats f.c | none => false
theorem holds_at {fs : List Fm} {D : Wd} {j : Nat} {f : Fm} (h : fs[j]? = some f) : holdsAt fs D j = D.formIs f.ats f.c := by unfold holdsAt; rw [h]
/-- world by world, which hold there. -/
def heldL (fs : List Fm) (u : Nat) : List Int := (everyC u).map fun N => maskTo (holdsAt fs (madeN N 8)) fs.length
theorem heldL_length (fs : List Fm) (u : Nat) : (heldL fs u).length = (everyC u).length := by unfold heldL; rw [List.length_map]
/-- all of those that are not gone hold in one of the worlds, just if they are open. -/
theorem held_open {fs : List Fm} (h6 : fs.length ≤ 6) (u : Nat) (g : Nat → Bool) : ((heldL fs u).any fun h => decide (bits .and .i64 h (maskTo (fun k => !g k) fs.length) = maskTo (fun k => !g k) fs.length)) = openN (leftF fs g) u := by
  unfold heldL openN
  rw [List.any_map]
  congr 1
  funext N
  rw [Bool.eq_iff_iff]
  show decide _ = true ↔ _
  rw [decide_eq_true_iff, mask_in _ _ h6]
  unfold Wd.so
  rw [List.all_eq_true]
  constructor
  · intro h f hf
    obtain ⟨j, h1, h2, h3⟩ := (leftTo_mem fs.length (Nat.le_refl _)).1 hf
    have := h j h1 (by rw [h2]; rfl)
    rw [holds_at h3] at this
    exact this
  · intro h j hj hl
    have hf := List.getElem?_eq_getElem hj
    rw [holds_at hf]
    exact h _ ((leftTo_mem fs.length (Nat.le_refl _)).2 ⟨j, hj, by simpa using hl, hf⟩)
theorem left_all (fs : List Fm) (u : Nat) : openN (leftF fs fun _ => false) u = openN fs u := by
  rw [Bool.eq_iff_iff]
  constructor
  · exact open_less fun f hf => by
      obtain ⟨j, hj⟩ := List.mem_iff_getElem?.1 hf
      exact (leftTo_mem fs.length (Nat.le_refl _)).2 ⟨j, (List.getElem?_eq_some_iff.1 hj).1, rfl, hj⟩
  · exact open_less fun f hf => by
      obtain ⟨j, _, _, h3⟩ := (leftTo_mem fs.length (Nat.le_refl _)).1 hf
      exact List.mem_of_getElem? h3

/-- the places that bits stand for, of the first k. -/
def placesTo (L : Nat → Bool) : Nat → List Int
  | 0 => []
  | k + 1 => placesTo L k ++ (if L k = true then [(k : Int)] else [])
theorem placesTo_length (L : Nat → Bool) : ∀ k, (placesTo L k).length ≤ k := by
  intro k
  induction k with
  | zero => exact Nat.le_refl _
  | succ k ih =>
    unfold placesTo
    split
    · simp; omega
    · simp; omega
theorem places_core {fs : List Fm} {u n : Nat} : ∀ i, i ≤ n → placesTo (fun k => !goneTo fs u n k) i = coreTo fs u i := by
  intro i
  induction i with
  | zero => intro _; rfl
  | succ i ih =>
    intro hi
    have hk := goneTo_keep fs u (n - (i + 1)) (i + 1) i (by omega)
    rw [show i + 1 + (n - (i + 1)) = n by omega] at hk
    unfold placesTo
    rw [ih (by omega), coreTo_succ, hk, goneTo_succ]
    cases openN (leftF fs (putG (goneTo fs u i) i true)) u
    · simp [putG_same]
    · simp [putG_same]
/-- one step. -/
theorem left_step {fs : List Fm} {u n i : Nat} : (openN (leftF fs (putG (goneTo fs u i) i true)) u = true → maskTo (fun k => !goneTo fs u (i + 1) k) n = maskTo (fun k => !goneTo fs u i k) n) ∧ (openN (leftF fs (putG (goneTo fs u i) i true)) u = false → maskTo (fun k => !goneTo fs u (i + 1) k) n = maskTo (fun k => !putG (goneTo fs u i) i true k) n) := by
  refine ⟨fun h => mask_congr n fun k _ => ?_, fun h => mask_congr n fun k _ => ?_⟩
  · rw [goneTo_succ, if_pos h]
    by_cases hk : k = i
    · rw [hk, putG_same, goneTo_far fs u i i (Nat.le_refl _)]
    · rw [putG_other _ _ hk]
  · rw [goneTo_succ, if_neg (by rw [h]; decide)]
end Go.Proofs.YtjaedfjfcghgcaaDoor

namespace Go.Proofs.YtjaedfjfcghgcaaDoor
open Go.ChangeShapes Go.WideShapes Go.ChangeAt Go.RowKit
set_option maxRecDepth 100000

theorem fmade_op (s : Int) (x y : Bool) (hs : s = 10 ∨ s = 11 ∨ s = 13) (B off cap : Nat) (vh : Value) (w : World) (c0 : w.cell? ⟨B, off, none⟩ = some (.bool x)) (c1 : w.cell? ⟨B, off + 1, none⟩ = some (.bool y)) (held : List Bool) :
    Calls Tryd.prog 61 #[.int .i64 s, .slice (some ⟨B, off, none⟩) 2 cap, vh] w fun e w' => e = .returned (.bool (madeF held s [x, y])) ∧ w = w' := by
  rcases hs with rfl | rfl | rfl
  · cases x
    all_goals
      go_enter Tryd.func61, Tryd.ntmps61
      go_wp2
      go_ret
      exact ⟨rfl, rfl⟩
  · cases x
    all_goals
      go_enter Tryd.func61, Tryd.ntmps61
      go_wp2
      go_ret
      exact ⟨rfl, rfl⟩
  · cases x
    all_goals
      go_enter Tryd.func61, Tryd.ntmps61
      go_wp2
      go_ret
      exact ⟨rfl, rfl⟩
theorem fmade_no (x : Bool) (B off cap : Nat) (vh : Value) (w : World) (c0 : w.cell? ⟨B, off, none⟩ = some (.bool x)) (held : List Bool) :
    Calls Tryd.prog 61 #[.int .i64 12, .slice (some ⟨B, off, none⟩) 1 cap, vh] w fun e w' => e = .returned (.bool (madeF held 12 [x])) ∧ w = w' := by
  go_enter Tryd.func61, Tryd.ntmps61
  go_wp2
  go_ret
  exact ⟨rfl, rfl⟩
theorem fmade_leaf (s : Int) (held : List Bool) (h0 : 0 ≤ s) (h1 : s < held.length) (h6 : held.length ≤ 6) (hb ho hcap : Nat) (v : Value) (w : World) (hR : ReadsB w hb ho held) :
    Calls Tryd.prog 61 #[.int .i64 s, v, .slice (some ⟨hb, ho, none⟩) held.length hcap] w fun e w' => e = .returned (.bool (madeF held s [])) ∧ w = w' := by
  obtain ⟨k, rfl⟩ := Int.eq_ofNat_of_zero_le h0
  have e : madeF held (k : Int) [] = held.getD k false := by rw [madeF_leaf held (takesF_low (by omega)) []]; simp
  rw [e]
  have hc := hR.2 k (by omega)
  obtain ⟨x, hx⟩ : ∃ x, x = held.getD k false := ⟨_, rfl⟩
  rw [← hx] at hc ⊢
  obtain ⟨m, hm⟩ : ∃ m, m = held.length := ⟨_, rfl⟩
  rw [← hm] at h1 h6 ⊢
  clear hx hm hR e
  have g0 : ((k : Int) == 10) = false := by simp; omega
  have g1 : ((k : Int) == 11) = false := by simp; omega
  have g2 : ((k : Int) == 13) = false := by simp; omega
  have g3 : ((k : Int) == 12) = false := by simp; omega
  have h0' : (0 : Int) ≤ (k : Int) := by omega
  go_enter Tryd.func61, Tryd.ntmps61
  go_wp2
  go_ret
  exact ⟨rfl, rfl⟩
end Go.Proofs.YtjaedfjfcghgcaaDoor

namespace Go.Proofs.YtjaedfjfcghgcaaDoor
open Go.ChangeShapes Go.WideShapes Go.ChangeAt Go.RowKit
set_option maxRecDepth 100000

theorem stepF_leaf (held p : List Bool) (s : Int) (h : takesF s = 0) : stepF held p s = p.take p.length ++ [madeF held s []] := by
  unfold stepF restF
  rw [h, madeF_leaf held h, madeF_leaf held h]; rfl
theorem stepF_one (held p : List Bool) (h : 1 ≤ p.length) : stepF held p 12 = p.take (p.length - 1) ++ [madeF held 12 [p.getD (p.length - 1) false]] := by
  unfold stepF restF
  have e : (p.drop (p.length - 1)) = [p.getD (p.length - 1) false] := by
    rw [List.drop_eq_getElem_cons (by omega), List.drop_eq_nil_of_le (by omega)]
    simp [List.getElem?_eq_getElem (show p.length - 1 < p.length by omega)]
  simp only [show takesF 12 = 1 from rfl, show (1 : Int).toNat = 1 from rfl, e]
theorem stepF_two (held p : List Bool) (s : Int) (ht : takesF s = 2) (h : 2 ≤ p.length) : stepF held p s = p.take (p.length - 2) ++ [madeF held s [p.getD (p.length - 2) false, p.getD (p.length - 2 + 1) false]] := by
  unfold stepF restF
  have e : (p.drop (p.length - 2)) = [p.getD (p.length - 2) false, p.getD (p.length - 2 + 1) false] := by
    rw [List.drop_eq_getElem_cons (by omega), List.drop_eq_getElem_cons (by omega), List.drop_eq_nil_of_le (by omega)]
    simp [List.getElem?_eq_getElem (show p.length - 2 < p.length by omega), List.getElem?_eq_getElem (show p.length - 2 + 1 < p.length by omega)]
  rw [ht]
  simp only [show (2 : Int).toNat = 2 from rfl, e]

theorem ownsRow_bool {w : World} {base : Nat} {e : TypeId} {g cap : Nat} {p : List Bool} (h : w.ownsRow base e 1 (.slice (some ⟨g, 0, none⟩) p.length cap) p.length (p.map Value.bool)) {j : Nat} (hj : j < p.length) : w.cell? ⟨g, j, none⟩ = some (.bool (p.getD j false)) := by
  rw [h.cellAt j (by omega)]
  simp [List.getElem?_eq_getElem hj]
/-- what a round leaves. -/
theorem fwork_rel {w1 wr w0 w2 : World} {K : Nat} {v v' : Value} {p q : List Bool} {r : Nat} {X : Bool} (hK : K ≤ wr.heap.size) (hb : Below K w1 wr) (h0 : Below wr.heap.size wr w0)
    (hown : w2.ownsRow K 4 1 v' (r + 1) (((p.take r).map Value.bool) ++ [.bool X])) (hv : ∀ k, v.ownBlock = some k → K ≤ k)
    (hg : w0.grownBy w2 v.ownBlock) (hr : r ≤ p.length) (hq : q = p.take r ++ [X]) :
    w2.ownsRow K 4 1 v' q.length (q.map Value.bool) ∧ Below K w1 w2 ∧ K ≤ w2.heap.size := by
  have hs : wr.heap.size ≤ w0.heap.size := h0.size
  have e1 : q.length = r + 1 := by rw [hq]; simp; omega
  have e2 : q.map Value.bool = ((p.take r).map Value.bool) ++ [.bool X] := by rw [hq]; simp
  have b1 : Below K w1 w0 := hb.trans (h0.mono hK)
  have b2 : Below K w1 w2 := b1.grown hg (by omega) hv
  refine ⟨by rw [e1, e2]; exact hown, b2, ?_⟩
  have := hg.size
  omega

set_option maxHeartbeats 4000000 in
theorem fwork_any (c : List Int) (B off cap : Nat) (held : List Bool) (hb ho hcap : Nat) (w : World) (hs : c.all (signF held.length) = true) (hone : cntF c 0 = some 1) (hl : c.length ≤ 20) (h6 : held.length ≤ 6) (hB : B < w.heap.size)
    (hc : ∀ k, k < c.length → w.cell? ⟨B, off + k, none⟩ = some (.int .i64 (c.getD k 0))) (hR : ReadsB w hb ho held) :
    Calls Tryd.prog 35 #[.slice (some ⟨B, off, none⟩) c.length cap, .slice (some ⟨hb, ho, none⟩) held.length hcap] w fun e w' => e = .returned (.bool (valF held c)) ∧ Below w.heap.size w w' := by
  obtain ⟨i0, hi, hz0, hz1, hz2⟩ := info_parts infoBool
  obtain ⟨K, hK⟩ : ∃ K, K = w.heap.size := ⟨_, rfl⟩
  have HK1 : Hid (w.heap.size = K) := hK.symm
  have HC : Hid (∀ k, k < c.length → w.cell? ⟨B, off + k, none⟩ = some (.int .i64 (c.getD k 0))) := hc
  have HBK : Hid (B < K) := by unfold Hid; omega
  have HRh : Hid (∀ W, Below K w W → ReadsB W hb ho held) := fun W hw => ⟨by have := hw.size; have := hR.1; omega, fun k hk => by rw [hw.cell (show (⟨hb, ho + k, none⟩ : Addr).block < K by have := hR.1; simp; omega)]; exact hR.2 k hk⟩
  rw [← hK]
  clear hc hB hK hR
  obtain ⟨n, hn⟩ : ∃ n, n = c.length := ⟨_, rfl⟩
  rw [← hn] at hl ⊢
  have HN : Hid (n = c.length) := hn
  clear hn
  have HL : Hid (∀ (s : Int) v W, 0 ≤ s → s < held.length → Below K w W → _) := fun s v W s0 s1 hw => fmade_leaf s held s0 s1 h6 hb ho hcap v W (HRh.out W hw)
  obtain ⟨m, hm⟩ : ∃ m, m = held.length := ⟨_, rfl⟩
  rw [← hm] at hs h6 HL ⊢
  clear hm HRh
  have HS : Hid (c.all (signF m) = true) := hs
  have HO : Hid (cntF c 0 = some 1) := hone
  clear hs hone
  obtain ⟨V, hV⟩ : ∃ V, V = valF held c := ⟨_, rfl⟩
  rw [← hV]
  have HV : Hid (V = valF held c) := hV
  clear hV
  go_enter Tryd.func35, Tryd.ntmps35
  go_wp2
  go_loopw [5, 11] (fun v i wr => ∃ (k : Nat) (p : List Bool), k ≤ n ∧ i = .int .i64 k ∧ wr.ownsRow K 4 1 v p.length (p.map Value.bool) ∧ Below K w wr ∧ K ≤ wr.heap.size ∧ p = pileF held (c.take k) [])
    (fun _ i _ => n - (intOf i).toNat)
  case atStart => exact ⟨0, [], Nat.zero_le _, rfl, World.ownsRow_nil _ _ _ _, Below.refl _ _, by rw [HK1.out]; exact Nat.le_refl _, rfl⟩
  case round =>
    obtain ⟨k, p, hk, rfl, hown0, hbel0, hKw0, hp0⟩ := hrel
    have hkt0 : cntF (c.take k) 0 = some (p.length : Int) := by
      obtain ⟨j, hj⟩ := cntF_take_some c k HO.out
      have := pileF_length held (c.take k) [] hj
      rw [← hp0] at this
      rw [this]; exact hj
    by_cases hlt : k < n
    · obtain ⟨s, hs⟩ : ∃ s, s = c.getD k 0 := ⟨_, rfl⟩
      have hkt : k < c.length := by rw [← HN.out]; exact hlt
      have hcell : wr.cell? ⟨B, off + k, none⟩ = some (.int .i64 s) := by rw [hs, hbel0.cell HBK.out]; exact HC.out k hkt
      have hsg : takesF s ≠ 0 ∨ (0 ≤ s ∧ s < m) := by
        refine signF_iff.1 (List.all_eq_true.1 HS.out s ?_)
        rw [hs, List.getD_eq_getElem?_getD, List.getElem?_eq_getElem hkt]; exact List.getElem_mem hkt
      have htk : takesF s ≤ p.length := by
        have h1 := cntF_take_succ c hkt hkt0
        rw [← hs] at h1
        obtain ⟨j, hj⟩ := cntF_take_some c (k + 1) HO.out
        by_cases h2 : (p.length : Int) < takesF s
        · rw [if_pos h2] at h1; rw [h1] at hj; cases hj
        · omega
      have HP : Hid (stepF held p s = pileF held (c.take (k + 1)) []) := by
        unfold Hid; rw [pileF_succ _ c [] hkt, ← hs, ← hp0]
      have hpl : p.length ≤ 20 := by
        have := (cntF_nonneg (Int.le_refl 0) hkt0).2
        simp at this; omega
      clear hs hkt hkt0 hp0
      have HBEL : Hid (Below K w wr) := hbel0
      have HKW : Hid (K ≤ wr.heap.size) := hKw0
      clear hbel0 hKw0
      by_cases h4 : takesF s = 0
      · have hsr : 0 ≤ s ∧ s < m := hsg.resolve_left (by simp [h4])
        have HM : Hid (∀ v W, Below wr.heap.size wr W → Calls Tryd.prog 61 #[.int .i64 s, v, .slice (some ⟨hb, ho, none⟩) m hcap] W fun e w' => e = .returned (.bool (madeF held s [])) ∧ W = w') := fun v W hW => HL.out s v W hsr.1 hsr.2 (HBEL.out.trans (hW.mono HKW.out))
        have HQ : Hid (stepF held p s = p.take p.length ++ [madeF held s []]) := stepF_leaf held p s h4
        have HT : Hid (∀ W, Calls Tryd.prog 57 #[.int .i64 s] W fun e w' => e = .returned (.int .i64 0) ∧ W = w') := fun W => by
          have := ftakes_any s W
          rw [h4] at this; exact this
        obtain ⟨X, hX⟩ : ∃ X, X = madeF held s [] := ⟨_, rfl⟩
        rw [← hX] at HM HQ
        clear hX htk hsg h4
        rcases hown0.2 with ⟨rfl, hp0⟩ | ⟨g, cap', cur, rfl, hg, hh, hm, hmax, _, _⟩
        · obtain rfl : p = [] := List.eq_nil_of_length_eq_zero hp0
          clear hown0 hp0
          go_wp2_with (go_at_call 57; refine (HT.out _).mono ?_; rintro e w' ⟨rfl, rfl⟩)
          go_region_held3 (fun _ => True) (trivial)
            (first
              | (go_at_call 61; refine (HM.out _ _ ((Below.refl _ wr).drew)).mono ?_; rintro e w' ⟨rfl, rfl⟩)
              | (refine step_append_lies _ (by rfl) _ _ _ (by rfl) K 4 i0 (.bool false) 1 1 Tryd.underlying66 hi hz0 hz1 hz2 rfl (by decide) (.slice none 0 0) 0 ([]) (by rfl) (World.ownsRow_nil _ _ _ _) ⟨wr.heap.size, 0, none⟩ 1 1 [.bool X] (by rfl) (by rfl) (World.news_of_block (cs := #[.bool X]) (t := 4) (fr := (0, 0)) (heap_alloc_new wr _)) (by simp [Value.oneCell']) (by omega) (by unfold maxLen; omega) (by omega) (by have := HKW.out; simp; omega) (wr.heap.size + 1) (by simp) ?_; intro gg cap1 w2 hown1 hgrow hat hlt1))
          have R := fwork_rel (q := pileF held (c.take (k + 1)) []) (p := []) (r := 0) HKW.out HBEL.out ((below_alloc1 wr _).drew) (hown1) (by intro k hk; cases hk) hgrow (Nat.zero_le _) (HP.out.symm.trans HQ.out)
          clear hown1 hgrow hat hlt1
          go_wp2
          go_roundw
          case rel => exact ⟨k + 1, _, by omega, by go_num, R.1, R.2.1, R.2.2, rfl⟩
          case measure => simp [intOf]; omega
        · obtain ⟨m', hm0⟩ : ∃ m', m' = p.length := ⟨_, rfl⟩
          have HOW : Hid (wr.ownsRow K 4 1 (.slice (some ⟨g, 0, none⟩) m' cap') m' (p.map Value.bool)) := by
            unfold Hid; rw [hm0]; exact hown0
          rw [← hm0] at HQ hm hpl ⊢
          have HM0 : Hid (m' = p.length) := hm0
          clear hown0 hm0 hh
          by_cases hcap : cap' = m'
          · subst hcap
            go_wp2_with (go_at_call 57; refine (HT.out _).mono ?_; rintro e w' ⟨rfl, rfl⟩)
            go_region_held3 (fun _ => True) (trivial)
              (first
                | (go_at_call 61; refine (HM.out _ _ ((Below.refl _ wr).drew)).mono ?_; rintro e w' ⟨rfl, rfl⟩)
                | (refine step_append_lies _ (by rfl) _ _ _ (by rfl) K 4 i0 (.bool false) 1 1 Tryd.underlying66 hi hz0 hz1 hz2 rfl (by decide) (.slice (some ⟨g, 0, none⟩) cap' cap') cap' ((p.map Value.bool).take cap') (by rfl) (((ownsRow_take HOW.out (by omega)).alloc _).drew) ⟨wr.heap.size, 0, none⟩ 1 1 [.bool X] (by rfl) (by rfl) (World.news_of_block (cs := #[.bool X]) (t := 4) (fr := (0, 0)) (heap_alloc_new wr _)) (by simp [Value.oneCell']) (by omega) (by unfold maxLen; omega) (by omega) (by have := HKW.out; simp; omega) (wr.heap.size + 1) (by simp) ?_; intro gg cap1 w2 hown1 hgrow hat hlt1))
            have R := fwork_rel (q := pileF held (c.take (k + 1)) []) (p := p) (r := cap') HKW.out HBEL.out ((below_alloc1 wr _).drew) (by rw [List.map_take]; exact hown1) (by intro k hk; cases hk; exact hg) hgrow (by have := HM0.out; omega) (HP.out.symm.trans HQ.out)
            clear hown1 hgrow hat hlt1
            go_wp2
            go_roundw
            case rel => exact ⟨k + 1, _, by omega, by go_num, R.1, R.2.1, R.2.2, rfl⟩
            case measure => simp [intOf]; omega
          · go_wp2_with (go_at_call 57; refine (HT.out _).mono ?_; rintro e w' ⟨rfl, rfl⟩)
            go_region_held3 (fun _ => True) (trivial)
              (first
                | (go_at_call 61; refine (HM.out _ _ ((Below.refl _ wr).drew)).mono ?_; rintro e w' ⟨rfl, rfl⟩)
                | (refine step_append_lies _ (by rfl) _ _ _ (by rfl) K 4 i0 (.bool false) 1 1 Tryd.underlying66 hi hz0 hz1 hz2 rfl (by decide) (.slice (some ⟨g, 0, none⟩) m' cap') m' ((p.map Value.bool).take m') (by rfl) (((ownsRow_take HOW.out (by omega)).alloc _).drew) ⟨wr.heap.size, 0, none⟩ 1 1 [.bool X] (by rfl) (by rfl) (World.news_of_block (cs := #[.bool X]) (t := 4) (fr := (0, 0)) (heap_alloc_new wr _)) (by simp [Value.oneCell']) (by omega) (by unfold maxLen; omega) (by omega) (by have := HKW.out; simp; omega) (wr.heap.size + 1) (by simp) ?_; intro gg cap1 w2 hown1 hgrow hat hlt1))
            have R := fwork_rel (q := pileF held (c.take (k + 1)) []) (p := p) (r := m') HKW.out HBEL.out ((below_alloc1 wr _).drew) (by rw [List.map_take]; exact hown1) (by intro k hk; cases hk; exact hg) hgrow (by have := HM0.out; omega) (HP.out.symm.trans HQ.out)
            clear hown1 hgrow hat hlt1
            go_wp2
            go_roundw
            case rel => exact ⟨k + 1, _, by omega, by go_num, R.1, R.2.1, R.2.2, rfl⟩
            case measure => simp [intOf]; omega
      by_cases h8 : s = 12
      · subst h8
        have htk1 : 1 ≤ p.length := by
          rw [show takesF 12 = 1 from rfl] at htk; omega
        have HT : Hid (∀ W, Calls Tryd.prog 57 #[.int .i64 12] W fun e w' => e = .returned (.int .i64 1) ∧ W = w') := fun W => ftakes_any 12 W
        rcases hown0.2 with ⟨rfl, hp0⟩ | ⟨g, cap', cur, rfl, hg, hh, hm, hmax, _, _⟩
        · omega
        · obtain ⟨r, hr⟩ : ∃ r, p.length = r + 1 := ⟨p.length - 1, by omega⟩
          have HM0 : Hid (p.length = r + 1) := hr
          have HOW : Hid (wr.ownsRow K 4 1 (.slice (some ⟨g, 0, none⟩) (r + 1) cap') (r + 1) (p.map Value.bool)) := by
            unfold Hid; rw [← hr]; exact hown0
          have hcx : Hid (∀ W, Below wr.heap.size wr W → W.cell? ⟨g, r, none⟩ = some (.bool (p.getD r false))) := fun W hb => by
            rw [hb.cell (ownsRow_block hown0).2.1]; exact ownsRow_bool hown0 (by omega)
          obtain ⟨x, hx⟩ : ∃ x, x = p.getD r false := ⟨_, rfl⟩
          rw [← hx] at hcx
          have HM : Hid (∀ W c' v, Below wr.heap.size wr W → _) := fun W c' v hb => fmade_no x g r c' v W (hcx.out W hb) held
          have HQ : Hid (stepF held p 12 = p.take r ++ [madeF held 12 [x]]) := by
            have := stepF_one held p (by omega)
            rw [hr, Nat.add_sub_cancel, ← hx] at this; exact this
          obtain ⟨X, hX⟩ : ∃ X, X = madeF held 12 [x] := ⟨_, rfl⟩
          rw [← hX] at HM HQ
          have hle : (r : Int) ≤ (r : Int) + 1 := by omega
          have hcap : ¬ cap' = r := by omega
          have hcap2 : r < cap' := by omega
          have hcap3 : (r : Int) ≤ (cap' : Int) := by omega
          have hr0 : (0 : Int) ≤ (r : Int) := by omega
          rw [hr] at hm hpl ⊢
          clear hX hx hcx hown0 hh hr htk htk1 h4 hsg
          go_wp2_with (go_at_call 57; refine (HT.out _).mono ?_; rintro e w' ⟨rfl, rfl⟩)
          go_region_held3 (fun _ => True) (trivial)
            (first
              | (go_at_call 61; refine (HM.out _ _ _ ((Below.refl _ wr).drew)).mono ?_; rintro e w' ⟨rfl, rfl⟩)
              | (refine step_append_lies _ (by rfl) _ _ _ (by rfl) K 4 i0 (.bool false) 1 1 Tryd.underlying66 hi hz0 hz1 hz2 rfl (by decide) (.slice (some ⟨g, 0, none⟩) r cap') r ((p.map Value.bool).take r) (by rfl) (((ownsRow_take HOW.out (by omega)).alloc _).drew) ⟨wr.heap.size, 0, none⟩ 1 1 [.bool X] (by rfl) (by rfl) (World.news_of_block (cs := #[.bool X]) (t := 4) (fr := (0, 0)) (heap_alloc_new wr _)) (by simp [Value.oneCell']) (by omega) (by unfold maxLen; omega) (by omega) (by have := HKW.out; simp; omega) (wr.heap.size + 1) (by simp) ?_; intro gg cap1 w2 hown1 hgrow hat hlt1))
          have R := fwork_rel (q := pileF held (c.take (k + 1)) []) (p := p) (r := r) HKW.out HBEL.out ((below_alloc1 wr _).drew) (by rw [List.map_take]; exact hown1) (by intro k hk; cases hk; exact hg) hgrow (by have := HM0.out; omega) (HP.out.symm.trans HQ.out)
          clear hown1 hgrow hat hlt1
          go_wp2
          go_roundw
          case rel => exact ⟨k + 1, _, by omega, by go_num, R.1, R.2.1, R.2.2, rfl⟩
          case measure => simp [intOf]; omega
      · have hs3 : s = 10 ∨ s = 11 ∨ s = 13 := by
          by_cases h3 : s = 10 ∨ s = 11 ∨ s = 13
          · exact h3
          · exact absurd (show takesF s = 0 by unfold takesF; rw [if_neg h3, if_neg h8]) h4
        have ht2 : takesF s = 2 := by unfold takesF; rw [if_pos hs3]
        rw [ht2] at htk
        have HT : Hid (∀ W, Calls Tryd.prog 57 #[.int .i64 s] W fun e w' => e = .returned (.int .i64 2) ∧ W = w') := fun W => by
          have := ftakes_any s W
          rw [ht2] at this; exact this
        rcases hown0.2 with ⟨rfl, hp0⟩ | ⟨g, cap', cur, rfl, hg, hh, hm, hmax, _, _⟩
        · omega
        · obtain ⟨r, hr⟩ : ∃ r, p.length = r + 2 := ⟨p.length - 2, by omega⟩
          have HM0 : Hid (p.length = r + 2) := hr
          have HOW : Hid (wr.ownsRow K 4 1 (.slice (some ⟨g, 0, none⟩) (r + 2) cap') (r + 2) (p.map Value.bool)) := by
            unfold Hid; rw [← hr]; exact hown0
          have hcx : Hid (∀ W, Below wr.heap.size wr W → W.cell? ⟨g, r, none⟩ = some (.bool (p.getD r false)) ∧ W.cell? ⟨g, r + 1, none⟩ = some (.bool (p.getD (r + 1) false))) := fun W hb => by
            refine ⟨?_, ?_⟩
            · rw [hb.cell (ownsRow_block hown0).2.1]; exact ownsRow_bool hown0 (by omega)
            · rw [hb.cell (ownsRow_block hown0).2.1]; exact ownsRow_bool hown0 (by omega)
          obtain ⟨x, hx⟩ : ∃ x, x = p.getD r false := ⟨_, rfl⟩
          obtain ⟨y, hy⟩ : ∃ y, y = p.getD (r + 1) false := ⟨_, rfl⟩
          rw [← hx, ← hy] at hcx
          have HM : Hid (∀ W c' v, Below wr.heap.size wr W → _) := fun W c' v hb => fmade_op s x y hs3 g r c' v W (hcx.out W hb).1 (hcx.out W hb).2 held
          have HQ : Hid (stepF held p s = p.take r ++ [madeF held s [x, y]]) := by
            have := stepF_two held p s ht2 (by omega)
            rw [hr, show r + 2 - 2 = r by omega, ← hx, ← hy] at this; exact this
          obtain ⟨X, hX⟩ : ∃ X, X = madeF held s [x, y] := ⟨_, rfl⟩
          rw [← hX] at HM HQ
          have hle : (r : Int) ≤ (r : Int) + 2 := by omega
          have hcap : ¬ cap' = r := by omega
          have hcap2 : r < cap' := by omega
          have hcap3 : (r : Int) ≤ (cap' : Int) := by omega
          have hr0 : (0 : Int) ≤ (r : Int) := by omega
          rw [hr] at hm hpl ⊢
          clear hX hx hy hcx hown0 hh hr htk h4 hsg h8 ht2 hs3
          go_wp2_with (go_at_call 57; refine (HT.out _).mono ?_; rintro e w' ⟨rfl, rfl⟩)
          go_region_held3 (fun _ => True) (trivial)
            (first
              | (go_at_call 61; refine (HM.out _ _ _ ((Below.refl _ wr).drew)).mono ?_; rintro e w' ⟨rfl, rfl⟩)
              | (refine step_append_lies _ (by rfl) _ _ _ (by rfl) K 4 i0 (.bool false) 1 1 Tryd.underlying66 hi hz0 hz1 hz2 rfl (by decide) (.slice (some ⟨g, 0, none⟩) r cap') r ((p.map Value.bool).take r) (by rfl) (((ownsRow_take HOW.out (by omega)).alloc _).drew) ⟨wr.heap.size, 0, none⟩ 1 1 [.bool X] (by rfl) (by rfl) (World.news_of_block (cs := #[.bool X]) (t := 4) (fr := (0, 0)) (heap_alloc_new wr _)) (by simp [Value.oneCell']) (by omega) (by unfold maxLen; omega) (by omega) (by have := HKW.out; simp; omega) (wr.heap.size + 1) (by simp) ?_; intro gg cap1 w2 hown1 hgrow hat hlt1))
          have R := fwork_rel (q := pileF held (c.take (k + 1)) []) (p := p) (r := r) HKW.out HBEL.out ((below_alloc1 wr _).drew) (by rw [List.map_take]; exact hown1) (by intro k hk; cases hk; exact hg) hgrow (by have := HM0.out; omega) (HP.out.symm.trans HQ.out)
          clear hown1 hgrow hat hlt1
          go_wp2
          go_roundw
          case rel => exact ⟨k + 1, _, by omega, by go_num, R.1, R.2.1, R.2.2, rfl⟩
          case measure => simp [intOf]; omega
    · have hpv : p = [V] := by
        rw [hp0, List.take_of_length_le (by have := HN.out; omega), pileF_one held HO.out, HV.out]; rfl
      subst hpv
      rcases hown0.2 with ⟨_, h0⟩ | ⟨g, cap', cur, rfl, hg, hh, hm, hmax, _, _⟩
      · simp at h0
      have hx : wr.cell? ⟨g, 0, none⟩ = some (.bool V) := ownsRow_bool hown0 (j := 0) (by simp)
      have HBEL : Hid (Below K w wr) := hbel0
      clear hown0 hbel0 hh hm hkt0 hp0
      simp only [List.length_singleton]
      go_wp2
      go_ret
      exact ⟨rfl, HBEL.out⟩
end Go.Proofs.YtjaedfjfcghgcaaDoor

namespace Go.Proofs.YtjaedfjfcghgcaaDoor
open Go.ChangeShapes Go.WideShapes Go.ChangeAt Go.RowKit

theorem ones64_any (x : Int) (h0 : 0 ≤ x) (h1 : x < 64) (w : World) :
    Calls Tryd.prog 93 #[.int .u64 x] w fun e w' => e = .returned (.int .i64 (pcN x)) ∧ w = w' := by
  go_enter Tryd.func93, Tryd.ntmps93
  go_wp2
  go_ret
  refine ⟨ret_int ?_, rfl⟩
  revert h1 h0
  intro h0 h1
  obtain ⟨n, rfl⟩ := Int.eq_ofNat_of_zero_le h0
  have h : n < 64 := by omega
  clear h0 h1
  revert n
  decide +kernel

theorem ones_any (x : Int) (h0 : 0 ≤ x) (h1 : x < 64) (w : World) :
    Calls Tryd.prog 85 #[.int .u64 x] w fun e w' => e = .returned (.int .i64 (pcN x)) ∧ w = w' := by
  go_enter Tryd.func85, Tryd.ntmps85
  go_wp2_with (go_at_call 93; refine (ones64_any _ h0 h1 _).mono ?_; rintro e w' ⟨rfl, rfl⟩)
  go_ret
  exact ⟨rfl, rfl⟩
end Go.Proofs.YtjaedfjfcghgcaaDoor
