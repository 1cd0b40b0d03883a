/-
  Plain facts on fields (chapter 6): the field in which a thing lies, how many lie in each, the world of so many, where a term lies. No program is read here.
  Plain facts on atoms (chapter 3): the fault of one, and whether it holds. No program is read here.
  Plain facts on formulas as atoms and rows of signs (chapter 4): how many formulas a row makes, its fault, the pile that it works out, its opposite, and two together. No program is read here.
  Plain facts on fields and formulas (chapter 6): whether a formula holds in a world hangs on how many things lie in each field alone. No program is read here.
-/
import Derived.Test.YtjaedfjfcghgcaaDoorLibA1
namespace Go.Proofs.YtjaedfjfcghgcaaDoor
open Go.RowKit

/-- 1, if so, else 0. -/
def oneB (x : Bool) : Int := if x = true then 1 else 0
theorem oneB_le (x : Bool) : 0 ≤ oneB x ∧ oneB x ≤ 1 := by cases x <;> decide
/-- has name k the things of field f? -/
def bitB (f k : Nat) : Bool := decide (f / 2 ^ k % 2 = 1)
/-- the field in which thing i lies. -/
def Wd.field (w : Wd) (i : Nat) : Nat := (hasB w.a i).toNat + 2 * (hasB w.b i).toNat + 4 * (hasB w.c i).toNat
theorem field_lt (w : Wd) (i : Nat) : w.field i < 8 := by
  unfold Wd.field
  cases hasB w.a i <;> cases hasB w.b i <;> cases hasB w.c i <;> decide
theorem eight {f : Nat} (h : f < 8) : f = 0 ∨ f = 1 ∨ f = 2 ∨ f = 3 ∨ f = 4 ∨ f = 5 ∨ f = 6 ∨ f = 7 := by omega
theorem field_bit (w : Wd) (i : Nat) : bitB (w.field i) 0 = hasB w.a i ∧ bitB (w.field i) 1 = hasB w.b i ∧ bitB (w.field i) 2 = hasB w.c i := by
  unfold Wd.field
  cases hasB w.a i <;> cases hasB w.b i <;> cases hasB w.c i <;> decide
theorem bit_field {f : Nat} (h : f < 8) : (bitB f 0).toNat + 2 * (bitB f 1).toNat + 4 * (bitB f 2).toNat = f := by
  rcases eight h with rfl | rfl | rfl | rfl | rfl | rfl | rfl | rfl <;> decide

/-- how many of the first k things lie in field f. -/
def Wd.fc (w : Wd) : Nat → Nat → Int
  | 0, _ => 0
  | k + 1, f => w.fc k f + if w.field k = f then 1 else 0
theorem fc_le (w : Wd) (k f : Nat) : 0 ≤ w.fc k f ∧ w.fc k f ≤ k := by
  induction k with
  | zero => exact ⟨Int.le_refl _, Int.le_refl _⟩
  | succ k ih => unfold Wd.fc; split <;> omega

/-- so many in the first k fields, added up; those of some fields alone. -/
def sumN (N : Nat → Int) : Nat → Int
  | 0 => 0
  | k + 1 => sumN N k + N k
def sumIn (L : Nat → Bool) (N : Nat → Int) : Nat → Int
  | 0 => 0
  | k + 1 => sumIn L N k + if L k = true then N k else 0
/-- is each by itself right? -/
def eachB (N : Nat → Int) : Nat → Bool
  | 0 => true
  | k + 1 => eachB N k && decide (0 ≤ N k ∧ N k ≤ 6)
/-- what is wrong with counts: the number of the error, or 0. -/
def countsFault (N : Nat → Int) : Int := if eachB N 8 = true then (if sumN N 8 ≤ 6 then 0 else 4) else 1

theorem eachB_iff {N : Nat → Int} {k : Nat} : eachB N k = true ↔ ∀ f, f < k → 0 ≤ N f ∧ N f ≤ 6 := by
  induction k with
  | zero => exact ⟨fun _ f hf => by omega, fun _ => rfl⟩
  | succ k ih =>
    unfold eachB
    rw [Bool.and_eq_true, ih, decide_eq_true_iff]
    refine ⟨fun h f hf => ?_, fun h => ⟨fun f hf => h f (by omega), h k (by omega)⟩⟩
    rcases Nat.lt_or_ge f k with h' | h'
    · exact h.1 f h'
    · obtain rfl : f = k := by omega
      exact h.2
theorem eachB_no {N : Nat → Int} {k : Nat} (hk : k < 8) (h : ¬ (0 ≤ N k ∧ N k ≤ 6)) : eachB N 8 = false := by
  rcases (Bool.eq_false_or_eq_true (eachB N 8)).symm with e | e
  · exact e
  · exact absurd (eachB_iff.1 e k hk) h
theorem sumN_le {N : Nat → Int} {k : Nat} (h : ∀ f, f < k → 0 ≤ N f ∧ N f ≤ 6) : 0 ≤ sumN N k ∧ sumN N k ≤ 6 * k := by
  induction k with
  | zero => exact ⟨Int.le_refl _, Int.le_refl _⟩
  | succ k ih =>
    have := ih fun f hf => h f (by omega)
    have := h k (by omega)
    unfold sumN; omega
theorem sumN_mono {N : Nat → Int} {k l : Nat} (hkl : k ≤ l) (h : ∀ f, f < l → 0 ≤ N f ∧ N f ≤ 6) : sumN N k ≤ sumN N l := by
  induction l with
  | zero => obtain rfl : k = 0 := by omega
            exact Int.le_refl _
  | succ l ih =>
    rcases Nat.lt_or_ge l k with h' | h'
    · obtain rfl : k = l + 1 := by omega
      exact Int.le_refl _
    · have := ih h' fun f hf => h f (by omega)
      have := h l (by omega)
      have e : sumN N (l + 1) = sumN N l + N l := rfl
      rw [e]; omega
theorem sumIn_le {L : Nat → Bool} {N : Nat → Int} {k : Nat} (h : ∀ f, f < k → 0 ≤ N f ∧ N f ≤ 6) : 0 ≤ sumIn L N k ∧ sumIn L N k ≤ sumN N k := by
  induction k with
  | zero => exact ⟨Int.le_refl _, Int.le_refl _⟩
  | succ k ih =>
    have := ih fun f hf => h f (by omega)
    have := h k (by omega)
    unfold sumIn sumN; split <;> omega
theorem counts_zero {N : Nat → Int} : countsFault N = 0 ↔ (∀ f, f < 8 → 0 ≤ N f ∧ N f ≤ 6) ∧ sumN N 8 ≤ 6 := by
  unfold countsFault
  by_cases h : eachB N 8 = true
  · rw [if_pos h]
    by_cases h' : sumN N 8 ≤ 6
    · rw [if_pos h']; exact ⟨fun _ => ⟨eachB_iff.1 h, h'⟩, fun _ => rfl⟩
    · rw [if_neg h']; exact ⟨fun e => (by cases e), fun e => absurd e.2 h'⟩
  · rw [if_neg h]; exact ⟨fun e => (by cases e), fun e => absurd (eachB_iff.2 e.1) h⟩

/-! ### one thing more -/
/-- the world with one thing more, which lies in field f. -/
def Wd.more (w : Wd) (f : Nat) : Wd := ⟨w.u + 1, w.a + oneB (bitB f 0) * pw w.u.toNat, w.b + oneB (bitB f 1) * pw w.u.toNat, w.c + oneB (bitB f 2) * pw w.u.toNat⟩
def Wd.mores (w : Wd) (f : Nat) : Nat → Wd
  | 0 => w
  | j + 1 => (w.mores f j).more f
/-- the world of so many in each of the first k fields. -/
def madeN (N : Nat → Int) : Nat → Wd
  | 0 => ⟨0, 0, 0, 0⟩
  | k + 1 => (madeN N k).mores k (N k).toNat

theorem ok_more1 {u a : Int} (h : okB u a = true) (h5 : u ≤ 5) (x : Bool) : okB (u + 1) (a + oneB x * pw u.toNat) = true := by
  have e : ∀ x, okB u a = true → u ≤ 5 → okB (u + 1) (a + oneB x * pw u.toNat) = true := fun x h h5 =>
    uptoSets (P := fun u a _ => u ≤ 5 → ∀ x, okB (u + 1) (a + oneB x * pw u.toNat) = true) (by decide +kernel) u a a h h h5 x
  exact e x h h5
theorem has_more1 {u a : Int} (h : okB u a = true) (h5 : u ≤ 5) (x : Bool) : (∀ i : Nat, i < u.toNat → hasB (a + oneB x * pw u.toNat) i = hasB a i) ∧ hasB (a + oneB x * pw u.toNat) u.toNat = x :=
  uptoSets (P := fun u a _ => u ≤ 5 → ∀ x, (∀ i : Nat, i < u.toNat → hasB (a + oneB x * pw u.toNat) i = hasB a i) ∧ hasB (a + oneB x * pw u.toNat) u.toNat = x) (by decide +kernel) u a a h h h5 x
theorem more_u (w : Wd) (f : Nat) : (w.more f).u = w.u + 1 := rfl
theorem more_ok {w : Wd} (h : w.ok = true) (h5 : w.u ≤ 5) (f : Nat) : (w.more f).ok = true := by
  obtain ⟨h1, h2, h3⟩ := Wd.ok_iff.1 h
  exact Wd.ok_iff.2 ⟨ok_more1 h1 h5 _, ok_more1 h2 h5 _, ok_more1 h3 h5 _⟩
theorem field_more {w : Wd} (h : w.ok = true) (h5 : w.u ≤ 5) {f : Nat} (hf : f < 8) : (∀ i : Nat, i < w.u.toNat → (w.more f).field i = w.field i) ∧ (w.more f).field w.u.toNat = f := by
  obtain ⟨h1, h2, h3⟩ := Wd.ok_iff.1 h
  refine ⟨fun i hi => ?_, ?_⟩
  · unfold Wd.field Wd.more
    simp only
    rw [(has_more1 h1 h5 _).1 i hi, (has_more1 h2 h5 _).1 i hi, (has_more1 h3 h5 _).1 i hi]
  · unfold Wd.field Wd.more
    simp only
    rw [(has_more1 h1 h5 _).2, (has_more1 h2 h5 _).2, (has_more1 h3 h5 _).2]
    exact bit_field hf
theorem fc_same {w w' : Wd} {k : Nat} (h : ∀ i, i < k → w'.field i = w.field i) (g : Nat) : w'.fc k g = w.fc k g := by
  induction k with
  | zero => rfl
  | succ k ih =>
    unfold Wd.fc
    rw [ih fun i hi => h i (by omega), h k (by omega)]
theorem fc_more {w : Wd} (h : w.ok = true) (h5 : w.u ≤ 5) {f : Nat} (hf : f < 8) (g : Nat) : (w.more f).fc (w.u.toNat + 1) g = w.fc w.u.toNat g + if f = g then 1 else 0 := by
  obtain ⟨e1, e2⟩ := field_more h h5 hf
  show (w.more f).fc w.u.toNat g + _ = _
  rw [fc_same e1, e2]
theorem mores_u (w : Wd) (f : Nat) (j : Nat) : (w.mores f j).u = w.u + j := by
  induction j with
  | zero => simp [Wd.mores]
  | succ j ih => unfold Wd.mores; rw [more_u, ih]; push_cast; omega
theorem mores_ok {w : Wd} (h : w.ok = true) (f : Nat) {j : Nat} (hj : w.u + j ≤ 6) : (w.mores f j).ok = true := by
  induction j with
  | zero => exact h
  | succ j ih =>
    have := mores_u w f j
    exact more_ok (ih (by push_cast at hj; omega)) (by push_cast at hj; omega) f
theorem fc_mores {w : Wd} (h : w.ok = true) {f : Nat} (hf : f < 8) {j : Nat} (hj : w.u + j ≤ 6) (g : Nat) : (w.mores f j).fc (w.u.toNat + j) g = w.fc w.u.toNat g + if f = g then (j : Int) else 0 := by
  induction j with
  | zero => show w.fc _ g = _; split <;> simp
  | succ j ih =>
    have hu := (ok_u h).1
    have e := mores_u w f j
    push_cast at hj
    have e' : (w.mores f j).u.toNat = w.u.toNat + j := by omega
    have := fc_more (mores_ok h f (j := j) (by omega)) (by omega) hf g
    rw [e', ih (by omega)] at this
    rw [show w.u.toNat + (j + 1) = w.u.toNat + j + 1 by omega]
    show ((w.mores f j).more f).fc _ g = _
    rw [this]
    split
    · push_cast; omega
    · omega

theorem made_all {N : Nat → Int} (h : ∀ f, f < 8 → 0 ≤ N f ∧ N f ≤ 6) (hs : sumN N 8 ≤ 6) {k : Nat} (hk : k ≤ 8) :
    (madeN N k).ok = true ∧ (madeN N k).u = sumN N k ∧ ∀ g, (madeN N k).fc (sumN N k).toNat g = if g < k then N g else 0 := by
  induction k with
  | zero => exact ⟨show (⟨0, 0, 0, 0⟩ : Wd).ok = true by decide, rfl, fun g => by simp [sumN, Wd.fc]⟩
  | succ k ih =>
    obtain ⟨i1, i2, i3⟩ := ih (by omega)
    have hN := h k (by omega)
    have hm := sumN_mono (N := N) hk h
    have h0 := (sumN_le (N := N) (k := k) fun f hf => h f (by omega)).1
    have es : sumN N (k + 1) = sumN N k + N k := rfl
    have ht : ((N k).toNat : Int) = N k := by omega
    refine ⟨mores_ok i1 k (by rw [i2]; omega), ?_, fun g => ?_⟩
    · show ((madeN N k).mores k (N k).toNat).u = _
      rw [mores_u, i2, es, ht]
    · have := fc_mores i1 (f := k) (by omega) (j := (N k).toNat) (by rw [i2]; omega) g
      rw [i2, i3, ht] at this
      rw [es, show (sumN N k + N k).toNat = (sumN N k).toNat + (N k).toNat by omega]
      show ((madeN N k).mores k (N k).toNat).fc _ g = _
      rw [this]
      by_cases e : k = g
      · subst e; rw [if_neg (by omega), if_pos rfl, if_pos (by omega)]; omega
      · rw [if_neg e]
        by_cases e' : g < k
        · rw [if_pos e', if_pos (by omega)]; omega
        · rw [if_neg e', if_neg (by omega)]; omega

/-- of right counts: the world is right, has as many things, and so many lie in each field. -/
theorem made_ok {N : Nat → Int} (h : countsFault N = 0) : (madeN N 8).ok = true := (made_all (counts_zero.1 h).1 (counts_zero.1 h).2 (Nat.le_refl _)).1
theorem made_u {N : Nat → Int} (h : countsFault N = 0) : (madeN N 8).u = sumN N 8 := (made_all (counts_zero.1 h).1 (counts_zero.1 h).2 (Nat.le_refl _)).2.1
theorem made_fc {N : Nat → Int} (h : countsFault N = 0) {g : Nat} (hg : g < 8) : (madeN N 8).fc (madeN N 8).u.toNat g = N g := by
  obtain ⟨_, e, f⟩ := made_all (counts_zero.1 h).1 (counts_zero.1 h).2 (Nat.le_refl _)
  rw [e, f g, if_pos hg]

/-! ### all things lie in a field -/
theorem sumN_same {N M : Nat → Int} {k : Nat} (h : ∀ f, f < k → N f = M f) : sumN N k = sumN M k := by
  induction k with
  | zero => rfl
  | succ k ih => unfold sumN; rw [ih fun f hf => h f (by omega), h k (by omega)]
theorem sumIn_same {L : Nat → Bool} {N M : Nat → Int} {k : Nat} (h : ∀ f, f < k → N f = M f) : sumIn L N k = sumIn L M k := by
  induction k with
  | zero => rfl
  | succ k ih => unfold sumIn; rw [ih fun f hf => h f (by omega), h k (by omega)]
theorem sumIn_one (L : Nat → Bool) (N : Nat → Int) (g k : Nat) : sumIn L (fun f => N f + if g = f then 1 else 0) k = sumIn L N k + if g < k ∧ L g = true then 1 else 0 := by
  induction k with
  | zero => simp [sumIn]
  | succ k ih =>
    unfold sumIn
    rw [ih]
    rcases (Bool.eq_false_or_eq_true (L k)).symm with l | l
    · have l' : ¬ L k = true := by rw [l]; decide
      have e : (g < k ∧ L g = true) ↔ (g < k + 1 ∧ L g = true) := by
        refine ⟨fun h => ⟨by omega, h.2⟩, fun h => ⟨?_, h.2⟩⟩
        rcases Nat.lt_or_ge g k with h' | h'
        · exact h'
        · obtain rfl : g = k := by omega
          rw [l] at h; exact absurd h.2 (by decide)
      simp only [e, if_neg l', Int.add_zero]
    · rw [if_pos l, if_pos l]
      by_cases e : g = k
      · subst e
        have e1 : ¬ (g < g ∧ L g = true) := by omega
        have e2 : g < g + 1 ∧ L g = true := ⟨by omega, l⟩
        rw [if_neg e1, if_pos e2, if_pos rfl]; omega
      · have e1 : (g < k ∧ L g = true) ↔ (g < k + 1 ∧ L g = true) := ⟨fun h => ⟨by omega, h.2⟩, fun h => ⟨by omega, h.2⟩⟩
        rw [if_neg e]
        simp only [e1]
        omega
theorem sumN_all (N : Nat → Int) (k : Nat) : sumIn (fun _ => true) N k = sumN N k := by
  induction k with
  | zero => rfl
  | succ k ih => unfold sumIn sumN; rw [ih, if_pos rfl]
theorem sumIn_fc (w : Wd) (L : Nat → Bool) (k : Nat) : sumIn L (w.fc (k + 1)) 8 = sumIn L (w.fc k) 8 + if L (w.field k) = true then 1 else 0 := by
  have := sumIn_one L (w.fc k) (w.field k) 8
  have e : (w.fc (k + 1)) = fun f => w.fc k f + if w.field k = f then 1 else 0 := rfl
  rw [e, this]
  have hf := field_lt w k
  by_cases l : L (w.field k) = true
  · rw [if_pos l, if_pos ⟨hf, l⟩]
  · rw [if_neg l, if_neg fun h => l h.2]
theorem sumIn_zero (w : Wd) (L : Nat → Bool) (k : Nat) : sumIn L (w.fc 0) k = 0 := by
  induction k with
  | zero => rfl
  | succ k ih => unfold sumIn; rw [ih]; simp [Wd.fc]
theorem sum_fc (w : Wd) (k : Nat) : sumN (w.fc k) 8 = k := by
  rw [← sumN_all]
  induction k with
  | zero => exact sumIn_zero w _ 8
  | succ k ih => rw [sumIn_fc, ih, if_pos rfl]; push_cast; rfl
theorem counts_fc {w : Wd} (h : w.ok = true) : countsFault (w.fc w.u.toNat) = 0 := by
  have hu := ok_u h
  refine counts_zero.2 ⟨fun f _ => ?_, ?_⟩
  · have := fc_le w w.u.toNat f; omega
  · rw [sum_fc]; omega

/-! ### where a term lies -/
/-- the world of one thing, which lies in field f. -/
def oneW (f : Nat) : Wd := (⟨0, 0, 0, 0⟩ : Wd).more f
theorem oneW_ok (f : Nat) : (oneW f).ok = true := more_ok (by decide) (by decide) f
theorem oneW_u (f : Nat) : (oneW f).u = 1 := rfl
/-- does a term lie in field f? -/
def liesB (t : List Int) (f : Nat) : Bool := hasB ((oneW f).val t) ((0 : Nat) : Int)
theorem oneW_has {f : Nat} : hasB (oneW f).a ((0 : Nat) : Int) = bitB f 0 ∧ hasB (oneW f).b ((0 : Nat) : Int) = bitB f 1 ∧ hasB (oneW f).c ((0 : Nat) : Int) = bitB f 2 := by
  unfold oneW Wd.more
  simp only
  cases bitB f 0 <;> cases bitB f 1 <;> cases bitB f 2 <;> decide
theorem oneW_val (f : Nat) (t : List Int) : (oneW f).val t = oneB (liesB t f) := by
  have h := ok_val (oneW_ok f) t
  unfold liesB
  rw [oneW_u] at h
  obtain ⟨_, _, h0, h1⟩ := okB_iff.1 h
  have h1' : (oneW f).val t ≤ 1 := h1
  have hd : (oneW f).val t = 0 ∨ (oneW f).val t = 1 := by omega
  rcases hd with e | e <;> rw [e] <;> decide
/-- a thing is in what a term is, if the term lies in its field. -/
theorem has_field {w : Wd} (h : w.ok = true) (i : Nat) (hi : (i : Int) < w.u) (n : Nat) : ∀ t, isTm n t → hasB (w.val t) i = liesB t (w.field i) := by
  obtain ⟨b0, b1, b2⟩ := field_bit w i
  obtain ⟨o0, o1, o2⟩ := oneW_has (f := w.field i)
  have h1 : ((0 : Nat) : Int) < (oneW (w.field i)).u := by rw [oneW_u]; decide
  have ho := oneW_ok (w.field i)
  induction n with
  | zero => intro t ht; exact ht.elim
  | succ n ih =>
    intro t ht
    rcases ht with ⟨s, h0, h4, rfl⟩ | ⟨t, ht, rfl⟩ | ⟨s, x, y, h5, h7, hx, hy, rfl⟩
    · unfold liesB
      rw [has_leaf h s h0 h4 i hi, has_leaf ho s h0 h4 0 h1]
      by_cases h3 : s < 3
      · rw [if_pos h3, if_pos h3]
        unfold Wd.name
        by_cases s0 : s = 0
        · rw [if_pos s0, if_pos s0, o0, b0]
        · rw [if_neg s0, if_neg s0]
          by_cases s1 : s = 1
          · rw [if_pos s1, if_pos s1, o1, b1]
          · rw [if_neg s1, if_neg s1, o2, b2]
      · rw [if_neg h3, if_neg h3]
    · have e := ih t ht
      unfold liesB at e ⊢
      rw [has_opp h ht i hi, has_opp ho ht 0 h1, e]
    · have ex := ih x hx
      have ey := ih y hy
      unfold liesB at ex ey ⊢
      rw [has_two h h5 h7 hx hy i hi, has_two ho h5 h7 hx hy 0 h1, ex, ey]
theorem pcTo_u {u v : Int} (h : okB u v = true) : pcTo v u.toNat = pcN v :=
  uptoSets (P := fun u v _ => pcTo v u.toNat = pcN v) (by decide +kernel) u v v h h
/-- a term has as many things in a world as in its fields. -/
theorem size_fields {w : Wd} (h : w.ok = true) {n : Nat} {t : List Int} (ht : isTm n t) : pcN (w.val t) = sumIn (liesB t) (w.fc w.u.toNat) 8 := by
  have e : ∀ k : Nat, k ≤ w.u.toNat → pcTo (w.val t) k = sumIn (liesB t) (w.fc k) 8 := by
    intro k
    induction k with
    | zero => intro _; rw [sumIn_zero]; rfl
    | succ k ih =>
      intro hk
      rw [sumIn_fc, ← ih (by omega), ← has_field h k (by omega) n t ht]
      rfl
  rw [← pcTo_u (ok_val h t)]
  exact e _ (Nat.le_refl _)
theorem size_same {w w' : Wd} (h : w.ok = true) (h' : w'.ok = true) (he : ∀ f, f < 8 → w'.fc w'.u.toNat f = w.fc w.u.toNat f) {n : Nat} {t : List Int} (ht : isTm n t) : pcN (w'.val t) = pcN (w.val t) := by
  rw [size_fields h ht, size_fields h' ht]
  exact sumIn_same he

/-! ### the mask -/
/-- 2^f for each of the first k fields, added up. -/
def maskTo (L : Nat → Bool) : Nat → Int
  | 0 => 0
  | k + 1 => maskTo L k + oneB (L k) * pw k
theorem maskTo_le (L : Nat → Bool) (k : Nat) : 0 ≤ maskTo L k ∧ maskTo L k < pw k := by
  induction k with
  | zero => exact ⟨Int.le_refl _, show (0 : Int) < pw 0 by decide⟩
  | succ k ih =>
    have := pw_pos k
    unfold maskTo
    rw [pw_succ]
    unfold oneB
    split <;> omega
theorem has_mask1 : ∀ k : Nat, k < 8 → ∀ m : Nat, m < 2 ^ k → ∀ x, (∀ i : Nat, i < k → hasB ((m : Int) + oneB x * pw k) i = hasB m i) ∧ hasB ((m : Int) + oneB x * pw k) k = x := by decide +kernel
theorem has_mask (L : Nat → Bool) {k : Nat} (hk : k ≤ 8) {f : Nat} (hf : f < k) : hasB (maskTo L k) f = L f := by
  induction k with
  | zero => omega
  | succ k ih =>
    obtain ⟨m0, m1⟩ := maskTo_le L k
    obtain ⟨m, hm⟩ := Int.eq_ofNat_of_zero_le m0
    have hp : pw k = ((2 ^ k : Nat) : Int) := by unfold pw; simp
    have h := has_mask1 k (by omega) m (by rw [hm, hp] at m1; omega) (L k)
    unfold maskTo
    rw [hm]
    rcases Nat.lt_or_ge f k with h' | h'
    · rw [h.1 f h', ← hm]; exact ih (by omega) h'
    · obtain rfl : f = k := by omega
      exact h.2
end Go.Proofs.YtjaedfjfcghgcaaDoor

namespace Go.Proofs.YtjaedfjfcghgcaaDoor
open Go.RowKit

/-- has a kind a second term? a number? -/
def secondB (k : Int) : Bool := decide (k = 1 ∨ k = 2 ∨ k = 5)
def numberB (k : Int) : Bool := decide (k = 3 ∨ k = 4 ∨ k = 5)
/-- what is wrong with the second term. -/
def secondFault (k : Int) (t : List Int) : Int := if secondB k = true then faultN t else if 0 < t.length then 3 else 0
/-- how great a number may be. -/
def mostN (k : Int) : Int := if numberB k = true then 20 else 0
/-- what is wrong with an atom. -/
def atomFault (k : Int) (s t : List Int) (n : Int) : Int :=
  if 1 ≤ k ∧ k ≤ 5 then (if faultN s = 0 then (if secondFault k t = 0 then (if - mostN k ≤ n ∧ n ≤ mostN k then 0 else 1) else secondFault k t) else faultN s) else 1
/-- what an atom says of two sets. -/
def saysB (k n x y : Int) : Bool :=
  if k = 1 then decide (lessN x y = 0) else if k = 2 then decide (x = y) else if k = 3 then decide (n ≤ pcN x) else if k = 4 then decide (pcN x ≤ n) else decide (pcN x ≤ pcN y + n)
/-- the set of the second term, where there is one. -/
def Wd.snd (w : Wd) (k : Int) (t : List Int) : Int := if secondB k = true then w.val t else 0
/-- does it hold? -/
def Wd.holds (w : Wd) (k : Int) (s t : List Int) (n : Int) : Bool := saysB k n (w.val s) (w.snd k t)
/-- what Holds tells: the number of the error, and the answer. -/
def Wd.holdsFault (w : Wd) (k : Int) (s t : List Int) (n : Int) : Int := if atomFault k s t n = 0 then (if w.ok = true then 0 else 1) else atomFault k s t n
def Wd.holdsIs (w : Wd) (k : Int) (s t : List Int) (n : Int) : Bool := if w.holdsFault k s t n = 0 then w.holds k s t n else false

theorem five {k : Int} (h0 : 1 ≤ k) (h1 : k ≤ 5) : k = 1 ∨ k = 2 ∨ k = 3 ∨ k = 4 ∨ k = 5 := by omega
theorem atomFault_kind {k : Int} (h : ¬ (1 ≤ k ∧ k ≤ 5)) (s t : List Int) (n : Int) : atomFault k s t n = 1 := by unfold atomFault; rw [if_neg h]
theorem atomFault_first {k : Int} (h : 1 ≤ k ∧ k ≤ 5) {s : List Int} (hs : ¬ faultN s = 0) (t : List Int) (n : Int) : atomFault k s t n = faultN s := by unfold atomFault; rw [if_pos h, if_neg hs]
theorem atomFault_second {k : Int} (h : 1 ≤ k ∧ k ≤ 5) {s : List Int} (hs : faultN s = 0) {t : List Int} (ht : ¬ secondFault k t = 0) (n : Int) : atomFault k s t n = secondFault k t := by unfold atomFault; rw [if_pos h, if_pos hs, if_neg ht]
theorem atomFault_third {k : Int} (h : 1 ≤ k ∧ k ≤ 5) {s : List Int} (hs : faultN s = 0) {t : List Int} (ht : secondFault k t = 0) (n : Int) : atomFault k s t n = if - mostN k ≤ n ∧ n ≤ mostN k then 0 else 1 := by unfold atomFault; rw [if_pos h, if_pos hs, if_pos ht]
theorem atomFault_zero {k : Int} {s t : List Int} {n : Int} : atomFault k s t n = 0 ↔ (1 ≤ k ∧ k ≤ 5) ∧ faultN s = 0 ∧ secondFault k t = 0 ∧ - mostN k ≤ n ∧ n ≤ mostN k := by
  by_cases h : 1 ≤ k ∧ k ≤ 5
  · by_cases hs : faultN s = 0
    · by_cases ht : secondFault k t = 0
      · rw [atomFault_third h hs ht]
        by_cases hn : - mostN k ≤ n ∧ n ≤ mostN k
        · rw [if_pos hn]; exact ⟨fun _ => ⟨h, hs, ht, hn⟩, fun _ => rfl⟩
        · rw [if_neg hn]; exact ⟨fun h => (by cases h), fun h' => absurd h'.2.2.2 hn⟩
      · rw [atomFault_second h hs ht]; exact ⟨fun h' => absurd h' ht, fun h' => absurd h'.2.2.1 ht⟩
    · rw [atomFault_first h hs]; exact ⟨fun h' => absurd h' hs, fun h' => absurd h'.2.1 hs⟩
  · rw [atomFault_kind h]; exact ⟨fun h' => (by cases h'), fun h' => absurd h'.1 h⟩
theorem second_reads {k : Int} {t : List Int} (ht : secondFault k t = 0) : secondB k = true → faultN t = 0 := by
  intro h'
  unfold secondFault at ht
  rw [if_pos h'] at ht
  exact ht

/-! ### none has fewer than none, nor more than all -/
theorem none_all {w : Wd} (hw : w.ok = true) (s : List Int) : lessN (w.val s) (allN w.u) = 0 := by
  have h := ok_val hw s
  exact uptoSets (P := fun u a _ => lessN a (allN u) = 0) (by decide +kernel) w.u (w.val s) (w.val s) h h
theorem none_size {w : Wd} (hw : w.ok = true) (s : List Int) : pcN (w.val s) ≤ w.u := by
  have h := ok_val hw s
  exact uptoSets (P := fun u a _ => pcN a ≤ u) (by decide +kernel) w.u (w.val s) (w.val s) h h
end Go.Proofs.YtjaedfjfcghgcaaDoor

namespace Go.Proofs.YtjaedfjfcghgcaaDoor
open Go.RowKit

/-- how many formulas a sign takes. -/
def takesF (s : Int) : Int := if s = 10 ∨ s = 11 ∨ s = 13 then 2 else if s = 12 then 1 else 0
/-- is it a sign, where there are so many atoms? -/
def signF (m : Nat) (s : Int) : Bool := !(decide (takesF s = 0) && (decide (s < 0) || decide ((m : Int) ≤ s)))
/-- how many formulas there are behind a row of signs; none: a sign takes more than there are. -/
def cntF : List Int → Int → Option Int
  | [], n => some n
  | s :: l, n => if n < takesF s then none else cntF l (n + 1 - takesF s)
/-- an atom. -/
structure At where
  k : Int
  s : List Int
  t : List Int
  n : Int
def At.fault (a : At) : Int := atomFault a.k a.s a.t a.n
/-- what is wrong with the first atom that is none. -/
def firstFault : List At → Int
  | [] => 0
  | a :: l => if a.fault = 0 then firstFault l else a.fault
/-- what is wrong with a formula: the number of the error, or 0. -/
def formFault (ats : List At) (c : List Int) : Int :=
  if ats.length = 0 ∨ c.length = 0 then 5 else if 6 < ats.length ∨ 20 < c.length then 4 else if firstFault ats = 0 then (if c.all (signF ats.length) = true then (if cntF c 0 = some 1 then 0 else 3) else 1) else firstFault ats

theorem takesF_range (s : Int) : 0 ≤ takesF s ∧ takesF s ≤ 2 := by unfold takesF; split <;> (try split) <;> omega
theorem takesF_leaf {s : Int} (h : takesF s = 0) : s ≠ 10 ∧ s ≠ 11 ∧ s ≠ 12 ∧ s ≠ 13 := by
  unfold takesF at h
  split at h
  · omega
  · split at h <;> omega
theorem takesF_low {s : Int} (h : s < 10) : takesF s = 0 := by unfold takesF; rw [if_neg (by omega), if_neg (by omega)]
theorem signF_iff {m : Nat} {s : Int} : signF m s = true ↔ (takesF s ≠ 0 ∨ (0 ≤ s ∧ s < m)) := by
  unfold signF
  by_cases h : takesF s = 0
  · simp [h]
  · simp [h]
theorem firstFault_zero {ats : List At} : firstFault ats = 0 ↔ ∀ a ∈ ats, a.fault = 0 := by
  induction ats with
  | nil => simp [firstFault]
  | cons a l ih =>
    unfold firstFault
    by_cases h : a.fault = 0
    · rw [if_pos h, ih]; simp [h]
    · rw [if_neg h]; simp [h]
theorem formFault_zero {ats : List At} {c : List Int} : formFault ats c = 0 ↔ (1 ≤ ats.length ∧ ats.length ≤ 6) ∧ (1 ≤ c.length ∧ c.length ≤ 20) ∧ (∀ a ∈ ats, a.fault = 0) ∧ c.all (signF ats.length) = true ∧ cntF c 0 = some 1 := by
  unfold formFault
  by_cases h1 : ats.length = 0 ∨ c.length = 0
  · rw [if_pos h1]; exact ⟨fun h => (by cases h), fun h => by omega⟩
  rw [if_neg h1]
  by_cases h2 : 6 < ats.length ∨ 20 < c.length
  · rw [if_pos h2]; exact ⟨fun h => (by cases h), fun h => by omega⟩
  rw [if_neg h2]
  by_cases h3 : firstFault ats = 0
  · rw [if_pos h3]
    by_cases h4 : c.all (signF ats.length) = true
    · rw [if_pos h4]
      by_cases h5 : cntF c 0 = some 1
      · rw [if_pos h5]; exact ⟨fun _ => ⟨by omega, by omega, firstFault_zero.1 h3, h4, h5⟩, fun _ => rfl⟩
      · rw [if_neg h5]; exact ⟨fun h => (by cases h), fun h => absurd h.2.2.2.2 h5⟩
    · rw [if_neg h4]; exact ⟨fun h => (by cases h), fun h => absurd h.2.2.2.1 h4⟩
  · rw [if_neg h3]; exact ⟨fun h => absurd h h3, fun h => absurd (firstFault_zero.2 h.2.2.1) h3⟩

theorem cntF_append (a b : List Int) (n : Int) : cntF (a ++ b) n = (cntF a n).bind (cntF b) := by
  induction a generalizing n with
  | nil => rfl
  | cons s l ih =>
    simp only [List.cons_append, cntF]
    split
    · rfl
    · exact ih _
theorem cntF_nonneg {l : List Int} {n m : Int} (hn : 0 ≤ n) (h : cntF l n = some m) : 0 ≤ m ∧ m ≤ n + l.length := by
  induction l generalizing n with
  | nil => simp [cntF] at h; subst h; simp; omega
  | cons s l ih =>
    have := takesF_range s
    unfold cntF at h
    split at h
    · cases h
    · have := ih (by omega) h
      simp; omega
theorem takeF_succ (t : List Int) {k : Nat} (h : k < t.length) : t.take (k + 1) = t.take k ++ [t.getD k 0] := by
  rw [List.take_add_one]; simp [List.getElem?_eq_getElem h]
theorem cntF_take_succ (t : List Int) {k : Nat} (h : k < t.length) {m : Int} (hm : cntF (t.take k) 0 = some m) : cntF (t.take (k + 1)) 0 = if m < takesF (t.getD k 0) then none else some (m + 1 - takesF (t.getD k 0)) := by
  rw [takeF_succ t h, cntF_append, hm]; rfl
theorem cntF_take_none (t : List Int) (k : Nat) (h : cntF (t.take k) 0 = none) : cntF t 0 = none := by
  have : cntF (t.take k ++ t.drop k) 0 = none := by rw [cntF_append, h]; rfl
  rwa [List.take_append_drop] at this
theorem cntF_take_some (t : List Int) (k : Nat) {n : Int} (h : cntF t 0 = some n) : ∃ m, cntF (t.take k) 0 = some m := by
  cases hc : cntF (t.take k) 0 with
  | none => rw [cntF_take_none t k hc] at h; cases h
  | some m => exact ⟨m, rfl⟩
theorem cntF_more (r : List Int) (n m : Int) (h : cntF r n = some m) : cntF r (n + 1) = some (m + 1) := by
  induction r generalizing n with
  | nil => simp [cntF] at h ⊢; exact h
  | cons s l ih =>
    unfold cntF at h ⊢
    split at h
    · cases h
    · rw [if_neg (by omega), show n + 1 + 1 - takesF s = n + 1 - takesF s + 1 by omega]
      exact ih _ h

/-! ### the pile -/
/-- whether what a sign makes of those it takes holds. -/
def madeF (held : List Bool) (s : Int) (l : List Bool) : Bool :=
  if s = 10 then l.getD 0 false && l.getD 1 false else if s = 11 then l.getD 0 false || l.getD 1 false else if s = 13 then !l.getD 0 false || l.getD 1 false else if s = 12 then !l.getD 0 false else held.getD s.toNat false
def restF (p : List Bool) (s : Int) : Nat := p.length - (takesF s).toNat
def stepF (held : List Bool) (p : List Bool) (s : Int) : List Bool := p.take (restF p s) ++ [madeF held s (p.drop (restF p s))]
def pileF (held : List Bool) (c : List Int) (p : List Bool) : List Bool := c.foldl (stepF held) p
/-- does a row of signs hold, where these atoms do? -/
def valF (held : List Bool) (c : List Int) : Bool := (pileF held c []).getD 0 false

theorem pileF_append (held : List Bool) (a b : List Int) (p : List Bool) : pileF held (a ++ b) p = pileF held b (pileF held a p) := by simp [pileF, List.foldl_append]
theorem pileF_succ (held : List Bool) (t : List Int) (p : List Bool) {k : Nat} (h : k < t.length) : pileF held (t.take (k + 1)) p = stepF held (pileF held (t.take k) p) (t.getD k 0) := by
  rw [takeF_succ t h, pileF_append]; rfl
theorem stepF_length (held : List Bool) (p : List Bool) (s : Int) (h : takesF s ≤ p.length) : ((stepF held p s).length : Int) = p.length + 1 - takesF s := by
  have := takesF_range s
  simp [stepF, restF]
  omega
theorem pileF_length (held : List Bool) (t : List Int) (p : List Bool) {n : Int} (h : cntF t p.length = some n) : ((pileF held t p).length : Int) = n := by
  induction t generalizing p with
  | nil => simp [cntF] at h; simpa [pileF] using h
  | cons s l ih =>
    unfold cntF at h
    split at h
    · cases h
    · rename_i hs
      have e := stepF_length held p s (by omega)
      exact ih (stepF held p s) (by rw [e]; exact h)
/-- a row of signs does not see what lies beneath what it takes. -/
theorem stepF_under (held q p : List Bool) (s : Int) (h : takesF s ≤ p.length) : stepF held (q ++ p) s = q ++ stepF held p s := by
  have hr := takesF_range s
  have e : restF (q ++ p) s = q.length + restF p s := by unfold restF; simp; omega
  unfold stepF
  rw [e, List.take_length_add_append, List.drop_length_add_append, List.append_assoc]
theorem pileF_under (held : List Bool) (t : List Int) (q p : List Bool) {n : Int} (h : cntF t p.length = some n) : pileF held t (q ++ p) = q ++ pileF held t p := by
  induction t generalizing p with
  | nil => rfl
  | cons s l ih =>
    unfold cntF at h
    split at h
    · cases h
    · rename_i hs
      have e := stepF_length held p s (by omega)
      have := ih (stepF held p s) (by rw [e]; exact h)
      show pileF held l (stepF held (q ++ p) s) = q ++ pileF held l (stepF held p s)
      rw [stepF_under held q p s (by omega)]; exact this
/-- one formula lays its answer on the pile. -/
theorem pileF_one (held : List Bool) {t : List Int} (h : cntF t 0 = some 1) (q : List Bool) : pileF held t q = q ++ [valF held t] := by
  have h1 := pileF_under held t q [] h
  rw [List.append_nil] at h1
  rw [h1]
  have h2 := pileF_length held t [] h
  match e : pileF held t [], h2 with
  | [x], _ => simp [valF, e]
  | [], h2 => simp at h2
  | _ :: _ :: _, h2 => simp at h2; omega
/-- where atoms hold alike, a formula does. -/
theorem pileF_alike {h1 h2 : List Bool} {t1 t2 : List Int} (ht : t1.length = t2.length) (hs : ∀ k, k < t1.length → takesF (t1.getD k 0) = takesF (t2.getD k 0) ∧ ∀ l, madeF h1 (t1.getD k 0) l = madeF h2 (t2.getD k 0) l) (p : List Bool) : pileF h1 t1 p = pileF h2 t2 p := by
  induction t1 generalizing t2 p with
  | nil =>
    cases t2 with
    | nil => rfl
    | cons => simp at ht
  | cons s l ih =>
    cases t2 with
    | nil => simp at ht
    | cons s2 l2 =>
      have e0 := hs 0 (by simp)
      simp only [List.getD_cons_zero] at e0
      have e1 : stepF h1 p s = stepF h2 p s2 := by unfold stepF restF; rw [e0.1, e0.2]
      show pileF h1 l (stepF h1 p s) = pileF h2 l2 (stepF h2 p s2)
      rw [e1]
      refine ih (by simpa using ht) (fun k hk => ?_) _
      have := hs (k + 1) (by simp; omega)
      simpa only [List.getD_cons_succ] using this

/-! ### the opposite -/
theorem good_no {ats : List At} {c : List Int} (h : formFault ats c = 0) (hl : c.length ≤ 19) : formFault ats (c ++ [12]) = 0 := by
  obtain ⟨h1, h2, h3, h4, h5⟩ := formFault_zero.1 h
  refine formFault_zero.2 ⟨h1, by simp; omega, h3, ?_, ?_⟩
  · rw [List.all_append, h4]; simp [signF, takesF]
  · rw [cntF_append, h5]; rfl
theorem val_no (held : List Bool) {c : List Int} (h : cntF c 0 = some 1) : valF held (c ++ [12]) = !valF held c := by
  have : pileF held (c ++ [12]) [] = [!valF held c] := by
    rw [pileF_append, pileF_one held h]; rfl
  rw [valF, this]; rfl
theorem cnt_no {c : List Int} (h : cntF c 0 = some 1) : cntF (c ++ [12]) 0 = some 1 := by rw [cntF_append, h]; rfl
/-- no twice is not at all. -/
theorem val_no_no (held : List Bool) {c : List Int} (h : cntF c 0 = some 1) : valF held ((c ++ [12]) ++ [12]) = valF held c := by
  rw [val_no held (cnt_no h), val_no held h, Bool.not_not]
/-- a formula then itself. -/
theorem good_then {ats : List At} {c : List Int} (h : formFault ats c = 0) (hl : c.length ≤ 9) : formFault ats (c ++ (c ++ [13])) = 0 := by
  obtain ⟨h1, h2, h3, h4, h5⟩ := formFault_zero.1 h
  refine formFault_zero.2 ⟨h1, by simp; omega, h3, ?_, ?_⟩
  · rw [List.all_append, List.all_append, h4]; simp [signF, takesF]
  · rw [cntF_append, h5]
    show cntF (c ++ [13]) 1 = _
    rw [cntF_append, show cntF c 1 = some 2 from cntF_more c 0 1 h5]; rfl
theorem val_then (held : List Bool) {c : List Int} (h : cntF c 0 = some 1) : valF held (c ++ (c ++ [13])) = true := by
  have : pileF held (c ++ (c ++ [13])) [] = [!valF held c || valF held c] := by
    rw [pileF_append, pileF_one held h, pileF_append, pileF_one held h]; rfl
  rw [valF, this]
  cases valF held c <;> rfl

/-! ### both -/
/-- a sign whose atoms have numbers greater by so many. -/
def movedF (m : Nat) (s : Int) : Int := if takesF s = 0 then s + m else s
theorem good_both {ats bs : List At} {c d : List Int} (h : formFault ats c = 0) (h' : formFault bs d = 0) (hl : ats.length + bs.length ≤ 6) (hc : c.length + d.length ≤ 19) : formFault (ats ++ bs) (c ++ (d.map (movedF ats.length) ++ [10])) = 0 := by
  obtain ⟨h1, h2, h3, h4, h5⟩ := formFault_zero.1 h
  obtain ⟨g1, g2, g3, g4, g5⟩ := formFault_zero.1 h'
  have hm : ∀ s ∈ d, takesF (movedF ats.length s) = takesF s ∧ signF (ats ++ bs).length (movedF ats.length s) = true := by
    intro s hs
    have := signF_iff.1 (List.all_eq_true.1 g4 s hs)
    unfold movedF
    by_cases h0 : takesF s = 0
    · rw [if_pos h0]
      have h6 : 0 ≤ s ∧ s < bs.length := this.resolve_left (by simp [h0])
      exact ⟨by rw [h0]; exact takesF_low (by omega), signF_iff.2 (Or.inr (by simp; omega))⟩
    · rw [if_neg h0]
      exact ⟨rfl, signF_iff.2 (Or.inl h0)⟩
  have hcnt : ∀ n, cntF (d.map (movedF ats.length)) n = cntF d n := by
    have : ∀ (l : List Int), (∀ s ∈ l, takesF (movedF ats.length s) = takesF s) → ∀ n, cntF (l.map (movedF ats.length)) n = cntF l n := by
      intro l
      induction l with
      | nil => intro _ n; rfl
      | cons s l ih =>
        intro hh n
        have e := hh s (by simp)
        simp only [List.map_cons, cntF, e]
        rw [ih (fun x hx => hh x (by simp [hx]))]
    exact this d (fun s hs => (hm s hs).1)
  refine formFault_zero.2 ⟨by simp; omega, by simp; omega, ?_, ?_, ?_⟩
  · intro a ha
    rcases List.mem_append.1 ha with ha | ha
    · exact h3 a ha
    · exact g3 a ha
  · rw [List.all_append, List.all_append]
    have e1 : c.all (signF (ats ++ bs).length) = true := by
      rw [List.all_eq_true]
      intro s hs
      rcases signF_iff.1 (List.all_eq_true.1 h4 s hs) with h | h
      · exact signF_iff.2 (Or.inl h)
      · exact signF_iff.2 (Or.inr (by simp; omega))
    have e2 : (d.map (movedF ats.length)).all (signF (ats ++ bs).length) = true := by
      rw [List.all_map, List.all_eq_true]
      intro s hs
      exact (hm s hs).2
    rw [e1, e2]; simp [signF, takesF]
  · rw [cntF_append, h5]
    show cntF (d.map (movedF ats.length) ++ [10]) 1 = _
    rw [cntF_append, hcnt, show cntF d 1 = some 2 from cntF_more d 0 1 g5]; rfl
theorem madeF_leaf (held : List Bool) {s : Int} (h : takesF s = 0) (l : List Bool) : madeF held s l = held.getD s.toNat false := by
  have := takesF_leaf h
  unfold madeF
  rw [if_neg this.1, if_neg this.2.1, if_neg this.2.2.2, if_neg this.2.2.1]
theorem madeF_op (h1 h2 : List Bool) {s : Int} (h : takesF s ≠ 0) (l : List Bool) : madeF h1 s l = madeF h2 s l := by
  have : s = 10 ∨ s = 11 ∨ s = 13 ∨ s = 12 := by
    unfold takesF at h
    split at h
    · omega
    · split at h <;> omega
  rcases this with rfl | rfl | rfl | rfl <;> rfl
theorem val_both {ats bs : List At} {c d : List Int} (ha hb : List Bool) (la : ha.length = ats.length) (h : formFault ats c = 0) (h' : formFault bs d = 0) (hl : ats.length + bs.length ≤ 6) : valF (ha ++ hb) (c ++ (d.map (movedF ats.length) ++ [10])) = (valF ha c && valF hb d) := by
  obtain ⟨h1, h2, h3, h4, h5⟩ := formFault_zero.1 h
  obtain ⟨g1, g2, g3, g4, g5⟩ := formFault_zero.1 h'
  have e1 : ∀ p, pileF (ha ++ hb) c p = pileF ha c p := fun p => by
    refine pileF_alike rfl (fun k hk => ⟨rfl, fun l => ?_⟩) p
    have hm : c.getD k 0 ∈ c := by rw [List.getD_eq_getElem?_getD, List.getElem?_eq_getElem hk]; exact List.getElem_mem hk
    rcases signF_iff.1 (List.all_eq_true.1 h4 _ hm) with h0 | h0
    · exact madeF_op _ _ h0 l
    · have t0 : takesF (c.getD k 0) = 0 := takesF_low (by omega)
      rw [madeF_leaf _ t0, madeF_leaf _ t0, List.getD_eq_getElem?_getD, List.getElem?_append_left (by omega), ← List.getD_eq_getElem?_getD]
  have e2 : ∀ p, pileF (ha ++ hb) (d.map (movedF ats.length)) p = pileF hb d p := fun p => by
    refine pileF_alike (by simp) (fun k hk => ?_) p
    have hk' : k < d.length := by simpa using hk
    have eg : (d.map (movedF ats.length)).getD k 0 = movedF ats.length (d.getD k 0) := by
      simp [List.getElem?_eq_getElem hk']
    rw [eg]
    have hm : d.getD k 0 ∈ d := by rw [List.getD_eq_getElem?_getD, List.getElem?_eq_getElem hk']; exact List.getElem_mem hk'
    generalize d.getD k 0 = s at hm
    unfold movedF
    rcases signF_iff.1 (List.all_eq_true.1 g4 s hm) with h0 | h0
    · rw [if_neg h0]; exact ⟨rfl, fun l => madeF_op _ _ h0 l⟩
    · have t0 : takesF s = 0 := takesF_low (by omega)
      have t1 : takesF (s + ats.length) = 0 := takesF_low (by omega)
      rw [if_pos t0]
      refine ⟨by rw [t0, t1], fun l => ?_⟩
      rw [madeF_leaf _ t0, madeF_leaf _ t1, show (s + (ats.length : Int)).toNat = ha.length + s.toNat by omega]
      rw [List.getD_eq_getElem?_getD, List.getElem?_append_right (by omega), Nat.add_sub_cancel_left, ← List.getD_eq_getElem?_getD]
  have hp : pileF (ha ++ hb) (c ++ (d.map (movedF ats.length) ++ [10])) [] = [valF ha c && valF hb d] := by
    rw [pileF_append, pileF_append, e1, e2, pileF_one ha h5, pileF_one hb g5]; rfl
  rw [valF, hp]; rfl

/-! ### Holds -/
def Wd.heldL (w : Wd) (ats : List At) : List Bool := ats.map fun a => w.holds a.k a.s a.t a.n
/-- what Holds tells. -/
def Wd.formFault (w : Wd) (ats : List At) (c : List Int) : Int := if YtjaedfjfcghgcaaDoor.formFault ats c = 0 then (if w.ok = true then 0 else 1) else YtjaedfjfcghgcaaDoor.formFault ats c
def Wd.formIs (w : Wd) (ats : List At) (c : List Int) : Bool := if w.formFault ats c = 0 then valF (w.heldL ats) c else false
theorem wdForm_zero {w : Wd} {ats : List At} {c : List Int} : w.formFault ats c = 0 ↔ YtjaedfjfcghgcaaDoor.formFault ats c = 0 ∧ w.ok = true := by
  unfold Wd.formFault
  by_cases h : YtjaedfjfcghgcaaDoor.formFault ats c = 0
  · rw [if_pos h]
    by_cases h' : w.ok = true
    · rw [if_pos h']; exact ⟨fun _ => ⟨h, h'⟩, fun _ => rfl⟩
    · rw [if_neg h']; exact ⟨fun h => (by cases h), fun h => absurd h.2 h'⟩
  · rw [if_neg h]; exact ⟨fun h' => absurd h' h, fun h' => absurd h'.1 h⟩
/-- what is wrong with the opposite of a formula. -/
def negFault (ats : List At) (c : List Int) : Int := if formFault ats c = 0 then (if 19 < c.length then 4 else 0) else formFault ats c
end Go.Proofs.YtjaedfjfcghgcaaDoor

namespace Go.Proofs.YtjaedfjfcghgcaaDoor
open Go.RowKit

theorem none_of_size {u x : Int} (h : okB u x = true) : (x = 0 ↔ pcN x = 0) :=
  uptoSets (P := fun _ x _ => x = 0 ↔ pcN x = 0) (by decide +kernel) u x x h h
theorem same_of_less {u x y : Int} (hx : okB u x = true) (hy : okB u y = true) : (x = y ↔ lessN x y = 0 ∧ lessN y x = 0) :=
  uptoSets (P := fun _ x y => x = y ↔ lessN x y = 0 ∧ lessN y x = 0) (by decide +kernel) u x y hx hy

/-- two right worlds with as many things in each field. -/
structure Alike (w w' : Wd) : Prop where
  ok : w.ok = true
  ok' : w'.ok = true
  fc : ∀ f, f < 8 → w'.fc w'.u.toNat f = w.fc w.u.toNat f

theorem Alike.size {w w' : Wd} (h : Alike w w') {n : Nat} {t : List Int} (ht : isTm n t) : pcN (w'.val t) = pcN (w.val t) := size_same h.ok h.ok' h.fc ht
theorem Alike.less {w w' : Wd} (h : Alike w w') {n m : Nat} {s t : List Int} (hs : isTm n s) (ht : isTm m t) : (lessN (w'.val s) (w'.val t) = 0 ↔ lessN (w.val s) (w.val t) = 0) := by
  have e : ∀ v : Wd, v.val (s ++ (t ++ [7])) = lessN (v.val s) (v.val t) := fun v => by rw [val_bin v (by omega) (by omega) hs ht, doN7]
  have hn : isTm (n + m + 1) (s ++ (t ++ [7])) := Or.inr (Or.inr ⟨7, s, t, by omega, by omega, isTm_mono (by omega) hs, isTm_mono (by omega) ht, rfl⟩)
  rw [← e, ← e, none_of_size (ok_val h.ok' _), none_of_size (ok_val h.ok _), h.size hn]
theorem one_term {t : List Int} (h : faultN t = 0) : ∃ n, isTm n t := tree t (fault_zero.1 h).2.2.1 (fault_zero.1 h).2.2.2
theorem Alike.holds {w w' : Wd} (h : Alike w w') {k : Int} {s t : List Int} {n : Int} (hf : atomFault k s t n = 0) : w'.holds k s t n = w.holds k s t n := by
  obtain ⟨hk, hs, ht, _⟩ := atomFault_zero.1 hf
  obtain ⟨i, hi⟩ := one_term hs
  unfold Wd.holds Wd.snd saysB
  rcases five hk.1 hk.2 with rfl | rfl | rfl | rfl | rfl
  · obtain ⟨j, hj⟩ := one_term (second_reads ht (by decide))
    rw [if_pos (show secondB 1 = true by decide), if_pos rfl, if_pos (show secondB 1 = true by decide), if_pos rfl]
    exact decide_eq_decide.2 (h.less hi hj)
  · obtain ⟨j, hj⟩ := one_term (second_reads ht (by decide))
    rw [if_pos (show secondB 2 = true by decide), if_pos (show secondB 2 = true by decide), if_neg (by decide), if_pos rfl, if_neg (by decide), if_pos rfl]
    refine decide_eq_decide.2 ?_
    rw [same_of_less (ok_val h.ok' s) (ok_val h.ok' t), same_of_less (ok_val h.ok s) (ok_val h.ok t), h.less hi hj, h.less hj hi]
  · rw [if_neg (by decide), if_neg (by decide), if_pos rfl, if_neg (by decide), if_neg (by decide), if_pos rfl, h.size hi]
  · rw [if_neg (by decide), if_neg (by decide), if_neg (by decide), if_pos rfl, if_neg (by decide), if_neg (by decide), if_neg (by decide), if_pos rfl, h.size hi]
  · obtain ⟨j, hj⟩ := one_term (second_reads ht (by decide))
    rw [if_pos (show secondB 5 = true by decide), if_pos (show secondB 5 = true by decide), if_neg (by decide), if_neg (by decide), if_neg (by decide), if_neg (by decide), if_neg (by decide), if_neg (by decide), if_neg (by decide), if_neg (by decide), h.size hi, h.size hj]
theorem Alike.fault {w w' : Wd} (h : Alike w w') (ats : List At) (c : List Int) : w'.formFault ats c = w.formFault ats c := by
  unfold Wd.formFault; rw [h.ok, h.ok']
/-- a formula holds in a world just if in one with as many things in each field. -/
theorem Alike.form {w w' : Wd} (h : Alike w w') (ats : List At) (c : List Int) : w'.formIs ats c = w.formIs ats c := by
  unfold Wd.formIs
  rw [h.fault]
  by_cases hf : w.formFault ats c = 0
  · rw [if_pos hf, if_pos hf]
    obtain ⟨_, _, hall, _⟩ := formFault_zero.1 (wdForm_zero.1 hf).1
    have e : w'.heldL ats = w.heldL ats := by
      unfold Wd.heldL
      exact List.map_congr_left fun a ha => h.holds (hall a ha)
    rw [e]
  · rw [if_neg hf, if_neg hf]
/-- the world of the counts of a world is like it. -/
theorem alike_made {w : Wd} (h : w.ok = true) : Alike w (madeN (w.fc w.u.toNat) 8) :=
  ⟨h, made_ok (counts_fc h), fun _ hf => made_fc (counts_fc h) hf⟩
theorem made_things {w : Wd} (h : w.ok = true) : (madeN (w.fc w.u.toNat) 8).u = w.u := by
  rw [made_u (counts_fc h), sum_fc]
  have := (ok_u h).1
  omega
end Go.Proofs.YtjaedfjfcghgcaaDoor
