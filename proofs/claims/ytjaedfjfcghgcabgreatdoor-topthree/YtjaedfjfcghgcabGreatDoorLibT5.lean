/-
  Plain facts on fields (chapter 6): the field in which a thing lies, how many lie in each, the world of so many, where a term lies. No program is read here.
-/
import Derived.Test.YtjaedfjfcghgcabGreatDoorLibT4
namespace Go.Proofs.YtjaedfjfcghgcabGreatDoor
open Go.RowKit

/-- 1, if so, else 0. -/
def oneB (x : Bool) : Int := if x = true then 1 else 0
/-- has name k the things of field f? -/
def bitB (f k : Nat) : Bool := decide (f / 2 ^ k % 2 = 1)
/-- the field in which thing i lies. -/
def Wd.field (w : Wd) (i : Nat) : Nat := (hasB w.a i).toNat + 2 * (hasB w.b i).toNat + 4 * (hasB w.c i).toNat
theorem field_lt (w : Wd) (i : Nat) : w.field i < 8 := by
  unfold Wd.field
  cases hasB w.a i <;> cases hasB w.b i <;> cases hasB w.c i <;> decide
theorem eight {f : Nat} (h : f < 8) : f = 0 ∨ f = 1 ∨ f = 2 ∨ f = 3 ∨ f = 4 ∨ f = 5 ∨ f = 6 ∨ f = 7 := by omega
theorem field_bit (w : Wd) (i : Nat) : bitB (w.field i) 0 = hasB w.a i ∧ bitB (w.field i) 1 = hasB w.b i ∧ bitB (w.field i) 2 = hasB w.c i := by
  unfold Wd.field
  cases hasB w.a i <;> cases hasB w.b i <;> cases hasB w.c i <;> decide
theorem bit_field {f : Nat} (h : f < 8) : (bitB f 0).toNat + 2 * (bitB f 1).toNat + 4 * (bitB f 2).toNat = f := by
  rcases eight h with rfl | rfl | rfl | rfl | rfl | rfl | rfl | rfl <;> decide

/-- how many of the first k things lie in field f. -/
def Wd.fc (w : Wd) : Nat → Nat → Int
  | 0, _ => 0
  | k + 1, f => w.fc k f + if w.field k = f then 1 else 0
theorem fc_le (w : Wd) (k f : Nat) : 0 ≤ w.fc k f ∧ w.fc k f ≤ k := by
  induction k with
  | zero => exact ⟨Int.le_refl _, Int.le_refl _⟩
  | succ k ih => unfold Wd.fc; split <;> omega

/-- so many in the first k fields, added up; those of some fields alone. -/
def sumN (N : Nat → Int) : Nat → Int
  | 0 => 0
  | k + 1 => sumN N k + N k
def sumIn (L : Nat → Bool) (N : Nat → Int) : Nat → Int
  | 0 => 0
  | k + 1 => sumIn L N k + if L k = true then N k else 0
/-- is each by itself right? -/
def eachB (N : Nat → Int) : Nat → Bool
  | 0 => true
  | k + 1 => eachB N k && decide (0 ≤ N k ∧ N k ≤ 6)
/-- what is wrong with counts: the number of the error, or 0. -/
def countsFault (N : Nat → Int) : Int := if eachB N 8 = true then (if sumN N 8 ≤ 6 then 0 else 4) else 1

theorem eachB_iff {N : Nat → Int} {k : Nat} : eachB N k = true ↔ ∀ f, f < k → 0 ≤ N f ∧ N f ≤ 6 := by
  induction k with
  | zero => exact ⟨fun _ f hf => by omega, fun _ => rfl⟩
  | succ k ih =>
    unfold eachB
    rw [Bool.and_eq_true, ih, decide_eq_true_iff]
    refine ⟨fun h f hf => ?_, fun h => ⟨fun f hf => h f (by omega), h k (by omega)⟩⟩
    rcases Nat.lt_or_ge f k with h' | h'
    · exact h.1 f h'
    · obtain rfl : f = k := by omega
      exact h.2
theorem eachB_no {N : Nat → Int} {k : Nat} (hk : k < 8) (h : ¬ (0 ≤ N k ∧ N k ≤ 6)) : eachB N 8 = false := by
  rcases (Bool.eq_false_or_eq_true (eachB N 8)).symm with e | e
  · exact e
  · exact absurd (eachB_iff.1 e k hk) h
theorem sumN_le {N : Nat → Int} {k : Nat} (h : ∀ f, f < k → 0 ≤ N f ∧ N f ≤ 6) : 0 ≤ sumN N k ∧ sumN N k ≤ 6 * k := by
  induction k with
  | zero => exact ⟨Int.le_refl _, Int.le_refl _⟩
  | succ k ih =>
    have := ih fun f hf => h f (by omega)
    have := h k (by omega)
    unfold sumN; omega
theorem sumN_mono {N : Nat → Int} {k l : Nat} (hkl : k ≤ l) (h : ∀ f, f < l → 0 ≤ N f ∧ N f ≤ 6) : sumN N k ≤ sumN N l := by
  induction l with
  | zero => obtain rfl : k = 0 := by omega
            exact Int.le_refl _
  | succ l ih =>
    rcases Nat.lt_or_ge l k with h' | h'
    · obtain rfl : k = l + 1 := by omega
      exact Int.le_refl _
    · have := ih h' fun f hf => h f (by omega)
      have := h l (by omega)
      have e : sumN N (l + 1) = sumN N l + N l := rfl
      rw [e]; omega
theorem counts_zero {N : Nat → Int} : countsFault N = 0 ↔ (∀ f, f < 8 → 0 ≤ N f ∧ N f ≤ 6) ∧ sumN N 8 ≤ 6 := by
  unfold countsFault
  by_cases h : eachB N 8 = true
  · rw [if_pos h]
    by_cases h' : sumN N 8 ≤ 6
    · rw [if_pos h']; exact ⟨fun _ => ⟨eachB_iff.1 h, h'⟩, fun _ => rfl⟩
    · rw [if_neg h']; exact ⟨fun e => (by cases e), fun e => absurd e.2 h'⟩
  · rw [if_neg h]; exact ⟨fun e => (by cases e), fun e => absurd (eachB_iff.2 e.1) h⟩

/-! ### one thing more -/
/-- the world with one thing more, which lies in field f. -/
def Wd.more (w : Wd) (f : Nat) : Wd := ⟨w.u + 1, w.a + oneB (bitB f 0) * pw w.u.toNat, w.b + oneB (bitB f 1) * pw w.u.toNat, w.c + oneB (bitB f 2) * pw w.u.toNat⟩
def Wd.mores (w : Wd) (f : Nat) : Nat → Wd
  | 0 => w
  | j + 1 => (w.mores f j).more f
/-- the world of so many in each of the first k fields. -/
def madeN (N : Nat → Int) : Nat → Wd
  | 0 => ⟨0, 0, 0, 0⟩
  | k + 1 => (madeN N k).mores k (N k).toNat

theorem ok_more1 {u a : Int} (h : okB u a = true) (h5 : u ≤ 5) (x : Bool) : okB (u + 1) (a + oneB x * pw u.toNat) = true := by
  have e : ∀ x, okB u a = true → u ≤ 5 → okB (u + 1) (a + oneB x * pw u.toNat) = true := fun x h h5 =>
    uptoSets (P := fun u a _ => u ≤ 5 → ∀ x, okB (u + 1) (a + oneB x * pw u.toNat) = true) (by decide +kernel) u a a h h h5 x
  exact e x h h5
theorem has_more1 {u a : Int} (h : okB u a = true) (h5 : u ≤ 5) (x : Bool) : (∀ i : Nat, i < u.toNat → hasB (a + oneB x * pw u.toNat) i = hasB a i) ∧ hasB (a + oneB x * pw u.toNat) u.toNat = x :=
  uptoSets (P := fun u a _ => u ≤ 5 → ∀ x, (∀ i : Nat, i < u.toNat → hasB (a + oneB x * pw u.toNat) i = hasB a i) ∧ hasB (a + oneB x * pw u.toNat) u.toNat = x) (by decide +kernel) u a a h h h5 x
theorem more_u (w : Wd) (f : Nat) : (w.more f).u = w.u + 1 := rfl
theorem more_ok {w : Wd} (h : w.ok = true) (h5 : w.u ≤ 5) (f : Nat) : (w.more f).ok = true := by
  obtain ⟨h1, h2, h3⟩ := Wd.ok_iff.1 h
  exact Wd.ok_iff.2 ⟨ok_more1 h1 h5 _, ok_more1 h2 h5 _, ok_more1 h3 h5 _⟩
theorem field_more {w : Wd} (h : w.ok = true) (h5 : w.u ≤ 5) {f : Nat} (hf : f < 8) : (∀ i : Nat, i < w.u.toNat → (w.more f).field i = w.field i) ∧ (w.more f).field w.u.toNat = f := by
  obtain ⟨h1, h2, h3⟩ := Wd.ok_iff.1 h
  refine ⟨fun i hi => ?_, ?_⟩
  · unfold Wd.field Wd.more
    simp only
    rw [(has_more1 h1 h5 _).1 i hi, (has_more1 h2 h5 _).1 i hi, (has_more1 h3 h5 _).1 i hi]
  · unfold Wd.field Wd.more
    simp only
    rw [(has_more1 h1 h5 _).2, (has_more1 h2 h5 _).2, (has_more1 h3 h5 _).2]
    exact bit_field hf
theorem fc_same {w w' : Wd} {k : Nat} (h : ∀ i, i < k → w'.field i = w.field i) (g : Nat) : w'.fc k g = w.fc k g := by
  induction k with
  | zero => rfl
  | succ k ih =>
    unfold Wd.fc
    rw [ih fun i hi => h i (by omega), h k (by omega)]
theorem fc_more {w : Wd} (h : w.ok = true) (h5 : w.u ≤ 5) {f : Nat} (hf : f < 8) (g : Nat) : (w.more f).fc (w.u.toNat + 1) g = w.fc w.u.toNat g + if f = g then 1 else 0 := by
  obtain ⟨e1, e2⟩ := field_more h h5 hf
  show (w.more f).fc w.u.toNat g + _ = _
  rw [fc_same e1, e2]
theorem mores_u (w : Wd) (f : Nat) (j : Nat) : (w.mores f j).u = w.u + j := by
  induction j with
  | zero => simp [Wd.mores]
  | succ j ih => unfold Wd.mores; rw [more_u, ih]; push_cast; omega
theorem mores_ok {w : Wd} (h : w.ok = true) (f : Nat) {j : Nat} (hj : w.u + j ≤ 6) : (w.mores f j).ok = true := by
  induction j with
  | zero => exact h
  | succ j ih =>
    have := mores_u w f j
    exact more_ok (ih (by push_cast at hj; omega)) (by push_cast at hj; omega) f
theorem fc_mores {w : Wd} (h : w.ok = true) {f : Nat} (hf : f < 8) {j : Nat} (hj : w.u + j ≤ 6) (g : Nat) : (w.mores f j).fc (w.u.toNat + j) g = w.fc w.u.toNat g + if f = g then (j : Int) else 0 := by
  induction j with
  | zero => show w.fc _ g = _; split <;> simp
  | succ j ih =>
    have hu := (ok_u h).1
    have e := mores_u w f j
    push_cast at hj
    have e' : (w.mores f j).u.toNat = w.u.toNat + j := by omega
    have := fc_more (mores_ok h f (j := j) (by omega)) (by omega) hf g
    rw [e', ih (by omega)] at this
    rw [show w.u.toNat + (j + 1) = w.u.toNat + j + 1 by omega]
    show ((w.mores f j).more f).fc _ g = _
    rw [this]
    split
    · push_cast; omega
    · omega

theorem made_all {N : Nat → Int} (h : ∀ f, f < 8 → 0 ≤ N f ∧ N f ≤ 6) (hs : sumN N 8 ≤ 6) {k : Nat} (hk : k ≤ 8) :
    (madeN N k).ok = true ∧ (madeN N k).u = sumN N k ∧ ∀ g, (madeN N k).fc (sumN N k).toNat g = if g < k then N g else 0 := by
  induction k with
  | zero => exact ⟨show (⟨0, 0, 0, 0⟩ : Wd).ok = true by decide, rfl, fun g => by simp [sumN, Wd.fc]⟩
  | succ k ih =>
    obtain ⟨i1, i2, i3⟩ := ih (by omega)
    have hN := h k (by omega)
    have hm := sumN_mono (N := N) hk h
    have h0 := (sumN_le (N := N) (k := k) fun f hf => h f (by omega)).1
    have es : sumN N (k + 1) = sumN N k + N k := rfl
    have ht : ((N k).toNat : Int) = N k := by omega
    refine ⟨mores_ok i1 k (by rw [i2]; omega), ?_, fun g => ?_⟩
    · show ((madeN N k).mores k (N k).toNat).u = _
      rw [mores_u, i2, es, ht]
    · have := fc_mores i1 (f := k) (by omega) (j := (N k).toNat) (by rw [i2]; omega) g
      rw [i2, i3, ht] at this
      rw [es, show (sumN N k + N k).toNat = (sumN N k).toNat + (N k).toNat by omega]
      show ((madeN N k).mores k (N k).toNat).fc _ g = _
      rw [this]
      by_cases e : k = g
      · subst e; rw [if_neg (by omega), if_pos rfl, if_pos (by omega)]; omega
      · rw [if_neg e]
        by_cases e' : g < k
        · rw [if_pos e', if_pos (by omega)]; omega
        · rw [if_neg e', if_neg (by omega)]; omega

/-- of right counts: the world is right, has as many things, and so many lie in each field. -/
theorem made_ok {N : Nat → Int} (h : countsFault N = 0) : (madeN N 8).ok = true := (made_all (counts_zero.1 h).1 (counts_zero.1 h).2 (Nat.le_refl _)).1
theorem made_u {N : Nat → Int} (h : countsFault N = 0) : (madeN N 8).u = sumN N 8 := (made_all (counts_zero.1 h).1 (counts_zero.1 h).2 (Nat.le_refl _)).2.1
theorem made_fc {N : Nat → Int} (h : countsFault N = 0) {g : Nat} (hg : g < 8) : (madeN N 8).fc (madeN N 8).u.toNat g = N g := by
  obtain ⟨_, e, f⟩ := made_all (counts_zero.1 h).1 (counts_zero.1 h).2 (Nat.le_refl _)
  rw [e, f g, if_pos hg]

/-! ### all things lie in a field -/
theorem sumN_same {N M : Nat → Int} {k : Nat} (h : ∀ f, f < k → N f = M f) : sumN N k = sumN M k := by
  induction k with
  | zero => rfl
  | succ k ih => unfold sumN; rw [ih fun f hf => h f (by omega), h k (by omega)]
theorem sumIn_same {L : Nat → Bool} {N M : Nat → Int} {k : Nat} (h : ∀ f, f < k → N f = M f) : sumIn L N k = sumIn L M k := by
  induction k with
  | zero => rfl
  | succ k ih => unfold sumIn; rw [ih fun f hf => h f (by omega), h k (by omega)]
theorem sumIn_one (L : Nat → Bool) (N : Nat → Int) (g k : Nat) : sumIn L (fun f => N f + if g = f then 1 else 0) k = sumIn L N k + if g < k ∧ L g = true then 1 else 0 := by
  induction k with
  | zero => simp [sumIn]
  | succ k ih =>
    unfold sumIn
    rw [ih]
    rcases (Bool.eq_false_or_eq_true (L k)).symm with l | l
    · have l' : ¬ L k = true := by rw [l]; decide
      have e : (g < k ∧ L g = true) ↔ (g < k + 1 ∧ L g = true) := by
        refine ⟨fun h => ⟨by omega, h.2⟩, fun h => ⟨?_, h.2⟩⟩
        rcases Nat.lt_or_ge g k with h' | h'
        · exact h'
        · obtain rfl : g = k := by omega
          rw [l] at h; exact absurd h.2 (by decide)
      simp only [e, if_neg l', Int.add_zero]
    · rw [if_pos l, if_pos l]
      by_cases e : g = k
      · subst e
        have e1 : ¬ (g < g ∧ L g = true) := by omega
        have e2 : g < g + 1 ∧ L g = true := ⟨by omega, l⟩
        rw [if_neg e1, if_pos e2, if_pos rfl]; omega
      · have e1 : (g < k ∧ L g = true) ↔ (g < k + 1 ∧ L g = true) := ⟨fun h => ⟨by omega, h.2⟩, fun h => ⟨by omega, h.2⟩⟩
        rw [if_neg e]
        simp only [e1]
        omega
theorem sumN_all (N : Nat → Int) (k : Nat) : sumIn (fun _ => true) N k = sumN N k := by
  induction k with
  | zero => rfl
  | succ k ih => unfold sumIn sumN; rw [ih, if_pos rfl]
theorem sumIn_fc (w : Wd) (L : Nat → Bool) (k : Nat) : sumIn L (w.fc (k + 1)) 8 = sumIn L (w.fc k) 8 + if L (w.field k) = true then 1 else 0 := by
  have := sumIn_one L (w.fc k) (w.field k) 8
  have e : (w.fc (k + 1)) = fun f => w.fc k f + if w.field k = f then 1 else 0 := rfl
  rw [e, this]
  have hf := field_lt w k
  by_cases l : L (w.field k) = true
  · rw [if_pos l, if_pos ⟨hf, l⟩]
  · rw [if_neg l, if_neg fun h => l h.2]
theorem sumIn_zero (w : Wd) (L : Nat → Bool) (k : Nat) : sumIn L (w.fc 0) k = 0 := by
  induction k with
  | zero => rfl
  | succ k ih => unfold sumIn; rw [ih]; simp [Wd.fc]
theorem sum_fc (w : Wd) (k : Nat) : sumN (w.fc k) 8 = k := by
  rw [← sumN_all]
  induction k with
  | zero => exact sumIn_zero w _ 8
  | succ k ih => rw [sumIn_fc, ih, if_pos rfl]; push_cast; rfl
theorem counts_fc {w : Wd} (h : w.ok = true) : countsFault (w.fc w.u.toNat) = 0 := by
  have hu := ok_u h
  refine counts_zero.2 ⟨fun f _ => ?_, ?_⟩
  · have := fc_le w w.u.toNat f; omega
  · rw [sum_fc]; omega

/-! ### where a term lies -/
/-- the world of one thing, which lies in field f. -/
def oneW (f : Nat) : Wd := (⟨0, 0, 0, 0⟩ : Wd).more f
theorem oneW_ok (f : Nat) : (oneW f).ok = true := more_ok (by decide) (by decide) f
theorem oneW_u (f : Nat) : (oneW f).u = 1 := rfl
/-- does a term lie in field f? -/
def liesB (t : List Int) (f : Nat) : Bool := hasB ((oneW f).val t) ((0 : Nat) : Int)
theorem oneW_has {f : Nat} : hasB (oneW f).a ((0 : Nat) : Int) = bitB f 0 ∧ hasB (oneW f).b ((0 : Nat) : Int) = bitB f 1 ∧ hasB (oneW f).c ((0 : Nat) : Int) = bitB f 2 := by
  unfold oneW Wd.more
  simp only
  cases bitB f 0 <;> cases bitB f 1 <;> cases bitB f 2 <;> decide
theorem oneW_val (f : Nat) (t : List Int) : (oneW f).val t = oneB (liesB t f) := by
  have h := ok_val (oneW_ok f) t
  unfold liesB
  rw [oneW_u] at h
  obtain ⟨_, _, h0, h1⟩ := okB_iff.1 h
  have h1' : (oneW f).val t ≤ 1 := h1
  have hd : (oneW f).val t = 0 ∨ (oneW f).val t = 1 := by omega
  rcases hd with e | e <;> rw [e] <;> decide
/-- a thing is in what a term is, if the term lies in its field. -/
theorem has_field {w : Wd} (h : w.ok = true) (i : Nat) (hi : (i : Int) < w.u) (n : Nat) : ∀ t, isTm n t → hasB (w.val t) i = liesB t (w.field i) := by
  obtain ⟨b0, b1, b2⟩ := field_bit w i
  obtain ⟨o0, o1, o2⟩ := oneW_has (f := w.field i)
  have h1 : ((0 : Nat) : Int) < (oneW (w.field i)).u := by rw [oneW_u]; decide
  have ho := oneW_ok (w.field i)
  induction n with
  | zero => intro t ht; exact ht.elim
  | succ n ih =>
    intro t ht
    rcases ht with ⟨s, h0, h4, rfl⟩ | ⟨t, ht, rfl⟩ | ⟨s, x, y, h5, h7, hx, hy, rfl⟩
    · unfold liesB
      rw [has_leaf h s h0 h4 i hi, has_leaf ho s h0 h4 0 h1]
      by_cases h3 : s < 3
      · rw [if_pos h3, if_pos h3]
        unfold Wd.name
        by_cases s0 : s = 0
        · rw [if_pos s0, if_pos s0, o0, b0]
        · rw [if_neg s0, if_neg s0]
          by_cases s1 : s = 1
          · rw [if_pos s1, if_pos s1, o1, b1]
          · rw [if_neg s1, if_neg s1, o2, b2]
      · rw [if_neg h3, if_neg h3]
    · have e := ih t ht
      unfold liesB at e ⊢
      rw [has_opp h ht i hi, has_opp ho ht 0 h1, e]
    · have ex := ih x hx
      have ey := ih y hy
      unfold liesB at ex ey ⊢
      rw [has_two h h5 h7 hx hy i hi, has_two ho h5 h7 hx hy 0 h1, ex, ey]
theorem pcTo_u {u v : Int} (h : okB u v = true) : pcTo v u.toNat = pcN v :=
  uptoSets (P := fun u v _ => pcTo v u.toNat = pcN v) (by decide +kernel) u v v h h
/-- a term has as many things in a world as in its fields. -/
theorem size_fields {w : Wd} (h : w.ok = true) {n : Nat} {t : List Int} (ht : isTm n t) : pcN (w.val t) = sumIn (liesB t) (w.fc w.u.toNat) 8 := by
  have e : ∀ k : Nat, k ≤ w.u.toNat → pcTo (w.val t) k = sumIn (liesB t) (w.fc k) 8 := by
    intro k
    induction k with
    | zero => intro _; rw [sumIn_zero]; rfl
    | succ k ih =>
      intro hk
      rw [sumIn_fc, ← ih (by omega), ← has_field h k (by omega) n t ht]
      rfl
  rw [← pcTo_u (ok_val h t)]
  exact e _ (Nat.le_refl _)
theorem size_same {w w' : Wd} (h : w.ok = true) (h' : w'.ok = true) (he : ∀ f, f < 8 → w'.fc w'.u.toNat f = w.fc w.u.toNat f) {n : Nat} {t : List Int} (ht : isTm n t) : pcN (w'.val t) = pcN (w.val t) := by
  rw [size_fields h ht, size_fields h' ht]
  exact sumIn_same he

/-! ### the mask -/
/-- 2^f for each of the first k fields, added up. -/
def maskTo (L : Nat → Bool) : Nat → Int
  | 0 => 0
  | k + 1 => maskTo L k + oneB (L k) * pw k
theorem maskTo_le (L : Nat → Bool) (k : Nat) : 0 ≤ maskTo L k ∧ maskTo L k < pw k := by
  induction k with
  | zero => exact ⟨Int.le_refl _, show (0 : Int) < pw 0 by decide⟩
  | succ k ih =>
    have := pw_pos k
    unfold maskTo
    rw [pw_succ]
    unfold oneB
    split <;> omega
theorem has_mask1 : ∀ k : Nat, k < 8 → ∀ m : Nat, m < 2 ^ k → ∀ x, (∀ i : Nat, i < k → hasB ((m : Int) + oneB x * pw k) i = hasB m i) ∧ hasB ((m : Int) + oneB x * pw k) k = x := by decide +kernel
theorem has_mask (L : Nat → Bool) {k : Nat} (hk : k ≤ 8) {f : Nat} (hf : f < k) : hasB (maskTo L k) f = L f := by
  induction k with
  | zero => omega
  | succ k ih =>
    obtain ⟨m0, m1⟩ := maskTo_le L k
    obtain ⟨m, hm⟩ := Int.eq_ofNat_of_zero_le m0
    have hp : pw k = ((2 ^ k : Nat) : Int) := by unfold pw; simp
    have h := has_mask1 k (by omega) m (by rw [hm, hp] at m1; omega) (L k)
    unfold maskTo
    rw [hm]
    rcases Nat.lt_or_ge f k with h' | h'
    · rw [h.1 f h', ← hm]; exact ih (by omega) h'
    · obtain rfl : f = k := by omega
      exact h.2
end Go.Proofs.YtjaedfjfcghgcabGreatDoor

