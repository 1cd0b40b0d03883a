/-
  Facts and contracts that the statement leans on.
-/
import Derived.Test.YtnoohlibgaeklaaGreatDoorLibQ2
import Derived.Test.YtnoohlibgaeklaaGreatDoorLibQ8
namespace Go.Proofs.YtnoohlibgaeklaaGreatDoor
open Go.RowKit
set_option maxRecDepth 100000
set_option maxHeartbeats 16000000
def oneB (x : Bool) : Int := if x = true then 1 else 0
theorem oneB_le (x : Bool) : 0 ≤ oneB x ∧ oneB x ≤ 1 := by cases x <;> decide
def bitB (f k : Nat) : Bool := decide (f / 2 ^ k % 2 = 1)
def Wd.field (w : Wd) (i : Nat) : Nat := (hasB w.a i).toNat + 2 * (hasB w.b i).toNat + 4 * (hasB w.c i).toNat
theorem field_lt (w : Wd) (i : Nat) : w.field i < 8 := by
 unfold Wd.field
 cases hasB w.a i <;> cases hasB w.b i <;> cases hasB w.c i <;> decide
theorem eight {f : Nat} (h : f < 8) : f = 0 ∨ f = 1 ∨ f = 2 ∨ f = 3 ∨ f = 4 ∨ f = 5 ∨ f = 6 ∨ f = 7 := by omega
theorem field_bit (w : Wd) (i : Nat) : bitB (w.field i) 0 = hasB w.a i ∧ bitB (w.field i) 1 = hasB w.b i ∧ bitB (w.field i) 2 = hasB w.c i := by
 unfold Wd.field
 cases hasB w.a i <;> cases hasB w.b i <;> cases hasB w.c i <;> decide
theorem bit_field {f : Nat} (h : f < 8) : (bitB f 0).toNat + 2 * (bitB f 1).toNat + 4 * (bitB f 2).toNat = f := by
 rcases eight h with rfl | rfl | rfl | rfl | rfl | rfl | rfl | rfl <;> decide
def Wd.fc (w : Wd) : Nat → Nat → Int
 | 0, _ => 0
 | k + 1, f => w.fc k f + if w.field k = f then 1 else 0
def sumN (N : Nat → Int) : Nat → Int
 | 0 => 0
 | k + 1 => sumN N k + N k
def sumIn (L : Nat → Bool) (N : Nat → Int) : Nat → Int
 | 0 => 0
 | k + 1 => sumIn L N k + if L k = true then N k else 0
def eachB (N : Nat → Int) : Nat → Bool
 | 0 => true
 | k + 1 => eachB N k && decide (0 ≤ N k ∧ N k ≤ 6)
def countsFault (N : Nat → Int) : Int := if eachB N 8 = true then (if sumN N 8 ≤ 6 then 0 else 4) else 1
theorem eachB_iff {N : Nat → Int} {k : Nat} : eachB N k = true ↔ ∀ f, f < k → 0 ≤ N f ∧ N f ≤ 6 := by
 induction k with
 | zero => exact ⟨fun _ f hf => by omega, fun _ => rfl⟩
 | succ k ih =>
  unfold eachB
  rw [Bool.and_eq_true, ih, decide_eq_true_iff]
  refine ⟨fun h f hf => ?_, fun h => ⟨fun f hf => h f (by omega), h k (by omega)⟩⟩
  rcases Nat.lt_or_ge f k with h' | h'
  ·exact h.1 f h'
  ·obtain rfl : f = k := by omega
   exact h.2
theorem eachB_no {N : Nat → Int} {k : Nat} (hk : k < 8) (h : ¬ (0 ≤ N k ∧ N k ≤ 6)) : eachB N 8 = false := by
 rcases (Bool.eq_false_or_eq_true (eachB N 8)).symm with e | e
 ·exact e
 ·exact absurd (eachB_iff.1 e k hk) h
theorem sumN_le {N : Nat → Int} {k : Nat} (h : ∀ f, f < k → 0 ≤ N f ∧ N f ≤ 6) : 0 ≤ sumN N k ∧ sumN N k ≤ 6 * k := by
 induction k with
 | zero => exact ⟨Int.le_refl _, Int.le_refl _⟩
 | succ k ih =>
  have := ih fun f hf => h f (by omega)
  have := h k (by omega)
  unfold sumN; omega
theorem sumN_mono {N : Nat → Int} {k l : Nat} (hkl : k ≤ l) (h : ∀ f, f < l → 0 ≤ N f ∧ N f ≤ 6) : sumN N k ≤ sumN N l := by
 induction l with
 | zero => obtain rfl : k = 0 := by omega
           exact Int.le_refl _
 | succ l ih =>
  rcases Nat.lt_or_ge l k with h' | h'
  ·obtain rfl : k = l + 1 := by omega
   exact Int.le_refl _
  ·have := ih h' fun f hf => h f (by omega)
   have := h l (by omega)
   have e : sumN N (l + 1) = sumN N l + N l := rfl
   rw [e]; omega
theorem sumIn_le {L : Nat → Bool} {N : Nat → Int} {k : Nat} (h : ∀ f, f < k → 0 ≤ N f ∧ N f ≤ 6) : 0 ≤ sumIn L N k ∧ sumIn L N k ≤ sumN N k := by
 induction k with
 | zero => exact ⟨Int.le_refl _, Int.le_refl _⟩
 | succ k ih =>
  have := ih fun f hf => h f (by omega)
  have := h k (by omega)
  unfold sumIn sumN; split <;> omega
theorem counts_zero {N : Nat → Int} : countsFault N = 0 ↔ (∀ f, f < 8 → 0 ≤ N f ∧ N f ≤ 6) ∧ sumN N 8 ≤ 6 := by
 unfold countsFault
 by_cases h : eachB N 8 = true
 ·rw [if_pos h]
  by_cases h' : sumN N 8 ≤ 6
  ·rw [if_pos h']; exact ⟨fun _ => ⟨eachB_iff.1 h, h'⟩, fun _ => rfl⟩
  ·rw [if_neg h']; exact ⟨fun e => (by cases e), fun e => absurd e.2 h'⟩
 ·rw [if_neg h]; exact ⟨fun e => (by cases e), fun e => absurd (eachB_iff.2 e.1) h⟩
def Wd.more (w : Wd) (f : Nat) : Wd := ⟨w.u + 1, w.a + oneB (bitB f 0) * pw w.u.toNat, w.b + oneB (bitB f 1) * pw w.u.toNat, w.c + oneB (bitB f 2) * pw w.u.toNat⟩
def Wd.mores (w : Wd) (f : Nat) : Nat → Wd
 | 0 => w
 | j + 1 => (w.mores f j).more f
def madeN (N : Nat → Int) : Nat → Wd
 | 0 => ⟨0, 0, 0, 0⟩
 | k + 1 => (madeN N k).mores k (N k).toNat
theorem ok_more1 {u a : Int} (h : okB u a = true) (h5 : u ≤ 5) (x : Bool) : okB (u + 1) (a + oneB x * pw u.toNat) = true := by
 have e : ∀ x, okB u a = true → u ≤ 5 → okB (u + 1) (a + oneB x * pw u.toNat) = true := fun x h h5 =>
  uptoSets (P := fun u a _ => u ≤ 5 → ∀ x, okB (u + 1) (a + oneB x * pw u.toNat) = true) (by decide +kernel) u a a h h h5 x
 exact e x h h5
theorem has_more1 {u a : Int} (h : okB u a = true) (h5 : u ≤ 5) (x : Bool) : (∀ i : Nat, i < u.toNat → hasB (a + oneB x * pw u.toNat) i = hasB a i) ∧ hasB (a + oneB x * pw u.toNat) u.toNat = x :=
 uptoSets (P := fun u a _ => u ≤ 5 → ∀ x, (∀ i : Nat, i < u.toNat → hasB (a + oneB x * pw u.toNat) i = hasB a i) ∧ hasB (a + oneB x * pw u.toNat) u.toNat = x) (by decide +kernel) u a a h h h5 x
theorem more_u (w : Wd) (f : Nat) : (w.more f).u = w.u + 1 := rfl
theorem more_ok {w : Wd} (h : w.ok = true) (h5 : w.u ≤ 5) (f : Nat) : (w.more f).ok = true := by
 obtain ⟨h1, h2, h3⟩ := Wd.ok_iff.1 h
 exact Wd.ok_iff.2 ⟨ok_more1 h1 h5 _, ok_more1 h2 h5 _, ok_more1 h3 h5 _⟩
theorem field_more {w : Wd} (h : w.ok = true) (h5 : w.u ≤ 5) {f : Nat} (hf : f < 8) : (∀ i : Nat, i < w.u.toNat → (w.more f).field i = w.field i) ∧ (w.more f).field w.u.toNat = f := by
 obtain ⟨h1, h2, h3⟩ := Wd.ok_iff.1 h
 refine ⟨fun i hi => ?_, ?_⟩
 ·unfold Wd.field Wd.more
  simp only
  rw [(has_more1 h1 h5 _).1 i hi, (has_more1 h2 h5 _).1 i hi, (has_more1 h3 h5 _).1 i hi]
 ·unfold Wd.field Wd.more
  simp only
  rw [(has_more1 h1 h5 _).2, (has_more1 h2 h5 _).2, (has_more1 h3 h5 _).2]
  exact bit_field hf
theorem fc_same {w w' : Wd} {k : Nat} (h : ∀ i, i < k → w'.field i = w.field i) (g : Nat) : w'.fc k g = w.fc k g := by
 induction k with
 | zero => rfl
 | succ k ih =>
  unfold Wd.fc
  rw [ih fun i hi => h i (by omega), h k (by omega)]
theorem fc_more {w : Wd} (h : w.ok = true) (h5 : w.u ≤ 5) {f : Nat} (hf : f < 8) (g : Nat) : (w.more f).fc (w.u.toNat + 1) g = w.fc w.u.toNat g + if f = g then 1 else 0 := by
 obtain ⟨e1, e2⟩ := field_more h h5 hf
 show (w.more f).fc w.u.toNat g + _ = _
 rw [fc_same e1, e2]
theorem mores_u (w : Wd) (f : Nat) (j : Nat) : (w.mores f j).u = w.u + j := by
 induction j with
 | zero => simp [Wd.mores]
 | succ j ih => unfold Wd.mores; rw [more_u, ih]; push_cast; omega
theorem mores_ok {w : Wd} (h : w.ok = true) (f : Nat) {j : Nat} (hj : w.u + j ≤ 6) : (w.mores f j).ok = true := by
 induction j with
 | zero => exact h
 | succ j ih =>
  have := mores_u w f j
  exact more_ok (ih (by push_cast at hj; omega)) (by push_cast at hj; omega) f
theorem fc_mores {w : Wd} (h : w.ok = true) {f : Nat} (hf : f < 8) {j : Nat} (hj : w.u + j ≤ 6) (g : Nat) : (w.mores f j).fc (w.u.toNat + j) g = w.fc w.u.toNat g + if f = g then (j : Int) else 0 := by
 induction j with
 | zero => show w.fc _ g = _; split <;> simp
 | succ j ih =>
  have hu := (ok_u h).1
  have e := mores_u w f j
  push_cast at hj
  have e' : (w.mores f j).u.toNat = w.u.toNat + j := by omega
  have := fc_more (mores_ok h f (j := j) (by omega)) (by omega) hf g
  rw [e', ih (by omega)] at this
  rw [show w.u.toNat + (j + 1) = w.u.toNat + j + 1 by omega]
  show ((w.mores f j).more f).fc _ g = _
  rw [this]
  split
  ·push_cast; omega
  ·omega
theorem made_all {N : Nat → Int} (h : ∀ f, f < 8 → 0 ≤ N f ∧ N f ≤ 6) (hs : sumN N 8 ≤ 6) {k : Nat} (hk : k ≤ 8) :
    (madeN N k).ok = true ∧ (madeN N k).u = sumN N k ∧ ∀ g, (madeN N k).fc (sumN N k).toNat g = if g < k then N g else 0 := by
 induction k with
 | zero => exact ⟨show (⟨0, 0, 0, 0⟩ : Wd).ok = true by decide, rfl, fun g => by simp [sumN, Wd.fc]⟩
 | succ k ih =>
  obtain ⟨i1, i2, i3⟩ := ih (by omega)
  have hN := h k (by omega)
  have hm := sumN_mono (N := N) hk h
  have h0 := (sumN_le (N := N) (k := k) fun f hf => h f (by omega)).1
  have es : sumN N (k + 1) = sumN N k + N k := rfl
  have ht : ((N k).toNat : Int) = N k := by omega
  refine ⟨mores_ok i1 k (by rw [i2]; omega), ?_, fun g => ?_⟩
  ·show ((madeN N k).mores k (N k).toNat).u = _
   rw [mores_u, i2, es, ht]
  ·have := fc_mores i1 (f := k) (by omega) (j := (N k).toNat) (by rw [i2]; omega) g
   rw [i2, i3, ht] at this
   rw [es, show (sumN N k + N k).toNat = (sumN N k).toNat + (N k).toNat by omega]
   show ((madeN N k).mores k (N k).toNat).fc _ g = _
   rw [this]
   by_cases e : k = g
   ·subst e; rw [if_neg (by omega), if_pos rfl, if_pos (by omega)]; omega
   ·rw [if_neg e]
    by_cases e' : g < k
    ·rw [if_pos e', if_pos (by omega)]; omega
    ·rw [if_neg e', if_neg (by omega)]; omega
theorem made_ok {N : Nat → Int} (h : countsFault N = 0) : (madeN N 8).ok = true := (made_all (counts_zero.1 h).1 (counts_zero.1 h).2 (Nat.le_refl _)).1
theorem made_fc {N : Nat → Int} (h : countsFault N = 0) {g : Nat} (hg : g < 8) : (madeN N 8).fc (madeN N 8).u.toNat g = N g := by
 obtain ⟨_, e, f⟩ := made_all (counts_zero.1 h).1 (counts_zero.1 h).2 (Nat.le_refl _)
 rw [e, f g, if_pos hg]
theorem sumN_same {N M : Nat → Int} {k : Nat} (h : ∀ f, f < k → N f = M f) : sumN N k = sumN M k := by
 induction k with
 | zero => rfl
 | succ k ih => unfold sumN; rw [ih fun f hf => h f (by omega), h k (by omega)]
theorem sumIn_same {L : Nat → Bool} {N M : Nat → Int} {k : Nat} (h : ∀ f, f < k → N f = M f) : sumIn L N k = sumIn L M k := by
 induction k with
 | zero => rfl
 | succ k ih => unfold sumIn; rw [ih fun f hf => h f (by omega), h k (by omega)]
theorem sumIn_one (L : Nat → Bool) (N : Nat → Int) (g k : Nat) : sumIn L (fun f => N f + if g = f then 1 else 0) k = sumIn L N k + if g < k ∧ L g = true then 1 else 0 := by
 induction k with
 | zero => simp [sumIn]
 | succ k ih =>
  unfold sumIn
  rw [ih]
  rcases (Bool.eq_false_or_eq_true (L k)).symm with l | l
  ·have l' : ¬ L k = true := by rw [l]; decide
   have e : (g < k ∧ L g = true) ↔ (g < k + 1 ∧ L g = true) := by
    refine ⟨fun h => ⟨by omega, h.2⟩, fun h => ⟨?_, h.2⟩⟩
    rcases Nat.lt_or_ge g k with h' | h'
    ·exact h'
    ·obtain rfl : g = k := by omega
     rw [l] at h; exact absurd h.2 (by decide)
   simp only [e, if_neg l', Int.add_zero]
  ·rw [if_pos l, if_pos l]
   by_cases e : g = k
   ·subst e
    have e1 : ¬ (g < g ∧ L g = true) := by omega
    have e2 : g < g + 1 ∧ L g = true := ⟨by omega, l⟩
    rw [if_neg e1, if_pos e2, if_pos rfl]; omega
   ·have e1 : (g < k ∧ L g = true) ↔ (g < k + 1 ∧ L g = true) := ⟨fun h => ⟨by omega, h.2⟩, fun h => ⟨by omega, h.2⟩⟩
    rw [if_neg e]
    simp only [e1]
    omega
theorem sumIn_fc (w : Wd) (L : Nat → Bool) (k : Nat) : sumIn L (w.fc (k + 1)) 8 = sumIn L (w.fc k) 8 + if L (w.field k) = true then 1 else 0 := by
 have := sumIn_one L (w.fc k) (w.field k) 8
 have e : (w.fc (k + 1)) = fun f => w.fc k f + if w.field k = f then 1 else 0 := rfl
 rw [e, this]
 have hf := field_lt w k
 by_cases l : L (w.field k) = true
 ·rw [if_pos l, if_pos ⟨hf, l⟩]
 ·rw [if_neg l, if_neg fun h => l h.2]
theorem sumIn_zero (w : Wd) (L : Nat → Bool) (k : Nat) : sumIn L (w.fc 0) k = 0 := by
 induction k with
 | zero => rfl
 | succ k ih => unfold sumIn; rw [ih]; simp [Wd.fc]
def oneW (f : Nat) : Wd := (⟨0, 0, 0, 0⟩ : Wd).more f
theorem oneW_ok (f : Nat) : (oneW f).ok = true := more_ok (by decide) (by decide) f
theorem oneW_u (f : Nat) : (oneW f).u = 1 := rfl
def liesB (t : List Int) (f : Nat) : Bool := hasB ((oneW f).val t) ((0 : Nat) : Int)
theorem oneW_has {f : Nat} : hasB (oneW f).a ((0 : Nat) : Int) = bitB f 0 ∧ hasB (oneW f).b ((0 : Nat) : Int) = bitB f 1 ∧ hasB (oneW f).c ((0 : Nat) : Int) = bitB f 2 := by
 unfold oneW Wd.more
 simp only
 cases bitB f 0 <;> cases bitB f 1 <;> cases bitB f 2 <;> decide
theorem oneW_val (f : Nat) (t : List Int) : (oneW f).val t = oneB (liesB t f) := by
 have h := ok_val (oneW_ok f) t
 unfold liesB
 rw [oneW_u] at h
 obtain ⟨_, _, h0, h1⟩ := okB_iff.1 h
 have h1' : (oneW f).val t ≤ 1 := h1
 have hd : (oneW f).val t = 0 ∨ (oneW f).val t = 1 := by omega
 rcases hd with e | e <;> rw [e] <;> decide
theorem has_field {w : Wd} (h : w.ok = true) (i : Nat) (hi : (i : Int) < w.u) (n : Nat) : ∀ t, isTm n t → hasB (w.val t) i = liesB t (w.field i) := by
 obtain ⟨b0, b1, b2⟩ := field_bit w i
 obtain ⟨o0, o1, o2⟩ := oneW_has (f := w.field i)
 have h1 : ((0 : Nat) : Int) < (oneW (w.field i)).u := by rw [oneW_u]; decide
 have ho := oneW_ok (w.field i)
 induction n with
 | zero => intro t ht; exact ht.elim
 | succ n ih =>
  intro t ht
  rcases ht with ⟨s, h0, h4, rfl⟩ | ⟨t, ht, rfl⟩ | ⟨s, x, y, h5, h7, hx, hy, rfl⟩
  ·unfold liesB
   rw [has_leaf h s h0 h4 i hi, has_leaf ho s h0 h4 0 h1]
   by_cases h3 : s < 3
   ·rw [if_pos h3, if_pos h3]
    unfold Wd.name
    by_cases s0 : s = 0
    ·rw [if_pos s0, if_pos s0, o0, b0]
    ·rw [if_neg s0, if_neg s0]
     by_cases s1 : s = 1
     ·rw [if_pos s1, if_pos s1, o1, b1]
     ·rw [if_neg s1, if_neg s1, o2, b2]
   ·rw [if_neg h3, if_neg h3]
  ·have e := ih t ht
   unfold liesB at e ⊢
   rw [has_opp h ht i hi, has_opp ho ht 0 h1, e]
  ·have ex := ih x hx
   have ey := ih y hy
   unfold liesB at ex ey ⊢
   rw [has_two h h5 h7 hx hy i hi, has_two ho h5 h7 hx hy 0 h1, ex, ey]
theorem pcTo_u {u v : Int} (h : okB u v = true) : pcTo v u.toNat = pcN v :=
 uptoSets (P := fun u v _ => pcTo v u.toNat = pcN v) (by decide +kernel) u v v h h
theorem size_fields {w : Wd} (h : w.ok = true) {n : Nat} {t : List Int} (ht : isTm n t) : pcN (w.val t) = sumIn (liesB t) (w.fc w.u.toNat) 8 := by
 have e : ∀ k : Nat, k ≤ w.u.toNat → pcTo (w.val t) k = sumIn (liesB t) (w.fc k) 8 := by
  intro k
  induction k with
  | zero => intro _; rw [sumIn_zero]; rfl
  | succ k ih =>
   intro hk
   rw [sumIn_fc, ← ih (by omega), ← has_field h k (by omega) n t ht]
   rfl
 rw [← pcTo_u (ok_val h t)]
 exact e _ (Nat.le_refl _)
theorem size_same {w w' : Wd} (h : w.ok = true) (h' : w'.ok = true) (he : ∀ f, f < 8 → w'.fc w'.u.toNat f = w.fc w.u.toNat f) {n : Nat} {t : List Int} (ht : isTm n t) : pcN (w'.val t) = pcN (w.val t) := by
 rw [size_fields h ht, size_fields h' ht]
 exact sumIn_same he
def maskTo (L : Nat → Bool) : Nat → Int
 | 0 => 0
 | k + 1 => maskTo L k + oneB (L k) * pw k
theorem maskTo_le (L : Nat → Bool) (k : Nat) : 0 ≤ maskTo L k ∧ maskTo L k < pw k := by
 induction k with
 | zero => exact ⟨Int.le_refl _, show (0 : Int) < pw 0 by decide⟩
 | succ k ih =>
  have := pw_pos k
  unfold maskTo
  rw [pw_succ]
  unfold oneB
  split <;> omega
theorem has_mask1 : ∀ k : Nat, k < 8 → ∀ m : Nat, m < 2 ^ k → ∀ x, (∀ i : Nat, i < k → hasB ((m : Int) + oneB x * pw k) i = hasB m i) ∧ hasB ((m : Int) + oneB x * pw k) k = x := by decide +kernel
theorem has_mask (L : Nat → Bool) {k : Nat} (hk : k ≤ 8) {f : Nat} (hf : f < k) : hasB (maskTo L k) f = L f := by
 induction k with
 | zero => omega
 | succ k ih =>
  obtain ⟨m0, m1⟩ := maskTo_le L k
  obtain ⟨m, hm⟩ := Int.eq_ofNat_of_zero_le m0
  have hp : pw k = ((2 ^ k : Nat) : Int) := by unfold pw; simp
  have h := has_mask1 k (by omega) m (by rw [hm, hp] at m1; omega) (L k)
  unfold maskTo
  rw [hm]
  rcases Nat.lt_or_ge f k with h' | h'
  ·rw [h.1 f h', ← hm]; exact ih (by omega) h'
  ·obtain rfl : f = k := by omega
   exact h.2
theorem none_of_size {u x : Int} (h : okB u x = true) : (x = 0 ↔ pcN x = 0) :=
 uptoSets (P := fun _ x _ => x = 0 ↔ pcN x = 0) (by decide +kernel) u x x h h
theorem same_of_less {u x y : Int} (hx : okB u x = true) (hy : okB u y = true) : (x = y ↔ lessN x y = 0 ∧ lessN y x = 0) :=
 uptoSets (P := fun _ x y => x = y ↔ lessN x y = 0 ∧ lessN y x = 0) (by decide +kernel) u x y hx hy
structure Alike (w w' : Wd) : Prop where
 ok : w.ok = true
 ok' : w'.ok = true
 fc : ∀ f, f < 8 → w'.fc w'.u.toNat f = w.fc w.u.toNat f
theorem Alike.size {w w' : Wd} (h : Alike w w') {n : Nat} {t : List Int} (ht : isTm n t) : pcN (w'.val t) = pcN (w.val t) := size_same h.ok h.ok' h.fc ht
theorem Alike.less {w w' : Wd} (h : Alike w w') {n m : Nat} {s t : List Int} (hs : isTm n s) (ht : isTm m t) : (lessN (w'.val s) (w'.val t) = 0 ↔ lessN (w.val s) (w.val t) = 0) := by
 have e : ∀ v : Wd, v.val (s ++ (t ++ [7])) = lessN (v.val s) (v.val t) := fun v => by rw [val_bin v (by omega) (by omega) hs ht, doN7]
 have hn : isTm (n + m + 1) (s ++ (t ++ [7])) := Or.inr (Or.inr ⟨7, s, t, by omega, by omega, isTm_mono (by omega) hs, isTm_mono (by omega) ht, rfl⟩)
 rw [← e, ← e, none_of_size (ok_val h.ok' _), none_of_size (ok_val h.ok _), h.size hn]
theorem one_term {t : List Int} (h : faultN t = 0) : ∃ n, isTm n t := tree t (fault_zero.1 h).2.2.1 (fault_zero.1 h).2.2.2
theorem Alike.holds {w w' : Wd} (h : Alike w w') {k : Int} {s t : List Int} {n : Int} (hf : atomFault k s t n = 0) : w'.holds k s t n = w.holds k s t n := by
 obtain ⟨hk, hs, ht, _⟩ := atomFault_zero.1 hf
 obtain ⟨i, hi⟩ := one_term hs
 unfold Wd.holds Wd.snd saysB
 rcases five hk.1 hk.2 with rfl | rfl | rfl | rfl | rfl
 ·obtain ⟨j, hj⟩ := one_term (second_reads ht (by decide))
  rw [if_pos (show secondB 1 = true by decide), if_pos rfl, if_pos (show secondB 1 = true by decide), if_pos rfl]
  exact decide_eq_decide.2 (h.less hi hj)
 ·obtain ⟨j, hj⟩ := one_term (second_reads ht (by decide))
  rw [if_pos (show secondB 2 = true by decide), if_pos (show secondB 2 = true by decide), if_neg (by decide), if_pos rfl, if_neg (by decide), if_pos rfl]
  refine decide_eq_decide.2 ?_
  rw [same_of_less (ok_val h.ok' s) (ok_val h.ok' t), same_of_less (ok_val h.ok s) (ok_val h.ok t), h.less hi hj, h.less hj hi]
 ·rw [if_neg (by decide), if_neg (by decide), if_pos rfl, if_neg (by decide), if_neg (by decide), if_pos rfl, h.size hi]
 ·rw [if_neg (by decide), if_neg (by decide), if_neg (by decide), if_pos rfl, if_neg (by decide), if_neg (by decide), if_neg (by decide), if_pos rfl, h.size hi]
 ·obtain ⟨j, hj⟩ := one_term (second_reads ht (by decide))
  rw [if_pos (show secondB 5 = true by decide), if_pos (show secondB 5 = true by decide), if_neg (by decide), if_neg (by decide), if_neg (by decide), if_neg (by decide), if_neg (by decide), if_neg (by decide), if_neg (by decide), if_neg (by decide), h.size hi, h.size hj]
theorem Alike.fault {w w' : Wd} (h : Alike w w') (ats : List At) (c : List Int) : w'.formFault ats c = w.formFault ats c := by
 unfold Wd.formFault; rw [h.ok, h.ok']
def timesK (k : Int) (x y : Bool) : Int :=
 if k = 1 then oneB (x && !y) else if k = 2 then oneB (x && !y) + oneB (y && !x) else if k = 3 then - oneB (x && !y) else if k = 4 then oneB (x && !y) else oneB x - oneB y
def mostK (k n : Int) : Int := if k = 3 then -n else n
def baseT (k : Int) (s t : List Int) (f : Nat) : Int := timesK k (liesB s f) (liesB t f)
def rowT (k : Int) (s t : List Int) (h : Bool) (f : Nat) : Int := if h = true then baseT k s t f else - baseT k s t f
def rowM (k n : Int) (h : Bool) : Int := if h = true then mostK k n else -(mostK k n + 1)
structure Rw where
 t : Nat → Int
 m : Int
def sumT (T N : Nat → Int) : Nat → Int
 | 0 => 0
 | k + 1 => sumT T N k + T k * N k
def okT (T : Nat → Int) : Nat → Bool
 | 0 => true
 | k + 1 => okT T k && decide (-2 ≤ T k ∧ T k ≤ 2)
def Rw.wrong (r : Rw) : Bool := !(okT r.t 8 && decide (-100 ≤ r.m ∧ r.m ≤ 100))
def Rw.so (r : Rw) (N : Nat → Int) : Bool := decide (sumT r.t N 8 ≤ r.m)
def rowsFault (l : List Rw) : Int := if 12 < l.length then 4 else if l.any Rw.wrong = true then 1 else 0
def fitsFault (l : List Rw) (N : Nat → Int) : Int := if rowsFault l = 0 then countsFault N else rowsFault l
def fitsIs (l : List Rw) (N : Nat → Int) : Bool := if fitsFault l N = 0 then l.all (fun r => r.so N) else false
end Go.Proofs.YtnoohlibgaeklaaGreatDoor
namespace Go.Proofs.YtnoohlibgaeklaaGreatDoor
open Go.RowKit
set_option maxRecDepth 100000
set_option maxHeartbeats 16000000
def putN (N : Nat → Int) (f : Nat) (x : Int) : Nat → Int := fun g => if g = f then x else N g
theorem putN_same (N : Nat → Int) (f : Nat) (x : Int) : putN N f x f = x := by unfold putN; rw [if_pos rfl]
theorem putN_other (N : Nat → Int) {f g : Nat} (h : g ≠ f) (x : Int) : putN N f x g = N g := by unfold putN; rw [if_neg h]
def allF : Nat → Nat → (Nat → Int) → List (Nat → Int)
 | 0, u, N => [putN N 7 u]
 | r + 1, u, N => (List.range (u + 1)).flatMap fun k => allF r (u - k) (putN N (6 - r) k)
def everyC (u : Nat) : List (Nat → Int) := allF 7 u fun _ => 0
def allTo (r u : Nat) (N : Nat → Int) (k : Nat) : List (Nat → Int) := (List.range k).flatMap fun j => allF r (u - j) (putN N (6 - r) j)
theorem allTo_zero (r u : Nat) (N : Nat → Int) : allTo r u N 0 = [] := rfl
theorem allTo_succ (r u : Nat) (N : Nat → Int) (k : Nat) : allTo r u N (k + 1) = allTo r u N k ++ allF r (u - k) (putN N (6 - r) k) := by
 unfold allTo; rw [List.range_succ, List.flatMap_append]; simp
theorem allTo_all (r u : Nat) (N : Nat → Int) : allTo r u N (u + 1) = allF (r + 1) u N := rfl
def waysN : Nat → Nat → Nat
 | 0, _ => 1
 | r + 1, u => ((List.range (u + 1)).map fun k => waysN r (u - k)).sum
theorem length_allF (r : Nat) : ∀ (u : Nat) (N : Nat → Int), (allF r u N).length = waysN r u := by
 induction r with
 | zero => intro u N; rfl
 | succ r ih =>
  intro u N
  unfold allF waysN
  rw [List.length_flatMap]
  congr 1
  apply List.map_congr_left
  intro k _
  exact ih _ _
theorem ways_le : ∀ r, r ≤ 7 → ∀ u, u ≤ 6 → waysN r u ≤ 1716 := by decide +kernel
theorem length_everyC {u : Nat} (h : u ≤ 6) : (everyC u).length ≤ 1716 := by
 unfold everyC; rw [length_allF]; exact ways_le 7 (by omega) u h
theorem len_allTo_le (r u : Nat) (N : Nat → Int) {k : Nat} (hk : k ≤ u + 1) : (allTo r u N k).length ≤ (allF (r + 1) u N).length := by
 rw [← allTo_all]
 unfold allTo
 rw [List.length_flatMap, List.length_flatMap]
 have e : List.range (u + 1) = List.range k ++ (List.range (u + 1 - k)).map (k + ·) := by
  rw [← List.range_add]; congr 1; omega
 rw [e, List.map_append, List.sum_append]
 omega
theorem allF_sum (r : Nat) (hr : r ≤ 7) : ∀ (u : Nat) (N : Nat → Int), ∀ M ∈ allF r u N, (∀ g, g < 7 - r → M g = N g) ∧ (∀ g, 7 - r ≤ g → g < 8 → 0 ≤ M g ∧ M g ≤ u) ∧ sumN M 8 = sumN N (7 - r) + u := by
 induction r with
 | zero =>
  intro u N M hM
  obtain rfl : M = putN N 7 u := by simpa [allF] using hM
  refine ⟨fun g hg => putN_other N (by omega) _, fun g h1 h2 => ?_, ?_⟩
  ·obtain rfl : g = 7 := by omega
   rw [putN_same]; omega
  ·show sumN (putN N 7 u) 7 + putN N 7 u 7 = _
   rw [putN_same, sumN_same (M := N) fun f hf => putN_other N (by omega) _]
 | succ r ih =>
  intro u N M hM
  unfold allF at hM
  rw [List.mem_flatMap] at hM
  obtain ⟨k, hk, hM⟩ := hM
  have hk' : k < u + 1 := List.mem_range.1 hk
  obtain ⟨i1, i2, i3⟩ := ih (by omega) (u - k) _ M hM
  have e7 : 7 - r = 7 - (r + 1) + 1 := by omega
  have e6 : 6 - r = 7 - (r + 1) := by omega
  rw [e6] at i1 i3
  refine ⟨fun g hg => ?_, fun g h1 h2 => ?_, ?_⟩
  ·rw [i1 g (by omega)]; exact putN_other N (by omega) _
  ·by_cases e : g = 7 - (r + 1)
   ·rw [i1 g (by omega), e, putN_same]; omega
   ·have := i2 g (by omega) h2
    omega
  ·rw [i3, e7]
   show sumN _ (7 - (r + 1)) + putN N (7 - (r + 1)) k (7 - (r + 1)) + _ = _
   rw [putN_same, sumN_same (M := N) fun f hf => putN_other N (by omega) _]
   omega
theorem everyC_sum {u : Nat} {M : Nat → Int} (h : M ∈ everyC u) : (∀ g, g < 8 → 0 ≤ M g ∧ M g ≤ u) ∧ sumN M 8 = u := by
 obtain ⟨_, h2, h3⟩ := allF_sum 7 (by omega) u (fun _ => 0) M h
 refine ⟨fun g hg => h2 g (by omega) hg, ?_⟩
 rw [h3]; show (0 : Int) + u = u; omega
theorem everyC_right {u : Nat} (hu : u ≤ 6) {M : Nat → Int} (h : M ∈ everyC u) : countsFault M = 0 := by
 obtain ⟨h1, h2⟩ := everyC_sum h
 exact counts_zero.2 ⟨fun f hf => by have := h1 f hf; omega, by omega⟩
end Go.Proofs.YtnoohlibgaeklaaGreatDoor
namespace Go.Proofs.YtnoohlibgaeklaaGreatDoor
open Go.RowKit
def aheadC (N M : Nat → Int) : Prop := ∃ f, f < 8 ∧ (∀ g, g < f → N g = M g) ∧ N f < M f
theorem sumN_up {N : Nat → Int} {k l : Nat} (hkl : k ≤ l) (h : ∀ g, k ≤ g → g < l → 0 ≤ N g) : sumN N k ≤ sumN N l := by
 induction l with
 | zero => obtain rfl : k = 0 := by omega
           exact Int.le_refl _
 | succ l ih =>
  rcases Nat.lt_or_ge l k with h' | h'
  ·obtain rfl : k = l + 1 := by omega
   exact Int.le_refl _
  ·have := ih h' fun g h1 h2 => h g h1 (by omega)
   have := h l h' (by omega)
   have e : sumN N (l + 1) = sumN N l + N l := rfl
   rw [e]; omega
theorem allF_all (r : Nat) (hr : r ≤ 7) : ∀ (u : Nat) (N M : Nat → Int), (∀ g, g < 7 - r → M g = N g) → (∀ g, 7 - r ≤ g → g < 8 → 0 ≤ M g) → sumN M 8 = sumN N (7 - r) + u → ∃ A ∈ allF r u N, ∀ g, g < 8 → A g = M g := by
 induction r with
 | zero =>
  intro u N M h1 h2 h3
  refine ⟨putN N 7 u, by simp [allF], fun g hg => ?_⟩
  by_cases e : g = 7
  ·subst e
   rw [putN_same]
   have e8 : sumN M 8 = sumN M 7 + M 7 := rfl
   have e7 : sumN M 7 = sumN N 7 := sumN_same fun f hf => h1 f (by omega)
   have : sumN N (7 - 0) = sumN N 7 := rfl
   omega
  ·rw [putN_other N e, h1 g (by omega)]
 | succ r ih =>
  intro u N M h1 h2 h3
  obtain ⟨f, hf⟩ := nm (7 - (r + 1))
  have e6 : 6 - r = f := by omega
  have e7 : 7 - r = f + 1 := by omega
  rw [← hf] at h1 h2 h3
  have m0 := h2 f (Nat.le_refl _) (by omega)
  obtain ⟨k, hk⟩ := Int.eq_ofNat_of_zero_le m0
  have ef : sumN M (f + 1) = sumN N f + k := by
   show sumN M f + M f = _
   rw [sumN_same (M := N) fun g hg => h1 g hg, hk]
  have hup := sumN_up (N := M) (k := f + 1) (l := 8) (by omega) fun g a b => h2 g (by omega) b
  have hku : k ≤ u := by omega
  obtain ⟨A, hA, hAM⟩ := ih (by omega) (u - k) (putN N f k) M (fun g hg => by
   by_cases e : g = f
   ·rw [e, putN_same, hk]
   ·rw [putN_other N e, h1 g (by omega)]) (fun g a b => h2 g (by omega) b) (by
   rw [e7]
   show _ = sumN (putN N f k) f + putN N f k f + _
   rw [putN_same, sumN_same (M := N) fun g hg => putN_other N (by omega) _]
   omega)
  refine ⟨A, ?_, hAM⟩
  unfold allF
  rw [List.mem_flatMap]
  exact ⟨k, List.mem_range.2 (by omega), by rw [e6]; exact hA⟩
theorem everyC_all {u : Nat} {M : Nat → Int} (h0 : ∀ g, g < 8 → 0 ≤ M g) (hs : sumN M 8 = u) : ∃ A ∈ everyC u, ∀ g, g < 8 → A g = M g :=
 allF_all 7 (by omega) u _ M (fun g hg => by omega) (fun g _ hg => h0 g hg) (by rw [hs]; show _ = (0 : Int) + u; omega)
end Go.Proofs.YtnoohlibgaeklaaGreatDoor
namespace Go.Proofs.YtnoohlibgaeklaaGreatDoor
open Go.RowKit
def fitB (l : List Rw) (N : Nat → Int) : Bool := l.all fun r => r.so N
def zeroC : Nat → Int := fun _ => 0
def manyD (A : List (Nat → Int)) (p : (Nat → Int) → Bool) (j : Nat) : Nat := ((A.drop j).filter p).length
def leastD (A : List (Nat → Int)) (p : (Nat → Int) → Bool) (j : Nat) : Nat → Int := ((A.drop j).find? p).getD zeroC
def nextTo (A : List (Nat → Int)) (q : (Nat → Int) → Bool) : Nat → Option (Nat → Int)
 | 0 => none
 | i + 1 => if q (A.getD i zeroC) = true then some (A.getD (i + 1) zeroC) else nextTo A q i
def fitFault (u : Int) (l : List Rw) : Int := if 0 ≤ u ∧ u ≤ 6 then rowsFault l else 1
def fitManyN (u : Int) (l : List Rw) : Int := if fitFault u l = 0 then (manyD (everyC u.toNat) (fitB l) 0 : Int) else 0
def leastFault (u : Int) (l : List Rw) : Int := if fitFault u l = 0 then (if fitManyN u l = 0 then 5 else 0) else fitFault u l
def leastN (u : Int) (l : List Rw) : Nat → Int := if fitFault u l = 0 then leastD (everyC u.toNat) (fitB l) 0 else zeroC
def nextO (u : Int) (N : Nat → Int) : Option (Nat → Int) := nextTo (everyC u.toNat) (fun M => (List.range 8).all fun f => M f == N f) ((everyC u.toNat).length - 1)
def nextFault (u : Int) (N : Nat → Int) : Int :=
 if 0 ≤ u ∧ u ≤ 6 then (if countsFault N = 0 then (if sumN N 8 = u then (if (nextO u N).isSome = true then 0 else 5) else 3) else countsFault N) else 1
def nextN (u : Int) (N : Nat → Int) : Nat → Int := if nextFault u N = 0 then (nextO u N).getD zeroC else zeroC
end Go.Proofs.YtnoohlibgaeklaaGreatDoor
namespace Go.Proofs.YtnoohlibgaeklaaGreatDoor
open Go.RowKit
theorem allF_ne (r : Nat) : ∀ (u : Nat) (N : Nat → Int), allF r u N ≠ [] := by
 induction r with
 | zero => intro u N h; cases h
 | succ r ih =>
  intro u N h
  unfold allF at h
  rw [List.flatMap_eq_nil_iff] at h
  exact ih _ _ (h 0 (List.mem_range.2 (by omega)))
theorem allF_head (r : Nat) : ∀ (u : Nat) (N : Nat → Int), ∃ M, (allF r u N)[0]? = some M ∧ M 7 = (u : Int) := by
 induction r with
 | zero => intro u N; exact ⟨putN N 7 u, rfl, putN_same _ _ _⟩
 | succ r ih =>
  intro u N
  obtain ⟨M, h1, h2⟩ := ih u (putN N (6 - r) (0 : Nat))
  refine ⟨M, ?_, h2⟩
  unfold allF
  rw [List.range_succ_eq_map, List.flatMap_cons, List.getElem?_append_left (by have := (List.getElem?_eq_some_iff.1 h1).1; exact this)]
  exact h1
end Go.Proofs.YtnoohlibgaeklaaGreatDoor
namespace Go.Proofs.YtnoohlibgaeklaaGreatDoor
open Go.RowKit
def lastTo (N : Nat → Int) : Nat → Nat
 | 0 => 0
 | k + 1 => if 0 < N k then k else lastTo N k
theorem lastTo_lt (N : Nat → Int) (k : Nat) (h : lastTo N k ≠ 0) : lastTo N k < k := by
 induction k with
 | zero => exact absurd rfl h
 | succ k ih =>
  unfold lastTo at h ⊢
  split
  ·omega
  ·rename_i hn
   rw [if_neg hn] at h
   have := ih h
   omega
def afterL (N : Nat → Int) (L : Nat) : Nat → Int := putN (putN (putN N L 0) (L - 1) (N (L - 1) + 1)) 7 (N L - 1)
def afterN (N : Nat → Int) : Nat → Int := afterL N (lastTo N 8)
def afterO (N : Nat → Int) : Nat → Int := if lastTo N 8 = 0 then zeroC else afterN N
def stepsB : List (Nat → Int) → Bool
 | [] => true
 | M :: L => (match L with
  | [] => lastTo M 8 == 0
  | M' :: _ => lastTo M 8 != 0 && (List.range 8).all fun f => afterN M f == M' f) && stepsB L
theorem steps_all : ∀ u, u ≤ 6 → stepsB (everyC u) = true := by decide +kernel
theorem steps_at {A : List (Nat → Int)} (h : stepsB A = true) : ∀ {i : Nat} {M : Nat → Int}, A[i]? = some M →
    (lastTo M 8 ≠ 0 ∧ ∃ M', A[i + 1]? = some M' ∧ ∀ f, f < 8 → afterN M f = M' f) ∨ (lastTo M 8 = 0 ∧ i + 1 = A.length) := by
 induction A with
 | nil => intro i M hi; simp at hi
 | cons X L ih =>
  intro i M hi
  unfold stepsB at h
  rw [Bool.and_eq_true] at h
  cases i with
  | zero =>
   obtain rfl : X = M := by simpa using hi
   cases L with
   | nil =>
    have h1 := h.1
    simp only [beq_iff_eq] at h1
    exact Or.inr ⟨h1, rfl⟩
   | cons M' L =>
    have h1 := h.1
    simp only [Bool.and_eq_true, bne_iff_ne, ne_eq, List.all_eq_true, beq_iff_eq, List.mem_range] at h1
    exact Or.inl ⟨h1.1, M', rfl, h1.2⟩
  | succ i =>
   rcases ih h.2 (i := i) (M := M) (by simpa using hi) with ⟨a, M', b, c⟩ | ⟨a, b⟩
   ·exact Or.inl ⟨a, M', by simpa using b, c⟩
   ·exact Or.inr ⟨a, by simp [b]⟩
theorem every_steps {u : Nat} (hu : u ≤ 6) {i : Nat} {M : Nat → Int} (hi : (everyC u)[i]? = some M) :
    (lastTo M 8 ≠ 0 ∧ ∃ M', (everyC u)[i + 1]? = some M' ∧ ∀ f, f < 8 → afterN M f = M' f) ∨ (lastTo M 8 = 0 ∧ i + 1 = (everyC u).length) := steps_at (steps_all u hu) hi
end Go.Proofs.YtnoohlibgaeklaaGreatDoor
namespace Go.Proofs.YtnoohlibgaeklaaGreatDoor
open Go.RowKit
set_option maxRecDepth 100000
set_option maxHeartbeats 16000000
def isFm (m : Nat) : Nat → List Int → Prop
 | 0, _ => False
 | n + 1, q => (∃ s : Int, 0 ≤ s ∧ s < m ∧ q = [s]) ∨ (∃ t, isFm m n t ∧ q = t ++ [12]) ∨ (∃ (s : Int) (a b : List Int), (s = 10 ∨ s = 11 ∨ s = 13) ∧ isFm m n a ∧ isFm m n b ∧ q = a ++ (b ++ [s]))
theorem isFm_mono {m n : Nat} : ∀ {k : Nat} {q : List Int}, n ≤ k → isFm m n q → isFm m k q := by
 induction n with
 | zero => intro k q _ h; exact h.elim
 | succ n ih =>
  intro k q hk h
  obtain ⟨j, rfl⟩ : ∃ j, k = j + 1 := ⟨k - 1, by omega⟩
  rcases h with ⟨s, h0, h4, e⟩ | ⟨t, ht, e⟩ | ⟨s, a, b, h5, ha, hb, e⟩
  ·exact Or.inl ⟨s, h0, h4, e⟩
  ·exact Or.inr (Or.inl ⟨t, ih (by omega) ht, e⟩)
  ·exact Or.inr (Or.inr ⟨s, a, b, h5, ih (by omega) ha, ih (by omega) hb, e⟩)
theorem treesF (m : Nat) (t : List Int) (ht : ∀ s ∈ t, signF m s = true) (ts : List (List Int)) (hts : ∀ q ∈ ts, ∃ n, isFm m n q) {n : Int} (h : cntF t ts.length = some n) :
    ∃ ts' : List (List Int), (ts'.length : Int) = n ∧ (∀ q ∈ ts', ∃ n, isFm m n q) ∧ ts'.flatten = ts.flatten ++ t := by
 induction t generalizing ts with
 | nil => simp [cntF] at h; exact ⟨ts, h, hts, by simp⟩
 | cons s l ih =>
  have hs := signF_iff.1 (ht s (by simp))
  have hl : ∀ x ∈ l, signF m x = true := fun x hx => ht x (by simp [hx])
  unfold cntF at h
  split at h
  ·cases h
  ·rename_i hn
   by_cases h2 : s = 10 ∨ s = 11 ∨ s = 13
   ·have e : takesF s = 2 := by unfold takesF; rw [if_pos h2]
    rw [e] at h hn
    obtain ⟨ts0, a, b, rfl⟩ : ∃ ts0 a b, ts = ts0 ++ [a, b] := by
     rcases List.eq_nil_or_concat ts with rfl | ⟨x, y, rfl⟩
     ·simp at hn
     ·rcases List.eq_nil_or_concat x with rfl | ⟨x', z, rfl⟩
      ·simp at hn
      ·exact ⟨x', z, y, by simp⟩
    obtain ⟨ts', h1, h2', h3⟩ := ih hl (ts0 ++ [a ++ (b ++ [s])]) (by
     intro q hq
     rcases List.mem_append.1 hq with hq | hq
     ·exact hts q (by simp [hq])
     ·rw [List.mem_singleton.1 hq]
      obtain ⟨k, hk⟩ := hts a (by simp)
      obtain ⟨j, hj⟩ := hts b (by simp)
      exact ⟨k + j + 1, Or.inr (Or.inr ⟨s, a, b, h2, isFm_mono (by omega) hk, isFm_mono (by omega) hj, rfl⟩)⟩) (by rw [← h]; simp; congr 1; omega)
    exact ⟨ts', h1, h2', by rw [h3]; simp⟩
   by_cases h8 : s = 12
   ·subst h8
    have e : takesF 12 = 1 := by decide
    rw [e] at h hn
    obtain ⟨ts0, a, rfl⟩ : ∃ ts0 a, ts = ts0 ++ [a] := by
     rcases List.eq_nil_or_concat ts with rfl | ⟨x, y, rfl⟩
     ·simp at hn
     ·exact ⟨x, y, by simp⟩
    obtain ⟨ts', h1, h2', h3⟩ := ih hl (ts0 ++ [a ++ [12]]) (by
     intro q hq
     rcases List.mem_append.1 hq with hq | hq
     ·exact hts q (by simp [hq])
     ·rw [List.mem_singleton.1 hq]
      obtain ⟨k, hk⟩ := hts a (by simp)
      exact ⟨k + 1, Or.inr (Or.inl ⟨a, hk, rfl⟩)⟩) (by rw [← h]; simp)
    exact ⟨ts', h1, h2', by rw [h3]; simp⟩
   ·have e : takesF s = 0 := by unfold takesF; rw [if_neg h2, if_neg h8]
    rw [e] at h
    have hs' : 0 ≤ s ∧ s < m := hs.resolve_left (by simp [e])
    obtain ⟨ts', h1, h2', h3⟩ := ih hl (ts ++ [[s]]) (by
     intro q hq
     rcases List.mem_append.1 hq with hq | hq
     ·exact hts q hq
     ·rw [List.mem_singleton.1 hq]; exact ⟨1, Or.inl ⟨s, hs'.1, hs'.2, rfl⟩⟩) (by rw [← h]; simp)
    exact ⟨ts', h1, h2', by rw [h3]; simp⟩
theorem treeF {m : Nat} {t : List Int} (hs : t.all (signF m) = true) (h : cntF t 0 = some 1) : ∃ n, isFm m n t := by
 obtain ⟨ts, h1, h2, h3⟩ := treesF m t (List.all_eq_true.1 hs) [] (by intro q hq; cases hq) h
 match ts, h1 with
 | [q], _ =>
  have e : q = t := by simpa using h3
  rw [← e]; exact h2 q (by simp)
 | [], h1 => simp at h1
 | _ :: _ :: _, h1 => simp at h1; omega
theorem cnt_fm {m : Nat} (hm : m ≤ 6) (n : Nat) : ∀ q, isFm m n q → cntF q 0 = some 1 := by
 induction n with
 | zero => intro q h; exact h.elim
 | succ n ih =>
  intro q h
  rcases h with ⟨s, h0, h4, rfl⟩ | ⟨t, ht, rfl⟩ | ⟨s, a, b, h5, ha, hb, rfl⟩
  ·have e : takesF s = 0 := takesF_low (by omega)
   simp [cntF, e]
  ·exact cnt_no (ih t ht)
  ·have e : takesF s = 2 := by unfold takesF; rw [if_pos h5]
   rw [cntF_append, ih a ha]
   show cntF (b ++ [s]) 1 = _
   rw [cntF_append, show cntF b 1 = some 2 from cntF_more b 0 1 (ih b hb)]
   simp [cntF, e]
def boolF (s : Int) (x y : Bool) : Bool := if s = 10 then x && y else if s = 11 then x || y else !x || y
theorem valF_leaf (held : List Bool) {s : Int} (h : s < 10) : valF held [s] = held.getD s.toNat false := by
 have e := takesF_low h
 have : pileF held [s] [] = [held.getD s.toNat false] := by
  show stepF held [] s = _
  unfold stepF
  rw [madeF_leaf held e]
  simp [restF]
 rw [valF, this]; rfl
theorem valF_two (held : List Bool) {s : Int} (h : s = 10 ∨ s = 11 ∨ s = 13) {a b : List Int} (ha : cntF a 0 = some 1) (hb : cntF b 0 = some 1) : valF held (a ++ (b ++ [s])) = boolF s (valF held a) (valF held b) := by
 have : pileF held (a ++ (b ++ [s])) [] = [boolF s (valF held a) (valF held b)] := by
  rw [pileF_append, pileF_one held ha, pileF_append, pileF_one held hb]
  rcases h with rfl | rfl | rfl <;> rfl
 rw [valF, this]; rfl
def cubeOk (M : Nat) (c : List Int) : Prop := (∀ m ∈ c, 1 ≤ m.natAbs ∧ m.natAbs ≤ M) ∧ c.Pairwise (fun a b => a.natAbs < b.natAbs)
def bothWays (c : List Int) : Bool := c.any (fun m => c.contains (-m))
def atomIn (c : List Int) (n : Int) : List Int := if c.contains n = true then [n] else if c.contains (-n) = true then [-n] else []
def joinC (c d : List Int) : List Int := [1, 2, 3, 4, 5, 6].flatMap (atomIn (c ++ d))
def putC (L : List (List Int)) (c : List Int) : List (List Int) := if L.contains c = true then L else L ++ [c]
def andS (c : List Int) (L : List (List Int)) (d : List Int) : List (List Int) := if bothWays (c ++ d) = true then L else putC L (joinC c d)
def andR (B : List (List Int)) (L : List (List Int)) (c : List Int) : List (List Int) := B.foldl (andS c) L
def andC (A B : List (List Int)) : List (List Int) := A.foldl (andR B) []
def orC (A B : List (List Int)) : List (List Int) := (A ++ B).foldl putC []
def turnC (c : List Int) : List (List Int) := c.map (fun m => [-m])
def capC (L : List (List Int)) : Option (List (List Int)) := if 40 < L.length then none else some L
def noC : List (List Int) → List (List Int) → Option (List (List Int))
 | [], out => some out
 | c :: l, out => (capC (andC out (turnC c))).bind (noC l)
def madeC (s : Int) (l : List (List (List Int))) : Option (List (List Int)) :=
 if s = 10 then capC (andC (l.getD 0 []) (l.getD 1 [])) else if s = 11 then capC (orC (l.getD 0 []) (l.getD 1 [])) else if s = 13 then (noC (l.getD 0 []) [[]]).bind (fun x => capC (orC x (l.getD 1 []))) else if s = 12 then noC (l.getD 0 []) [[]] else some [[s + 1]]
def restC (p : List (List (List Int))) (s : Int) : Nat := p.length - (takesF s).toNat
def stepC (p : List (List (List Int))) (s : Int) : Option (List (List (List Int))) := (madeC s (p.drop (restC p s))).map (fun x => p.take (restC p s) ++ [x])
def pileC : List Int → List (List (List Int)) → Option (List (List (List Int)))
 | [], p => some p
 | s :: l, p => (stepC p s).bind (pileC l)
def cubesC (c : List Int) : Option (List (List Int)) := (pileC c []).map (fun p => p.getD 0 [])
def okL (M : Nat) (L : List (List Int)) : Prop := (∀ c ∈ L, cubeOk M c) ∧ L.Nodup
def litC (held : List Bool) (m : Int) : Bool := held.getD (m.natAbs - 1) false == decide (0 < m)
def allC (held : List Bool) (c : List Int) : Bool := c.all (litC held)
def anyC (held : List Bool) (L : List (List Int)) : Bool := L.any (allC held)
theorem all_append (held : List Bool) (c d : List Int) : allC held (c ++ d) = (allC held c && allC held d) := by simp [allC]
def okP (M : Nat) (p : List (List (List Int))) : Prop := ∀ L ∈ p, okL M L ∧ L.length ≤ 40
def atZ : At := ⟨0, [], [], 0⟩
def rowOf (ats : List At) (m : Int) : Rw := ⟨rowT (ats.getD (m.natAbs - 1) atZ).k (ats.getD (m.natAbs - 1) atZ).s (ats.getD (m.natAbs - 1) atZ).t (decide (0 < m)), rowM (ats.getD (m.natAbs - 1) atZ).k (ats.getD (m.natAbs - 1) atZ).n (decide (0 < m))⟩
def cubeR (ats : List At) (c : List Int) : List Rw := c.map (rowOf ats)
def modelL (ats : List At) (u : Nat) : List (List Int) → Option (Nat → Int)
 | [] => none
 | c :: L => match (everyC u).find? (fitB (cubeR ats c)) with
  | some N => some N
  | none => modelL ats u L
def modelFault (ats : List At) (c : List Int) (u : Int) : Int :=
 if formFault ats c = 0 then (match cubesC c with
  | none => 4
  | some L => if 0 ≤ u ∧ u ≤ 6 then (if (modelL ats u.toNat L).isSome = true then 0 else 5) else 1) else formFault ats c
def modelN (ats : List At) (c : List Int) (u : Int) : Nat → Int := (modelL ats u.toNat ((cubesC c).getD [])).getD zeroC
def modelW (ats : List At) (c : List Int) (u : Int) : Wd := if modelFault ats c u = 0 then madeN (modelN ats c u) 8 else ⟨0, 0, 0, 0⟩
def againstFault (ats : List At) (c : List Int) (u : Int) : Int := if negFault ats c = 0 then modelFault ats (c ++ [12]) u else negFault ats c
def againstW (ats : List At) (c : List Int) (u : Int) : Wd := if negFault ats c = 0 then modelW ats (c ++ [12]) u else ⟨0, 0, 0, 0⟩
def sureB (ats : List At) (c : List Int) (u : Int) : Bool := decide (againstFault ats c u = 5 ∧ formFault ats c = 0)
def sureFault (ats : List At) (c : List Int) (u : Int) : Int := if sureB ats c u = true then 0 else againstFault ats c u
def manyA (name n : Int) : List At := [⟨3, [name], [], n⟩]
def Wd.has (w : Wd) : Nat → Int
 | 0 => w.a
 | 1 => w.b
 | _ => w.c
structure Fm where
 ats : List At
 c : List Int
def fmZ : Fm := ⟨[], []⟩
def Fm.fault (f : Fm) : Int := formFault f.ats f.c
def Wd.so (w : Wd) (fs : List Fm) : Bool := fs.all fun f => w.formIs f.ats f.c
def firstForm : List Fm → Int
 | [] => 0
 | f :: l => if f.fault = 0 then firstForm l else f.fault
def formsFault (fs : List Fm) (u : Int) : Int := if fs.length = 0 then 5 else if 6 < fs.length then 4 else if firstForm fs = 0 then (if 0 ≤ u ∧ u ≤ 6 then 0 else 1) else firstForm fs
def openN (fs : List Fm) (u : Nat) : Bool := (everyC u).any fun N => (madeN N 8).so fs
def openB (fs : List Fm) (u : Int) : Bool := if formsFault fs u = 0 then openN fs u.toNat else false
theorem firstForm_zero {fs : List Fm} : firstForm fs = 0 ↔ ∀ f ∈ fs, f.fault = 0 := by
 induction fs with
 | nil => exact ⟨fun _ f hf => (by cases hf), fun _ => rfl⟩
 | cons f l ih =>
  unfold firstForm
  by_cases h : f.fault = 0
  ·rw [if_pos h, ih]
   exact ⟨fun g x hx => by
    rcases List.mem_cons.1 hx with rfl | hx
    ·exact h
    ·exact g x hx, fun g x hx => g x (List.mem_cons_of_mem _ hx)⟩
  ·rw [if_neg h]
   exact ⟨fun g => absurd g h, fun g => absurd (g f List.mem_cons_self) h⟩
theorem firstForm_at {fs : List Fm} {k : Nat} {f : Fm} (hk : fs[k]? = some f) (h : ∀ j, j < k → ∀ g, fs[j]? = some g → g.fault = 0) (hf : ¬ f.fault = 0) : firstForm fs = f.fault := by
 induction fs generalizing k with
 | nil => simp at hk
 | cons g l ih =>
  unfold firstForm
  cases k with
  | zero =>
   obtain rfl : g = f := by simpa using hk
   rw [if_neg hf]
  | succ k =>
   rw [if_pos (h 0 (by omega) g rfl)]
   exact ih (by simpa using hk) fun j hj x hx => h (j + 1) (by omega) x (by simpa using hx)
theorem forms_zero {fs : List Fm} {u : Int} : formsFault fs u = 0 ↔ (1 ≤ fs.length ∧ fs.length ≤ 6) ∧ (∀ f ∈ fs, f.fault = 0) ∧ 0 ≤ u ∧ u ≤ 6 := by
 unfold formsFault
 by_cases h0 : fs.length = 0
 ·rw [if_pos h0]; exact ⟨fun h => absurd h (by decide), fun h => by omega⟩
 ·rw [if_neg h0]
  by_cases h6 : 6 < fs.length
  ·rw [if_pos h6]; exact ⟨fun h => absurd h (by decide), fun h => by omega⟩
  ·rw [if_neg h6]
   by_cases hf : firstForm fs = 0
   ·rw [if_pos hf]
    by_cases hu : 0 ≤ u ∧ u ≤ 6
    ·rw [if_pos hu]; exact ⟨fun _ => ⟨⟨by omega, by omega⟩, firstForm_zero.1 hf, hu⟩, fun _ => rfl⟩
    ·rw [if_neg hu]; exact ⟨fun h => absurd h (by decide), fun h => absurd h.2.2 hu⟩
   ·rw [if_neg hf]; exact ⟨fun h => absurd h hf, fun h => absurd (firstForm_zero.2 h.2.1) hf⟩
theorem open_less {fs gs : List Fm} {u : Nat} (h : ∀ f ∈ gs, f ∈ fs) (ho : openN fs u = true) : openN gs u = true := by
 unfold openN at ho ⊢
 rw [List.any_eq_true] at ho ⊢
 obtain ⟨N, hN, hs⟩ := ho
 refine ⟨N, hN, ?_⟩
 unfold Wd.so at hs ⊢
 rw [List.all_eq_true] at hs ⊢
 exact fun f hf => hs f (h f hf)
theorem open_nil (u : Nat) : openN [] u = true := by
 unfold openN
 rw [List.any_eq_true]
 cases h : everyC u with
 | nil => exact absurd h (allF_ne 7 u _)
 | cons N A => exact ⟨N, List.mem_cons_self, rfl⟩
def worldsL (u : Nat) : List Wd := (everyC u).map fun N => madeN N 8
theorem worldsL_length (u : Nat) : (worldsL u).length = (everyC u).length := by unfold worldsL; rw [List.length_map]
theorem worldsL_ok {u : Nat} (hu : u ≤ 6) {D : Wd} (h : D ∈ worldsL u) : D.ok = true := by
 unfold worldsL at h
 obtain ⟨N, hN, rfl⟩ := List.mem_map.1 h
 exact made_ok (everyC_right hu hN)
def putG (g : Nat → Bool) (i : Nat) (b : Bool) : Nat → Bool := fun k => if k = i then b else g k
def leftTo (fs : List Fm) (g : Nat → Bool) : Nat → List Fm
 | 0 => []
 | k + 1 => leftTo fs g k ++ (if g k = true then [] else (match fs[k]? with | some f => [f] | none => []))
def leftF (fs : List Fm) (g : Nat → Bool) : List Fm := leftTo fs g fs.length
def goneTo (fs : List Fm) (u : Nat) : Nat → (Nat → Bool)
 | 0 => fun _ => false
 | i + 1 => if openN (leftF fs (putG (goneTo fs u i) i true)) u = true then putG (goneTo fs u i) i false else putG (goneTo fs u i) i true
def coreTo (fs : List Fm) (u : Nat) : Nat → List Int
 | 0 => []
 | i + 1 => if openN (leftF fs (putG (goneTo fs u i) i true)) u = true then coreTo fs u i ++ [(i : Int)] else coreTo fs u i
def coreFault (fs : List Fm) (u : Int) : Int := if formsFault fs u = 0 then (if openB fs u = true then 8 else 0) else formsFault fs u
def coreL (fs : List Fm) (u : Int) : List Int := if coreFault fs u = 0 then coreTo fs u.toNat fs.length else []
def spanStep (ats : List At) (c t : List Int) (p : Int × Int) (D : Wd) : Int × Int :=
 if D.formIs ats c = true then (if pcN (D.val t) < p.1 then pcN (D.val t) else p.1, if p.2 < pcN (D.val t) then pcN (D.val t) else p.2) else p
def spanOver (ats : List At) (c t : List Int) (L : List Wd) : Int × Int := L.foldl (spanStep ats c t) (100, -1)
def spanP (ats : List At) (c t : List Int) (u : Nat) : Int × Int := spanOver ats c t (worldsL u)
def spanFault (ats : List At) (c t : List Int) (u : Int) : Int := if formFault ats c = 0 then (if faultN t = 0 then (if 0 ≤ u ∧ u ≤ 6 then (if (spanP ats c t u.toNat).2 < 0 then 5 else 0) else 1) else faultN t) else formFault ats c
def spanLo (ats : List At) (c t : List Int) (u : Int) : Int := if spanFault ats c t u = 0 then (spanP ats c t u.toNat).1 else 0
def spanHi (ats : List At) (c t : List Int) (u : Int) : Int := if spanFault ats c t u = 0 then (spanP ats c t u.toNat).2 else 0
def exactFault (ats : List At) (c t : List Int) (u : Int) : Int := if spanFault ats c t u = 0 then (if spanLo ats c t u = spanHi ats c t u then 0 else 8) else spanFault ats c t u
def exactN (ats : List At) (c t : List Int) (u : Int) : Int := if exactFault ats c t u = 0 then spanLo ats c t u else 0
theorem revInd {α : Type} {P : List α → Prop} (h0 : P []) (h1 : ∀ L a, P L → P (L ++ [a])) : ∀ L, P L := by
 intro L
 have key : ∀ n, P (L.take n) := by
  intro n
  induction n with
  | zero => exact h0
  | succ n ih =>
   rw [List.take_add_one]
   cases h : L[n]? with
   | none => simpa using ih
   | some a => exact h1 _ _ ih
 have := key L.length
 rwa [List.take_length] at this
theorem spanOver_add (ats : List At) (c t : List Int) (L : List Wd) (D : Wd) : spanOver ats c t (L ++ [D]) = spanStep ats c t (spanOver ats c t L) D := by
 unfold spanOver; rw [List.foldl_append]; rfl
def askStep (fs : List Fm) (ats : List At) (c : List Int) (p : Int × Int) (D : Wd) : Int × Int :=
 (if (D.so fs && D.formIs ats c) = true then p.1 + 1 else p.1, if (D.so fs && !D.formIs ats c) = true then p.2 + 1 else p.2)
def askOver (fs : List Fm) (ats : List At) (c : List Int) (L : List Wd) : Int × Int := L.foldl (askStep fs ats c) (0, 0)
def askP (fs : List Fm) (ats : List At) (c : List Int) (u : Nat) : Int × Int := askOver fs ats c (worldsL u)
def answerN (p : Int × Int) : Int := if p.2 = 0 then 1 else if p.1 = 0 then -1 else 0
def askFault (fs : List Fm) (ats : List At) (c : List Int) (u : Int) : Int := if formsFault fs u = 0 then (if formFault ats c = 0 then (if (askP fs ats c u.toNat).1 + (askP fs ats c u.toNat).2 = 0 then 6 else 0) else formFault ats c) else formsFault fs u
def askN (fs : List Fm) (ats : List At) (c : List Int) (u : Int) : Int := if askFault fs ats c u = 0 then answerN (askP fs ats c u.toNat) else 0
def sumP (f : Nat → Int × Int) : Nat → Int × Int
 | 0 => (0, 0)
 | k + 1 => ((sumP f k).1 + (f k).1, (sumP f k).2 + (f k).2)
def alwaysP (fs : List Fm) (ats : List At) (c : List Int) : Int × Int := sumP (askP fs ats c) 7
def alwaysFault (fs : List Fm) (ats : List At) (c : List Int) : Int := if formsFault fs 0 = 0 then (if formFault ats c = 0 then (if (alwaysP fs ats c).1 + (alwaysP fs ats c).2 = 0 then 6 else 0) else formFault ats c) else formsFault fs 0
def alwaysN (fs : List Fm) (ats : List At) (c : List Int) : Int := if alwaysFault fs ats c = 0 then answerN (alwaysP fs ats c) else 0
theorem askOver_add (fs : List Fm) (ats : List At) (c : List Int) (L : List Wd) (D : Wd) : askOver fs ats c (L ++ [D]) = askStep fs ats c (askOver fs ats c L) D := by
 unfold askOver; rw [List.foldl_append]; rfl
theorem ask_range (fs : List Fm) (ats : List At) (c : List Int) : ∀ L : List Wd, (0 ≤ (askOver fs ats c L).1 ∧ 0 ≤ (askOver fs ats c L).2) ∧ (askOver fs ats c L).1 + (askOver fs ats c L).2 ≤ L.length := by
 refine revInd ?_ ?_
 ·exact ⟨⟨Int.le_refl _, Int.le_refl _⟩, Int.le_refl _⟩
 ·intro L E ih
  rw [askOver_add]
  unfold askStep
  rw [List.length_append]
  cases E.so fs <;> cases E.formIs ats c <;> simp <;> omega
theorem ask_yes (fs : List Fm) (ats : List At) (c : List Int) : ∀ L : List Wd, (askOver fs ats c L).1 = 0 ↔ ∀ D ∈ L, D.so fs = true → D.formIs ats c = false := by
 refine revInd ?_ ?_
 ·exact ⟨fun _ D h => (by cases h), fun _ => rfl⟩
 ·intro L E ih
  have hr := (ask_range fs ats c L).1.1
  rw [askOver_add]
  show (if (E.so fs && E.formIs ats c) = true then _ else _) = 0 ↔ _
  by_cases h : (E.so fs && E.formIs ats c) = true
  ·rw [if_pos h]
   constructor
   ·intro g; omega
   ·intro g
    rw [Bool.and_eq_true] at h
    have := g E (by simp) h.1
    rw [h.2] at this; exact absurd this (by decide)
  ·rw [if_neg h, ih]
   constructor
   ·intro g D hD hs
    rcases List.mem_append.1 hD with hD | hD
    ·exact g D hD hs
    ·obtain rfl : D = E := by simpa using hD
     rw [hs] at h
     simpa using h
   ·intro g D hD hs
    exact g D (List.mem_append_left _ hD) hs
theorem ask_no (fs : List Fm) (ats : List At) (c : List Int) : ∀ L : List Wd, (askOver fs ats c L).2 = 0 ↔ ∀ D ∈ L, D.so fs = true → D.formIs ats c = true := by
 refine revInd ?_ ?_
 ·exact ⟨fun _ D h => (by cases h), fun _ => rfl⟩
 ·intro L E ih
  have hr := (ask_range fs ats c L).1.2
  rw [askOver_add]
  show (if (E.so fs && !E.formIs ats c) = true then _ else _) = 0 ↔ _
  by_cases h : (E.so fs && !E.formIs ats c) = true
  ·rw [if_pos h]
   constructor
   ·intro g; omega
   ·intro g
    rw [Bool.and_eq_true] at h
    have := g E (by simp) h.1
    rw [this] at h; exact absurd h.2 (by decide)
  ·rw [if_neg h, ih]
   constructor
   ·intro g D hD hs
    rcases List.mem_append.1 hD with hD | hD
    ·exact g D hD hs
    ·obtain rfl : D = E := by simpa using hD
     rw [hs] at h
     simpa using h
   ·intro g D hD hs
    exact g D (List.mem_append_left _ hD) hs
theorem ask_open {fs : List Fm} {ats : List At} {c : List Int} {u : Nat} : (askP fs ats c u).1 + (askP fs ats c u).2 = 0 ↔ openN fs u = false := by
 have hr := (ask_range fs ats c (worldsL u)).1
 have eO : openN fs u = (worldsL u).any fun D => D.so fs := by unfold openN worldsL; rw [List.any_map]; rfl
 have e1 := ask_yes fs ats c (worldsL u)
 have e2 := ask_no fs ats c (worldsL u)
 unfold askP
 constructor
 ·intro h
  rw [eO, List.any_eq_false]
  intro D hD hs
  have h1 := e1.1 (by omega) D hD hs
  have h2 := e2.1 (by omega) D hD hs
  rw [h1] at h2; exact absurd h2 (by decide)
 ·intro h
  rw [eO, List.any_eq_false] at h
  have h1 := e1.2 fun D hD hs => absurd hs (h D hD)
  have h2 := e2.2 fun D hD hs => absurd hs (h D hD)
  omega
theorem ask_zero {fs : List Fm} {ats : List At} {c : List Int} {u : Int} : askFault fs ats c u = 0 ↔ formsFault fs u = 0 ∧ formFault ats c = 0 ∧ ¬ (askP fs ats c u.toNat).1 + (askP fs ats c u.toNat).2 = 0 := by
 unfold askFault
 by_cases h1 : formsFault fs u = 0
 ·rw [if_pos h1]
  by_cases h2 : formFault ats c = 0
  ·rw [if_pos h2]
   by_cases h3 : (askP fs ats c u.toNat).1 + (askP fs ats c u.toNat).2 = 0
   ·rw [if_pos h3]; exact ⟨fun h => absurd h (by decide), fun h => absurd h3 h.2.2⟩
   ·rw [if_neg h3]; exact ⟨fun _ => ⟨h1, h2, h3⟩, fun _ => rfl⟩
  ·rw [if_neg h2]; exact ⟨fun h => absurd h h2, fun h => absurd h.2.1 h2⟩
 ·rw [if_neg h1]; exact ⟨fun h => absurd h h1, fun h => absurd h.1 h1⟩
def aloneF (a : At) (h : Bool) : Fm := ⟨[a], if h = true then [0] else [0, 12]⟩
structure Lg where
 u : Int
 fs : List Fm
 ends : List Int
 bytes : Int
 safe : Int
 left : Int
 stop : Bool
def lg0 (u : Int) : Lg := ⟨u, [], [], 0, 0, -1, false⟩
def Lg.wrong (l : Lg) (a : At) (h : Bool) : Int := if l.stop = true then 6 else if a.fault = 0 then (if 6 ≤ l.fs.length then 4 else if openN (l.fs ++ [aloneF a h]) l.u.toNat = true then 0 else 7) else a.fault
def Lg.sayE (l : Lg) (a : At) (h : Bool) : Int := if l.wrong a h = 0 then (if l.left = 0 then 6 else 0) else l.wrong a h
def lessN1 (n : Int) : Int := if n < 0 then n else n - 1
def Lg.say (l : Lg) (a : At) (h : Bool) (n : Int) : Lg :=
 if l.wrong a h = 0 then (if l.left = 0 then { l with bytes := l.bytes + n / 2, stop := true } else { l with fs := l.fs ++ [aloneF a h], ends := l.ends ++ [l.bytes + n], bytes := l.bytes + n, left := lessN1 l.left }) else l
def Lg.syncE (l : Lg) : Int := if l.stop = true then 6 else if l.left = 0 then 6 else 0
def Lg.sync (l : Lg) : Lg := if l.stop = true then l else if l.left = 0 then { l with stop := true } else { l with safe := l.bytes, left := lessN1 l.left }
def failN (n : Int) : Int := if n < 0 then -1 else if n = 0 then 0 else if IntKind.i64.wrap (n - 1) < 0 then -1 else IntKind.i64.wrap (n - 1) + 1
theorem failN_small {n : Int} (h0 : 0 ≤ n) (h1 : n ≤ 9223372036854775807) : failN n = n := by
 unfold failN
 have e : IntKind.i64.wrap (n - 1) = n - 1 := by rw [IntKind.wrap_i64]; omega
 rw [e, if_neg (by omega)]
 split
 ·omega
 ·rw [if_neg (by omega)]; omega
def Lg.fail (l : Lg) (n : Int) : Lg := { l with left := failN n }
def Lg.high (l : Lg) (keep : Int) : Int := if 0 < keep then (if keep < l.bytes - l.safe then l.safe + keep else l.bytes) else l.safe
def wholeN (ends : List Int) (high : Int) : Nat := (ends.takeWhile fun e => decide (e ≤ high)).length
def endAt (ends : List Int) (k : Nat) : Int := if k = 0 then 0 else ends.getD (k - 1) 0
def Lg.crash (l : Lg) (keep : Int) : Lg :=
 { u := l.u, fs := l.fs.take (wholeN l.ends (l.high keep)), ends := l.ends.take (wholeN l.ends (l.high keep)), bytes := endAt l.ends (wholeN l.ends (l.high keep)), safe := endAt l.ends (wholeN l.ends (l.high keep)), left := -1, stop := false }
def Lg.openB (l : Lg) : Bool := openN l.fs l.u.toNat
theorem alone_right {a : At} (ha : a.fault = 0) (h : Bool) : (aloneF a h).fault = 0 := by
 have h0 : formFault [a] [0] = 0 := formFault_zero.2 ⟨⟨by simp, by simp⟩, ⟨by simp, by simp⟩, fun b hb => by
  obtain rfl : b = a := by simpa using hb
  exact ha, (by decide : [(0 : Int)].all (signF 1) = true), by decide⟩
 unfold aloneF Fm.fault
 cases h
 ·exact good_no h0 (by decide)
 ·exact h0
end Go.Proofs.YtnoohlibgaeklaaGreatDoor
