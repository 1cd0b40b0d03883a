/-
  Plain facts on fields (chapter 6): the field in which a thing lies, how many lie in each, the world of so many, where a term lies. No program is read here.
  Plain facts on fields and formulas (chapter 6): whether a formula holds in a world hangs on how many things lie in each field alone. No program is read here.
  Plain facts on rows (chapter 7): the row of an atom, what it says of how many things lie in each field; rows that are so. No program is read here.
  Proved: what term.work returns, of a right term and a right world: the set that the pile comes to; what was in memory is as it was (a contract that the statements lean on).
  Proved: what term.CheckWorld and term.Value return, of any row of signs and any world; what was in memory is as it was (a contract that the statements lean on).
  Proved: what fields.with returns; what was in memory is as it was (a contract that the statements lean on).
  Proved: what fields.Mask returns, of any row of signs; what was in memory is as it was (contracts that the statements lean on).
  Plain facts on a block of memory, whole: what lies in it, behind a call, behind a store; eight numbers and a world as blocks. (What the contracts of package fields lean on.)
  Plain facts on a row in memory: its nine cells, a store to one, all of them written, loaded. (What the contracts of package rows lean on.)
  Proved: what turned, wrong, sum and mask of package rows return; what was in memory is as it was (contracts that the statements lean on). Written by program.
  Proved: what rows.Of returns, of any atom, that holds or does not; what was in memory is as it was (a contract that the statements lean on). Written by program.
  Plain facts on counts of so many things, one behind the other (chapter 8). No program is read here. Plain facts on all counts of so many things: they go by the first field, then by the second, and so on, and none is left out; the first that fit, how many do, the next ones (chapter 8). No program is read here. Plain facts on what chapter 8 tells: how many counts fit rows, the first that do, and the next ones. No program is read here. Plain facts on the ends of all counts, and on the first that fit (chapter 8's statements). No program is read here. Plain facts on the counts behind others: the field ahead of the last that has any grows by one, and what is left goes into the last field (chapter 8). No program is read here.
  Proved: a range over a function whose iterator keeps its place in a cell of its own: what the caller must show of one round, and what it then knows behind the loop (the law that the walks of chapter 8's program lean on). It reads no program. Proved: what fit.after returns, of right counts; what was in memory is as it was (a contract that the statements lean on).
-/
import Derived.Test.YtpdpnlpepfgknafGreatDoorLibPB2
import Derived.Test.YtpdpnlpepfgknafGreatDoorLibPB1
import Derived.Handy
import Derived.Deep.Cut
import Derived.RangeFuncNested
import Derived.RangeFuncBound
import Derived.RangeFuncCalls
import Derived.Shelf.Abstract
import Derived.WalkKit
import Derived.OwnWalkIn
import Derived.TacticsInMore
import Derived.LoopNIn
import Derived.LoopIn
import Derived.Sort.LoopGhostIn
namespace Go.Proofs.YtpdpnlpepfgknafGreatDoor
open Go.RowKit

/-- 1, if so, else 0. -/
def oneB (x : Bool) : Int := if x = true then 1 else 0
theorem oneB_le (x : Bool) : 0 ≤ oneB x ∧ oneB x ≤ 1 := by cases x <;> decide
/-- has name k the things of field f? -/
def bitB (f k : Nat) : Bool := decide (f / 2 ^ k % 2 = 1)
/-- the field in which thing i lies. -/
def Wd.field (w : Wd) (i : Nat) : Nat := (hasB w.a i).toNat + 2 * (hasB w.b i).toNat + 4 * (hasB w.c i).toNat
theorem field_lt (w : Wd) (i : Nat) : w.field i < 8 := by
  unfold Wd.field
  cases hasB w.a i <;> cases hasB w.b i <;> cases hasB w.c i <;> decide
theorem eight {f : Nat} (h : f < 8) : f = 0 ∨ f = 1 ∨ f = 2 ∨ f = 3 ∨ f = 4 ∨ f = 5 ∨ f = 6 ∨ f = 7 := by omega
theorem field_bit (w : Wd) (i : Nat) : bitB (w.field i) 0 = hasB w.a i ∧ bitB (w.field i) 1 = hasB w.b i ∧ bitB (w.field i) 2 = hasB w.c i := by
  unfold Wd.field
  cases hasB w.a i <;> cases hasB w.b i <;> cases hasB w.c i <;> decide
theorem bit_field {f : Nat} (h : f < 8) : (bitB f 0).toNat + 2 * (bitB f 1).toNat + 4 * (bitB f 2).toNat = f := by
  rcases eight h with rfl | rfl | rfl | rfl | rfl | rfl | rfl | rfl <;> decide

/-- how many of the first k things lie in field f. -/
def Wd.fc (w : Wd) : Nat → Nat → Int
  | 0, _ => 0
  | k + 1, f => w.fc k f + if w.field k = f then 1 else 0
theorem fc_le (w : Wd) (k f : Nat) : 0 ≤ w.fc k f ∧ w.fc k f ≤ k := by
  induction k with
  | zero => exact ⟨Int.le_refl _, Int.le_refl _⟩
  | succ k ih => unfold Wd.fc; split <;> omega

/-- so many in the first k fields, added up; those of some fields alone. -/
def sumN (N : Nat → Int) : Nat → Int
  | 0 => 0
  | k + 1 => sumN N k + N k
def sumIn (L : Nat → Bool) (N : Nat → Int) : Nat → Int
  | 0 => 0
  | k + 1 => sumIn L N k + if L k = true then N k else 0
/-- is each by itself right? -/
def eachB (N : Nat → Int) : Nat → Bool
  | 0 => true
  | k + 1 => eachB N k && decide (0 ≤ N k ∧ N k ≤ 6)
/-- what is wrong with counts: the number of the error, or 0. -/
def countsFault (N : Nat → Int) : Int := if eachB N 8 = true then (if sumN N 8 ≤ 6 then 0 else 4) else 1

theorem eachB_iff {N : Nat → Int} {k : Nat} : eachB N k = true ↔ ∀ f, f < k → 0 ≤ N f ∧ N f ≤ 6 := by
  induction k with
  | zero => exact ⟨fun _ f hf => by omega, fun _ => rfl⟩
  | succ k ih =>
    unfold eachB
    rw [Bool.and_eq_true, ih, decide_eq_true_iff]
    refine ⟨fun h f hf => ?_, fun h => ⟨fun f hf => h f (by omega), h k (by omega)⟩⟩
    rcases Nat.lt_or_ge f k with h' | h'
    · exact h.1 f h'
    · obtain rfl : f = k := by omega
      exact h.2
theorem eachB_no {N : Nat → Int} {k : Nat} (hk : k < 8) (h : ¬ (0 ≤ N k ∧ N k ≤ 6)) : eachB N 8 = false := by
  rcases (Bool.eq_false_or_eq_true (eachB N 8)).symm with e | e
  · exact e
  · exact absurd (eachB_iff.1 e k hk) h
theorem sumN_le {N : Nat → Int} {k : Nat} (h : ∀ f, f < k → 0 ≤ N f ∧ N f ≤ 6) : 0 ≤ sumN N k ∧ sumN N k ≤ 6 * k := by
  induction k with
  | zero => exact ⟨Int.le_refl _, Int.le_refl _⟩
  | succ k ih =>
    have := ih fun f hf => h f (by omega)
    have := h k (by omega)
    unfold sumN; omega
theorem sumN_mono {N : Nat → Int} {k l : Nat} (hkl : k ≤ l) (h : ∀ f, f < l → 0 ≤ N f ∧ N f ≤ 6) : sumN N k ≤ sumN N l := by
  induction l with
  | zero => obtain rfl : k = 0 := by omega
            exact Int.le_refl _
  | succ l ih =>
    rcases Nat.lt_or_ge l k with h' | h'
    · obtain rfl : k = l + 1 := by omega
      exact Int.le_refl _
    · have := ih h' fun f hf => h f (by omega)
      have := h l (by omega)
      have e : sumN N (l + 1) = sumN N l + N l := rfl
      rw [e]; omega
theorem sumIn_le {L : Nat → Bool} {N : Nat → Int} {k : Nat} (h : ∀ f, f < k → 0 ≤ N f ∧ N f ≤ 6) : 0 ≤ sumIn L N k ∧ sumIn L N k ≤ sumN N k := by
  induction k with
  | zero => exact ⟨Int.le_refl _, Int.le_refl _⟩
  | succ k ih =>
    have := ih fun f hf => h f (by omega)
    have := h k (by omega)
    unfold sumIn sumN; split <;> omega
theorem counts_zero {N : Nat → Int} : countsFault N = 0 ↔ (∀ f, f < 8 → 0 ≤ N f ∧ N f ≤ 6) ∧ sumN N 8 ≤ 6 := by
  unfold countsFault
  by_cases h : eachB N 8 = true
  · rw [if_pos h]
    by_cases h' : sumN N 8 ≤ 6
    · rw [if_pos h']; exact ⟨fun _ => ⟨eachB_iff.1 h, h'⟩, fun _ => rfl⟩
    · rw [if_neg h']; exact ⟨fun e => (by cases e), fun e => absurd e.2 h'⟩
  · rw [if_neg h]; exact ⟨fun e => (by cases e), fun e => absurd (eachB_iff.2 e.1) h⟩

/-! ### one thing more -/
/-- the world with one thing more, which lies in field f. -/
def Wd.more (w : Wd) (f : Nat) : Wd := ⟨w.u + 1, w.a + oneB (bitB f 0) * pw w.u.toNat, w.b + oneB (bitB f 1) * pw w.u.toNat, w.c + oneB (bitB f 2) * pw w.u.toNat⟩
def Wd.mores (w : Wd) (f : Nat) : Nat → Wd
  | 0 => w
  | j + 1 => (w.mores f j).more f
/-- the world of so many in each of the first k fields. -/
def madeN (N : Nat → Int) : Nat → Wd
  | 0 => ⟨0, 0, 0, 0⟩
  | k + 1 => (madeN N k).mores k (N k).toNat

theorem ok_more1 {u a : Int} (h : okB u a = true) (h5 : u ≤ 5) (x : Bool) : okB (u + 1) (a + oneB x * pw u.toNat) = true := by
  have e : ∀ x, okB u a = true → u ≤ 5 → okB (u + 1) (a + oneB x * pw u.toNat) = true := fun x h h5 =>
    uptoSets (P := fun u a _ => u ≤ 5 → ∀ x, okB (u + 1) (a + oneB x * pw u.toNat) = true) (by decide +kernel) u a a h h h5 x
  exact e x h h5
theorem has_more1 {u a : Int} (h : okB u a = true) (h5 : u ≤ 5) (x : Bool) : (∀ i : Nat, i < u.toNat → hasB (a + oneB x * pw u.toNat) i = hasB a i) ∧ hasB (a + oneB x * pw u.toNat) u.toNat = x :=
  uptoSets (P := fun u a _ => u ≤ 5 → ∀ x, (∀ i : Nat, i < u.toNat → hasB (a + oneB x * pw u.toNat) i = hasB a i) ∧ hasB (a + oneB x * pw u.toNat) u.toNat = x) (by decide +kernel) u a a h h h5 x
theorem more_u (w : Wd) (f : Nat) : (w.more f).u = w.u + 1 := rfl
theorem more_ok {w : Wd} (h : w.ok = true) (h5 : w.u ≤ 5) (f : Nat) : (w.more f).ok = true := by
  obtain ⟨h1, h2, h3⟩ := Wd.ok_iff.1 h
  exact Wd.ok_iff.2 ⟨ok_more1 h1 h5 _, ok_more1 h2 h5 _, ok_more1 h3 h5 _⟩
theorem field_more {w : Wd} (h : w.ok = true) (h5 : w.u ≤ 5) {f : Nat} (hf : f < 8) : (∀ i : Nat, i < w.u.toNat → (w.more f).field i = w.field i) ∧ (w.more f).field w.u.toNat = f := by
  obtain ⟨h1, h2, h3⟩ := Wd.ok_iff.1 h
  refine ⟨fun i hi => ?_, ?_⟩
  · unfold Wd.field Wd.more
    simp only
    rw [(has_more1 h1 h5 _).1 i hi, (has_more1 h2 h5 _).1 i hi, (has_more1 h3 h5 _).1 i hi]
  · unfold Wd.field Wd.more
    simp only
    rw [(has_more1 h1 h5 _).2, (has_more1 h2 h5 _).2, (has_more1 h3 h5 _).2]
    exact bit_field hf
theorem fc_same {w w' : Wd} {k : Nat} (h : ∀ i, i < k → w'.field i = w.field i) (g : Nat) : w'.fc k g = w.fc k g := by
  induction k with
  | zero => rfl
  | succ k ih =>
    unfold Wd.fc
    rw [ih fun i hi => h i (by omega), h k (by omega)]
theorem fc_more {w : Wd} (h : w.ok = true) (h5 : w.u ≤ 5) {f : Nat} (hf : f < 8) (g : Nat) : (w.more f).fc (w.u.toNat + 1) g = w.fc w.u.toNat g + if f = g then 1 else 0 := by
  obtain ⟨e1, e2⟩ := field_more h h5 hf
  show (w.more f).fc w.u.toNat g + _ = _
  rw [fc_same e1, e2]
theorem mores_u (w : Wd) (f : Nat) (j : Nat) : (w.mores f j).u = w.u + j := by
  induction j with
  | zero => simp [Wd.mores]
  | succ j ih => unfold Wd.mores; rw [more_u, ih]; push_cast; omega
theorem mores_ok {w : Wd} (h : w.ok = true) (f : Nat) {j : Nat} (hj : w.u + j ≤ 6) : (w.mores f j).ok = true := by
  induction j with
  | zero => exact h
  | succ j ih =>
    have := mores_u w f j
    exact more_ok (ih (by push_cast at hj; omega)) (by push_cast at hj; omega) f
theorem fc_mores {w : Wd} (h : w.ok = true) {f : Nat} (hf : f < 8) {j : Nat} (hj : w.u + j ≤ 6) (g : Nat) : (w.mores f j).fc (w.u.toNat + j) g = w.fc w.u.toNat g + if f = g then (j : Int) else 0 := by
  induction j with
  | zero => show w.fc _ g = _; split <;> simp
  | succ j ih =>
    have hu := (ok_u h).1
    have e := mores_u w f j
    push_cast at hj
    have e' : (w.mores f j).u.toNat = w.u.toNat + j := by omega
    have := fc_more (mores_ok h f (j := j) (by omega)) (by omega) hf g
    rw [e', ih (by omega)] at this
    rw [show w.u.toNat + (j + 1) = w.u.toNat + j + 1 by omega]
    show ((w.mores f j).more f).fc _ g = _
    rw [this]
    split
    · push_cast; omega
    · omega

theorem made_all {N : Nat → Int} (h : ∀ f, f < 8 → 0 ≤ N f ∧ N f ≤ 6) (hs : sumN N 8 ≤ 6) {k : Nat} (hk : k ≤ 8) :
    (madeN N k).ok = true ∧ (madeN N k).u = sumN N k ∧ ∀ g, (madeN N k).fc (sumN N k).toNat g = if g < k then N g else 0 := by
  induction k with
  | zero => exact ⟨show (⟨0, 0, 0, 0⟩ : Wd).ok = true by decide, rfl, fun g => by simp [sumN, Wd.fc]⟩
  | succ k ih =>
    obtain ⟨i1, i2, i3⟩ := ih (by omega)
    have hN := h k (by omega)
    have hm := sumN_mono (N := N) hk h
    have h0 := (sumN_le (N := N) (k := k) fun f hf => h f (by omega)).1
    have es : sumN N (k + 1) = sumN N k + N k := rfl
    have ht : ((N k).toNat : Int) = N k := by omega
    refine ⟨mores_ok i1 k (by rw [i2]; omega), ?_, fun g => ?_⟩
    · show ((madeN N k).mores k (N k).toNat).u = _
      rw [mores_u, i2, es, ht]
    · have := fc_mores i1 (f := k) (by omega) (j := (N k).toNat) (by rw [i2]; omega) g
      rw [i2, i3, ht] at this
      rw [es, show (sumN N k + N k).toNat = (sumN N k).toNat + (N k).toNat by omega]
      show ((madeN N k).mores k (N k).toNat).fc _ g = _
      rw [this]
      by_cases e : k = g
      · subst e; rw [if_neg (by omega), if_pos rfl, if_pos (by omega)]; omega
      · rw [if_neg e]
        by_cases e' : g < k
        · rw [if_pos e', if_pos (by omega)]; omega
        · rw [if_neg e', if_neg (by omega)]; omega

/-- of right counts: the world is right, has as many things, and so many lie in each field. -/
theorem made_ok {N : Nat → Int} (h : countsFault N = 0) : (madeN N 8).ok = true := (made_all (counts_zero.1 h).1 (counts_zero.1 h).2 (Nat.le_refl _)).1
theorem made_u {N : Nat → Int} (h : countsFault N = 0) : (madeN N 8).u = sumN N 8 := (made_all (counts_zero.1 h).1 (counts_zero.1 h).2 (Nat.le_refl _)).2.1
theorem made_fc {N : Nat → Int} (h : countsFault N = 0) {g : Nat} (hg : g < 8) : (madeN N 8).fc (madeN N 8).u.toNat g = N g := by
  obtain ⟨_, e, f⟩ := made_all (counts_zero.1 h).1 (counts_zero.1 h).2 (Nat.le_refl _)
  rw [e, f g, if_pos hg]

/-! ### all things lie in a field -/
theorem sumN_same {N M : Nat → Int} {k : Nat} (h : ∀ f, f < k → N f = M f) : sumN N k = sumN M k := by
  induction k with
  | zero => rfl
  | succ k ih => unfold sumN; rw [ih fun f hf => h f (by omega), h k (by omega)]
theorem sumIn_same {L : Nat → Bool} {N M : Nat → Int} {k : Nat} (h : ∀ f, f < k → N f = M f) : sumIn L N k = sumIn L M k := by
  induction k with
  | zero => rfl
  | succ k ih => unfold sumIn; rw [ih fun f hf => h f (by omega), h k (by omega)]
theorem sumIn_one (L : Nat → Bool) (N : Nat → Int) (g k : Nat) : sumIn L (fun f => N f + if g = f then 1 else 0) k = sumIn L N k + if g < k ∧ L g = true then 1 else 0 := by
  induction k with
  | zero => simp [sumIn]
  | succ k ih =>
    unfold sumIn
    rw [ih]
    rcases (Bool.eq_false_or_eq_true (L k)).symm with l | l
    · have l' : ¬ L k = true := by rw [l]; decide
      have e : (g < k ∧ L g = true) ↔ (g < k + 1 ∧ L g = true) := by
        refine ⟨fun h => ⟨by omega, h.2⟩, fun h => ⟨?_, h.2⟩⟩
        rcases Nat.lt_or_ge g k with h' | h'
        · exact h'
        · obtain rfl : g = k := by omega
          rw [l] at h; exact absurd h.2 (by decide)
      simp only [e, if_neg l', Int.add_zero]
    · rw [if_pos l, if_pos l]
      by_cases e : g = k
      · subst e
        have e1 : ¬ (g < g ∧ L g = true) := by omega
        have e2 : g < g + 1 ∧ L g = true := ⟨by omega, l⟩
        rw [if_neg e1, if_pos e2, if_pos rfl]; omega
      · have e1 : (g < k ∧ L g = true) ↔ (g < k + 1 ∧ L g = true) := ⟨fun h => ⟨by omega, h.2⟩, fun h => ⟨by omega, h.2⟩⟩
        rw [if_neg e]
        simp only [e1]
        omega
theorem sumN_all (N : Nat → Int) (k : Nat) : sumIn (fun _ => true) N k = sumN N k := by
  induction k with
  | zero => rfl
  | succ k ih => unfold sumIn sumN; rw [ih, if_pos rfl]
theorem sumIn_fc (w : Wd) (L : Nat → Bool) (k : Nat) : sumIn L (w.fc (k + 1)) 8 = sumIn L (w.fc k) 8 + if L (w.field k) = true then 1 else 0 := by
  have := sumIn_one L (w.fc k) (w.field k) 8
  have e : (w.fc (k + 1)) = fun f => w.fc k f + if w.field k = f then 1 else 0 := rfl
  rw [e, this]
  have hf := field_lt w k
  by_cases l : L (w.field k) = true
  · rw [if_pos l, if_pos ⟨hf, l⟩]
  · rw [if_neg l, if_neg fun h => l h.2]
theorem sumIn_zero (w : Wd) (L : Nat → Bool) (k : Nat) : sumIn L (w.fc 0) k = 0 := by
  induction k with
  | zero => rfl
  | succ k ih => unfold sumIn; rw [ih]; simp [Wd.fc]
theorem sum_fc (w : Wd) (k : Nat) : sumN (w.fc k) 8 = k := by
  rw [← sumN_all]
  induction k with
  | zero => exact sumIn_zero w _ 8
  | succ k ih => rw [sumIn_fc, ih, if_pos rfl]; push_cast; rfl
theorem counts_fc {w : Wd} (h : w.ok = true) : countsFault (w.fc w.u.toNat) = 0 := by
  have hu := ok_u h
  refine counts_zero.2 ⟨fun f _ => ?_, ?_⟩
  · have := fc_le w w.u.toNat f; omega
  · rw [sum_fc]; omega

/-! ### where a term lies -/
/-- the world of one thing, which lies in field f. -/
def oneW (f : Nat) : Wd := (⟨0, 0, 0, 0⟩ : Wd).more f
theorem oneW_ok (f : Nat) : (oneW f).ok = true := more_ok (by decide) (by decide) f
theorem oneW_u (f : Nat) : (oneW f).u = 1 := rfl
/-- does a term lie in field f? -/
def liesB (t : List Int) (f : Nat) : Bool := hasB ((oneW f).val t) ((0 : Nat) : Int)
theorem oneW_has {f : Nat} : hasB (oneW f).a ((0 : Nat) : Int) = bitB f 0 ∧ hasB (oneW f).b ((0 : Nat) : Int) = bitB f 1 ∧ hasB (oneW f).c ((0 : Nat) : Int) = bitB f 2 := by
  unfold oneW Wd.more
  simp only
  cases bitB f 0 <;> cases bitB f 1 <;> cases bitB f 2 <;> decide
theorem oneW_val (f : Nat) (t : List Int) : (oneW f).val t = oneB (liesB t f) := by
  have h := ok_val (oneW_ok f) t
  unfold liesB
  rw [oneW_u] at h
  obtain ⟨_, _, h0, h1⟩ := okB_iff.1 h
  have h1' : (oneW f).val t ≤ 1 := h1
  have hd : (oneW f).val t = 0 ∨ (oneW f).val t = 1 := by omega
  rcases hd with e | e <;> rw [e] <;> decide
/-- a thing is in what a term is, if the term lies in its field. -/
theorem has_field {w : Wd} (h : w.ok = true) (i : Nat) (hi : (i : Int) < w.u) (n : Nat) : ∀ t, isTm n t → hasB (w.val t) i = liesB t (w.field i) := by
  obtain ⟨b0, b1, b2⟩ := field_bit w i
  obtain ⟨o0, o1, o2⟩ := oneW_has (f := w.field i)
  have h1 : ((0 : Nat) : Int) < (oneW (w.field i)).u := by rw [oneW_u]; decide
  have ho := oneW_ok (w.field i)
  induction n with
  | zero => intro t ht; exact ht.elim
  | succ n ih =>
    intro t ht
    rcases ht with ⟨s, h0, h4, rfl⟩ | ⟨t, ht, rfl⟩ | ⟨s, x, y, h5, h7, hx, hy, rfl⟩
    · unfold liesB
      rw [has_leaf h s h0 h4 i hi, has_leaf ho s h0 h4 0 h1]
      by_cases h3 : s < 3
      · rw [if_pos h3, if_pos h3]
        unfold Wd.name
        by_cases s0 : s = 0
        · rw [if_pos s0, if_pos s0, o0, b0]
        · rw [if_neg s0, if_neg s0]
          by_cases s1 : s = 1
          · rw [if_pos s1, if_pos s1, o1, b1]
          · rw [if_neg s1, if_neg s1, o2, b2]
      · rw [if_neg h3, if_neg h3]
    · have e := ih t ht
      unfold liesB at e ⊢
      rw [has_opp h ht i hi, has_opp ho ht 0 h1, e]
    · have ex := ih x hx
      have ey := ih y hy
      unfold liesB at ex ey ⊢
      rw [has_two h h5 h7 hx hy i hi, has_two ho h5 h7 hx hy 0 h1, ex, ey]
theorem pcTo_u {u v : Int} (h : okB u v = true) : pcTo v u.toNat = pcN v :=
  uptoSets (P := fun u v _ => pcTo v u.toNat = pcN v) (by decide +kernel) u v v h h
/-- a term has as many things in a world as in its fields. -/
theorem size_fields {w : Wd} (h : w.ok = true) {n : Nat} {t : List Int} (ht : isTm n t) : pcN (w.val t) = sumIn (liesB t) (w.fc w.u.toNat) 8 := by
  have e : ∀ k : Nat, k ≤ w.u.toNat → pcTo (w.val t) k = sumIn (liesB t) (w.fc k) 8 := by
    intro k
    induction k with
    | zero => intro _; rw [sumIn_zero]; rfl
    | succ k ih =>
      intro hk
      rw [sumIn_fc, ← ih (by omega), ← has_field h k (by omega) n t ht]
      rfl
  rw [← pcTo_u (ok_val h t)]
  exact e _ (Nat.le_refl _)
theorem size_same {w w' : Wd} (h : w.ok = true) (h' : w'.ok = true) (he : ∀ f, f < 8 → w'.fc w'.u.toNat f = w.fc w.u.toNat f) {n : Nat} {t : List Int} (ht : isTm n t) : pcN (w'.val t) = pcN (w.val t) := by
  rw [size_fields h ht, size_fields h' ht]
  exact sumIn_same he

/-! ### the mask -/
/-- 2^f for each of the first k fields, added up. -/
def maskTo (L : Nat → Bool) : Nat → Int
  | 0 => 0
  | k + 1 => maskTo L k + oneB (L k) * pw k
theorem maskTo_le (L : Nat → Bool) (k : Nat) : 0 ≤ maskTo L k ∧ maskTo L k < pw k := by
  induction k with
  | zero => exact ⟨Int.le_refl _, show (0 : Int) < pw 0 by decide⟩
  | succ k ih =>
    have := pw_pos k
    unfold maskTo
    rw [pw_succ]
    unfold oneB
    split <;> omega
theorem has_mask1 : ∀ k : Nat, k < 8 → ∀ m : Nat, m < 2 ^ k → ∀ x, (∀ i : Nat, i < k → hasB ((m : Int) + oneB x * pw k) i = hasB m i) ∧ hasB ((m : Int) + oneB x * pw k) k = x := by decide +kernel
theorem has_mask (L : Nat → Bool) {k : Nat} (hk : k ≤ 8) {f : Nat} (hf : f < k) : hasB (maskTo L k) f = L f := by
  induction k with
  | zero => omega
  | succ k ih =>
    obtain ⟨m0, m1⟩ := maskTo_le L k
    obtain ⟨m, hm⟩ := Int.eq_ofNat_of_zero_le m0
    have hp : pw k = ((2 ^ k : Nat) : Int) := by unfold pw; simp
    have h := has_mask1 k (by omega) m (by rw [hm, hp] at m1; omega) (L k)
    unfold maskTo
    rw [hm]
    rcases Nat.lt_or_ge f k with h' | h'
    · rw [h.1 f h', ← hm]; exact ih (by omega) h'
    · obtain rfl : f = k := by omega
      exact h.2
end Go.Proofs.YtpdpnlpepfgknafGreatDoor

namespace Go.Proofs.YtpdpnlpepfgknafGreatDoor
open Go.RowKit

theorem none_of_size {u x : Int} (h : okB u x = true) : (x = 0 ↔ pcN x = 0) :=
  uptoSets (P := fun _ x _ => x = 0 ↔ pcN x = 0) (by decide +kernel) u x x h h
theorem same_of_less {u x y : Int} (hx : okB u x = true) (hy : okB u y = true) : (x = y ↔ lessN x y = 0 ∧ lessN y x = 0) :=
  uptoSets (P := fun _ x y => x = y ↔ lessN x y = 0 ∧ lessN y x = 0) (by decide +kernel) u x y hx hy

/-- two right worlds with as many things in each field. -/
structure Alike (w w' : Wd) : Prop where
  ok : w.ok = true
  ok' : w'.ok = true
  fc : ∀ f, f < 8 → w'.fc w'.u.toNat f = w.fc w.u.toNat f

theorem Alike.size {w w' : Wd} (h : Alike w w') {n : Nat} {t : List Int} (ht : isTm n t) : pcN (w'.val t) = pcN (w.val t) := size_same h.ok h.ok' h.fc ht
theorem Alike.less {w w' : Wd} (h : Alike w w') {n m : Nat} {s t : List Int} (hs : isTm n s) (ht : isTm m t) : (lessN (w'.val s) (w'.val t) = 0 ↔ lessN (w.val s) (w.val t) = 0) := by
  have e : ∀ v : Wd, v.val (s ++ (t ++ [7])) = lessN (v.val s) (v.val t) := fun v => by rw [val_bin v (by omega) (by omega) hs ht, doN7]
  have hn : isTm (n + m + 1) (s ++ (t ++ [7])) := Or.inr (Or.inr ⟨7, s, t, by omega, by omega, isTm_mono (by omega) hs, isTm_mono (by omega) ht, rfl⟩)
  rw [← e, ← e, none_of_size (ok_val h.ok' _), none_of_size (ok_val h.ok _), h.size hn]
theorem one_term {t : List Int} (h : faultN t = 0) : ∃ n, isTm n t := tree t (fault_zero.1 h).2.2.1 (fault_zero.1 h).2.2.2
theorem Alike.holds {w w' : Wd} (h : Alike w w') {k : Int} {s t : List Int} {n : Int} (hf : atomFault k s t n = 0) : w'.holds k s t n = w.holds k s t n := by
  obtain ⟨hk, hs, ht, _⟩ := atomFault_zero.1 hf
  obtain ⟨i, hi⟩ := one_term hs
  unfold Wd.holds Wd.snd saysB
  rcases five hk.1 hk.2 with rfl | rfl | rfl | rfl | rfl
  · obtain ⟨j, hj⟩ := one_term (second_reads ht (by decide))
    rw [if_pos (show secondB 1 = true by decide), if_pos rfl, if_pos (show secondB 1 = true by decide), if_pos rfl]
    exact decide_eq_decide.2 (h.less hi hj)
  · obtain ⟨j, hj⟩ := one_term (second_reads ht (by decide))
    rw [if_pos (show secondB 2 = true by decide), if_pos (show secondB 2 = true by decide), if_neg (by decide), if_pos rfl, if_neg (by decide), if_pos rfl]
    refine decide_eq_decide.2 ?_
    rw [same_of_less (ok_val h.ok' s) (ok_val h.ok' t), same_of_less (ok_val h.ok s) (ok_val h.ok t), h.less hi hj, h.less hj hi]
  · rw [if_neg (by decide), if_neg (by decide), if_pos rfl, if_neg (by decide), if_neg (by decide), if_pos rfl, h.size hi]
  · rw [if_neg (by decide), if_neg (by decide), if_neg (by decide), if_pos rfl, if_neg (by decide), if_neg (by decide), if_neg (by decide), if_pos rfl, h.size hi]
  · obtain ⟨j, hj⟩ := one_term (second_reads ht (by decide))
    rw [if_pos (show secondB 5 = true by decide), if_pos (show secondB 5 = true by decide), if_neg (by decide), if_neg (by decide), if_neg (by decide), if_neg (by decide), if_neg (by decide), if_neg (by decide), if_neg (by decide), if_neg (by decide), h.size hi, h.size hj]
theorem Alike.fault {w w' : Wd} (h : Alike w w') (ats : List At) (c : List Int) : w'.formFault ats c = w.formFault ats c := by
  unfold Wd.formFault; rw [h.ok, h.ok']
/-- a formula holds in a world just if in one with as many things in each field. -/
theorem Alike.form {w w' : Wd} (h : Alike w w') (ats : List At) (c : List Int) : w'.formIs ats c = w.formIs ats c := by
  unfold Wd.formIs
  rw [h.fault]
  by_cases hf : w.formFault ats c = 0
  · rw [if_pos hf, if_pos hf]
    obtain ⟨_, _, hall, _⟩ := formFault_zero.1 (wdForm_zero.1 hf).1
    have e : w'.heldL ats = w.heldL ats := by
      unfold Wd.heldL
      exact List.map_congr_left fun a ha => h.holds (hall a ha)
    rw [e]
  · rw [if_neg hf, if_neg hf]
/-- the world of the counts of a world is like it. -/
theorem alike_made {w : Wd} (h : w.ok = true) : Alike w (madeN (w.fc w.u.toNat) 8) :=
  ⟨h, made_ok (counts_fc h), fun _ hf => made_fc (counts_fc h) hf⟩
theorem made_things {w : Wd} (h : w.ok = true) : (madeN (w.fc w.u.toNat) 8).u = w.u := by
  rw [made_u (counts_fc h), sum_fc]
  have := (ok_u h).1
  omega
end Go.Proofs.YtpdpnlpepfgknafGreatDoor

namespace Go.Proofs.YtpdpnlpepfgknafGreatDoor
open Go.RowKit

/-- how many times a field is counted, of a kind, by whether it is in S, and in T. -/
def timesK (k : Int) (x y : Bool) : Int :=
  if k = 1 then oneB (x && !y) else if k = 2 then oneB (x && !y) + oneB (y && !x) else if k = 3 then - oneB (x && !y) else if k = 4 then oneB (x && !y) else oneB x - oneB y
/-- the most that they may be, of a kind. -/
def mostK (k n : Int) : Int := if k = 3 then -n else n
/-- the row of an atom that holds, or does not. -/
def baseT (k : Int) (s t : List Int) (f : Nat) : Int := timesK k (liesB s f) (liesB t f)
def rowT (k : Int) (s t : List Int) (h : Bool) (f : Nat) : Int := if h = true then baseT k s t f else - baseT k s t f
def rowM (k n : Int) (h : Bool) : Int := if h = true then mostK k n else -(mostK k n + 1)
theorem timesK_le (k : Int) (x y : Bool) : -1 ≤ timesK k x y ∧ timesK k x y ≤ 1 := by
  unfold timesK
  split
  · cases x <;> cases y <;> decide
  split
  · cases x <;> cases y <;> decide
  split
  · cases x <;> cases y <;> decide
  split
  · cases x <;> cases y <;> decide
  · cases x <;> cases y <;> decide
theorem rowT_le (k : Int) (s t : List Int) (h : Bool) (f : Nat) : -1 ≤ rowT k s t h f ∧ rowT k s t h f ≤ 1 := by
  have := timesK_le k (liesB s f) (liesB t f)
  unfold rowT baseT; split <;> omega
theorem mostN_le (k : Int) : 0 ≤ mostN k ∧ mostN k ≤ 20 := by unfold mostN; split <;> omega
theorem rowM_le {k : Int} {s t : List Int} {n : Int} (hf : atomFault k s t n = 0) (h : Bool) : -21 ≤ rowM k n h ∧ rowM k n h ≤ 20 := by
  obtain ⟨_, _, _, h1, h2⟩ := atomFault_zero.1 hf
  have := mostN_le k
  unfold rowM mostK
  split <;> split <;> omega

/-- a row: how many times each field is counted, and the most. -/
structure Rw where
  t : Nat → Int
  m : Int
def sumT (T N : Nat → Int) : Nat → Int
  | 0 => 0
  | k + 1 => sumT T N k + T k * N k
/-- is each of the times right? -/
def okT (T : Nat → Int) : Nat → Bool
  | 0 => true
  | k + 1 => okT T k && decide (-2 ≤ T k ∧ T k ≤ 2)
def Rw.wrong (r : Rw) : Bool := !(okT r.t 8 && decide (-100 ≤ r.m ∧ r.m ≤ 100))
def Rw.so (r : Rw) (N : Nat → Int) : Bool := decide (sumT r.t N 8 ≤ r.m)
/-- what is wrong with rows; with rows and counts; whether all are so. -/
def rowsFault (l : List Rw) : Int := if 12 < l.length then 4 else if l.any Rw.wrong = true then 1 else 0
def fitsFault (l : List Rw) (N : Nat → Int) : Int := if rowsFault l = 0 then countsFault N else rowsFault l
def fitsIs (l : List Rw) (N : Nat → Int) : Bool := if fitsFault l N = 0 then l.all (fun r => r.so N) else false
theorem okT_iff {T : Nat → Int} {k : Nat} : okT T k = true ↔ ∀ f, f < k → -2 ≤ T f ∧ T f ≤ 2 := by
  induction k with
  | zero => exact ⟨fun _ f hf => by omega, fun _ => rfl⟩
  | succ k ih =>
    unfold okT
    rw [Bool.and_eq_true, ih, decide_eq_true_iff]
    refine ⟨fun h f hf => ?_, fun h => ⟨fun f hf => h f (by omega), h k (by omega)⟩⟩
    rcases Nat.lt_or_ge f k with h' | h'
    · exact h.1 f h'
    · obtain rfl : f = k := by omega
      exact h.2
theorem right_iff {r : Rw} : r.wrong = false ↔ (∀ f, f < 8 → -2 ≤ r.t f ∧ r.t f ≤ 2) ∧ -100 ≤ r.m ∧ r.m ≤ 100 := by
  unfold Rw.wrong
  rw [Bool.not_eq_false', Bool.and_eq_true, okT_iff, decide_eq_true_iff]
theorem wrong_time {r : Rw} {f : Nat} (hf : f < 8) (h : ¬ (-2 ≤ r.t f ∧ r.t f ≤ 2)) : r.wrong = true := by
  rcases (Bool.eq_false_or_eq_true r.wrong).symm with e | e
  · exact absurd ((right_iff.1 e).1 f hf) h
  · exact e
theorem wrong_most {r : Rw} (h : ¬ (-100 ≤ r.m ∧ r.m ≤ 100)) : r.wrong = true := by
  rcases (Bool.eq_false_or_eq_true r.wrong).symm with e | e
  · exact absurd (right_iff.1 e).2 h
  · exact e
theorem mul_le {x y : Int} (hx : -2 ≤ x ∧ x ≤ 2) (hy : 0 ≤ y ∧ y ≤ 6) : -12 ≤ x * y ∧ x * y ≤ 12 := by
  obtain ⟨x0, x1⟩ := hx
  have d : x = -2 ∨ x = -1 ∨ x = 0 ∨ x = 1 ∨ x = 2 := by omega
  rcases d with rfl | rfl | rfl | rfl | rfl <;> omega
theorem sumT_le {T N : Nat → Int} {k : Nat} (hT : ∀ f, f < k → -2 ≤ T f ∧ T f ≤ 2) (hN : ∀ f, f < k → 0 ≤ N f ∧ N f ≤ 6) : -12 * (k : Int) ≤ sumT T N k ∧ sumT T N k ≤ 12 * k := by
  induction k with
  | zero => exact ⟨Int.le_refl _, Int.le_refl _⟩
  | succ k ih =>
    have := ih (fun f hf => hT f (by omega)) fun f hf => hN f (by omega)
    have := mul_le (hT k (by omega)) (hN k (by omega))
    unfold sumT; push_cast; omega
theorem sumT_same {T S N M : Nat → Int} {k : Nat} (h : ∀ f, f < k → T f = S f) (h' : ∀ f, f < k → N f = M f) : sumT T N k = sumT S M k := by
  induction k with
  | zero => rfl
  | succ k ih => unfold sumT; rw [ih (fun f hf => h f (by omega)) fun f hf => h' f (by omega), h k (by omega), h' k (by omega)]
theorem sumT_one (L : Nat → Bool) (N : Nat → Int) (k : Nat) : sumT (fun f => oneB (L f)) N k = sumIn L N k := by
  induction k with
  | zero => rfl
  | succ k ih =>
    unfold sumT sumIn
    rw [ih]
    unfold oneB
    split <;> omega
theorem sumT_neg (T N : Nat → Int) (k : Nat) : sumT (fun f => - T f) N k = - sumT T N k := by
  induction k with
  | zero => rfl
  | succ k ih => unfold sumT; rw [ih, Int.neg_mul]; omega
theorem sumT_add (T S N : Nat → Int) (k : Nat) : sumT (fun f => T f + S f) N k = sumT T N k + sumT S N k := by
  induction k with
  | zero => rfl
  | succ k ih => unfold sumT; rw [ih, Int.add_mul]; omega
theorem sumT_sub (T S N : Nat → Int) (k : Nat) : sumT (fun f => T f - S f) N k = sumT T N k - sumT S N k := by
  induction k with
  | zero => rfl
  | succ k ih => unfold sumT; rw [ih, Int.sub_mul]; omega

/-! ### a row says what the atom says -/
theorem lies_none (f : Nat) : liesB [] f = false := by
  show hasB 0 ((0 : Nat) : Int) = false
  decide
theorem lies_less {n m : Nat} {s t : List Int} (hs : isTm n s) (ht : isTm m t) (f : Nat) : liesB (s ++ (t ++ [7])) f = (liesB s f && !liesB t f) := by
  unfold liesB
  rw [has_two (oneW_ok f) (by omega) (by omega) hs ht 0 (by rw [oneW_u]; decide)]
  rfl
/-- how many are in the first, and not in the second. -/
theorem size_less {w : Wd} (h : w.ok = true) {n m : Nat} {s t : List Int} (hs : isTm n s) (ht : isTm m t) : pcN (lessN (w.val s) (w.val t)) = sumT (fun f => oneB (liesB s f && !liesB t f)) (w.fc w.u.toNat) 8 := by
  have e : w.val (s ++ (t ++ [7])) = lessN (w.val s) (w.val t) := by rw [val_bin w (by omega) (by omega) hs ht, doN7]
  have hn : isTm (n + m + 1) (s ++ (t ++ [7])) := Or.inr (Or.inr ⟨7, s, t, by omega, by omega, isTm_mono (by omega) hs, isTm_mono (by omega) ht, rfl⟩)
  rw [← e, size_fields h hn, ← sumT_one]
  exact sumT_same (fun f _ => by rw [lies_less hs ht]) fun _ _ => rfl
theorem size_one {w : Wd} (h : w.ok = true) {n : Nat} {s : List Int} (hs : isTm n s) : pcN (w.val s) = sumT (fun f => oneB (liesB s f)) (w.fc w.u.toNat) 8 := by
  rw [size_fields h hs, sumT_one]
theorem less_ok {w : Wd} (h : w.ok = true) (s t : List Int) : okB w.u (lessN (w.val s) (w.val t)) = true := by
  have := ok_do (what := 7) (ok_val h s) (ok_val h t)
  rw [doN7] at this
  exact this
theorem second_none {k : Int} {t : List Int} (ht : secondFault k t = 0) (hk : secondB k = false) : t = [] := by
  unfold secondFault at ht
  rw [hk] at ht
  cases t with
  | nil => rfl
  | cons a t => simp at ht
theorem row_says {w : Wd} (h : w.ok = true) {k : Int} {s t : List Int} {n : Int} (hf : atomFault k s t n = 0) : (sumT (baseT k s t) (w.fc w.u.toNat) 8 ≤ mostK k n ↔ w.holds k s t n = true) := by
  obtain ⟨hk, hs, ht, n0, n1⟩ := atomFault_zero.1 hf
  obtain ⟨i, hi⟩ := one_term hs
  unfold Wd.holds Wd.snd saysB
  rcases five hk.1 hk.2 with rfl | rfl | rfl | rfl | rfl
  · obtain ⟨j, hj⟩ := one_term (second_reads ht (by decide))
    have e : baseT 1 s t = fun f => oneB (liesB s f && !liesB t f) := by funext f; rfl
    have en : n = 0 := by have : mostN 1 = 0 := by decide
                          omega
    rw [if_pos (show secondB 1 = true by decide), if_pos rfl, decide_eq_true_iff, e, ← size_less h hi hj, none_of_size (less_ok h s t), en]
    have := pcN_le (lessN (w.val s) (w.val t))
    show _ ≤ (0 : Int) ↔ _
    omega
  · obtain ⟨j, hj⟩ := one_term (second_reads ht (by decide))
    have e : baseT 2 s t = fun f => oneB (liesB s f && !liesB t f) + oneB (liesB t f && !liesB s f) := by funext f; rfl
    have en : n = 0 := by have : mostN 2 = 0 := by decide
                          omega
    rw [if_pos (show secondB 2 = true by decide), if_neg (by decide), if_pos rfl, decide_eq_true_iff, e, sumT_add, ← size_less h hi hj, ← size_less h hj hi, same_of_less (ok_val h s) (ok_val h t), none_of_size (less_ok h s t), none_of_size (less_ok h t s), en]
    have := pcN_le (lessN (w.val s) (w.val t))
    have := pcN_le (lessN (w.val t) (w.val s))
    show _ ≤ (0 : Int) ↔ _
    omega
  · obtain rfl := second_none ht (by decide)
    have e : baseT 3 s [] = fun f => - oneB (liesB s f) := by
      funext f
      show - oneB (liesB s f && !liesB [] f) = _
      rw [lies_none]; simp
    rw [if_neg (by decide), if_neg (by decide), if_pos rfl, decide_eq_true_iff, e, sumT_neg, ← size_one h hi]
    show _ ≤ -n ↔ _
    omega
  · obtain rfl := second_none ht (by decide)
    have e : baseT 4 s [] = fun f => oneB (liesB s f) := by
      funext f
      show oneB (liesB s f && !liesB [] f) = _
      rw [lies_none]; simp
    rw [if_neg (by decide), if_neg (by decide), if_neg (by decide), if_pos rfl, decide_eq_true_iff, e, ← size_one h hi]
    show _ ≤ n ↔ _
    omega
  · obtain ⟨j, hj⟩ := one_term (second_reads ht (by decide))
    have e : baseT 5 s t = fun f => oneB (liesB s f) - oneB (liesB t f) := by funext f; rfl
    rw [if_pos (show secondB 5 = true by decide), if_neg (by decide), if_neg (by decide), if_neg (by decide), if_neg (by decide), decide_eq_true_iff, e, sumT_sub, ← size_one h hi, ← size_one h hj]
    show _ ≤ n ↔ _
    omega
/-- the row is so just if the atom holds; the other one just if it does not. -/
theorem rows_say {w : Wd} (h : w.ok = true) {k : Int} {s t : List Int} {n : Int} (hf : atomFault k s t n = 0) (hh : Bool) : (Rw.mk (rowT k s t hh) (rowM k n hh)).so (w.fc w.u.toNat) = (if hh = true then w.holds k s t n else !w.holds k s t n) := by
  have e := row_says h hf
  unfold Rw.so
  cases hh
  · have e' : rowT k s t false = fun f => - baseT k s t f := by funext f; rfl
    have em : rowM k n false = -(mostK k n + 1) := rfl
    rw [e', sumT_neg, em, if_neg (by decide)]
    rcases (Bool.eq_false_or_eq_true (w.holds k s t n)).symm with q | q
    · rw [q] at e ⊢
      simp only [Bool.not_false, decide_eq_true_eq]
      have := mt e.1 (by decide)
      omega
    · rw [q] at e ⊢
      simp only [Bool.not_true, decide_eq_false_iff_not]
      have := e.2 rfl
      omega
  · have e' : rowT k s t true = baseT k s t := by funext f; rfl
    have em : rowM k n true = mostK k n := rfl
    rw [e', em, if_pos rfl, Bool.eq_iff_iff, decide_eq_true_iff, e]
theorem row_right {k : Int} {s t : List Int} {n : Int} (hf : atomFault k s t n = 0) (hh : Bool) : (Rw.mk (rowT k s t hh) (rowM k n hh)).wrong = false := by
  refine right_iff.2 ⟨fun f _ => ?_, ?_⟩
  · have := rowT_le k s t hh f
    show -2 ≤ rowT k s t hh f ∧ rowT k s t hh f ≤ 2
    omega
  · have := rowM_le hf hh
    show -100 ≤ rowM k n hh ∧ rowM k n hh ≤ 100
    omega
end Go.Proofs.YtpdpnlpepfgknafGreatDoor

namespace Go.Proofs.YtpdpnlpepfgknafGreatDoor
open Go.ChangeShapes Go.WideShapes Go.ChangeAt Go.RowKit

/-- behind a draw or some. -/
theorem below_of_drew {w wm : World} (h : Below w.drew.heap.size w.drew wm) : Below w.heap.size w wm := ((Below.refl _ w).drew).trans h

set_option maxRecDepth 100000 in
set_option maxHeartbeats 4000000 in
theorem work_any (u a b c : Int) (t : List Int) (B off cap : Nat) (w : World) (hw : (Wd.mk u a b c).ok = true) (hs : t.all signB = true) (hone : cnt t 0 = some 1) (hl : t.length ≤ 12) (hB : B < w.heap.size)
    (hc : ∀ k, k < t.length → w.cell? ⟨B, off + k, none⟩ = some (.int .i64 (t.getD k 0))) :
    Calls Tryz.prog 45 #[.slice (some ⟨B, off, none⟩) t.length cap, .agg #[.int .i64 u, .int .i64 a, .int .i64 b, .int .i64 c]] w fun e w' => e = .returned (.tuple #[.int .i64 ((Wd.mk u a b c).val t), .nilIface]) ∧ Below w.heap.size w w' := by
  obtain ⟨i0, hi, hz0, hz1, hz2⟩ := info_parts infoInt
  obtain ⟨w1, hw1⟩ : ∃ w1, w1 = w.alloc (.cells #[.int .i64 u, .int .i64 a, .int .i64 b, .int .i64 c] 37) := ⟨_, rfl⟩
  obtain ⟨K, hK⟩ : ∃ K, K = w.heap.size + 1 := ⟨_, rfl⟩
  have HK1 : Hid (w1.heap.size = K) := by unfold Hid; rw [hw1, hK]; simp
  have HC : Hid (∀ k, k < t.length → w1.cell? ⟨B, off + k, none⟩ = some (.int .i64 (t.getD k 0))) := fun k hk => by
    rw [hw1, World.cell?_alloc_lt _ _ ⟨B, off + k, none⟩ hB]; exact hc k hk
  have HX : Hid (w1.cell? ⟨w.heap.size, 0, none⟩ = some (.int .i64 u) ∧ w1.cell? ⟨w.heap.size, 1, none⟩ = some (.int .i64 a) ∧ w1.cell? ⟨w.heap.size, 2, none⟩ = some (.int .i64 b) ∧ w1.cell? ⟨w.heap.size, 3, none⟩ = some (.int .i64 c)) := by
    unfold Hid; rw [hw1]; simp
  have HBK : Hid (B < K ∧ w.heap.size < K) := ⟨by omega, by omega⟩
  have HW : Hid (Below w.heap.size w w1) := by unfold Hid; rw [hw1]; exact below_alloc1 _ _
  have HKs : Hid (w.heap.size ≤ K) := by unfold Hid; omega
  clear hc hB hK
  obtain ⟨n, hn⟩ : ∃ n, n = t.length := ⟨_, rfl⟩
  rw [← hn] at hl ⊢
  have HN : Hid (n = t.length) := hn
  clear hn
  have HOK : Hid ((Wd.mk u a b c).ok = true) := hw
  have HS : Hid (t.all signB = true) := hs
  have HO : Hid (cnt t 0 = some 1) := hone
  clear hw hs hone
  obtain ⟨V, hV⟩ : ∃ V, V = (Wd.mk u a b c).val t := ⟨_, rfl⟩
  rw [← hV]
  have HV : Hid (V = (Wd.mk u a b c).val t) := hV
  clear hV
  go_enter Tryz.func45, Tryz.ntmps45
  go_wp2
  rw [← hw1]
  clear hw1
  go_loopw [6, 14] (fun v i wr => ∃ (k : Nat) (p : List Int), k ≤ n ∧ i = .int .i64 k ∧ wr.ownsRow K 3 1 v p.length (p.map (Value.int .i64)) ∧ Below K w1 wr ∧ K ≤ wr.heap.size ∧ p = (Wd.mk u a b c).pile (t.take k) [])
    (fun _ i _ => n - (intOf i).toNat)
  case atStart => exact ⟨0, [], Nat.zero_le _, rfl, World.ownsRow_nil _ _ _ _, Below.refl _ _, by rw [HK1.out]; exact Nat.le_refl _, rfl⟩
  case round =>
    obtain ⟨k, p, hk, rfl, hown0, hbel0, hKw0, hp0⟩ := hrel
    have hkt0 : cnt (t.take k) 0 = some (p.length : Int) := by
      obtain ⟨m, hm⟩ := cnt_take_some t k HO.out
      have := pile_length (Wd.mk u a b c) (t.take k) [] hm
      rw [← hp0] at this
      rw [this]; exact hm
    by_cases hlt : k < n
    · obtain ⟨s, hs⟩ : ∃ s, s = t.getD k 0 := ⟨_, rfl⟩
      have hkt : k < t.length := by rw [← HN.out]; exact hlt
      have hcell : wr.cell? ⟨B, off + k, none⟩ = some (.int .i64 s) := by rw [hs, hbel0.cell HBK.out.1]; exact HC.out k hkt
      have x0 : wr.cell? ⟨w.heap.size, 0, none⟩ = some (.int .i64 u) := by rw [hbel0.cell HBK.out.2]; exact HX.out.1
      have x1 : wr.cell? ⟨w.heap.size, 1, none⟩ = some (.int .i64 a) := by rw [hbel0.cell HBK.out.2]; exact HX.out.2.1
      have x2 : wr.cell? ⟨w.heap.size, 2, none⟩ = some (.int .i64 b) := by rw [hbel0.cell HBK.out.2]; exact HX.out.2.2.1
      have x3 : wr.cell? ⟨w.heap.size, 3, none⟩ = some (.int .i64 c) := by rw [hbel0.cell HBK.out.2]; exact HX.out.2.2.2
      have hsg : 0 ≤ s ∧ s ≤ 8 := by
        refine signB_iff.1 (List.all_eq_true.1 HS.out s ?_)
        rw [hs, List.getD_eq_getElem?_getD, List.getElem?_eq_getElem hkt]; exact List.getElem_mem hkt
      have htk : takesN s ≤ p.length := by
        have h1 := cnt_take_succ t hkt hkt0
        rw [← hs] at h1
        obtain ⟨m, hm⟩ := cnt_take_some t (k + 1) HO.out
        by_cases h2 : (p.length : Int) < takesN s
        · rw [if_pos h2] at h1; rw [h1] at hm; cases hm
        · omega
      have HP : Hid ((Wd.mk u a b c).step p s = (Wd.mk u a b c).pile (t.take (k + 1)) []) := by
        unfold Hid; rw [pile_succ _ t [] hkt, ← hs, ← hp0]
      have hpl : p.length ≤ 12 := by
        have := (cnt_nonneg (Int.le_refl 0) hkt0).2
        simp at this; omega
      have HOKP : Hid (∀ j, okB u (p.getD j 0) = true) := fun j => by
        rw [hp0]
        exact ok_getD HOK.out (ok_pile HOK.out (t.take k) (p := []) (by intro x hx; cases hx)) j
      clear hs hkt hkt0 hp0
      have HBEL : Hid (Below K w1 wr) := hbel0
      have HKW : Hid (K ≤ wr.heap.size) := hKw0
      clear hbel0 hKw0
      by_cases h4 : s ≤ 4
      · have ht : takesN s = 0 := takes5 s (by omega)
        have HM : Hid (∀ v W, Calls Tryz.prog 74 #[.int .i64 s, v, .agg #[.int .i64 u, .int .i64 a, .int .i64 b, .int .i64 c]] W fun e w' => e = .returned (.tuple #[.int .i64 ((Wd.mk u a b c).made s []), .nilIface]) ∧ Below W.heap.size W w') := fun v W => made_leaf_any u a b c s v W hsg.1 h4 HOK.out
        have HQ : Hid ((Wd.mk u a b c).step p s = p.take p.length ++ [(Wd.mk u a b c).made s []]) := step_leaf _ p s h4
        obtain ⟨X, hX⟩ : ∃ X, X = (Wd.mk u a b c).made s [] := ⟨_, rfl⟩
        rw [← hX] at HM HQ
        clear hX htk hsg h4
        rcases hown0.2 with ⟨rfl, hp0⟩ | ⟨g, cap', cur, rfl, hg, hh, hm, hmax, _, _⟩
        · obtain rfl : p = [] := List.eq_nil_of_length_eq_zero hp0
          clear hown0 hp0
          go_wp2_with (go_at_call 73; refine (takes_any _ _).mono ?_; rintro e w' ⟨rfl, rfl⟩)
          go_region_with (first | (go_at_call 74; refine (HM.out _ _).mono ?_; rintro e wm ⟨rfl, hbm⟩))
          go_wp2_with (first | (at_builtin; refine wpList_append_own _ rfl (.tmp 37) (.tmp 39) 27 rfl K 3 i0 (.int .i64 0) 1 8 Tryz.underlying27 hi hz0 hz1 hz2 rfl (by decide) (.slice none 0 0) 0 [] rfl (World.ownsRow_nil _ _ _ _) ⟨wm.heap.size, 0, none⟩ 1 1 [.int .i64 X] rfl rfl ?a1 ?a2 ?a3 ?a4 ?a5 ?_))
          case a1 =>
            intro j y hj
            match j, hj with
            | 0, hj => simp at hj; subst hj; simp [Addr.add]
          case a2 => intro y hy; simp at hy; subst hy; rfl
          case a3 => unfold maxLen; omega
          case a4 => omega
          case a5 => have h1 := hbm.size; have h2 := HKW.out; simp at h1 ⊢; omega
          intro v' w2 hown' hgrow _
          have R := work_rel (q := (Wd.mk u a b c).pile (t.take (k + 1)) []) HKW.out HBEL.out (below_of_drew hbm) hown' (by intro k hk; cases hk) hgrow (Nat.le_refl _) (HP.out.symm.trans HQ.out)
          clear hown' hgrow hbm
          go_wp2
          go_roundw
          case rel => exact ⟨k + 1, _, by omega, by go_num, R.1, R.2.1, R.2.2, rfl⟩
          case measure => simp [intOf]; omega
        · obtain ⟨m, hm0⟩ : ∃ m, m = p.length := ⟨_, rfl⟩
          have HOW : Hid (wr.ownsRow K 3 1 (.slice (some ⟨g, 0, none⟩) m cap') m (p.map (Value.int .i64))) := by
            unfold Hid; rw [hm0]; exact hown0
          rw [← hm0] at HQ hm hpl ⊢
          have HM0 : Hid (m = p.length) := hm0
          clear hown0 hm0 hh
          by_cases hcap : cap' = m
          · subst hcap
            go_wp2_with (go_at_call 73; refine (takes_any _ _).mono ?_; rintro e w' ⟨rfl, rfl⟩)
            go_region_with (first | (go_at_call 74; refine (HM.out _ _).mono ?_; rintro e wm ⟨rfl, hbm⟩))
            have HOm := ownsRow_below HOW.out (below_of_drew hbm)
            go_wp2_with (first | (at_builtin; refine wpList_append_own _ rfl (.tmp 37) (.tmp 39) 27 rfl K 3 i0 (.int .i64 0) 1 8 Tryz.underlying27 hi hz0 hz1 hz2 rfl (by decide) (.slice (some ⟨g, 0, none⟩) cap' cap') cap' ((p.map (Value.int .i64)).take cap') rfl ((ownsRow_take HOm (by have := HM0.out; omega)).alloc _) ⟨wm.heap.size, 0, none⟩ 1 1 [.int .i64 X] rfl rfl ?e1 ?e2 ?e3 ?e4 ?e5 ?_))
            case e1 =>
              intro j y hj
              match j, hj with
              | 0, hj => simp at hj; subst hj; simp [Addr.add]
            case e2 => intro y hy; simp at hy; subst hy; rfl
            case e3 => unfold maxLen; omega
            case e4 => omega
            case e5 => have h1 := hbm.size; have h2 := HKW.out; simp at h1 ⊢; omega
            intro v' w2 hown' hgrow _
            have R := work_rel (q := (Wd.mk u a b c).pile (t.take (k + 1)) []) HKW.out HBEL.out (below_of_drew hbm) (by rw [List.map_take]; exact hown') (by intro k hk; cases hk; exact hg) hgrow (by have := HM0.out; omega) (HP.out.symm.trans HQ.out)
            clear hown' hgrow hbm HOm
            go_wp2
            go_roundw
            case rel => exact ⟨k + 1, _, by omega, by go_num, R.1, R.2.1, R.2.2, rfl⟩
            case measure => simp [intOf]; omega
          · go_wp2_with (go_at_call 73; refine (takes_any _ _).mono ?_; rintro e w' ⟨rfl, rfl⟩)
            go_region_with (first | (go_at_call 74; refine (HM.out _ _).mono ?_; rintro e wm ⟨rfl, hbm⟩))
            have HOm := ownsRow_below HOW.out (below_of_drew hbm)
            go_wp2_with (first | (at_builtin; refine wpList_append_own _ rfl (.tmp 37) (.tmp 39) 27 rfl K 3 i0 (.int .i64 0) 1 8 Tryz.underlying27 hi hz0 hz1 hz2 rfl (by decide) (.slice (some ⟨g, 0, none⟩) m cap') m ((p.map (Value.int .i64)).take m) rfl ((ownsRow_take HOm (by have := HM0.out; omega)).alloc _) ⟨wm.heap.size, 0, none⟩ 1 1 [.int .i64 X] rfl rfl ?b1 ?b2 ?b3 ?b4 ?b5 ?_))
            case b1 =>
              intro j y hj
              match j, hj with
              | 0, hj => simp at hj; subst hj; simp [Addr.add]
            case b2 => intro y hy; simp at hy; subst hy; rfl
            case b3 => unfold maxLen; omega
            case b4 => omega
            case b5 => have h1 := hbm.size; have h2 := HKW.out; simp at h1 ⊢; omega
            intro v' w2 hown' hgrow _
            have R := work_rel (q := (Wd.mk u a b c).pile (t.take (k + 1)) []) HKW.out HBEL.out (below_of_drew hbm) (by rw [List.map_take]; exact hown') (by intro k hk; cases hk; exact hg) hgrow (by have := HM0.out; omega) (HP.out.symm.trans HQ.out)
            clear hown' hgrow hbm HOm
            go_wp2
            go_roundw
            case rel => exact ⟨k + 1, _, by omega, by go_num, R.1, R.2.1, R.2.2, rfl⟩
            case measure => simp [intOf]; omega
      by_cases h8 : s = 8
      · subst h8
        rw [takes1] at htk
        have ht : takesN 8 = 1 := takes1
        rcases hown0.2 with ⟨rfl, hp0⟩ | ⟨g, cap', cur, rfl, hg, hh, hm, hmax, _, _⟩
        · omega
        · obtain ⟨r, hr⟩ : ∃ r, p.length = r + 1 := ⟨p.length - 1, by omega⟩
          have HM0 : Hid (p.length = r + 1) := hr
          have HOW : Hid (wr.ownsRow K 3 1 (.slice (some ⟨g, 0, none⟩) (r + 1) cap') (r + 1) (p.map (Value.int .i64))) := by
            unfold Hid; rw [← hr]; exact hown0
          have hcx : Hid (∀ W, Below wr.heap.size wr W → W.cell? ⟨g, r, none⟩ = some (.int .i64 (p.getD r 0))) := fun W hb => by
            rw [hb.cell (ownsRow_block hown0).2.1]; exact ownsRow_int hown0 (by omega)
          have HG : Hid (g < wr.heap.size) := (ownsRow_block hown0).2.1
          obtain ⟨x, hx⟩ : ∃ x, x = p.getD r 0 := ⟨_, rfl⟩
          have HX' : Hid (okB u x = true) := by unfold Hid; rw [hx]; exact HOKP.out r
          rw [← hx] at hcx
          have HM : Hid (∀ W c', Below wr.heap.size wr W → Calls Tryz.prog 74 #[.int .i64 8, .slice (some ⟨g, r, none⟩) 1 c', .agg #[.int .i64 u, .int .i64 a, .int .i64 b, .int .i64 c]] W fun e w' => e = .returned (.tuple #[.int .i64 (doN 8 u x x), .nilIface]) ∧ Below W.heap.size W w') := fun W c' hb => made_one_any u a b c 8 x g r c' W (by omega) (by omega) HX'.out (Nat.lt_of_lt_of_le HG.out hb.size) (hcx.out W hb)
          have HQ : Hid ((Wd.mk u a b c).step p 8 = p.take r ++ [doN 8 u x x]) := by
            have := step_one (Wd.mk u a b c) p (by omega)
            rw [hr, Nat.add_sub_cancel, ← hx] at this; exact this
          obtain ⟨X, hX⟩ : ∃ X, X = doN 8 u x x := ⟨_, rfl⟩
          rw [← hX] at HM HQ
          have hle : (r : Int) ≤ (r : Int) + 1 := by omega
          have hcap : ¬ cap' = r := by omega
          have hcap2 : r < cap' := by omega
          rw [hr] at hm hpl ⊢
          clear hX hx hcx hown0 hh hr htk
          go_wp2_with (go_at_call 73; refine (takes_any _ _).mono ?_; rintro e w' ⟨rfl, rfl⟩)
          go_region_with (first | (go_at_call 74; refine (HM.out _ _ ((Below.refl _ wr).drew)).mono ?_; rintro e wm ⟨rfl, hbm⟩))
          have HOm := ownsRow_below HOW.out (below_of_drew hbm)
          go_wp2_with (first | (at_builtin; refine wpList_append_own _ rfl (.tmp 37) (.tmp 39) 27 rfl K 3 i0 (.int .i64 0) 1 8 Tryz.underlying27 hi hz0 hz1 hz2 rfl (by decide) (.slice (some ⟨g, 0, none⟩) r cap') r ((p.map (Value.int .i64)).take r) rfl ((ownsRow_take HOm (by have := HM0.out; omega)).alloc _) ⟨wm.heap.size, 0, none⟩ 1 1 [.int .i64 X] rfl rfl ?c1 ?c2 ?c3 ?c4 ?c5 ?_))
          case c1 =>
            intro j y hj
            match j, hj with
            | 0, hj => simp at hj; subst hj; simp [Addr.add]
          case c2 => intro y hy; simp at hy; subst hy; rfl
          case c3 => unfold maxLen; omega
          case c4 => omega
          case c5 => have h1 := hbm.size; have h2 := HKW.out; simp at h1 ⊢; omega
          intro v' w2 hown' hgrow _
          have R := work_rel (q := (Wd.mk u a b c).pile (t.take (k + 1)) []) HKW.out HBEL.out (below_of_drew hbm) (by rw [List.map_take]; exact hown') (by intro k hk; cases hk; exact hg) hgrow (by have := HM0.out; omega) (HP.out.symm.trans HQ.out)
          clear hown' hgrow hbm HOm
          go_wp2
          go_roundw
          case rel => exact ⟨k + 1, _, by omega, by go_num, R.1, R.2.1, R.2.2, rfl⟩
          case measure => simp [intOf]; omega
      · have h7 : s ≤ 7 := by omega
        have h5 : 5 ≤ s := by omega
        have ht : takesN s = 2 := takes2 s h5 h7
        rw [ht] at htk
        rcases hown0.2 with ⟨rfl, hp0⟩ | ⟨g, cap', cur, rfl, hg, hh, hm, hmax, _, _⟩
        · omega
        · obtain ⟨r, hr⟩ : ∃ r, p.length = r + 2 := ⟨p.length - 2, by omega⟩
          have HM0 : Hid (p.length = r + 2) := hr
          have HOW : Hid (wr.ownsRow K 3 1 (.slice (some ⟨g, 0, none⟩) (r + 2) cap') (r + 2) (p.map (Value.int .i64))) := by
            unfold Hid; rw [← hr]; exact hown0
          have hcx : Hid (∀ W, Below wr.heap.size wr W → W.cell? ⟨g, r, none⟩ = some (.int .i64 (p.getD r 0))) := fun W hb => by
            rw [hb.cell (ownsRow_block hown0).2.1]; exact ownsRow_int hown0 (by omega)
          have hcy : Hid (∀ W, Below wr.heap.size wr W → W.cell? ⟨g, r + 1, none⟩ = some (.int .i64 (p.getD (r + 1) 0))) := fun W hb => by
            rw [hb.cell (ownsRow_block hown0).2.1]; exact ownsRow_int hown0 (by omega)
          have HG : Hid (g < wr.heap.size) := (ownsRow_block hown0).2.1
          obtain ⟨x, hx⟩ : ∃ x, x = p.getD r 0 := ⟨_, rfl⟩
          obtain ⟨y, hy⟩ : ∃ y, y = p.getD (r + 1) 0 := ⟨_, rfl⟩
          have HX' : Hid (okB u x = true) := by unfold Hid; rw [hx]; exact HOKP.out r
          have HY' : Hid (okB u y = true) := by unfold Hid; rw [hy]; exact HOKP.out (r + 1)
          rw [← hx] at hcx
          rw [← hy] at hcy
          have HM : Hid (∀ W c', Below wr.heap.size wr W → Calls Tryz.prog 74 #[.int .i64 s, .slice (some ⟨g, r, none⟩) 2 c', .agg #[.int .i64 u, .int .i64 a, .int .i64 b, .int .i64 c]] W fun e w' => e = .returned (.tuple #[.int .i64 (doN s u x y), .nilIface]) ∧ Below W.heap.size W w') := fun W c' hb => made_two_any u a b c s x y g r c' W (by omega) (by omega) HX'.out HY'.out (Nat.lt_of_lt_of_le HG.out hb.size) (hcx.out W hb) (hcy.out W hb)
          have HQ : Hid ((Wd.mk u a b c).step p s = p.take r ++ [doN s u x y]) := by
            have := step_two (Wd.mk u a b c) p s h5 h7 (by omega)
            rw [hr, Nat.add_sub_cancel, ← hx, ← hy] at this; exact this
          obtain ⟨X, hX⟩ : ∃ X, X = doN s u x y := ⟨_, rfl⟩
          rw [← hX] at HM HQ
          have hle : (r : Int) ≤ (r : Int) + 2 := by omega
          have hcap : ¬ cap' = r := by omega
          have hcap2 : r < cap' := by omega
          rw [hr] at hm hpl ⊢
          clear hX hx hy hcx hcy hown0 hh hr htk h4 h8
          go_wp2_with (go_at_call 73; refine (takes_any _ _).mono ?_; rintro e w' ⟨rfl, rfl⟩)
          go_region_with (first | (go_at_call 74; refine (HM.out _ _ ((Below.refl _ wr).drew)).mono ?_; rintro e wm ⟨rfl, hbm⟩))
          have HOm := ownsRow_below HOW.out (below_of_drew hbm)
          go_wp2_with (first | (at_builtin; refine wpList_append_own _ rfl (.tmp 37) (.tmp 39) 27 rfl K 3 i0 (.int .i64 0) 1 8 Tryz.underlying27 hi hz0 hz1 hz2 rfl (by decide) (.slice (some ⟨g, 0, none⟩) r cap') r ((p.map (Value.int .i64)).take r) rfl ((ownsRow_take HOm (by have := HM0.out; omega)).alloc _) ⟨wm.heap.size, 0, none⟩ 1 1 [.int .i64 X] rfl rfl ?d1 ?d2 ?d3 ?d4 ?d5 ?_))
          case d1 =>
            intro j y hj
            match j, hj with
            | 0, hj => simp at hj; subst hj; simp [Addr.add]
          case d2 => intro y hy; simp at hy; subst hy; rfl
          case d3 => unfold maxLen; omega
          case d4 => omega
          case d5 => have h1 := hbm.size; have h2 := HKW.out; simp at h1 ⊢; omega
          intro v' w2 hown' hgrow _
          have R := work_rel (q := (Wd.mk u a b c).pile (t.take (k + 1)) []) HKW.out HBEL.out (below_of_drew hbm) (by rw [List.map_take]; exact hown') (by intro k hk; cases hk; exact hg) hgrow (by have := HM0.out; omega) (HP.out.symm.trans HQ.out)
          clear hown' hgrow hbm HOm
          go_wp2
          go_roundw
          case rel => exact ⟨k + 1, _, by omega, by go_num, R.1, R.2.1, R.2.2, rfl⟩
          case measure => simp [intOf]; omega
    · obtain rfl : k = n := by omega
      rw [List.take_of_length_le (by rw [← HN.out]; exact Nat.le_refl _)] at hkt0 hp0
      have h1 : p.length = 1 := by
        rw [HO.out] at hkt0
        have := Option.some.inj hkt0
        omega
      have HVp : Hid (p.getD 0 0 = V) := by unfold Hid; rw [HV.out, hp0]; rfl
      have HF : Hid (Below w.heap.size w wr) := HW.out.trans (hbel0.mono HKs.out)
      rcases hown0.2 with ⟨rfl, hp0⟩ | ⟨g, cap', cur, rfl, hg, hh, hm, hmax, _, _⟩
      · omega
      · have hcx : wr.cell? ⟨g, 0, none⟩ = some (.int .i64 V) := by rw [← HVp.out]; exact ownsRow_int hown0 (by omega)
        rw [h1]
        clear hown0 hh hkt0 hp0 hbel0 hKw0
        go_wp2
        go_ret2
        exact ⟨rfl, HF.out⟩
end Go.Proofs.YtpdpnlpepfgknafGreatDoor

namespace Go.Proofs.YtpdpnlpepfgknafGreatDoor
open Go.ChangeShapes Go.WideShapes Go.ChangeAt Go.RowKit

theorem quiet_check_ok (u s : Int) (h : okB u s = true) (W : World) : Calls Tryz.prog 37 #[.int .i64 u, .int .i64 s] W fun e w' => e = .returned .nilIface ∧ w' = W := (check_ok u s h W).mono fun _ _ h => (And.intro h.1 h.2.symm)
theorem quiet_check_no (u s : Int) (h : okB u s = false) (W : World) : Calls Tryz.prog 37 #[.int .i64 u, .int .i64 s] W fun e w' => e = .returned (.iface 61 (.int .i64 1)) ∧ w' = W := (check_no u s h W).mono fun _ _ h => (And.intro h.1 h.2.symm)

set_option maxRecDepth 100000 in
set_option maxHeartbeats 4000000 in
theorem checkWorld_any (u a b c : Int) (w : World) :
    Calls Tryz.prog 44 #[.agg #[.int .i64 u, .int .i64 a, .int .i64 b, .int .i64 c]] w fun e w' => e = .returned (if (Wd.mk u a b c).ok = true then .nilIface else .iface 61 (.int .i64 1)) ∧ Below w.heap.size w w' := by
  obtain ⟨w1, hw1⟩ : ∃ w1, w1 = w.alloc (.cells #[.int .i64 u, .int .i64 a, .int .i64 b, .int .i64 c] 37) := ⟨_, rfl⟩
  obtain ⟨K, hK⟩ : ∃ K, K = w.heap.size + 1 := ⟨_, rfl⟩
  have HK1 : Hid (w1.heap.size = K) := by unfold Hid; rw [hw1, hK]; simp
  have HX : Hid (w1.cell? ⟨w.heap.size, 0, none⟩ = some (.int .i64 u) ∧ w1.cell? ⟨w.heap.size, 1, none⟩ = some (.int .i64 a) ∧ w1.cell? ⟨w.heap.size, 2, none⟩ = some (.int .i64 b) ∧ w1.cell? ⟨w.heap.size, 3, none⟩ = some (.int .i64 c)) := by
    unfold Hid; rw [hw1]; simp
  have HBK : Hid (w.heap.size < K) := by unfold Hid; omega
  have HW : Hid (Below w.heap.size w w1) := by unfold Hid; rw [hw1]; exact below_alloc1 _ _
  have HKs : Hid (w.heap.size ≤ K) := by unfold Hid; omega
  clear hK
  obtain ⟨E, hE⟩ : ∃ E, E = if (Wd.mk u a b c).ok = true then Value.nilIface else .iface 61 (.int .i64 1) := ⟨_, rfl⟩
  rw [← hE]
  have HE : Hid ((okB u a = true → okB u b = true → okB u c = true → E = .nilIface) ∧ ((okB u a = false ∨ okB u b = false ∨ okB u c = false) → E = .iface 61 (.int .i64 1))) := by
    refine ⟨fun h1 h2 h3 => ?_, fun h => ?_⟩
    · have ho : (Wd.mk u a b c).ok = true := Wd.ok_iff.2 ⟨h1, h2, h3⟩
      rw [if_pos ho] at hE
      exact hE
    · have ho : ¬ (Wd.mk u a b c).ok = true := by
        intro ho
        obtain ⟨h1, h2, h3⟩ := Wd.ok_iff.1 ho
        simp only at h1 h2 h3
        rw [h1, h2, h3] at h
        simp at h
      rw [if_neg ho] at hE
      exact hE
  clear hE
  go_enter Tryz.func44, Tryz.ntmps44
  go_wp2_with fail
  rw [← hw1]
  clear hw1
  go_loopw [5] (fun i wr => ∃ k : Nat, k ≤ 3 ∧ i = .int .i64 k ∧ Below K w1 wr ∧ (1 ≤ k → okB u a = true) ∧ (2 ≤ k → okB u b = true) ∧ (3 ≤ k → okB u c = true)) (fun i _ => 3 - (intOf i).toNat)
  case atStart => exact ⟨0, Nat.zero_le _, rfl, Below.refl _ _, by omega, by omega, by omega⟩
  case round =>
    obtain ⟨k, hk, rfl, hbel, k1, k2, k3⟩ := hrel
    have x0 : wr.cell? ⟨w.heap.size, 0, none⟩ = some (.int .i64 u) := by rw [hbel.cell HBK.out]; exact HX.out.1
    have x1 : wr.cell? ⟨w.heap.size, 1, none⟩ = some (.int .i64 a) := by rw [hbel.cell HBK.out]; exact HX.out.2.1
    have x2 : wr.cell? ⟨w.heap.size, 2, none⟩ = some (.int .i64 b) := by rw [hbel.cell HBK.out]; exact HX.out.2.2.1
    have x3 : wr.cell? ⟨w.heap.size, 3, none⟩ = some (.int .i64 c) := by rw [hbel.cell HBK.out]; exact HX.out.2.2.2
    have HB : Hid (Below K w1 wr) := hbel
    have HKw : Hid (K ≤ wr.heap.size) := by unfold Hid; rw [← HK1.out]; exact hbel.size
    clear hbel
    obtain rfl | rfl | rfl | rfl : k = 0 ∨ k = 1 ∨ k = 2 ∨ k = 3 := by omega
    · clear k1 k2 k3 hk
      rcases (Bool.eq_false_or_eq_true (okB u a)).symm with ho | ho
      · have HO : Hid (okB u a = false) := ho
        clear ho
        go_wp2_with fail
        go_quiet (first | (go_at_call 37; exact Calls.quiet_of_same (quiet_check_no _ _ HO.out _)))
        go_wp2
        go_ret
        exact ⟨back_v (HE.out.2 (Or.inl HO.out)).symm, HW.out.trans ((HB.out.mono HKs.out).trans ((below_drewNs _ _).mono (Nat.le_trans HKs.out HKw.out)))⟩
      · have HO : Hid (okB u a = true) := ho
        clear ho
        go_wp2_with fail
        go_quiet (first | (go_at_call 37; exact Calls.quiet_of_same (quiet_check_ok _ _ HO.out _)))
        go_wp2
        go_roundw
        case rel => exact ⟨1, by omega, by go_num, HB.out.trans ((below_drewNs _ _).mono HKw.out), fun _ => HO.out, fun h => by omega, fun h => by omega⟩
        case measure => simp [intOf]
    · have HO1 : Hid (okB u a = true) := k1 (by omega)
      clear k1 k2 k3 hk
      rcases (Bool.eq_false_or_eq_true (okB u b)).symm with ho | ho
      · have HO : Hid (okB u b = false) := ho
        clear ho
        go_wp2_with fail
        go_quiet (first | (go_at_call 37; exact Calls.quiet_of_same (quiet_check_no _ _ HO.out _)))
        go_wp2
        go_ret
        exact ⟨back_v (HE.out.2 (Or.inr (Or.inl HO.out))).symm, HW.out.trans ((HB.out.mono HKs.out).trans ((below_drewNs _ _).mono (Nat.le_trans HKs.out HKw.out)))⟩
      · have HO : Hid (okB u b = true) := ho
        clear ho
        go_wp2_with fail
        go_quiet (first | (go_at_call 37; exact Calls.quiet_of_same (quiet_check_ok _ _ HO.out _)))
        go_wp2
        go_roundw
        case rel => exact ⟨2, by omega, by go_num, HB.out.trans ((below_drewNs _ _).mono HKw.out), fun _ => HO1.out, fun _ => HO.out, fun h => by omega⟩
        case measure => simp [intOf]
    · have HO1 : Hid (okB u a = true) := k1 (by omega)
      have HO2 : Hid (okB u b = true) := k2 (by omega)
      clear k1 k2 k3 hk
      rcases (Bool.eq_false_or_eq_true (okB u c)).symm with ho | ho
      · have HO : Hid (okB u c = false) := ho
        clear ho
        go_wp2_with fail
        go_quiet (first | (go_at_call 37; exact Calls.quiet_of_same (quiet_check_no _ _ HO.out _)))
        go_wp2
        go_ret
        exact ⟨back_v (HE.out.2 (Or.inr (Or.inr HO.out))).symm, HW.out.trans ((HB.out.mono HKs.out).trans ((below_drewNs _ _).mono (Nat.le_trans HKs.out HKw.out)))⟩
      · have HO : Hid (okB u c = true) := ho
        clear ho
        go_wp2_with fail
        go_quiet (first | (go_at_call 37; exact Calls.quiet_of_same (quiet_check_ok _ _ HO.out _)))
        go_wp2
        go_roundw
        case rel => exact ⟨3, by omega, by go_num, HB.out.trans ((below_drewNs _ _).mono HKw.out), fun _ => HO1.out, fun _ => HO2.out, fun _ => HO.out⟩
        case measure => simp [intOf]
    · have HO : Hid (okB u a = true ∧ okB u b = true ∧ okB u c = true) := ⟨k1 (by omega), k2 (by omega), k3 (by omega)⟩
      clear k1 k2 k3 hk
      go_wp2
      go_ret
      exact ⟨back_v (HE.out.1 HO.out.1 HO.out.2.1 HO.out.2.2).symm, HW.out.trans (HB.out.mono HKs.out)⟩

/-- what Value answers: the set, and the number of the error. -/
def Wd.answer (w : Wd) (t : List Int) : Int := if faultN t = 0 then (if w.ok = true then w.val t else 0) else 0
def Wd.fault (w : Wd) (t : List Int) : Int := if faultN t = 0 then (if w.ok = true then 0 else 1) else faultN t

theorem back_2 {a b x y : Value} (h : a = b) (h' : x = y) : Ending.returned (.tuple #[a, x]) = .returned (.tuple #[b, y]) := by rw [h, h']

theorem value_bad (t : List Int) (v : Value) (u a b c : Int) (w : World) (h : Reads w v t) (hf : ¬ faultN t = 0) :
    Calls Tryz.prog 19 #[v, .agg #[.int .i64 u, .int .i64 a, .int .i64 b, .int .i64 c]] w fun e w' => e = .returned (.tuple #[.int .i64 0, .iface 61 (.int .i64 (faultN t))]) ∧ Below w.heap.size w w' := by
  have HC : Hid (Calls Tryz.prog 43 #[v] (w.alloc (.cells #[.int .i64 u, .int .i64 a, .int .i64 b, .int .i64 c] 37)) fun e w' => e = .returned (.iface 61 (.int .i64 (faultN t))) ∧ (w.alloc (.cells #[.int .i64 u, .int .i64 a, .int .i64 b, .int .i64 c] 37)) = w') := by
    have := tcheck_any t v _ (h.below (below_alloc1 w (.cells #[.int .i64 u, .int .i64 a, .int .i64 b, .int .i64 c] 37)))
    unfold errV at this
    rw [if_neg hf] at this
    exact this
  clear h hf
  obtain ⟨F, hF⟩ : ∃ F, F = faultN t := ⟨_, rfl⟩
  rw [← hF] at HC ⊢
  clear hF
  go_enter Tryz.func19, Tryz.ntmps19
  go_wp2_with (go_at_call 43; refine HC.out.mono ?_; rintro e w' ⟨rfl, rfl⟩)
  go_ret2
  exact ⟨rfl, below_alloc1 _ _⟩

set_option maxRecDepth 100000 in
set_option maxHeartbeats 4000000 in
theorem value_good (t : List Int) (B off cap : Nat) (u a b c : Int) (w : World) (hB : B < w.heap.size) (hcap : t.length ≤ cap) (hf : faultN t = 0) (hc : ∀ k, k < t.length → w.cell? ⟨B, off + k, none⟩ = some (.int .i64 (t.getD k 0))) :
    Calls Tryz.prog 19 #[.slice (some ⟨B, off, none⟩) t.length cap, .agg #[.int .i64 u, .int .i64 a, .int .i64 b, .int .i64 c]] w fun e w' => e = .returned (.tuple #[.int .i64 (if (Wd.mk u a b c).ok = true then (Wd.mk u a b c).val t else 0), if (Wd.mk u a b c).ok = true then .nilIface else .iface 61 (.int .i64 1)]) ∧ Below w.heap.size w w' := by
  obtain ⟨f1, f2, f3, f4⟩ := fault_zero.1 hf
  obtain ⟨w1, hw1⟩ : ∃ w1, w1 = w.alloc (.cells #[.int .i64 u, .int .i64 a, .int .i64 b, .int .i64 c] 37) := ⟨_, rfl⟩
  obtain ⟨K, hK⟩ : ∃ K, K = w.heap.size + 1 := ⟨_, rfl⟩
  have HK1 : Hid (w1.heap.size = K) := by unfold Hid; rw [hw1, hK]; simp
  have HC1 : Hid (∀ k, k < t.length → w1.cell? ⟨B, off + k, none⟩ = some (.int .i64 (t.getD k 0))) := fun k hk => by
    rw [hw1, World.cell?_alloc_lt _ _ ⟨B, off + k, none⟩ hB]; exact hc k hk
  have HBK : Hid (B < K ∧ w.heap.size < K) := ⟨by omega, by omega⟩
  have HW : Hid (Below w.heap.size w w1) := by unfold Hid; rw [hw1]; exact below_alloc1 _ _
  have HKs : Hid (w.heap.size ≤ K) := by unfold Hid; omega
  have HC : Hid (Calls Tryz.prog 43 #[.slice (some ⟨B, off, none⟩) t.length cap] w1 fun e w' => e = .returned .nilIface ∧ w1 = w') := by
    have := tcheck_any t (.slice (some ⟨B, off, none⟩) t.length cap) w1 (Or.inr ⟨B, off, cap, rfl, by have := HK1.out; have := HBK.out.1; omega, by omega, ⟨by omega, hcap⟩, HC1.out⟩)
    rw [hf] at this
    exact this
  clear hc hB hK hcap
  have HWK : Hid (∀ W, Below K w1 W → (Wd.mk u a b c).ok = true → Calls Tryz.prog 45 #[.slice (some ⟨B, off, none⟩) t.length cap, .agg #[.int .i64 u, .int .i64 a, .int .i64 b, .int .i64 c]] W fun e w' => e = .returned (.tuple #[.int .i64 ((Wd.mk u a b c).val t), .nilIface]) ∧ Below W.heap.size W w') := fun W hb hok =>
    work_any u a b c t B off cap W hok f3 f4 f2 (by have := hb.size; have := HK1.out; have := HBK.out.1; omega) (fun k hk => by rw [hb.cell HBK.out.1]; exact HC1.out k hk)
  clear HC1 f1 f2 f3 f4 hf
  obtain ⟨V, hV⟩ : ∃ V, V = (Wd.mk u a b c).val t := ⟨_, rfl⟩
  rw [← hV] at HWK ⊢
  clear hV
  obtain ⟨n, hn⟩ : ∃ n, n = t.length := ⟨_, rfl⟩
  rw [← hn] at HWK HC ⊢
  clear hn
  have HCW : Hid (Calls Tryz.prog 44 #[.agg #[.int .i64 u, .int .i64 a, .int .i64 b, .int .i64 c]] w1 fun e w' => e = .returned (if (Wd.mk u a b c).ok = true then .nilIface else .iface 61 (.int .i64 1)) ∧ Below w1.heap.size w1 w') := checkWorld_any u a b c w1
  have HX : Hid (∀ W, Below w1.heap.size w1 W → W.cell? ⟨w.heap.size, 0, none⟩ = some (.int .i64 u) ∧ W.cell? ⟨w.heap.size, 1, none⟩ = some (.int .i64 a) ∧ W.cell? ⟨w.heap.size, 2, none⟩ = some (.int .i64 b) ∧ W.cell? ⟨w.heap.size, 3, none⟩ = some (.int .i64 c)) := fun W hc => by
    have hlt : w.heap.size < w1.heap.size := by rw [hw1]; simp
    rw [hc.cell (p := ⟨w.heap.size, 0, none⟩) hlt, hc.cell (p := ⟨w.heap.size, 1, none⟩) hlt, hc.cell (p := ⟨w.heap.size, 2, none⟩) hlt, hc.cell (p := ⟨w.heap.size, 3, none⟩) hlt, hw1]
    simp
  rcases (Bool.eq_false_or_eq_true (Wd.mk u a b c).ok).symm with ho | ho
  · rw [if_neg (by rw [ho]; decide), if_neg (by rw [ho]; decide)]
    have HCE : Hid (Calls Tryz.prog 44 #[.agg #[.int .i64 u, .int .i64 a, .int .i64 b, .int .i64 c]] w1 fun e w' => e = .returned (.iface 61 (.int .i64 1)) ∧ Below w1.heap.size w1 w') := by
      have := HCW.out
      rw [if_neg (by rw [ho]; decide)] at this
      exact this
    clear HCW ho HWK
    go_enter Tryz.func19, Tryz.ntmps19
    go_wp2_with fail
    rw [← hw1]
    clear hw1
    obtain ⟨y0, y1, y2, y3⟩ := HX.out w1 (Below.refl _ _)
    go_wp2_with fail
    go_at_call 43
    refine HC.out.mono ?_
    rintro e w' ⟨rfl, rfl⟩
    go_wp2_with fail
    go_at_call 44
    refine HCE.out.mono ?_
    rintro e w2 ⟨rfl, hb⟩
    have HB : Hid (Below w1.heap.size w1 w2) := hb
    clear hb y0 y1 y2 y3
    go_wp2
    go_ret2
    exact ⟨rfl, HW.out.trans (HB.out.mono (by have := HK1.out; have := HKs.out; omega))⟩
  · rw [if_pos ho, if_pos ho]
    have HCE : Hid (Calls Tryz.prog 44 #[.agg #[.int .i64 u, .int .i64 a, .int .i64 b, .int .i64 c]] w1 fun e w' => e = .returned .nilIface ∧ Below w1.heap.size w1 w') := by
      have := HCW.out
      rw [if_pos ho] at this
      exact this
    have HO : Hid ((Wd.mk u a b c).ok = true) := ho
    clear HCW ho
    go_enter Tryz.func19, Tryz.ntmps19
    go_wp2_with fail
    rw [← hw1]
    clear hw1
    obtain ⟨y0, y1, y2, y3⟩ := HX.out w1 (Below.refl _ _)
    go_wp2_with fail
    go_at_call 43
    refine HC.out.mono ?_
    rintro e w' ⟨rfl, rfl⟩
    go_wp2_with fail
    go_at_call 44
    refine HCE.out.mono ?_
    rintro e w2 ⟨rfl, hb⟩
    have HB : Hid (Below w1.heap.size w1 w2) := hb
    obtain ⟨x0, x1, x2, x3⟩ := HX.out w2 hb
    clear hb y0 y1 y2 y3
    go_wp2_with fail
    go_at_call 45
    refine (HWK.out w2 (by rw [← HK1.out]; exact HB.out) HO.out).mono ?_
    rintro e w3 ⟨rfl, hb⟩
    have HB3 : Hid (Below w2.heap.size w2 w3) := hb
    clear hb x0 x1 x2 x3
    go_wp2
    go_ret2
    have hs : w.heap.size ≤ w1.heap.size := by have := HK1.out; have := HKs.out; omega
    exact ⟨rfl, HW.out.trans ((HB.out.mono hs).trans (HB3.out.mono (Nat.le_trans hs HB.out.size)))⟩

/-- Value, whatever the row of signs and the world. -/
theorem value_any (t : List Int) (v : Value) (u a b c : Int) (w : World) (h : Reads w v t) :
    Calls Tryz.prog 19 #[v, .agg #[.int .i64 u, .int .i64 a, .int .i64 b, .int .i64 c]] w fun e w' => e = .returned (.tuple #[.int .i64 ((Wd.mk u a b c).answer t), errV ((Wd.mk u a b c).fault t)]) ∧ Below w.heap.size w w' := by
  by_cases hf : faultN t = 0
  · have e1 : (Wd.mk u a b c).answer t = if (Wd.mk u a b c).ok = true then (Wd.mk u a b c).val t else 0 := by unfold Wd.answer; rw [if_pos hf]
    have e2 : errV ((Wd.mk u a b c).fault t) = if (Wd.mk u a b c).ok = true then .nilIface else .iface 61 (.int .i64 1) := by
      unfold Wd.fault; rw [if_pos hf]
      by_cases ho : (Wd.mk u a b c).ok = true
      · rw [if_pos ho, if_pos ho]; rfl
      · rw [if_neg ho, if_neg ho]; rfl
    rw [e1, e2]
    rcases h with ⟨ao, cap, rfl, rfl⟩ | ⟨B, off, cap, rfl, hB, _, ⟨_, hcap⟩, hc⟩
    · exact absurd hf (by decide)
    · exact value_good t B off cap u a b c w hB hcap hf hc
  · have e1 : (Wd.mk u a b c).answer t = 0 := by unfold Wd.answer; rw [if_neg hf]
    have e2 : errV ((Wd.mk u a b c).fault t) = .iface 61 (.int .i64 (faultN t)) := by
      unfold Wd.fault errV; rw [if_neg hf, if_neg hf]
    rw [e1, e2]
    exact value_bad t v u a b c w h hf
end Go.Proofs.YtpdpnlpepfgknafGreatDoor

namespace Go.Proofs.YtpdpnlpepfgknafGreatDoor
open Go.ChangeShapes Go.WideShapes Go.ChangeAt Go.RowKit

theorem bit_at (s : Int) (i : Nat) (h0 : 0 ≤ s) (h1 : s < 256) (hi : i < 8) : bits .and .i64 (s / 2 ^ i) 1 = oneB (hasB s i) := by
  have e : ∀ n : Nat, n < 256 → ∀ i : Nat, i < 8 → bits .and .i64 ((n : Int) / 2 ^ i) 1 = oneB (hasB n i) := by decide +kernel
  obtain ⟨n, rfl⟩ := Int.eq_ofNat_of_zero_le h0
  exact e n (by omega) i hi
theorem or_more {n : Nat} {a : Int} (h : okB n a = true) (h5 : n ≤ 5) (x : Bool) : bits .or .i64 a (wrap64 (oneB x * 2 ^ n)) = a + oneB x * pw n := by
  have e := uptoSets (P := fun u a _ => u ≤ 5 → ∀ x, bits .or .i64 a (wrap64 (oneB x * 2 ^ u.toNat)) = a + oneB x * pw u.toNat) (by decide +kernel) n a a h h (by omega) x
  simpa using e
theorem and_bit : ∀ f : Nat, f < 8 → bits .and .i64 (f : Int) 1 = oneB (bitB f 0) ∧ bits .and .i64 ((f : Int) / 2) 1 = oneB (bitB f 1) ∧ bits .and .i64 ((f : Int) / 4) 1 = oneB (bitB f 2) := by decide +kernel

set_option maxRecDepth 100000 in
set_option maxHeartbeats 4000000 in
theorem with_field (n : Nat) (a b c : Int) (f : Nat) (hok : (Wd.mk n a b c).ok = true) (h5 : n ≤ 5) (hf : f < 8) (w : World) :
    Calls Tryz.prog 84 #[.agg #[.int .i64 n, .int .i64 a, .int .i64 b, .int .i64 c], .int .i64 f] w fun e w' => e = .returned (((Wd.mk n a b c).more f).v) ∧ Below w.heap.size w w' := by
  have HV : Hid (Value.agg #[.int .i64 ((n : Int) + 1), .int .i64 (bits .or .i64 a (wrap64 (bits .and .i64 (f : Int) 1 * 2 ^ n))), .int .i64 (bits .or .i64 b (wrap64 (bits .and .i64 ((f : Int) / 2) 1 * 2 ^ n))), .int .i64 (bits .or .i64 c (wrap64 (bits .and .i64 ((f : Int) / 4) 1 * 2 ^ n)))] = ((Wd.mk n a b c).more f).v) := by
    obtain ⟨h1, h2, h3⟩ := Wd.ok_iff.1 hok
    obtain ⟨e1, e2, e3⟩ := and_bit f hf
    unfold Hid
    rw [e1, e2, e3, or_more h1 h5, or_more h2 h5, or_more h3 h5]
    rfl
  clear hok
  go_enter Tryz.func84, Tryz.ntmps84
  go_wp2
  refine wp_loop_rounds 4 ?_
  rw [rounds_succ]
  go_wp2
  go_region
  go_wp2
  rw [rounds_succ]
  go_wp2
  go_region
  go_wp2
  rw [rounds_succ]
  go_wp2
  go_region
  go_wp2
  rw [rounds_succ]
  go_wp2
  go_returns
  exact ⟨back_v HV.out, by go_grown⟩
end Go.Proofs.YtpdpnlpepfgknafGreatDoor

namespace Go.Proofs.YtpdpnlpepfgknafGreatDoor
open Go.ChangeShapes Go.WideShapes Go.ChangeAt Go.RowKit

/-- where the term lies, 2^f for each field, added up; 0, if it is none. -/
def maskN (t : List Int) : Int := if faultN t = 0 then maskTo (liesB t) 8 else 0
theorem with_one (f : Nat) (hf : f < 8) (w : World) :
    Calls Tryz.prog 84 #[.agg #[.int .i64 0, .int .i64 0, .int .i64 0, .int .i64 0], .int .i64 f] w fun e w' => e = .returned (.agg #[.int .i64 1, .int .i64 (oneW f).a, .int .i64 (oneW f).b, .int .i64 (oneW f).c]) ∧ Below w.heap.size w w' :=
  with_field 0 0 0 0 f (by decide) (by omega) hf w
theorem one_value (t : List Int) (v : Value) (f : Nat) (w : World) (h : Reads w v t) :
    Calls Tryz.prog 19 #[v, .agg #[.int .i64 1, .int .i64 (oneW f).a, .int .i64 (oneW f).b, .int .i64 (oneW f).c]] w fun e w' => e = .returned (.tuple #[.int .i64 (if faultN t = 0 then oneB (liesB t f) else 0), errV (faultN t)]) ∧ Below w.heap.size w w' := by
  have hv := value_any t v 1 (oneW f).a (oneW f).b (oneW f).c w h
  have e : (Wd.mk 1 (oneW f).a (oneW f).b (oneW f).c) = oneW f := rfl
  rw [e] at hv
  have e1 : (oneW f).answer t = if faultN t = 0 then oneB (liesB t f) else 0 := by unfold Wd.answer; rw [if_pos (oneW_ok f), oneW_val]
  have e2 : (oneW f).fault t = faultN t := by
    unfold Wd.fault; rw [if_pos (oneW_ok f)]
    split
    · rename_i h0; exact h0.symm
    · rfl
  rw [e1, e2] at hv
  exact hv
theorem or_mask1 : ∀ k : Nat, k < 8 → ∀ m : Nat, m < 2 ^ k → ∀ x, bits .or .i64 (m : Int) (wrap64 (oneB x * 2 ^ k)) = (m : Int) + oneB x * pw k := by decide +kernel
theorem or_mask (L : Nat → Bool) {k : Nat} (hk : k < 8) : bits .or .i64 (maskTo L k) (wrap64 (oneB (L k) * 2 ^ k)) = maskTo L (k + 1) := by
  obtain ⟨m0, m1⟩ := maskTo_le L k
  obtain ⟨m, hm⟩ := Int.eq_ofNat_of_zero_le m0
  have hp : pw k = ((2 ^ k : Nat) : Int) := by unfold pw; simp
  have h := or_mask1 k hk m (by rw [hm, hp] at m1; omega) (L k)
  show _ = maskTo L k + oneB (L k) * pw k
  rw [hm]; exact h

set_option maxRecDepth 100000 in
set_option maxHeartbeats 4000000 in
theorem mask_any (t : List Int) (v : Value) (w : World) (h : Reads w v t) :
    Calls Tryz.prog 70 #[v] w fun e w' => e = .returned (.tuple #[.int .i64 (maskN t), errV (faultN t)]) ∧ Below w.heap.size w w' := by
  have HV : Hid (∀ f W, Below w.heap.size w W → Calls Tryz.prog 19 #[v, .agg #[.int .i64 1, .int .i64 (oneW f).a, .int .i64 (oneW f).b, .int .i64 (oneW f).c]] W fun e w' => e = .returned (.tuple #[.int .i64 (if faultN t = 0 then oneB (liesB t f) else 0), errV (faultN t)]) ∧ Below W.heap.size W w') := fun f W hb => one_value t v f W (h.below hb)
  clear h
  by_cases hf : faultN t = 0
  · have e1 : maskN t = maskTo (liesB t) 8 := by unfold maskN; rw [if_pos hf]
    have e2 : errV (faultN t) = .nilIface := by rw [hf]; rfl
    rw [e1, e2]
    rw [e2] at HV
    simp only [if_pos hf] at HV
    clear e1 e2 hf
    obtain ⟨L, hL⟩ : ∃ L, L = liesB t := ⟨_, rfl⟩
    rw [← hL] at HV ⊢
    clear hL
    go_enter Tryz.func70, Tryz.ntmps70
    go_wp2
    go_loopw [4, 8] (fun m i wr => ∃ k : Nat, k ≤ 8 ∧ i = .int .i64 k ∧ m = .int .i64 (maskTo L k) ∧ Below w.heap.size w wr) (fun _ i _ => 8 - (intOf i).toNat)
    case atStart => exact ⟨0, Nat.zero_le _, rfl, rfl, Below.refl _ _⟩
    case round =>
      obtain ⟨k, hk, rfl, rfl, hb⟩ := hrel
      have HB : Hid (Below w.heap.size w wr) := hb
      clear hb
      by_cases hlt : k < 8
      · have HS : Hid (bits .or .i64 (maskTo L k) (wrap64 (oneB (L k) * 2 ^ k)) = maskTo L (k + 1)) := or_mask L hlt
        go_wp2_with fail
        go_at_call 84
        refine (with_one k hlt _).mono ?_
        rintro e w2 ⟨rfl, hb2⟩
        have HB2 : Hid (Below w.heap.size w w2) := HB.out.trans (hb2.mono HB.out.size)
        clear hb2
        go_wp2_with fail
        go_at_call 19
        refine (HV.out k w2 HB2.out).mono ?_
        rintro e w3 ⟨rfl, hb3⟩
        have HB3 : Hid (Below w.heap.size w w3) := HB2.out.trans (hb3.mono HB2.out.size)
        clear hb3
        go_wp2
        go_roundw
        case rel => exact ⟨k + 1, by omega, by go_num, by rw [HS.out], HB3.out⟩
        case measure => simp [intOf]; omega
      · obtain rfl : k = 8 := by omega
        go_wp2
        go_ret2
        exact ⟨rfl, HB.out⟩
  · have e1 : maskN t = 0 := by unfold maskN; rw [if_neg hf]
    have e2 : errV (faultN t) = .iface 61 (.int .i64 (faultN t)) := by unfold errV; rw [if_neg hf]
    rw [e1, e2]
    rw [e2] at HV
    simp only [if_neg hf] at HV
    clear e1 e2 hf
    obtain ⟨F, hF⟩ : ∃ F, F = faultN t := ⟨_, rfl⟩
    rw [← hF] at HV ⊢
    clear hF
    go_enter Tryz.func70, Tryz.ntmps70
    go_wp2
    refine wp_loop_rounds 1 ?_
    rw [rounds_succ]
    go_wp2_with fail
    go_at_call 84
    refine (with_one 0 (by omega) _).mono ?_
    rintro e w2 ⟨rfl, hb2⟩
    have HB2 : Hid (Below w.heap.size w w2) := hb2
    clear hb2
    go_wp2_with fail
    go_at_call 19
    refine (HV.out 0 w2 HB2.out).mono ?_
    rintro e w3 ⟨rfl, hb3⟩
    have HB3 : Hid (Below w.heap.size w w3) := HB2.out.trans (hb3.mono HB2.out.size)
    clear hb3
    go_wp2
    go_ret2
    exact ⟨rfl, HB3.out⟩
end Go.Proofs.YtpdpnlpepfgknafGreatDoor

namespace Go.Proofs.YtpdpnlpepfgknafGreatDoor
open Go.ChangeShapes Go.WideShapes Go.ChangeAt Go.RowKit

/-- block G holds the cells cs, and all of them may be written. -/
def Blk (w : World) (G : Nat) (T : TypeId) (cs : Array Value) : Prop := w.heap[G]? = some (.cells cs T (0, 0))
theorem Blk.lt {w : World} {G : Nat} {T : TypeId} {cs : Array Value} (h : Blk w G T cs) : G < w.heap.size := (Array.getElem?_eq_some_iff.1 h).1
theorem Blk.below {w w' : World} {G : Nat} {T : TypeId} {cs : Array Value} (h : Blk w G T cs) (hb : Below w.heap.size w w') : Blk w' G T cs := by
  unfold Blk; rw [hb.block G h.lt]; exact h
theorem Blk.cell {w : World} {G : Nat} {T : TypeId} {cs : Array Value} (h : Blk w G T cs) (j : Nat) : w.cell? ⟨G, j, none⟩ = cs[j]? := cell_of_row w G j cs T (0, 0) h
theorem Blk.frozen {w : World} {G : Nat} {T : TypeId} {cs : Array Value} (h : Blk w G T cs) (j : Nat) : w.frozen? ⟨G, j, none⟩ = false := frozen_of_row w G j cs T h
theorem Blk.set {w : World} {G : Nat} {T : TypeId} {cs : Array Value} (h : Blk w G T cs) (j : Nat) (u : Value) : Blk (w.setCell ⟨G, j, none⟩ u) G T (cs.setIfInBounds j u) := heap_setCell_same w G j cs T u h
theorem Blk.far {w : World} {G : Nat} {T : TypeId} {cs : Array Value} (h : Blk w G T cs) {R : Nat} (hR : G ≠ R) (j : Nat) (u : Value) : Blk (w.setCell ⟨R, j, none⟩ u) G T cs := by
  unfold Blk; rw [heap_setCell_other w ⟨R, j, none⟩ G u hR]; exact h
theorem Blk.drew {w : World} {G : Nat} {T : TypeId} {cs : Array Value} (h : Blk w G T cs) : Blk w.drew G T cs := h
theorem Blk.new (w : World) (T : TypeId) (cs : Array Value) : Blk (w.alloc (.cells cs T)) w.heap.size T cs := heap_alloc_new w _
theorem Blk.old {w : World} {G : Nat} {T : TypeId} {cs : Array Value} (h : Blk w G T cs) (o : Obj) : Blk (w.alloc o) G T cs := by
  unfold Blk; rw [heap_alloc_old w o h.lt]; exact h

/-- eight numbers. -/
def arr8 (N : Nat → Int) : Array Value := #[.int .i64 (N 0), .int .i64 (N 1), .int .i64 (N 2), .int .i64 (N 3), .int .i64 (N 4), .int .i64 (N 5), .int .i64 (N 6), .int .i64 (N 7)]
theorem arr8_get (N : Nat → Int) {f : Nat} (hf : f < 8) : (arr8 N)[f]? = some (.int .i64 (N f)) := by
  rcases eight hf with rfl | rfl | rfl | rfl | rfl | rfl | rfl | rfl <;> rfl
theorem arr8_one (N : Nat → Int) {f : Nat} (hf : f < 8) : (arr8 N).setIfInBounds f (.int .i64 (N f + 1)) = arr8 (fun g => N g + if f = g then 1 else 0) := by
  rcases eight hf with rfl | rfl | rfl | rfl | rfl | rfl | rfl | rfl <;> simp [arr8]
theorem arr8_same {N M : Nat → Int} (h : ∀ f, f < 8 → N f = M f) : arr8 N = arr8 M := by
  unfold arr8
  rw [h 0 (by omega), h 1 (by omega), h 2 (by omega), h 3 (by omega), h 4 (by omega), h 5 (by omega), h 6 (by omega), h 7 (by omega)]
theorem arr8_all (N M : Nat → Int) : ((((((((arr8 N).setIfInBounds 0 (.int .i64 (M 0))).setIfInBounds 1 (.int .i64 (M 1))).setIfInBounds 2 (.int .i64 (M 2))).setIfInBounds 3 (.int .i64 (M 3))).setIfInBounds 4 (.int .i64 (M 4))).setIfInBounds 5 (.int .i64 (M 5))).setIfInBounds 6 (.int .i64 (M 6))).setIfInBounds 7 (.int .i64 (M 7)) = arr8 M := by
  simp [arr8]
/-- a world's four numbers. -/
def arrW (w : Wd) : Array Value := #[.int .i64 w.u, .int .i64 w.a, .int .i64 w.b, .int .i64 w.c]

theorem load8 {W : World} {R : Nat} {N : Nat → Int} (h : Blk W R 64 (arr8 N)) : (loadVar 64 ⟨R, 0, none⟩).run Tryz.prog W = .ok (.agg (arr8 N)) W := by
  have hl := run_loadCells_list (P := Tryz.prog) W ⟨R, 0, none⟩ (arr8 N).toList (fun j v hj => by
    have := h.cell j
    rw [← Array.getElem?_toList] at this
    rw [hj] at this
    have ha : (⟨R, 0, none⟩ : Addr).add j = ⟨R, j, none⟩ := by unfold Addr.add; split <;> simp_all
    rw [ha]; exact this)
  simp [loadVar, Tryz.isAgg64, Tryz.sizeOf64, Result.andThen, arr8] at hl ⊢
  simp [hl]
theorem Blk.cells8 {w : World} {G : Nat} {T : TypeId} {N : Nat → Int} (h : Blk w G T (arr8 N)) : w.cell? ⟨G, 0, none⟩ = some (.int .i64 (N 0)) ∧ w.cell? ⟨G, 1, none⟩ = some (.int .i64 (N 1)) ∧ w.cell? ⟨G, 2, none⟩ = some (.int .i64 (N 2)) ∧ w.cell? ⟨G, 3, none⟩ = some (.int .i64 (N 3)) ∧ w.cell? ⟨G, 4, none⟩ = some (.int .i64 (N 4)) ∧ w.cell? ⟨G, 5, none⟩ = some (.int .i64 (N 5)) ∧ w.cell? ⟨G, 6, none⟩ = some (.int .i64 (N 6)) ∧ w.cell? ⟨G, 7, none⟩ = some (.int .i64 (N 7)) :=
  ⟨h.cell 0, h.cell 1, h.cell 2, h.cell 3, h.cell 4, h.cell 5, h.cell 6, h.cell 7⟩
theorem Blk.frozen8 {w : World} {G : Nat} {T : TypeId} {cs : Array Value} (h : Blk w G T cs) : w.frozen? ⟨G, 0, none⟩ = false ∧ w.frozen? ⟨G, 1, none⟩ = false ∧ w.frozen? ⟨G, 2, none⟩ = false ∧ w.frozen? ⟨G, 3, none⟩ = false ∧ w.frozen? ⟨G, 4, none⟩ = false ∧ w.frozen? ⟨G, 5, none⟩ = false ∧ w.frozen? ⟨G, 6, none⟩ = false ∧ w.frozen? ⟨G, 7, none⟩ = false :=
  ⟨h.frozen 0, h.frozen 1, h.frozen 2, h.frozen 3, h.frozen 4, h.frozen 5, h.frozen 6, h.frozen 7⟩
theorem Blk.cells4 {w : World} {G : Nat} {T : TypeId} {W : Wd} (h : Blk w G T (arrW W)) : w.cell? ⟨G, 0, none⟩ = some (.int .i64 W.u) ∧ w.cell? ⟨G, 1, none⟩ = some (.int .i64 W.a) ∧ w.cell? ⟨G, 2, none⟩ = some (.int .i64 W.b) ∧ w.cell? ⟨G, 3, none⟩ = some (.int .i64 W.c) :=
  ⟨h.cell 0, h.cell 1, h.cell 2, h.cell 3⟩
theorem Blk.frozen4 {w : World} {G : Nat} {T : TypeId} {cs : Array Value} (h : Blk w G T cs) : w.frozen? ⟨G, 0, none⟩ = false ∧ w.frozen? ⟨G, 1, none⟩ = false ∧ w.frozen? ⟨G, 2, none⟩ = false ∧ w.frozen? ⟨G, 3, none⟩ = false :=
  ⟨h.frozen 0, h.frozen 1, h.frozen 2, h.frozen 3⟩
/-- eight numbers, and a world, written into a block. -/
def put8 (w : World) (R : Nat) (M : Nat → Int) : World := (((((((w.setCell ⟨R, 0, none⟩ (.int .i64 (M 0))).setCell ⟨R, 1, none⟩ (.int .i64 (M 1))).setCell ⟨R, 2, none⟩ (.int .i64 (M 2))).setCell ⟨R, 3, none⟩ (.int .i64 (M 3))).setCell ⟨R, 4, none⟩ (.int .i64 (M 4))).setCell ⟨R, 5, none⟩ (.int .i64 (M 5))).setCell ⟨R, 6, none⟩ (.int .i64 (M 6))).setCell ⟨R, 7, none⟩ (.int .i64 (M 7))
def putW (w : World) (R : Nat) (M : Wd) : World := (((w.setCell ⟨R, 0, none⟩ (.int .i64 M.u)).setCell ⟨R, 1, none⟩ (.int .i64 M.a)).setCell ⟨R, 2, none⟩ (.int .i64 M.b)).setCell ⟨R, 3, none⟩ (.int .i64 M.c)
theorem put8_blk {w : World} {R : Nat} {T : TypeId} {N : Nat → Int} (h : Blk w R T (arr8 N)) (M : Nat → Int) : Blk (put8 w R M) R T (arr8 M) := by
  have := (((((((h.set 0 (.int .i64 (M 0))).set 1 (.int .i64 (M 1))).set 2 (.int .i64 (M 2))).set 3 (.int .i64 (M 3))).set 4 (.int .i64 (M 4))).set 5 (.int .i64 (M 5))).set 6 (.int .i64 (M 6))).set 7 (.int .i64 (M 7))
  rw [arr8_all] at this
  exact this
theorem put8_far {w : World} {R : Nat} {G : Nat} {T : TypeId} {cs : Array Value} (h : Blk w G T cs) (hR : G ≠ R) (M : Nat → Int) : Blk (put8 w R M) G T cs :=
  (((((((h.far hR 0 _).far hR 1 _).far hR 2 _).far hR 3 _).far hR 4 _).far hR 5 _).far hR 6 _).far hR 7 _
theorem put8_below {B : Nat} {w w' : World} {R : Nat} (h : Below B w w') (hR : B ≤ R) (M : Nat → Int) : Below B w (put8 w' R M) :=
  (((((((h.setCell hR _).setCell hR _).setCell hR _).setCell hR _).setCell hR _).setCell hR _).setCell hR _).setCell hR _
theorem putW_blk {w : World} {R : Nat} {T : TypeId} {N : Wd} (h : Blk w R T (arrW N)) (M : Wd) : Blk (putW w R M) R T (arrW M) := by
  have := (((h.set 0 (.int .i64 M.u)).set 1 (.int .i64 M.a)).set 2 (.int .i64 M.b)).set 3 (.int .i64 M.c)
  have e : ((((arrW N).setIfInBounds 0 (.int .i64 M.u)).setIfInBounds 1 (.int .i64 M.a)).setIfInBounds 2 (.int .i64 M.b)).setIfInBounds 3 (.int .i64 M.c) = arrW M := by simp [arrW]
  rw [e] at this
  exact this
theorem putW_far {w : World} {R : Nat} {G : Nat} {T : TypeId} {cs : Array Value} (h : Blk w G T cs) (hR : G ≠ R) (M : Wd) : Blk (putW w R M) G T cs :=
  (((h.far hR 0 _).far hR 1 _).far hR 2 _).far hR 3 _
theorem putW_below {B : Nat} {w w' : World} {R : Nat} (h : Below B w w') (hR : B ≤ R) (M : Wd) : Below B w (putW w' R M) :=
  (((h.setCell hR _).setCell hR _).setCell hR _).setCell hR _
theorem loadW {W : World} {R : Nat} {M : Wd} (h : Blk W R 37 (arrW M)) : (loadVar 37 ⟨R, 0, none⟩).run Tryz.prog W = .ok (.agg (arrW M)) W := by
  have hl := run_loadCells_list (P := Tryz.prog) W ⟨R, 0, none⟩ (arrW M).toList (fun j v hj => by
    have := h.cell j
    rw [← Array.getElem?_toList] at this
    rw [hj] at this
    have ha : (⟨R, 0, none⟩ : Addr).add j = ⟨R, j, none⟩ := by unfold Addr.add; split <;> simp_all
    rw [ha]; exact this)
  simp [loadVar, Tryz.isAgg37, Tryz.sizeOf37, Result.andThen, arrW] at hl ⊢
  simp [hl]
end Go.Proofs.YtpdpnlpepfgknafGreatDoor

namespace Go.Proofs.YtpdpnlpepfgknafGreatDoor
open Go.ChangeShapes Go.WideShapes Go.ChangeAt Go.RowKit

/-- the nine numbers of a row. -/
def arrR (T : Nat → Int) (m : Int) : Array Value := #[.int .i64 (T 0), .int .i64 (T 1), .int .i64 (T 2), .int .i64 (T 3), .int .i64 (T 4), .int .i64 (T 5), .int .i64 (T 6), .int .i64 (T 7), .int .i64 m]
theorem arrR_get (T : Nat → Int) (m : Int) {f : Nat} (hf : f < 8) : (arrR T m)[f]? = some (.int .i64 (T f)) := by
  rcases eight hf with rfl | rfl | rfl | rfl | rfl | rfl | rfl | rfl <;> rfl
theorem arrR_set (T : Nat → Int) (m x : Int) {f : Nat} (hf : f < 8) : (arrR T m).setIfInBounds f (.int .i64 x) = arrR (fun g => if g = f then x else T g) m := by
  rcases eight hf with rfl | rfl | rfl | rfl | rfl | rfl | rfl | rfl <;> simp [arrR]
theorem arrR_most (T : Nat → Int) (m x : Int) : (arrR T m).setIfInBounds 8 (.int .i64 x) = arrR T x := by simp [arrR]
theorem arrR_same {N M : Nat → Int} (h : ∀ f, f < 8 → N f = M f) (m : Int) : arrR N m = arrR M m := by
  unfold arrR
  rw [h 0 (by omega), h 1 (by omega), h 2 (by omega), h 3 (by omega), h 4 (by omega), h 5 (by omega), h 6 (by omega), h 7 (by omega)]
theorem arrR_all (N M : Nat → Int) (n m : Int) : (((((((((arrR N n).setIfInBounds 0 (.int .i64 (M 0))).setIfInBounds 1 (.int .i64 (M 1))).setIfInBounds 2 (.int .i64 (M 2))).setIfInBounds 3 (.int .i64 (M 3))).setIfInBounds 4 (.int .i64 (M 4))).setIfInBounds 5 (.int .i64 (M 5))).setIfInBounds 6 (.int .i64 (M 6))).setIfInBounds 7 (.int .i64 (M 7))).setIfInBounds 8 (.int .i64 m) = arrR M m := by
  simp [arrR]
theorem Blk.cells9 {w : World} {G : Nat} {T : TypeId} {N : Nat → Int} {m : Int} (h : Blk w G T (arrR N m)) : w.cell? ⟨G, 0, none⟩ = some (.int .i64 (N 0)) ∧ w.cell? ⟨G, 1, none⟩ = some (.int .i64 (N 1)) ∧ w.cell? ⟨G, 2, none⟩ = some (.int .i64 (N 2)) ∧ w.cell? ⟨G, 3, none⟩ = some (.int .i64 (N 3)) ∧ w.cell? ⟨G, 4, none⟩ = some (.int .i64 (N 4)) ∧ w.cell? ⟨G, 5, none⟩ = some (.int .i64 (N 5)) ∧ w.cell? ⟨G, 6, none⟩ = some (.int .i64 (N 6)) ∧ w.cell? ⟨G, 7, none⟩ = some (.int .i64 (N 7)) ∧ w.cell? ⟨G, 8, none⟩ = some (.int .i64 m) :=
  ⟨h.cell 0, h.cell 1, h.cell 2, h.cell 3, h.cell 4, h.cell 5, h.cell 6, h.cell 7, h.cell 8⟩
theorem Blk.frozen9 {w : World} {G : Nat} {T : TypeId} {cs : Array Value} (h : Blk w G T cs) : w.frozen? ⟨G, 0, none⟩ = false ∧ w.frozen? ⟨G, 1, none⟩ = false ∧ w.frozen? ⟨G, 2, none⟩ = false ∧ w.frozen? ⟨G, 3, none⟩ = false ∧ w.frozen? ⟨G, 4, none⟩ = false ∧ w.frozen? ⟨G, 5, none⟩ = false ∧ w.frozen? ⟨G, 6, none⟩ = false ∧ w.frozen? ⟨G, 7, none⟩ = false ∧ w.frozen? ⟨G, 8, none⟩ = false :=
  ⟨h.frozen 0, h.frozen 1, h.frozen 2, h.frozen 3, h.frozen 4, h.frozen 5, h.frozen 6, h.frozen 7, h.frozen 8⟩
/-- a row, written into a block. -/
def putR (w : World) (R : Nat) (M : Nat → Int) (m : Int) : World := ((((((((w.setCell ⟨R, 0, none⟩ (.int .i64 (M 0))).setCell ⟨R, 1, none⟩ (.int .i64 (M 1))).setCell ⟨R, 2, none⟩ (.int .i64 (M 2))).setCell ⟨R, 3, none⟩ (.int .i64 (M 3))).setCell ⟨R, 4, none⟩ (.int .i64 (M 4))).setCell ⟨R, 5, none⟩ (.int .i64 (M 5))).setCell ⟨R, 6, none⟩ (.int .i64 (M 6))).setCell ⟨R, 7, none⟩ (.int .i64 (M 7))).setCell ⟨R, 8, none⟩ (.int .i64 m)
theorem putR_blk {w : World} {R : Nat} {T : TypeId} {N : Nat → Int} {n : Int} (h : Blk w R T (arrR N n)) (M : Nat → Int) (m : Int) : Blk (putR w R M m) R T (arrR M m) := by
  have := ((((((((h.set 0 (.int .i64 (M 0))).set 1 (.int .i64 (M 1))).set 2 (.int .i64 (M 2))).set 3 (.int .i64 (M 3))).set 4 (.int .i64 (M 4))).set 5 (.int .i64 (M 5))).set 6 (.int .i64 (M 6))).set 7 (.int .i64 (M 7))).set 8 (.int .i64 m)
  rw [arrR_all] at this
  exact this
theorem putR_far {w : World} {R : Nat} {G : Nat} {T : TypeId} {cs : Array Value} (h : Blk w G T cs) (hR : G ≠ R) (M : Nat → Int) (m : Int) : Blk (putR w R M m) G T cs :=
  ((((((((h.far hR 0 _).far hR 1 _).far hR 2 _).far hR 3 _).far hR 4 _).far hR 5 _).far hR 6 _).far hR 7 _).far hR 8 _
theorem putR_below {B : Nat} {w w' : World} {R : Nat} (h : Below B w w') (hR : B ≤ R) (M : Nat → Int) (m : Int) : Below B w (putR w' R M m) :=
  ((((((((h.setCell hR _).setCell hR _).setCell hR _).setCell hR _).setCell hR _).setCell hR _).setCell hR _).setCell hR _).setCell hR _
theorem loadR {W : World} {R : Nat} {N : Nat → Int} {m : Int} (h : Blk W R 137 (arrR N m)) : (loadVar 137 ⟨R, 0, none⟩).run Tryz.prog W = .ok (.agg (arrR N m)) W := by
  have hl := run_loadCells_list (P := Tryz.prog) W ⟨R, 0, none⟩ (arrR N m).toList (fun j v hj => by
    have := h.cell j
    rw [← Array.getElem?_toList] at this
    rw [hj] at this
    have ha : (⟨R, 0, none⟩ : Addr).add j = ⟨R, j, none⟩ := by unfold Addr.add; split <;> simp_all
    rw [ha]; exact this)
  simp [loadVar, Tryz.isAgg137, Tryz.sizeOf137, Result.andThen, arrR] at hl ⊢
  simp [hl]
theorem infoR : (Tryz.prog.info? 137).map (·.size) = some 9 := by kernel_rfl
end Go.Proofs.YtpdpnlpepfgknafGreatDoor

namespace Go.Proofs.YtpdpnlpepfgknafGreatDoor
open Go.ChangeShapes Go.WideShapes Go.ChangeAt Go.RowKit

set_option maxRecDepth 100000 in
set_option maxHeartbeats 4000000 in
theorem rturned_any (T M : Nat → Int) (m p : Int) (hT : ∀ f, f < 8 → -2 ≤ T f ∧ T f ≤ 2) (hm : -100 ≤ m ∧ m ≤ 100) (hM : ∀ f, f < 8 → M f = - T f) (hp : p = -(m + 1)) (w : World) :
    Calls Tryz.prog 99 #[.agg #[.int .i64 (T 0), .int .i64 (T 1), .int .i64 (T 2), .int .i64 (T 3), .int .i64 (T 4), .int .i64 (T 5), .int .i64 (T 6), .int .i64 (T 7), .int .i64 m]] w fun e w' => e = .returned (.agg #[.int .i64 (M 0), .int .i64 (M 1), .int .i64 (M 2), .int .i64 (M 3), .int .i64 (M 4), .int .i64 (M 5), .int .i64 (M 6), .int .i64 (M 7), .int .i64 p]) ∧ Below w.heap.size w w' := by
  obtain ⟨Z, hZ⟩ : ∃ Z : Nat → Int, Z = fun _ => 0 := ⟨_, rfl⟩
  obtain ⟨w1, hw1⟩ : ∃ w1, w1 = (w.alloc (.cells #[.int .i64 (T 0), .int .i64 (T 1), .int .i64 (T 2), .int .i64 (T 3), .int .i64 (T 4), .int .i64 (T 5), .int .i64 (T 6), .int .i64 (T 7), .int .i64 m] 137)).alloc (.cells #[.int .i64 0, .int .i64 0, .int .i64 0, .int .i64 0, .int .i64 0, .int .i64 0, .int .i64 0, .int .i64 0, .int .i64 0] 137) := ⟨_, rfl⟩
  have HW : Hid (Below w.heap.size w w1) := by unfold Hid; rw [hw1]; exact (below_alloc1 _ _).alloc (by simp) _
  have HK0 : Hid (Blk w1 w.heap.size 137 (arrR T m)) := by unfold Hid; rw [hw1]; exact (Blk.new _ _ _).old _
  have HK1 : Hid (Blk w1 (w.heap.size + 1) 137 (arrR Z 0)) := by
    unfold Hid; rw [hw1, hZ]
    have := Blk.new (w.alloc (.cells #[.int .i64 (T 0), .int .i64 (T 1), .int .i64 (T 2), .int .i64 (T 3), .int .i64 (T 4), .int .i64 (T 5), .int .i64 (T 6), .int .i64 (T 7), .int .i64 m] 137)) 137 (arrR (fun _ => 0) 0)
    simp only [World.size_alloc] at this
    exact this
  have HT : Hid (∀ f, f < 8 → -2 ≤ T f ∧ T f ≤ 2) := hT
  have HM : Hid (∀ f, f < 8 → M f = - T f) := hM
  have HP : Hid (p = -(m + 1)) := hp
  clear hZ hT hM hp
  obtain ⟨m0, m1⟩ := hm
  go_enter Tryz.func99, Tryz.ntmps99
  go_wp2
  rw [← hw1]
  clear hw1
  go_loopw [4] (fun i wr => ∃ k : Nat, k ≤ 8 ∧ i = .int .i64 k ∧ Below w.heap.size w wr ∧ Blk wr w.heap.size 137 (arrR (fun f => if f < k then M f else T f) m) ∧ Blk wr (w.heap.size + 1) 137 (arrR Z 0)) (fun i _ => 8 - (intOf i).toNat)
  case atStart => exact ⟨0, Nat.zero_le _, rfl, HW.out, HK0.out, HK1.out⟩
  case round =>
    obtain ⟨k, hk, rfl, hb, h0, h1⟩ := hrel
    have HB1 : Hid (Below w.heap.size w wr) := hb
    have HR1 : Hid (Blk wr w.heap.size 137 (arrR (fun f => if f < k then M f else T f) m)) := h0
    have HZ1 : Hid (Blk wr (w.heap.size + 1) 137 (arrR Z 0)) := h1
    clear hb h0 h1
    by_cases hlt : k < 8
    · obtain ⟨x, hx⟩ : ∃ x, x = T k := ⟨_, rfl⟩
      have c : wr.cell? ⟨w.heap.size, k, none⟩ = some (.int .i64 x) := by rw [HR1.out.cell, arrR_get _ _ hlt, hx]; simp
      have z := HR1.out.frozen k
      have hxl := HT.out k hlt
      rw [← hx] at hxl
      obtain ⟨x0, x1⟩ := hxl
      have HE : Hid (Blk (wr.setCell ⟨w.heap.size, k, none⟩ (.int .i64 (-x))) w.heap.size 137 (arrR (fun f => if f < k + 1 then M f else T f) m)) := by
        have := HR1.out.set k (.int .i64 (-x))
        rw [arrR_set _ _ _ hlt] at this
        unfold Hid
        rw [arrR_same (M := fun g => if g = k then -x else if g < k then M g else T g)]
        · exact this
        · intro f hf
          by_cases e : f = k
          · subst e; rw [if_pos (by omega), if_pos rfl, HM.out f hf, hx]
          · simp only [if_neg e]
            by_cases e' : f < k
            · rw [if_pos (by omega), if_pos e']
            · rw [if_neg (by omega), if_neg e']
      clear hx
      go_wp2
      go_roundw
      case rel => exact ⟨k + 1, by omega, by go_num, HB1.out.setCell (by simp) _, HE.out, HZ1.out.far (by omega) _ _⟩
      case measure => simp [intOf]; omega
    · obtain rfl : k = 8 := by omega
      have HR2 : Hid (Blk wr w.heap.size 137 (arrR M m)) := by
        have := HR1.out
        unfold Hid
        rw [arrR_same (M := fun f => if f < 8 then M f else T f)]
        · exact this
        · intro f hf; rw [if_pos hf]
      clear HR1
      obtain ⟨n0, n1, n2, n3, n4, n5, n6, n7, n8⟩ := HR2.out.cells9
      have nz := HR2.out.frozen 8
      obtain ⟨r0, r1, r2, r3, r4, r5, r6, r7, r8⟩ := HZ1.out.cells9
      obtain ⟨f0, f1, f2, f3, f4, f5, f6, f7, f8⟩ := HZ1.out.frozen9
      go_wp2
      refine bodyPost_ret (v := .agg (arrR M (-(m + 1)))) ?_ rfl ⟨by rw [HP.out]; rfl, ?_⟩
      · exact results_cell_row rfl _ _ (w.heap.size + 1) 137 (arrR M (-(m + 1))) (0, 0) _ rfl (putR_blk (HZ1.out.far (by omega) 8 (.int .i64 (-(m + 1)))) M (-(m + 1))) Tryz.underlying137 rfl infoR
      · exact putR_below (HB1.out.setCell (Nat.le_refl _) _) (by omega) _ _
theorem ix8 (T : Nat → Int) {k : Nat} (hk : k < 8) (W : World) : (Instr.index 64 (.agg #[.int .i64 (T 0), .int .i64 (T 1), .int .i64 (T 2), .int .i64 (T 3), .int .i64 (T 4), .int .i64 (T 5), .int .i64 (T 6), .int .i64 (T 7)]) (.int .i64 k)).run Tryz.prog W = .ok (.int .i64 (T k)) W := by
  rcases eight hk with rfl | rfl | rfl | rfl | rfl | rfl | rfl | rfl <;> kernel_rfl

set_option maxRecDepth 100000 in
set_option maxHeartbeats 4000000 in
theorem wrong_any (T : Nat → Int) (m : Int) (w : World) :
    Calls Tryz.prog 101 #[.agg #[.int .i64 (T 0), .int .i64 (T 1), .int .i64 (T 2), .int .i64 (T 3), .int .i64 (T 4), .int .i64 (T 5), .int .i64 (T 6), .int .i64 (T 7), .int .i64 m]] w fun e w' => e = .returned (.bool (Rw.mk T m).wrong) ∧ Below w.heap.size w w' := by
  obtain ⟨w1, hw1⟩ : ∃ w1, w1 = w.alloc (.cells #[.int .i64 (T 0), .int .i64 (T 1), .int .i64 (T 2), .int .i64 (T 3), .int .i64 (T 4), .int .i64 (T 5), .int .i64 (T 6), .int .i64 (T 7), .int .i64 m] 137) := ⟨_, rfl⟩
  have HW : Hid (Below w.heap.size w w1) := by unfold Hid; rw [hw1]; exact below_alloc1 _ _
  have HK0 : Hid (Blk w1 w.heap.size 137 (arrR T m)) := by unfold Hid; rw [hw1]; exact Blk.new _ _ _
  obtain ⟨R, hR⟩ : ∃ R, R = (Rw.mk T m).wrong := ⟨_, rfl⟩
  have HR1 : Hid (∀ f, f < 8 → ¬ (-2 ≤ T f ∧ T f ≤ 2) → R = true) := fun f hf h => by rw [hR]; exact wrong_time hf h
  have HR2 : Hid (¬ (-100 ≤ m ∧ m ≤ 100) → R = true) := fun h => by rw [hR]; exact wrong_most h
  have HR3 : Hid ((∀ f, f < 8 → -2 ≤ T f ∧ T f ≤ 2) → (-100 ≤ m ∧ m ≤ 100) → R = false) := fun h h' => by rw [hR]; exact right_iff.2 ⟨h, h'⟩
  rw [← hR]
  clear hR
  obtain ⟨n0, n1, n2, n3, n4, n5, n6, n7, n8⟩ := HK0.out.cells9
  go_enter Tryz.func101, Tryz.ntmps101
  go_wp2_with fail
  rw [← hw1]
  clear hw1
  go_wp2_with fail
  go_loop [4, 7] (fun _ i => ∃ k : Nat, k ≤ 8 ∧ i = .int .i64 k ∧ ∀ f, f < k → -2 ≤ T f ∧ T f ≤ 2) (fun _ i => 8 - (intOf i).toNat)
  case atStart => exact ⟨0, Nat.zero_le _, rfl, fun f hf => by omega⟩
  case round =>
    obtain ⟨k, hk, rfl, hall⟩ := hrel
    have HA : Hid (∀ f, f < k → -2 ≤ T f ∧ T f ≤ 2) := hall
    clear hall
    by_cases hlt : k < 8
    · have hi := ix8 T hlt
      have HT1 : Hid (¬ (-2 ≤ T k ∧ T k ≤ 2) → R = true) := HR1.out k hlt
      have HN : Hid ((-2 ≤ T k ∧ T k ≤ 2) → ∀ f, f < k + 1 → -2 ≤ T f ∧ T f ≤ 2) := fun h f hf => by
        rcases Nat.lt_or_ge f k with h' | h'
        · exact HA.out f h'
        · obtain rfl : f = k := by omega
          exact h
      obtain ⟨x, hx⟩ : ∃ x, x = T k := ⟨_, rfl⟩
      rw [← hx] at hi HT1 HN
      clear hx
      by_cases h0 : x < -2
      · have HE : Hid (R = true) := HT1.out (by omega)
        go_wp2
        go_ret
        exact ⟨back_b HE.out.symm, HW.out⟩
      by_cases h2 : 2 < x
      · have HE : Hid (R = true) := HT1.out (by omega)
        go_wp2
        go_ret
        exact ⟨back_b HE.out.symm, HW.out⟩
      · have HE : Hid (∀ f, f < k + 1 → -2 ≤ T f ∧ T f ≤ 2) := HN.out (by omega)
        go_wp2
        go_round
        case rel => exact ⟨k + 1, by omega, by go_num, HE.out⟩
        case measure => simp [intOf]; omega
    · obtain rfl : k = 8 := by omega
      by_cases h0 : m < -100
      · have HE : Hid (R = true) := HR2.out (by omega)
        go_wp2
        go_ret
        exact ⟨back_b HE.out.symm, HW.out⟩
      by_cases h2 : 100 < m
      · have HE : Hid (R = true) := HR2.out (by omega)
        go_wp2
        go_ret
        exact ⟨back_b HE.out.symm, HW.out⟩
      · have HE : Hid (R = false) := HR3.out HA.out (by omega)
        go_wp2
        go_ret
        exact ⟨back_b HE.out.symm, HW.out⟩

set_option maxRecDepth 100000 in
set_option maxHeartbeats 4000000 in
theorem sum_any (T N : Nat → Int) (hT : ∀ f, f < 8 → -2 ≤ T f ∧ T f ≤ 2) (hN : ∀ f, f < 8 → 0 ≤ N f ∧ N f ≤ 6) (w : World) :
    Calls Tryz.prog 103 #[.agg #[.int .i64 (T 0), .int .i64 (T 1), .int .i64 (T 2), .int .i64 (T 3), .int .i64 (T 4), .int .i64 (T 5), .int .i64 (T 6), .int .i64 (T 7)], .agg #[.int .i64 (N 0), .int .i64 (N 1), .int .i64 (N 2), .int .i64 (N 3), .int .i64 (N 4), .int .i64 (N 5), .int .i64 (N 6), .int .i64 (N 7)]] w fun e w' => e = .returned (.int .i64 (sumT T N 8)) ∧ Below w.heap.size w w' := by
  obtain ⟨w1, hw1⟩ : ∃ w1, w1 = (w.alloc (.cells #[.int .i64 (T 0), .int .i64 (T 1), .int .i64 (T 2), .int .i64 (T 3), .int .i64 (T 4), .int .i64 (T 5), .int .i64 (T 6), .int .i64 (T 7)] 64)).alloc (.cells #[.int .i64 (N 0), .int .i64 (N 1), .int .i64 (N 2), .int .i64 (N 3), .int .i64 (N 4), .int .i64 (N 5), .int .i64 (N 6), .int .i64 (N 7)] 64) := ⟨_, rfl⟩
  have HW : Hid (Below w.heap.size w w1) := by unfold Hid; rw [hw1]; exact (below_alloc1 _ _).alloc (by simp) _
  have HK0 : Hid (Blk w1 w.heap.size 64 (arr8 T)) := by unfold Hid; rw [hw1]; exact (Blk.new _ _ _).old _
  have HK1 : Hid (Blk w1 (w.heap.size + 1) 64 (arr8 N)) := by
    unfold Hid; rw [hw1]
    have := Blk.new (w.alloc (.cells #[.int .i64 (T 0), .int .i64 (T 1), .int .i64 (T 2), .int .i64 (T 3), .int .i64 (T 4), .int .i64 (T 5), .int .i64 (T 6), .int .i64 (T 7)] 64)) 64 (arr8 N)
    simp only [World.size_alloc] at this
    exact this
  have HT : Hid (∀ f, f < 8 → -2 ≤ T f ∧ T f ≤ 2) := hT
  have HN : Hid (∀ f, f < 8 → 0 ≤ N f ∧ N f ≤ 6) := hN
  clear hT hN
  go_enter Tryz.func103, Tryz.ntmps103
  go_wp2
  rw [← hw1]
  clear hw1
  go_loopw [5, 7] (fun s i wr => ∃ k : Nat, k ≤ 8 ∧ i = .int .i64 k ∧ s = .int .i64 (sumT T N k) ∧ Below w1.heap.size w1 wr) (fun _ i _ => 8 - (intOf i).toNat)
  case atStart => exact ⟨0, Nat.zero_le _, rfl, rfl, Below.refl _ _⟩
  case round =>
    obtain ⟨k, hk, rfl, rfl, hb⟩ := hrel
    have HB1 : Hid (Below w1.heap.size w1 wr) := hb
    clear hb
    by_cases hlt : k < 8
    · have y : wr.cell? ⟨w.heap.size, k, none⟩ = some (.int .i64 (T k)) := by rw [(HK0.out.below HB1.out).cell, arr8_get _ hlt]
      have y' : wr.cell? ⟨w.heap.size + 1, k, none⟩ = some (.int .i64 (N k)) := by rw [(HK1.out.below HB1.out).cell, arr8_get _ hlt]
      have p1 := sumT_le (T := T) (N := N) (k := k) (fun f hf => HT.out f (by omega)) fun f hf => HN.out f (by omega)
      have p2 := mul_le (HT.out k hlt) (HN.out k hlt)
      have HS : Hid (sumT T N (k + 1) = sumT T N k + T k * N k) := rfl
      go_wp2
      go_region
      go_wp2
      go_roundw
      case rel => exact ⟨k + 1, by omega, by go_num, by rw [HS.out], HB1.out.drew⟩
      case measure => simp [intOf]; omega
    · obtain rfl : k = 8 := by omega
      go_wp2
      go_ret
      exact ⟨rfl, HW.out.trans (HB1.out.mono HW.out.size)⟩

/-- of no signs no field; else as Mask. -/
theorem rmask_right (t : List Int) (v : Value) (w : World) (h : Reads w v t) (hf : t = [] ∨ faultN t = 0) :
    Calls Tryz.prog 98 #[v] w fun e w' => e = .returned (.tuple #[.int .i64 (maskTo (liesB t) 8), .nilIface]) ∧ Below w.heap.size w w' := by
  by_cases h0 : t = []
  · subst h0
    obtain ⟨ao, cap, rfl, _⟩ := h.slice
    have e : maskTo (liesB []) 8 = 0 := by
      have : liesB [] = fun _ => false := by funext f; exact lies_none f
      rw [this]; decide
    rw [e]
    clear e h hf
    go_enter Tryz.func98, Tryz.ntmps98
    go_wp2
    go_ret2
    exact ⟨rfl, Below.refl _ _⟩
  · have hf' : faultN t = 0 := by rcases hf with h' | h'; exact absurd h' h0; exact h'
    have c := mask_any t v w h
    have e1 : maskN t = maskTo (liesB t) 8 := by unfold maskN; rw [if_pos hf']
    rw [e1, hf'] at c
    obtain ⟨ao, cap, rfl, hl⟩ := h.slice
    obtain ⟨M, hM⟩ : ∃ M, M = maskTo (liesB t) 8 := ⟨_, rfl⟩
    rw [← hM] at c ⊢
    have h1 : ¬ ((t.length : Int) = 0) := by
      have : t.length ≠ 0 := fun h' => h0 (List.length_eq_zero_iff.1 h')
      omega
    obtain ⟨n, hn⟩ : ∃ n, n = t.length := ⟨_, rfl⟩
    rw [← hn] at c hl h1 ⊢
    have C : Hid (Calls Tryz.prog 70 #[.slice ao n cap] w fun e w' => e = .returned (.tuple #[.int .i64 M, .nilIface]) ∧ Below w.heap.size w w') := c
    clear c hM hn h hf hf' e1 h0
    go_enter Tryz.func98, Tryz.ntmps98
    go_wp2_with fail
    go_at_call 70
    refine C.out.mono ?_
    rintro e w2 ⟨rfl, hb⟩
    have HB : Hid (Below w.heap.size w w2) := hb
    clear hb
    go_wp2
    go_ret2
    exact ⟨rfl, HB.out⟩
end Go.Proofs.YtpdpnlpepfgknafGreatDoor

namespace Go.Proofs.YtpdpnlpepfgknafGreatDoor
open Go.ChangeShapes Go.WideShapes Go.ChangeAt Go.RowKit
set_option maxRecDepth 100000

/-- the cells of the table of kinds. -/
def timeCells : List Int := [0, 0, 0, 0, 0, 0, 1, 0, 0, 1, 1, 0, 0, 0, -1, 0, 0, 0, 1, 0, 0, -1, 1, 0]
def TimesLaid (w : World) : Prop := ∀ j, j < 24 → w.cell? ⟨2, j, none⟩ = some (.int .i64 (timeCells.getD j 0))
theorem TimesLaid.lt {w : World} (h : TimesLaid w) : 2 < w.heap.size := World.block_lt_of_cell? w ⟨2, 0, none⟩ (h 0 (by decide))
theorem TimesLaid.at {K : Nat} {w w' : World} (h : TimesLaid w) (hb : Below K w w') (hK : w.heap.size ≤ K) : TimesLaid w' := fun j hj => by
  rw [hb.cell (show (⟨2, j, none⟩ : Addr).block < K from Nat.lt_of_lt_of_le h.lt hK)]; exact h j hj
theorem TimesLaid.below {w w' : World} (h : TimesLaid w) (hb : Below w.heap.size w w') : TimesLaid w' := h.at hb (Nat.le_refl _)
theorem times_cell : ∀ k : Nat, 1 ≤ k → k ≤ 5 → ∀ x y : Bool, timeCells.getD (k * 4 + x.toNat * 2 + y.toNat) 0 = timesK k x y := by
  intro k h1 h5
  have d : k = 1 ∨ k = 2 ∨ k = 3 ∨ k = 4 ∨ k = 5 := by omega
  rcases d with rfl | rfl | rfl | rfl | rfl <;> decide
theorem toNat_one (x : Bool) : ((x.toNat : Nat) : Int) = oneB x := by cases x <;> rfl
theorem mask_bit8 (L : Nat → Bool) {k : Nat} (hk : k < 8) : bits .and .i64 (maskTo L 8 / 2 ^ k) 1 = (((L k).toNat : Nat) : Int) := by
  obtain ⟨m0, m1⟩ := maskTo_le L 8
  have : maskTo L 8 < 256 := m1
  rw [bit_at _ k m0 this hk, has_mask L (Nat.le_refl _) hk, toNat_one]
/-- what the nine cells of no row are. -/
def noRow : Array Value := #[.int .i64 0, .int .i64 0, .int .i64 0, .int .i64 0, .int .i64 0, .int .i64 0, .int .i64 0, .int .i64 0, .int .i64 0]

set_option maxHeartbeats 4000000 in
theorem rowsOf_bad (k F : Int) (n : Int) (h : Bool) (sao tao : Option Addr) (sl scap tl tcap : Nat) (w : World)
    (HC : Hid (∀ W, Below w.heap.size w W → Calls Tryz.prog 53 #[.agg #[.int .i64 k, .slice sao sl scap, .slice tao tl tcap, .int .i64 n]] W fun e w' => e = .returned (.iface 61 (.int .i64 F)) ∧ Below W.heap.size W w')) :
    Calls Tryz.prog 88 #[.agg #[.int .i64 k, .slice sao sl scap, .slice tao tl tcap, .int .i64 n], .bool h] w fun e w' => e = .returned (.tuple #[.agg #[.int .i64 0, .int .i64 0, .int .i64 0, .int .i64 0, .int .i64 0, .int .i64 0, .int .i64 0, .int .i64 0, .int .i64 0], .iface 61 (.int .i64 F)]) ∧ Below w.heap.size w w' := by
  obtain ⟨Z, hZ⟩ : ∃ Z : Nat → Int, Z = fun _ => 0 := ⟨_, rfl⟩
  obtain ⟨w1, hw1⟩ : ∃ w1, w1 = (w.alloc (.cells #[.int .i64 k, .slice sao sl scap, .slice tao tl tcap, .int .i64 n] 51)).alloc (.cells #[.int .i64 0, .int .i64 0, .int .i64 0, .int .i64 0, .int .i64 0, .int .i64 0, .int .i64 0, .int .i64 0, .int .i64 0] 137) := ⟨_, rfl⟩
  have HW : Hid (Below w.heap.size w w1) := by unfold Hid; rw [hw1]; exact (below_alloc1 _ _).alloc (by simp) _
  have HK0 : Hid (Blk w1 w.heap.size 51 #[.int .i64 k, .slice sao sl scap, .slice tao tl tcap, .int .i64 n]) := by unfold Hid; rw [hw1]; exact (Blk.new _ _ _).old _
  have HK1 : Hid (Blk w1 (w.heap.size + 1) 137 #[.int .i64 0, .int .i64 0, .int .i64 0, .int .i64 0, .int .i64 0, .int .i64 0, .int .i64 0, .int .i64 0, .int .i64 0]) := by
    unfold Hid; rw [hw1]
    have := Blk.new (w.alloc (.cells #[.int .i64 k, .slice sao sl scap, .slice tao tl tcap, .int .i64 n] 51)) 137 #[.int .i64 0, .int .i64 0, .int .i64 0, .int .i64 0, .int .i64 0, .int .i64 0, .int .i64 0, .int .i64 0, .int .i64 0]
    simp only [World.size_alloc] at this
    exact this
  have x0 : w1.cell? ⟨w.heap.size, 0, none⟩ = some (.int .i64 k) := HK0.out.cell 0
  have x1 : w1.cell? ⟨w.heap.size, 1, none⟩ = some (.slice sao sl scap) := HK0.out.cell 1
  have x2 : w1.cell? ⟨w.heap.size, 2, none⟩ = some (.slice tao tl tcap) := HK0.out.cell 2
  have x3 : w1.cell? ⟨w.heap.size, 3, none⟩ = some (.int .i64 n) := HK0.out.cell 3
  go_enter Tryz.func88, Tryz.ntmps88
  go_wp2_with fail
  rw [← hw1]
  clear hw1
  go_wp2_with fail
  go_at_call 53
  refine (HC.out _ HW.out).mono ?_
  rintro e w2 ⟨rfl, hb⟩
  have HB : Hid (Below w.heap.size w w2) := HW.out.trans (hb.mono HW.out.size)
  have HR : Hid (Blk w2 (w.heap.size + 1) 137 #[.int .i64 0, .int .i64 0, .int .i64 0, .int .i64 0, .int .i64 0, .int .i64 0, .int .i64 0, .int .i64 0, .int .i64 0]) := HK1.out.below hb
  clear hb x0 x1 x2 x3
  have HRZ : Hid (Blk w2 (w.heap.size + 1) 137 (arrR Z 0)) := by unfold Hid; rw [hZ]; exact HR.out
  obtain ⟨f0, f1, f2, f3, f4, f5, f6, f7, f8⟩ := HR.out.frozen9
  have r0 : w2.cell? ⟨w.heap.size + 1, 0, none⟩ = some (.int .i64 0) := HR.out.cell 0
  have r1 : w2.cell? ⟨w.heap.size + 1, 1, none⟩ = some (.int .i64 0) := HR.out.cell 1
  have r2 : w2.cell? ⟨w.heap.size + 1, 2, none⟩ = some (.int .i64 0) := HR.out.cell 2
  have r3 : w2.cell? ⟨w.heap.size + 1, 3, none⟩ = some (.int .i64 0) := HR.out.cell 3
  have r4 : w2.cell? ⟨w.heap.size + 1, 4, none⟩ = some (.int .i64 0) := HR.out.cell 4
  have r5 : w2.cell? ⟨w.heap.size + 1, 5, none⟩ = some (.int .i64 0) := HR.out.cell 5
  have r6 : w2.cell? ⟨w.heap.size + 1, 6, none⟩ = some (.int .i64 0) := HR.out.cell 6
  have r7 : w2.cell? ⟨w.heap.size + 1, 7, none⟩ = some (.int .i64 0) := HR.out.cell 7
  have r8 : w2.cell? ⟨w.heap.size + 1, 8, none⟩ = some (.int .i64 0) := HR.out.cell 8
  go_wp2
  have hld := loadR (putR_blk HRZ.out Z 0)
  have hbl := putR_below HB.out (show w.heap.size ≤ w.heap.size + 1 by omega) Z 0
  rw [hZ] at hld hbl
  refine bodyPost_ret (v := .tuple #[.agg #[.int .i64 0, .int .i64 0, .int .i64 0, .int .i64 0, .int .i64 0, .int .i64 0, .int .i64 0, .int .i64 0, .int .i64 0], .iface 61 (.int .i64 F)]) ?_ rfl ⟨rfl, ?_⟩
  · rw [results_cell_tmp rfl]
    unfold putR arrR at hld
    simp only at hld
    simp [asAddr, Result.andThen, hld]
  · exact hbl

set_option maxHeartbeats 8000000 in
theorem rowsOf_3 (n : Int) (h : Bool) (X Y : Nat → Bool) (M : Nat → Int) (p : Int) (n0 : -20 ≤ n) (n1 : n ≤ 20) (sao tao : Option Addr) (sl scap tl tcap : Nat) (w : World) (hL : TimesLaid w)
    (hM : ∀ f, f < 8 → M f = if h = true then timesK 3 (X f) (Y f) else - timesK 3 (X f) (Y f)) (hp : p = if h = true then (-n) else -((-n) + 1))
    (HC : Hid (∀ W, Below w.heap.size w W → Calls Tryz.prog 53 #[.agg #[.int .i64 3, .slice sao sl scap, .slice tao tl tcap, .int .i64 n]] W fun e w' => e = .returned .nilIface ∧ Below W.heap.size W w'))
    (HS : Hid (∀ W, Below w.heap.size w W → Calls Tryz.prog 98 #[.slice sao sl scap] W fun e w' => e = .returned (.tuple #[.int .i64 (maskTo X 8), .nilIface]) ∧ Below W.heap.size W w'))
    (HT : Hid (∀ W, Below w.heap.size w W → Calls Tryz.prog 98 #[.slice tao tl tcap] W fun e w' => e = .returned (.tuple #[.int .i64 (maskTo Y 8), .nilIface]) ∧ Below W.heap.size W w')) :
    Calls Tryz.prog 88 #[.agg #[.int .i64 3, .slice sao sl scap, .slice tao tl tcap, .int .i64 n], .bool h] w fun e w' => e = .returned (.tuple #[.agg #[.int .i64 (M 0), .int .i64 (M 1), .int .i64 (M 2), .int .i64 (M 3), .int .i64 (M 4), .int .i64 (M 5), .int .i64 (M 6), .int .i64 (M 7), .int .i64 p], .nilIface]) ∧ Below w.heap.size w w' := by
  obtain ⟨Z, hZ⟩ : ∃ Z : Nat → Int, Z = fun _ => 0 := ⟨_, rfl⟩
  obtain ⟨w1, hw1⟩ : ∃ w1, w1 = (w.alloc (.cells #[.int .i64 3, .slice sao sl scap, .slice tao tl tcap, .int .i64 n] 51)).alloc (.cells #[.int .i64 0, .int .i64 0, .int .i64 0, .int .i64 0, .int .i64 0, .int .i64 0, .int .i64 0, .int .i64 0, .int .i64 0] 137) := ⟨_, rfl⟩
  have HW : Hid (Below w.heap.size w w1) := by unfold Hid; rw [hw1]; exact (below_alloc1 _ _).alloc (by simp) _
  have HK0 : Hid (Blk w1 w.heap.size 51 #[.int .i64 3, .slice sao sl scap, .slice tao tl tcap, .int .i64 n]) := by unfold Hid; rw [hw1]; exact (Blk.new _ _ _).old _
  have HK1 : Hid (Blk w1 (w.heap.size + 1) 137 (arrR Z 0)) := by
    unfold Hid; rw [hw1, hZ]
    have := Blk.new (w.alloc (.cells #[.int .i64 3, .slice sao sl scap, .slice tao tl tcap, .int .i64 n] 51)) 137 #[.int .i64 0, .int .i64 0, .int .i64 0, .int .i64 0, .int .i64 0, .int .i64 0, .int .i64 0, .int .i64 0, .int .i64 0]
    simp only [World.size_alloc] at this
    exact this
  have HX : Hid (∀ W, Blk W w.heap.size 51 #[.int .i64 3, .slice sao sl scap, .slice tao tl tcap, .int .i64 n] → W.cell? ⟨w.heap.size, 0, none⟩ = some (.int .i64 3) ∧ W.cell? ⟨w.heap.size, 1, none⟩ = some (.slice sao sl scap) ∧ W.cell? ⟨w.heap.size, 2, none⟩ = some (.slice tao tl tcap) ∧ W.cell? ⟨w.heap.size, 3, none⟩ = some (.int .i64 n)) := fun W h => ⟨h.cell 0, h.cell 1, h.cell 2, h.cell 3⟩
  have HLW : Hid (∀ W, Below w.heap.size w W → TimesLaid W) := fun W hW => hL.below hW
  have HBx : Hid (∀ f, f < 8 → bits .and .i64 (maskTo X 8 / 2 ^ f) 1 = (((X f).toNat : Nat) : Int)) := fun f hf => mask_bit8 X hf
  have HBy : Hid (∀ f, f < 8 → bits .and .i64 (maskTo Y 8 / 2 ^ f) 1 = (((Y f).toNat : Nat) : Int)) := fun f hf => mask_bit8 Y hf
  have mx : 0 ≤ maskTo X 8 ∧ maskTo X 8 < 256 := maskTo_le X 8
  have my : 0 ≤ maskTo Y 8 ∧ maskTo Y 8 < 256 := maskTo_le Y 8
  obtain ⟨MX, hMX⟩ : ∃ x, x = maskTo X 8 := ⟨_, rfl⟩
  obtain ⟨MY, hMY⟩ : ∃ x, x = maskTo Y 8 := ⟨_, rfl⟩
  rw [← hMX] at HBx mx HS
  rw [← hMY] at HBy my HT
  clear hMX hMY
  obtain ⟨mx0, mx1⟩ := mx
  obtain ⟨my0, my1⟩ := my
  obtain ⟨D, hD⟩ : ∃ D : Nat → Int, D = fun f => timesK 3 (X f) (Y f) := ⟨_, rfl⟩
  have HDl : Hid (∀ f, f < 8 → -2 ≤ D f ∧ D f ≤ 2) := fun f _ => by
    have := timesK_le 3 (X f) (Y f)
    rw [hD]; show -2 ≤ timesK 3 (X f) (Y f) ∧ timesK 3 (X f) (Y f) ≤ 2; omega
  have HM : Hid (∀ f, f < 8 → M f = if h = true then D f else - D f) := fun f hf => by rw [hD]; exact hM f hf
  have HP : Hid (p = if h = true then (-n) else -((-n) + 1)) := hp
  have HTC : Hid (∀ f, timeCells.getD (3 * 4 + (X f).toNat * 2 + (Y f).toNat) 0 = D f) := fun f => by rw [hD]; exact times_cell 3 (by omega) (by omega) _ _
  have HZ : Hid (Z = fun _ => 0) := hZ
  clear hM hp hD hL hZ
  obtain ⟨x0, x1, x2, x3⟩ := HX.out _ HK0.out
  go_enter Tryz.func88, Tryz.ntmps88
  go_wp2_with fail
  rw [← hw1]
  clear hw1
  go_wp2_with fail
  go_at_call 53
  refine (HC.out _ HW.out).mono ?_
  rintro e w2 ⟨rfl, hb⟩
  have HB2 : Hid (Below w.heap.size w w2) := HW.out.trans (hb.mono HW.out.size)
  have HA2 : Hid (Blk w2 w.heap.size 51 #[.int .i64 3, .slice sao sl scap, .slice tao tl tcap, .int .i64 n]) := HK0.out.below hb
  have HR2 : Hid (Blk w2 (w.heap.size + 1) 137 (arrR Z 0)) := HK1.out.below hb
  clear hb x0 x1 x2 x3
  obtain ⟨x0, x1, x2, x3⟩ := HX.out _ HA2.out
  go_wp2_with fail
  go_at_call 98
  refine (HS.out _ HB2.out).mono ?_
  rintro e w3 ⟨rfl, hb⟩
  have HB3 : Hid (Below w.heap.size w w3) := HB2.out.trans (hb.mono HB2.out.size)
  have HA3 : Hid (Blk w3 w.heap.size 51 #[.int .i64 3, .slice sao sl scap, .slice tao tl tcap, .int .i64 n]) := HA2.out.below hb
  have HR3 : Hid (Blk w3 (w.heap.size + 1) 137 (arrR Z 0)) := HR2.out.below hb
  clear hb x0 x1 x2 x3
  obtain ⟨x0, x1, x2, x3⟩ := HX.out _ HA3.out
  go_wp2_with fail
  go_at_call 98
  refine (HT.out _ HB3.out).mono ?_
  rintro e w4 ⟨rfl, hb⟩
  have HB4 : Hid (Below w.heap.size w w4) := HB3.out.trans (hb.mono HB3.out.size)
  have HA4 : Hid (Blk w4 w.heap.size 51 #[.int .i64 3, .slice sao sl scap, .slice tao tl tcap, .int .i64 n]) := HA3.out.below hb
  have HR4 : Hid (Blk w4 (w.heap.size + 1) 137 (arrR Z 0)) := HR3.out.below hb
  clear hb x0 x1 x2 x3
  obtain ⟨x0, x1, x2, x3⟩ := HX.out _ HA4.out
  obtain ⟨w5, hw5⟩ : ∃ x, x = w4.alloc (.cells #[.int .i64 0, .int .i64 0, .int .i64 0, .int .i64 0, .int .i64 0, .int .i64 0, .int .i64 0, .int .i64 0, .int .i64 n] 137) := ⟨_, rfl⟩
  have HB5 : Hid (Below w.heap.size w w5) := by unfold Hid; rw [hw5]; exact HB4.out.alloc HB4.out.size _
  have HA5 : Hid (Blk w5 w.heap.size 51 #[.int .i64 3, .slice sao sl scap, .slice tao tl tcap, .int .i64 n]) := by unfold Hid; rw [hw5]; exact HA4.out.old _
  have HR5 : Hid (Blk w5 (w.heap.size + 1) 137 (arrR Z 0)) := by unfold Hid; rw [hw5]; exact HR4.out.old _
  have HP5 : Hid (Blk w5 w4.heap.size 137 (arrR Z n)) := by unfold Hid; rw [hw5, HZ.out]; exact Blk.new _ _ _
  have HL4 : Hid (w.heap.size + 1 < w4.heap.size) := HR4.out.lt
  obtain ⟨P, hP⟩ : ∃ P, P = w4.heap.size := ⟨_, rfl⟩
  go_upto_region 11 with fail
  rw [← hw5, ← hP]
  rw [← hP] at HP5 HL4
  clear hw5 hP x0 x1 x2 x3
  obtain ⟨x0, x1, x2, x3⟩ := HX.out _ HA5.out
  have q0 : w5.cell? ⟨P, 8, none⟩ = some (.int .i64 n) := HP5.out.cell 8
  have q1 := HP5.out.frozen 8
  obtain ⟨w6, hw6⟩ : ∃ x, x = w5.setCell ⟨P, 8, none⟩ (.int .i64 (-n)) := ⟨_, rfl⟩
  have HB6 : Hid (Below w.heap.size w w6) := by unfold Hid; rw [hw6]; exact HB5.out.setCell (by show w.heap.size ≤ P; have := HL4.out; omega) _
  have HA6 : Hid (Blk w6 w.heap.size 51 #[.int .i64 3, .slice sao sl scap, .slice tao tl tcap, .int .i64 n]) := by unfold Hid; rw [hw6]; exact HA5.out.far (by have := HL4.out; omega) _ _
  have HR6 : Hid (Blk w6 (w.heap.size + 1) 137 (arrR Z 0)) := by unfold Hid; rw [hw6]; exact HR5.out.far (by have := HL4.out; omega) _ _
  have HP6 : Hid (Blk w6 P 137 (arrR Z (-n))) := by
    unfold Hid; rw [hw6]
    have := HP5.out.set 8 (.int .i64 (-n))
    rw [arrR_most] at this
    exact this
  go_wp2
  rw [← hw6]
  clear hw6 x0 x1 x2 x3 q0 q1
  clear HB5 HA5 HR5 HP5 HB4 HA4 HR4 HB3 HA3 HR3 HB2 HA2 HR2 HK0 HK1 HC HS HT HW
  go_loopw [48] (fun i wr => ∃ f : Nat, f ≤ 8 ∧ i = .int .i64 f ∧ Below w.heap.size w wr ∧ Blk wr w.heap.size 51 #[.int .i64 3, .slice sao sl scap, .slice tao tl tcap, .int .i64 n] ∧ Blk wr (w.heap.size + 1) 137 (arrR Z 0) ∧ Blk wr P 137 (arrR (fun g => if g < f then D g else 0) (-n))) (fun i _ => 8 - (intOf i).toNat)
  case atStart => exact ⟨0, Nat.zero_le _, rfl, HB6.out, HA6.out, HR6.out, by have := HP6.out; rw [HZ.out] at this; exact this⟩
  case round =>
    obtain ⟨f, hf, rfl, hb, ha, hr, hq⟩ := hrel
    have HB7 : Hid (Below w.heap.size w wr) := hb
    have HA7 : Hid (Blk wr w.heap.size 51 #[.int .i64 3, .slice sao sl scap, .slice tao tl tcap, .int .i64 n]) := ha
    have HR7 : Hid (Blk wr (w.heap.size + 1) 137 (arrR Z 0)) := hr
    have HP7 : Hid (Blk wr P 137 (arrR (fun g => if g < f then D g else 0) (-n))) := hq
    clear hb ha hr hq
    by_cases hlt : f < 8
    · have x0 := (HX.out _ HA7.out).1
      have bx := HBx.out f hlt
      have bY := HBy.out f hlt
      obtain ⟨x, hx⟩ : ∃ x, x = (X f).toNat := ⟨_, rfl⟩
      obtain ⟨y, hy⟩ : ∃ y, y = (Y f).toNat := ⟨_, rfl⟩
      have hx2 : x < 2 := by rw [hx]; cases X f <;> decide
      have hy2 : y < 2 := by rw [hy]; cases Y f <;> decide
      rw [← hx] at bx
      rw [← hy] at bY
      have g0 : wr.cell? ⟨2, 3 * 4 + x * 2 + y, none⟩ = some (.int .i64 (D f)) := by
        rw [HLW.out _ HB7.out _ (by omega), hx, hy, HTC.out]
      clear hx hy
      have c : wr.cell? ⟨P, f, none⟩ = some (.int .i64 0) := by rw [HP7.out.cell, arrR_get _ _ hlt]; simp
      have z := HP7.out.frozen f
      obtain ⟨d, hd⟩ : ∃ d, d = D f := ⟨_, rfl⟩
      rw [← hd] at g0
      have HE : Hid (∀ W, Blk W P 137 (arrR (fun g => if g < f then D g else 0) (-n)) → Blk (W.setCell ⟨P, f, none⟩ (.int .i64 d)) P 137 (arrR (fun g => if g < f + 1 then D g else 0) (-n))) := fun W hW => by
        have := hW.set f (.int .i64 d)
        rw [arrR_set _ _ _ hlt] at this
        rw [arrR_same (M := fun g => if g = f then d else if g < f then D g else 0)]
        · exact this
        · intro g hg
          by_cases e : g = f
          · subst e; rw [if_pos (by omega), if_pos rfl, hd]
          · simp only [if_neg e]
            by_cases e' : g < f
            · rw [if_pos (by omega), if_pos e']
            · rw [if_neg (by omega), if_neg e']
      clear hd
      go_wp2
      go_region
      go_wp2
      go_roundw
      case rel => exact ⟨f + 1, by omega, by go_num, HB7.out.drew.setCell (by show w.heap.size ≤ P; have := HL4.out; omega) _, HA7.out.drew.far (by have := HL4.out; omega) _ _, HR7.out.drew.far (by have := HL4.out; omega) _ _, HE.out _ HP7.out.drew⟩
      case measure => simp [intOf]; omega
    · obtain rfl : f = 8 := by omega
      have HP8 : Hid (Blk wr P 137 (arrR D (-n))) := by
        have := HP7.out
        unfold Hid
        rw [arrR_same (M := fun g => if g < 8 then D g else 0)]
        · exact this
        · intro g hg; rw [if_pos hg]
      clear HP7
      obtain ⟨n0', n1', n2', n3', n4', n5', n6', n7', n8'⟩ := HP8.out.cells9
      cases h with
      | true =>
        have HMD : Hid (arrR D (-n) = arrR M p) := by
          unfold Hid
          rw [HP.out]
          exact arrR_same (fun f hf => by rw [HM.out f hf]; rfl) _
        obtain ⟨r0, r1, r2, r3, r4, r5, r6, r7, r8⟩ := HR7.out.cells9
        obtain ⟨f0, f1, f2, f3, f4, f5, f6, f7, f8⟩ := HR7.out.frozen9
        go_wp2
        have hld := loadR (putR_blk HR7.out D (-n))
        refine bodyPost_ret (v := .tuple #[.agg (arrR D (-n)), .nilIface]) ?_ rfl ⟨by rw [HMD.out]; rfl, ?_⟩
        · rw [results_cell_tmp rfl]
          unfold putR at hld
          simp [asAddr, Result.andThen, hld]
        · exact putR_below HB7.out (by omega) _ _
      | false =>
        have HTu : Hid (∀ W, Calls Tryz.prog 99 #[.agg #[.int .i64 (D 0), .int .i64 (D 1), .int .i64 (D 2), .int .i64 (D 3), .int .i64 (D 4), .int .i64 (D 5), .int .i64 (D 6), .int .i64 (D 7), .int .i64 (-n)]] W fun e w' => e = .returned (.agg #[.int .i64 (M 0), .int .i64 (M 1), .int .i64 (M 2), .int .i64 (M 3), .int .i64 (M 4), .int .i64 (M 5), .int .i64 (M 6), .int .i64 (M 7), .int .i64 p]) ∧ Below W.heap.size W w') := fun W => rturned_any D M (-n) p HDl.out (by omega) (fun f hf => by rw [HM.out f hf]; rfl) HP.out W
        go_wp2_with fail
        go_at_call 99
        refine (HTu.out _).mono ?_
        rintro e w8 ⟨rfl, hb⟩
        have HB8 : Hid (Below w.heap.size w w8) := HB7.out.trans (hb.mono HB7.out.size)
        have HR8 : Hid (Blk w8 (w.heap.size + 1) 137 (arrR Z 0)) := HR7.out.below hb
        have HP9 : Hid (Blk w8 P 137 (arrR D (-n))) := HP8.out.below hb
        clear hb n0' n1' n2' n3' n4' n5' n6' n7' n8'
        obtain ⟨n0', n1', n2', n3', n4', n5', n6', n7', n8'⟩ := HP9.out.cells9
        obtain ⟨g0, g1, g2, g3, g4, g5, g6, g7, g8⟩ := HP9.out.frozen9
        obtain ⟨w9, hw9⟩ : ∃ x, x = putR w8 P M p := ⟨_, rfl⟩
        have HB9 : Hid (Below w.heap.size w w9) := by unfold Hid; rw [hw9]; exact putR_below HB8.out (by have := HL4.out; omega) _ _
        have HR9 : Hid (Blk w9 (w.heap.size + 1) 137 (arrR Z 0)) := by unfold Hid; rw [hw9]; exact putR_far HR8.out (by have := HL4.out; omega) _ _
        have HP10 : Hid (Blk w9 P 137 (arrR M p)) := by unfold Hid; rw [hw9]; exact putR_blk HP9.out _ _
        unfold putR at hw9
        go_upto_region 20 with fail
        rw [← hw9]
        clear hw9 n0' n1' n2' n3' n4' n5' n6' n7' n8' g0 g1 g2 g3 g4 g5 g6 g7 g8
        obtain ⟨n0', n1', n2', n3', n4', n5', n6', n7', n8'⟩ := HP10.out.cells9
        obtain ⟨r0, r1, r2, r3, r4, r5, r6, r7, r8⟩ := HR9.out.cells9
        obtain ⟨f0, f1, f2, f3, f4, f5, f6, f7, f8⟩ := HR9.out.frozen9
        go_wp2
        have hld := loadR (putR_blk HR9.out M p)
        refine bodyPost_ret (v := .tuple #[.agg (arrR M p), .nilIface]) ?_ rfl ⟨rfl, ?_⟩
        · rw [results_cell_tmp rfl]
          unfold putR at hld
          simp [asAddr, Result.andThen, hld]
        · exact putR_below HB9.out (by omega) _ _

set_option maxHeartbeats 8000000 in
theorem rowsOf_N (k : Nat) (hk1 : 1 ≤ k) (hk5 : k ≤ 5) (hk3 : k ≠ 3) (n : Int) (h : Bool) (X Y : Nat → Bool) (M : Nat → Int) (p : Int) (n0 : -20 ≤ n) (n1 : n ≤ 20) (sao tao : Option Addr) (sl scap tl tcap : Nat) (w : World) (hL : TimesLaid w)
    (hM : ∀ f, f < 8 → M f = if h = true then timesK (k : Int) (X f) (Y f) else - timesK (k : Int) (X f) (Y f)) (hp : p = if h = true then n else -(n + 1))
    (HC : Hid (∀ W, Below w.heap.size w W → Calls Tryz.prog 53 #[.agg #[.int .i64 (k : Int), .slice sao sl scap, .slice tao tl tcap, .int .i64 n]] W fun e w' => e = .returned .nilIface ∧ Below W.heap.size W w'))
    (HS : Hid (∀ W, Below w.heap.size w W → Calls Tryz.prog 98 #[.slice sao sl scap] W fun e w' => e = .returned (.tuple #[.int .i64 (maskTo X 8), .nilIface]) ∧ Below W.heap.size W w'))
    (HT : Hid (∀ W, Below w.heap.size w W → Calls Tryz.prog 98 #[.slice tao tl tcap] W fun e w' => e = .returned (.tuple #[.int .i64 (maskTo Y 8), .nilIface]) ∧ Below W.heap.size W w')) :
    Calls Tryz.prog 88 #[.agg #[.int .i64 (k : Int), .slice sao sl scap, .slice tao tl tcap, .int .i64 n], .bool h] w fun e w' => e = .returned (.tuple #[.agg #[.int .i64 (M 0), .int .i64 (M 1), .int .i64 (M 2), .int .i64 (M 3), .int .i64 (M 4), .int .i64 (M 5), .int .i64 (M 6), .int .i64 (M 7), .int .i64 p], .nilIface]) ∧ Below w.heap.size w w' := by
  obtain ⟨Z, hZ⟩ : ∃ Z : Nat → Int, Z = fun _ => 0 := ⟨_, rfl⟩
  obtain ⟨w1, hw1⟩ : ∃ w1, w1 = (w.alloc (.cells #[.int .i64 (k : Int), .slice sao sl scap, .slice tao tl tcap, .int .i64 n] 51)).alloc (.cells #[.int .i64 0, .int .i64 0, .int .i64 0, .int .i64 0, .int .i64 0, .int .i64 0, .int .i64 0, .int .i64 0, .int .i64 0] 137) := ⟨_, rfl⟩
  have HW : Hid (Below w.heap.size w w1) := by unfold Hid; rw [hw1]; exact (below_alloc1 _ _).alloc (by simp) _
  have HK0 : Hid (Blk w1 w.heap.size 51 #[.int .i64 (k : Int), .slice sao sl scap, .slice tao tl tcap, .int .i64 n]) := by unfold Hid; rw [hw1]; exact (Blk.new _ _ _).old _
  have HK1 : Hid (Blk w1 (w.heap.size + 1) 137 (arrR Z 0)) := by
    unfold Hid; rw [hw1, hZ]
    have := Blk.new (w.alloc (.cells #[.int .i64 (k : Int), .slice sao sl scap, .slice tao tl tcap, .int .i64 n] 51)) 137 #[.int .i64 0, .int .i64 0, .int .i64 0, .int .i64 0, .int .i64 0, .int .i64 0, .int .i64 0, .int .i64 0, .int .i64 0]
    simp only [World.size_alloc] at this
    exact this
  have HX : Hid (∀ W, Blk W w.heap.size 51 #[.int .i64 (k : Int), .slice sao sl scap, .slice tao tl tcap, .int .i64 n] → W.cell? ⟨w.heap.size, 0, none⟩ = some (.int .i64 (k : Int)) ∧ W.cell? ⟨w.heap.size, 1, none⟩ = some (.slice sao sl scap) ∧ W.cell? ⟨w.heap.size, 2, none⟩ = some (.slice tao tl tcap) ∧ W.cell? ⟨w.heap.size, 3, none⟩ = some (.int .i64 n)) := fun W h => ⟨h.cell 0, h.cell 1, h.cell 2, h.cell 3⟩
  have HLW : Hid (∀ W, Below w.heap.size w W → TimesLaid W) := fun W hW => hL.below hW
  have HBx : Hid (∀ f, f < 8 → bits .and .i64 (maskTo X 8 / 2 ^ f) 1 = (((X f).toNat : Nat) : Int)) := fun f hf => mask_bit8 X hf
  have HBy : Hid (∀ f, f < 8 → bits .and .i64 (maskTo Y 8 / 2 ^ f) 1 = (((Y f).toNat : Nat) : Int)) := fun f hf => mask_bit8 Y hf
  have mx : 0 ≤ maskTo X 8 ∧ maskTo X 8 < 256 := maskTo_le X 8
  have my : 0 ≤ maskTo Y 8 ∧ maskTo Y 8 < 256 := maskTo_le Y 8
  obtain ⟨MX, hMX⟩ : ∃ x, x = maskTo X 8 := ⟨_, rfl⟩
  obtain ⟨MY, hMY⟩ : ∃ x, x = maskTo Y 8 := ⟨_, rfl⟩
  rw [← hMX] at HBx mx HS
  rw [← hMY] at HBy my HT
  clear hMX hMY
  obtain ⟨mx0, mx1⟩ := mx
  obtain ⟨my0, my1⟩ := my
  obtain ⟨D, hD⟩ : ∃ D : Nat → Int, D = fun f => timesK (k : Int) (X f) (Y f) := ⟨_, rfl⟩
  have HDl : Hid (∀ f, f < 8 → -2 ≤ D f ∧ D f ≤ 2) := fun f _ => by
    have := timesK_le (k : Int) (X f) (Y f)
    rw [hD]; show -2 ≤ timesK (k : Int) (X f) (Y f) ∧ timesK (k : Int) (X f) (Y f) ≤ 2; omega
  have HM : Hid (∀ f, f < 8 → M f = if h = true then D f else - D f) := fun f hf => by rw [hD]; exact hM f hf
  have HP : Hid (p = if h = true then n else -(n + 1)) := hp
  have HTC : Hid (∀ f, timeCells.getD (k * 4 + (X f).toNat * 2 + (Y f).toNat) 0 = D f) := fun f => by rw [hD]; exact times_cell k (by omega) (by omega) _ _
  have HZ : Hid (Z = fun _ => 0) := hZ
  clear hM hp hD hL hZ
  obtain ⟨x0, x1, x2, x3⟩ := HX.out _ HK0.out
  go_enter Tryz.func88, Tryz.ntmps88
  go_wp2_with fail
  rw [← hw1]
  clear hw1
  go_wp2_with fail
  go_at_call 53
  refine (HC.out _ HW.out).mono ?_
  rintro e w2 ⟨rfl, hb⟩
  have HB2 : Hid (Below w.heap.size w w2) := HW.out.trans (hb.mono HW.out.size)
  have HA2 : Hid (Blk w2 w.heap.size 51 #[.int .i64 (k : Int), .slice sao sl scap, .slice tao tl tcap, .int .i64 n]) := HK0.out.below hb
  have HR2 : Hid (Blk w2 (w.heap.size + 1) 137 (arrR Z 0)) := HK1.out.below hb
  clear hb x0 x1 x2 x3
  obtain ⟨x0, x1, x2, x3⟩ := HX.out _ HA2.out
  go_wp2_with fail
  go_at_call 98
  refine (HS.out _ HB2.out).mono ?_
  rintro e w3 ⟨rfl, hb⟩
  have HB3 : Hid (Below w.heap.size w w3) := HB2.out.trans (hb.mono HB2.out.size)
  have HA3 : Hid (Blk w3 w.heap.size 51 #[.int .i64 (k : Int), .slice sao sl scap, .slice tao tl tcap, .int .i64 n]) := HA2.out.below hb
  have HR3 : Hid (Blk w3 (w.heap.size + 1) 137 (arrR Z 0)) := HR2.out.below hb
  clear hb x0 x1 x2 x3
  obtain ⟨x0, x1, x2, x3⟩ := HX.out _ HA3.out
  go_wp2_with fail
  go_at_call 98
  refine (HT.out _ HB3.out).mono ?_
  rintro e w4 ⟨rfl, hb⟩
  have HB4 : Hid (Below w.heap.size w w4) := HB3.out.trans (hb.mono HB3.out.size)
  have HA4 : Hid (Blk w4 w.heap.size 51 #[.int .i64 (k : Int), .slice sao sl scap, .slice tao tl tcap, .int .i64 n]) := HA3.out.below hb
  have HR4 : Hid (Blk w4 (w.heap.size + 1) 137 (arrR Z 0)) := HR3.out.below hb
  clear hb x0 x1 x2 x3
  obtain ⟨x0, x1, x2, x3⟩ := HX.out _ HA4.out
  obtain ⟨w5, hw5⟩ : ∃ x, x = w4.alloc (.cells #[.int .i64 0, .int .i64 0, .int .i64 0, .int .i64 0, .int .i64 0, .int .i64 0, .int .i64 0, .int .i64 0, .int .i64 n] 137) := ⟨_, rfl⟩
  have HB5 : Hid (Below w.heap.size w w5) := by unfold Hid; rw [hw5]; exact HB4.out.alloc HB4.out.size _
  have HA5 : Hid (Blk w5 w.heap.size 51 #[.int .i64 (k : Int), .slice sao sl scap, .slice tao tl tcap, .int .i64 n]) := by unfold Hid; rw [hw5]; exact HA4.out.old _
  have HR5 : Hid (Blk w5 (w.heap.size + 1) 137 (arrR Z 0)) := by unfold Hid; rw [hw5]; exact HR4.out.old _
  have HP5 : Hid (Blk w5 w4.heap.size 137 (arrR Z n)) := by unfold Hid; rw [hw5, HZ.out]; exact Blk.new _ _ _
  have HL4 : Hid (w.heap.size + 1 < w4.heap.size) := HR4.out.lt
  obtain ⟨P, hP⟩ : ∃ P, P = w4.heap.size := ⟨_, rfl⟩
  go_upto_region 11 with fail
  rw [← hw5, ← hP]
  rw [← hP] at HP5 HL4
  clear hw5 hP x0 x1 x2 x3
  obtain ⟨x0, x1, x2, x3⟩ := HX.out _ HA5.out
  have hk3' : ¬ ((k : Int) = 3) := by omega
  obtain ⟨w6, hw6⟩ : ∃ x, x = w5 := ⟨_, rfl⟩
  rw [← hw6] at HB5 HA5 HR5 HP5 x0 x1 x2 x3 ⊢
  have HB6 : Hid (Below w.heap.size w w6) := HB5.out
  have HA6 : Hid (Blk w6 w.heap.size 51 #[.int .i64 (k : Int), .slice sao sl scap, .slice tao tl tcap, .int .i64 n]) := HA5.out
  have HR6 : Hid (Blk w6 (w.heap.size + 1) 137 (arrR Z 0)) := HR5.out
  have HP6 : Hid (Blk w6 P 137 (arrR Z n)) := HP5.out
  clear hw6
  go_wp2
  clear x0 x1 x2 x3
  clear HB5 HA5 HR5 HP5 HB4 HA4 HR4 HB3 HA3 HR3 HB2 HA2 HR2 HK0 HK1 HC HS HT HW
  go_loopw [48] (fun i wr => ∃ f : Nat, f ≤ 8 ∧ i = .int .i64 f ∧ Below w.heap.size w wr ∧ Blk wr w.heap.size 51 #[.int .i64 (k : Int), .slice sao sl scap, .slice tao tl tcap, .int .i64 n] ∧ Blk wr (w.heap.size + 1) 137 (arrR Z 0) ∧ Blk wr P 137 (arrR (fun g => if g < f then D g else 0) n)) (fun i _ => 8 - (intOf i).toNat)
  case atStart => exact ⟨0, Nat.zero_le _, rfl, HB6.out, HA6.out, HR6.out, by have := HP6.out; rw [HZ.out] at this; exact this⟩
  case round =>
    obtain ⟨f, hf, rfl, hb, ha, hr, hq⟩ := hrel
    have HB7 : Hid (Below w.heap.size w wr) := hb
    have HA7 : Hid (Blk wr w.heap.size 51 #[.int .i64 (k : Int), .slice sao sl scap, .slice tao tl tcap, .int .i64 n]) := ha
    have HR7 : Hid (Blk wr (w.heap.size + 1) 137 (arrR Z 0)) := hr
    have HP7 : Hid (Blk wr P 137 (arrR (fun g => if g < f then D g else 0) n)) := hq
    clear hb ha hr hq
    by_cases hlt : f < 8
    · have x0 := (HX.out _ HA7.out).1
      have bx := HBx.out f hlt
      have bY := HBy.out f hlt
      obtain ⟨x, hx⟩ : ∃ x, x = (X f).toNat := ⟨_, rfl⟩
      obtain ⟨y, hy⟩ : ∃ y, y = (Y f).toNat := ⟨_, rfl⟩
      have hx2 : x < 2 := by rw [hx]; cases X f <;> decide
      have hy2 : y < 2 := by rw [hy]; cases Y f <;> decide
      rw [← hx] at bx
      rw [← hy] at bY
      have g0 : wr.cell? ⟨2, k * 4 + x * 2 + y, none⟩ = some (.int .i64 (D f)) := by
        rw [HLW.out _ HB7.out _ (by omega), hx, hy, HTC.out]
      clear hx hy
      have c : wr.cell? ⟨P, f, none⟩ = some (.int .i64 0) := by rw [HP7.out.cell, arrR_get _ _ hlt]; simp
      have z := HP7.out.frozen f
      obtain ⟨d, hd⟩ : ∃ d, d = D f := ⟨_, rfl⟩
      rw [← hd] at g0
      have HE : Hid (∀ W, Blk W P 137 (arrR (fun g => if g < f then D g else 0) n) → Blk (W.setCell ⟨P, f, none⟩ (.int .i64 d)) P 137 (arrR (fun g => if g < f + 1 then D g else 0) n)) := fun W hW => by
        have := hW.set f (.int .i64 d)
        rw [arrR_set _ _ _ hlt] at this
        rw [arrR_same (M := fun g => if g = f then d else if g < f then D g else 0)]
        · exact this
        · intro g hg
          by_cases e : g = f
          · subst e; rw [if_pos (by omega), if_pos rfl, hd]
          · simp only [if_neg e]
            by_cases e' : g < f
            · rw [if_pos (by omega), if_pos e']
            · rw [if_neg (by omega), if_neg e']
      clear hd
      go_wp2
      go_region
      go_wp2
      go_roundw
      case rel => exact ⟨f + 1, by omega, by go_num, HB7.out.drew.setCell (by show w.heap.size ≤ P; have := HL4.out; omega) _, HA7.out.drew.far (by have := HL4.out; omega) _ _, HR7.out.drew.far (by have := HL4.out; omega) _ _, HE.out _ HP7.out.drew⟩
      case measure => simp [intOf]; omega
    · obtain rfl : f = 8 := by omega
      have HP8 : Hid (Blk wr P 137 (arrR D n)) := by
        have := HP7.out
        unfold Hid
        rw [arrR_same (M := fun g => if g < 8 then D g else 0)]
        · exact this
        · intro g hg; rw [if_pos hg]
      clear HP7
      obtain ⟨n0', n1', n2', n3', n4', n5', n6', n7', n8'⟩ := HP8.out.cells9
      cases h with
      | true =>
        have HMD : Hid (arrR D n = arrR M p) := by
          unfold Hid
          rw [HP.out]
          exact arrR_same (fun f hf => by rw [HM.out f hf]; rfl) _
        obtain ⟨r0, r1, r2, r3, r4, r5, r6, r7, r8⟩ := HR7.out.cells9
        obtain ⟨f0, f1, f2, f3, f4, f5, f6, f7, f8⟩ := HR7.out.frozen9
        go_wp2
        have hld := loadR (putR_blk HR7.out D n)
        refine bodyPost_ret (v := .tuple #[.agg (arrR D n), .nilIface]) ?_ rfl ⟨by rw [HMD.out]; rfl, ?_⟩
        · rw [results_cell_tmp rfl]
          unfold putR at hld
          simp [asAddr, Result.andThen, hld]
        · exact putR_below HB7.out (by omega) _ _
      | false =>
        have HTu : Hid (∀ W, Calls Tryz.prog 99 #[.agg #[.int .i64 (D 0), .int .i64 (D 1), .int .i64 (D 2), .int .i64 (D 3), .int .i64 (D 4), .int .i64 (D 5), .int .i64 (D 6), .int .i64 (D 7), .int .i64 n]] W fun e w' => e = .returned (.agg #[.int .i64 (M 0), .int .i64 (M 1), .int .i64 (M 2), .int .i64 (M 3), .int .i64 (M 4), .int .i64 (M 5), .int .i64 (M 6), .int .i64 (M 7), .int .i64 p]) ∧ Below W.heap.size W w') := fun W => rturned_any D M n p HDl.out (by omega) (fun f hf => by rw [HM.out f hf]; rfl) HP.out W
        go_wp2_with fail
        go_at_call 99
        refine (HTu.out _).mono ?_
        rintro e w8 ⟨rfl, hb⟩
        have HB8 : Hid (Below w.heap.size w w8) := HB7.out.trans (hb.mono HB7.out.size)
        have HR8 : Hid (Blk w8 (w.heap.size + 1) 137 (arrR Z 0)) := HR7.out.below hb
        have HP9 : Hid (Blk w8 P 137 (arrR D n)) := HP8.out.below hb
        clear hb n0' n1' n2' n3' n4' n5' n6' n7' n8'
        obtain ⟨n0', n1', n2', n3', n4', n5', n6', n7', n8'⟩ := HP9.out.cells9
        obtain ⟨g0, g1, g2, g3, g4, g5, g6, g7, g8⟩ := HP9.out.frozen9
        obtain ⟨w9, hw9⟩ : ∃ x, x = putR w8 P M p := ⟨_, rfl⟩
        have HB9 : Hid (Below w.heap.size w w9) := by unfold Hid; rw [hw9]; exact putR_below HB8.out (by have := HL4.out; omega) _ _
        have HR9 : Hid (Blk w9 (w.heap.size + 1) 137 (arrR Z 0)) := by unfold Hid; rw [hw9]; exact putR_far HR8.out (by have := HL4.out; omega) _ _
        have HP10 : Hid (Blk w9 P 137 (arrR M p)) := by unfold Hid; rw [hw9]; exact putR_blk HP9.out _ _
        unfold putR at hw9
        go_upto_region 20 with fail
        rw [← hw9]
        clear hw9 n0' n1' n2' n3' n4' n5' n6' n7' n8' g0 g1 g2 g3 g4 g5 g6 g7 g8
        obtain ⟨n0', n1', n2', n3', n4', n5', n6', n7', n8'⟩ := HP10.out.cells9
        obtain ⟨r0, r1, r2, r3, r4, r5, r6, r7, r8⟩ := HR9.out.cells9
        obtain ⟨f0, f1, f2, f3, f4, f5, f6, f7, f8⟩ := HR9.out.frozen9
        go_wp2
        have hld := loadR (putR_blk HR9.out M p)
        refine bodyPost_ret (v := .tuple #[.agg (arrR M p), .nilIface]) ?_ rfl ⟨rfl, ?_⟩
        · rw [results_cell_tmp rfl]
          unfold putR at hld
          simp [asAddr, Result.andThen, hld]
        · exact putR_below HB9.out (by omega) _ _

/-- what Of tells of times and most; none, if the atom is wrong. -/
def ofT (k : Int) (s t : List Int) (n : Int) (h : Bool) : Nat → Int := if atomFault k s t n = 0 then rowT k s t h else fun _ => 0
def ofM (k : Int) (s t : List Int) (n : Int) (h : Bool) : Int := if atomFault k s t n = 0 then rowM k n h else 0
/-- Of, whatever the atom. -/
theorem rowsOf_any (k n : Int) (h : Bool) (vs vt : Value) (s t : List Int) (w : World) (hS : Reads w vs s) (hT : Reads w vt t) (hK : KindsLaid w) (hL : TimesLaid w) :
    Calls Tryz.prog 88 #[.agg #[.int .i64 k, vs, vt, .int .i64 n], .bool h] w fun e w' => e = .returned (.tuple #[.agg (arrR (ofT k s t n h) (ofM k s t n h)), errV (atomFault k s t n)]) ∧ Below w.heap.size w w' := by
  obtain ⟨sao, scap, rfl, _⟩ := hS.slice
  obtain ⟨tao, tcap, rfl, _⟩ := hT.slice
  have hc : ∀ W, Below w.heap.size w W → Calls Tryz.prog 53 #[.agg #[.int .i64 k, .slice sao s.length scap, .slice tao t.length tcap, .int .i64 n]] W fun e w' => e = .returned (errV (atomFault k s t n)) ∧ Below W.heap.size W w' := fun W hW => acheck_any k n _ _ s t W (hS.below hW) (hT.below hW) (hK.below hW)
  by_cases hf : atomFault k s t n = 0
  · have e1 : ofT k s t n h = rowT k s t h := by unfold ofT; rw [if_pos hf]
    have e2 : ofM k s t n h = rowM k n h := by unfold ofM; rw [if_pos hf]
    rw [e1, e2, hf]
    rw [hf] at hc
    obtain ⟨hk, hs, ht, n0, n1⟩ := atomFault_zero.1 hf
    have hm := mostN_le k
    have ht' : t = [] ∨ faultN t = 0 := by
      rcases (Bool.eq_false_or_eq_true (secondB k)).symm with q | q
      · exact Or.inl (second_none ht q)
      · exact Or.inr (second_reads ht q)
    obtain ⟨i, rfl⟩ := Int.eq_ofNat_of_zero_le (show 0 ≤ k by omega)
    by_cases h3 : i = 3
    · subst h3
      exact rowsOf_3 n h (liesB s) (liesB t) (rowT _ s t h) _ (by omega) (by omega) sao tao s.length scap t.length tcap w hL (fun f _ => rfl) (by rfl) hc (fun W hW => rmask_right s _ W (hS.below hW) (Or.inr hs)) (fun W hW => rmask_right t _ W (hT.below hW) ht')
    · refine rowsOf_N i (by omega) (by omega) h3 n h (liesB s) (liesB t) (rowT _ s t h) _ (by omega) (by omega) sao tao s.length scap t.length tcap w hL (fun f _ => rfl) ?_ hc (fun W hW => rmask_right s _ W (hS.below hW) (Or.inr hs)) (fun W hW => rmask_right t _ W (hT.below hW) ht')
      unfold rowM mostK
      rw [if_neg (show ¬ ((i : Int) = 3) by omega)]
  · have e1 : ofT k s t n h = fun _ => 0 := by unfold ofT; rw [if_neg hf]
    have e2 : ofM k s t n h = 0 := by unfold ofM; rw [if_neg hf]
    rw [e1, e2, errV_no hf]
    rw [errV_no hf] at hc
    exact rowsOf_bad k _ n h sao tao s.length scap t.length tcap w hc
end Go.Proofs.YtpdpnlpepfgknafGreatDoor

namespace Go.Proofs.YtpdpnlpepfgknafGreatDoor
open Go.RowKit

/-- a number put into a place. -/
def putN (N : Nat → Int) (f : Nat) (x : Int) : Nat → Int := fun g => if g = f then x else N g
theorem putN_same (N : Nat → Int) (f : Nat) (x : Int) : putN N f x f = x := by unfold putN; rw [if_pos rfl]
theorem putN_other (N : Nat → Int) {f g : Nat} (h : g ≠ f) (x : Int) : putN N f x g = N g := by unfold putN; rw [if_neg h]
theorem putN_twice (N : Nat → Int) (f : Nat) (x y : Int) : putN (putN N f x) f y = putN N f y := by
  funext g; unfold putN; split <;> rfl
/-- all ways to put u things into the last r + 1 of the eight fields, one behind the other. -/
def allF : Nat → Nat → (Nat → Int) → List (Nat → Int)
  | 0, u, N => [putN N 7 u]
  | r + 1, u, N => (List.range (u + 1)).flatMap fun k => allF r (u - k) (putN N (6 - r) k)
/-- all counts of u things. -/
def everyC (u : Nat) : List (Nat → Int) := allF 7 u fun _ => 0
/-- the first of the loop's rounds. -/
def allTo (r u : Nat) (N : Nat → Int) (k : Nat) : List (Nat → Int) := (List.range k).flatMap fun j => allF r (u - j) (putN N (6 - r) j)
theorem allTo_zero (r u : Nat) (N : Nat → Int) : allTo r u N 0 = [] := rfl
theorem allTo_succ (r u : Nat) (N : Nat → Int) (k : Nat) : allTo r u N (k + 1) = allTo r u N k ++ allF r (u - k) (putN N (6 - r) k) := by
  unfold allTo; rw [List.range_succ, List.flatMap_append]; simp
theorem allTo_all (r u : Nat) (N : Nat → Int) : allTo r u N (u + 1) = allF (r + 1) u N := rfl
/-- how many there are: as ways to choose r of u + r. -/
def waysN : Nat → Nat → Nat
  | 0, _ => 1
  | r + 1, u => ((List.range (u + 1)).map fun k => waysN r (u - k)).sum
theorem length_allF (r : Nat) : ∀ (u : Nat) (N : Nat → Int), (allF r u N).length = waysN r u := by
  induction r with
  | zero => intro u N; rfl
  | succ r ih =>
    intro u N
    unfold allF waysN
    rw [List.length_flatMap]
    congr 1
    apply List.map_congr_left
    intro k _
    exact ih _ _
theorem ways_le : ∀ r, r ≤ 7 → ∀ u, u ≤ 6 → waysN r u ≤ 1716 := by decide +kernel
theorem length_everyC {u : Nat} (h : u ≤ 6) : (everyC u).length ≤ 1716 := by
  unfold everyC; rw [length_allF]; exact ways_le 7 (by omega) u h
theorem len_allTo_le (r u : Nat) (N : Nat → Int) {k : Nat} (hk : k ≤ u + 1) : (allTo r u N k).length ≤ (allF (r + 1) u N).length := by
  rw [← allTo_all]
  unfold allTo
  rw [List.length_flatMap, List.length_flatMap]
  have e : List.range (u + 1) = List.range k ++ (List.range (u + 1 - k)).map (k + ·) := by
    rw [← List.range_add]; congr 1; omega
  rw [e, List.map_append, List.sum_append]
  omega
/-- each is u things together, none fewer than 0. -/
theorem allF_sum (r : Nat) (hr : r ≤ 7) : ∀ (u : Nat) (N : Nat → Int), ∀ M ∈ allF r u N, (∀ g, g < 7 - r → M g = N g) ∧ (∀ g, 7 - r ≤ g → g < 8 → 0 ≤ M g ∧ M g ≤ u) ∧ sumN M 8 = sumN N (7 - r) + u := by
  induction r with
  | zero =>
    intro u N M hM
    obtain rfl : M = putN N 7 u := by simpa [allF] using hM
    refine ⟨fun g hg => putN_other N (by omega) _, fun g h1 h2 => ?_, ?_⟩
    · obtain rfl : g = 7 := by omega
      rw [putN_same]; omega
    · show sumN (putN N 7 u) 7 + putN N 7 u 7 = _
      rw [putN_same, sumN_same (M := N) fun f hf => putN_other N (by omega) _]
  | succ r ih =>
    intro u N M hM
    unfold allF at hM
    rw [List.mem_flatMap] at hM
    obtain ⟨k, hk, hM⟩ := hM
    have hk' : k < u + 1 := List.mem_range.1 hk
    obtain ⟨i1, i2, i3⟩ := ih (by omega) (u - k) _ M hM
    have e7 : 7 - r = 7 - (r + 1) + 1 := by omega
    have e6 : 6 - r = 7 - (r + 1) := by omega
    rw [e6] at i1 i3
    refine ⟨fun g hg => ?_, fun g h1 h2 => ?_, ?_⟩
    · rw [i1 g (by omega)]; exact putN_other N (by omega) _
    · by_cases e : g = 7 - (r + 1)
      · rw [i1 g (by omega), e, putN_same]; omega
      · have := i2 g (by omega) h2
        omega
    · rw [i3, e7]
      show sumN _ (7 - (r + 1)) + putN N (7 - (r + 1)) k (7 - (r + 1)) + _ = _
      rw [putN_same, sumN_same (M := N) fun f hf => putN_other N (by omega) _]
      omega
theorem everyC_sum {u : Nat} {M : Nat → Int} (h : M ∈ everyC u) : (∀ g, g < 8 → 0 ≤ M g ∧ M g ≤ u) ∧ sumN M 8 = u := by
  obtain ⟨_, h2, h3⟩ := allF_sum 7 (by omega) u (fun _ => 0) M h
  refine ⟨fun g hg => h2 g (by omega) hg, ?_⟩
  rw [h3]; show (0 : Int) + u = u; omega
theorem everyC_right {u : Nat} (hu : u ≤ 6) {M : Nat → Int} (h : M ∈ everyC u) : countsFault M = 0 := by
  obtain ⟨h1, h2⟩ := everyC_sum h
  exact counts_zero.2 ⟨fun f hf => by have := h1 f hf; omega, by omega⟩
end Go.Proofs.YtpdpnlpepfgknafGreatDoor
namespace Go.Proofs.YtpdpnlpepfgknafGreatDoor
open Go.RowKit

/-- ahead, by the first field that differs. -/
def aheadC (N M : Nat → Int) : Prop := ∃ f, f < 8 ∧ (∀ g, g < f → N g = M g) ∧ N f < M f
theorem allF_front {r : Nat} (hr : r ≤ 7) {u : Nat} {N M : Nat → Int} (h : M ∈ allF r u N) {g : Nat} (hg : g < 7 - r) : M g = N g := (allF_sum r hr u N M h).1 g hg
theorem allF_sorted (r : Nat) (hr : r ≤ 7) : ∀ (u : Nat) (N : Nat → Int), (allF r u N).Pairwise aheadC := by
  induction r with
  | zero => intro u N; exact List.pairwise_singleton _ _
  | succ r ih =>
    intro u N
    unfold allF
    rw [List.pairwise_flatMap]
    refine ⟨fun k _ => ih (by omega) _ _, ?_⟩
    refine List.Pairwise.imp ?_ List.pairwise_lt_range
    intro j k hjk A hA B hB
    have e : 6 - r = 7 - (r + 1) := by omega
    refine ⟨6 - r, by omega, fun g hg => ?_, ?_⟩
    · rw [allF_front (by omega) hA (by omega), allF_front (by omega) hB (by omega), putN_other N (by omega), putN_other N (by omega)]
    · rw [allF_front (by omega) hA (by omega), allF_front (by omega) hB (by omega), putN_same, putN_same]
      omega
theorem sumN_up {N : Nat → Int} {k l : Nat} (hkl : k ≤ l) (h : ∀ g, k ≤ g → g < l → 0 ≤ N g) : sumN N k ≤ sumN N l := by
  induction l with
  | zero => obtain rfl : k = 0 := by omega
            exact Int.le_refl _
  | succ l ih =>
    rcases Nat.lt_or_ge l k with h' | h'
    · obtain rfl : k = l + 1 := by omega
      exact Int.le_refl _
    · have := ih h' fun g h1 h2 => h g h1 (by omega)
      have := h l h' (by omega)
      have e : sumN N (l + 1) = sumN N l + N l := rfl
      rw [e]; omega
theorem allF_all (r : Nat) (hr : r ≤ 7) : ∀ (u : Nat) (N M : Nat → Int), (∀ g, g < 7 - r → M g = N g) → (∀ g, 7 - r ≤ g → g < 8 → 0 ≤ M g) → sumN M 8 = sumN N (7 - r) + u → ∃ A ∈ allF r u N, ∀ g, g < 8 → A g = M g := by
  induction r with
  | zero =>
    intro u N M h1 h2 h3
    refine ⟨putN N 7 u, by simp [allF], fun g hg => ?_⟩
    by_cases e : g = 7
    · subst e
      rw [putN_same]
      have e8 : sumN M 8 = sumN M 7 + M 7 := rfl
      have e7 : sumN M 7 = sumN N 7 := sumN_same fun f hf => h1 f (by omega)
      have : sumN N (7 - 0) = sumN N 7 := rfl
      omega
    · rw [putN_other N e, h1 g (by omega)]
  | succ r ih =>
    intro u N M h1 h2 h3
    obtain ⟨f, hf⟩ : ∃ f, f = 7 - (r + 1) := ⟨_, rfl⟩
    have e6 : 6 - r = f := by omega
    have e7 : 7 - r = f + 1 := by omega
    rw [← hf] at h1 h2 h3
    have m0 := h2 f (Nat.le_refl _) (by omega)
    obtain ⟨k, hk⟩ := Int.eq_ofNat_of_zero_le m0
    have ef : sumN M (f + 1) = sumN N f + k := by
      show sumN M f + M f = _
      rw [sumN_same (M := N) fun g hg => h1 g hg, hk]
    have hup := sumN_up (N := M) (k := f + 1) (l := 8) (by omega) fun g a b => h2 g (by omega) b
    have hku : k ≤ u := by omega
    obtain ⟨A, hA, hAM⟩ := ih (by omega) (u - k) (putN N f k) M (fun g hg => by
      by_cases e : g = f
      · rw [e, putN_same, hk]
      · rw [putN_other N e, h1 g (by omega)]) (fun g a b => h2 g (by omega) b) (by
      rw [e7]
      show _ = sumN (putN N f k) f + putN N f k f + _
      rw [putN_same, sumN_same (M := N) fun g hg => putN_other N (by omega) _]
      omega)
    refine ⟨A, ?_, hAM⟩
    unfold allF
    rw [List.mem_flatMap]
    exact ⟨k, List.mem_range.2 (by omega), by rw [e6]; exact hA⟩
/-- no counts of u things are left out. -/
theorem everyC_all {u : Nat} {M : Nat → Int} (h0 : ∀ g, g < 8 → 0 ≤ M g) (hs : sumN M 8 = u) : ∃ A ∈ everyC u, ∀ g, g < 8 → A g = M g :=
  allF_all 7 (by omega) u _ M (fun g hg => by omega) (fun g _ hg => h0 g hg) (by rw [hs]; show _ = (0 : Int) + u; omega)
theorem everyC_sorted (u : Nat) : (everyC u).Pairwise aheadC := allF_sorted 7 (by omega) u _
theorem aheadC_irrefl {N M : Nat → Int} (h : aheadC N M) : ¬ ∀ g, g < 8 → N g = M g := by
  obtain ⟨f, hf, _, hlt⟩ := h
  intro e
  have := e f hf
  omega
theorem aheadC_asymm {N M : Nat → Int} (h : aheadC N M) : ¬ aheadC M N := by
  obtain ⟨f, hf, he, hlt⟩ := h
  rintro ⟨g, hg, he', hlt'⟩
  rcases Nat.lt_trichotomy f g with h' | h' | h'
  · have := he' f h'; omega
  · subst h'; omega
  · have := he g h'; omega
/-- two of them with the same numbers are the same one. -/
theorem everyC_once {u i j : Nat} {A B : Nat → Int} (hi : (everyC u)[i]? = some A) (hj : (everyC u)[j]? = some B) (h : ∀ g, g < 8 → A g = B g) : i = j := by
  have hs := List.pairwise_iff_getElem.1 (everyC_sorted u)
  obtain ⟨hi', rfl⟩ := List.getElem?_eq_some_iff.1 hi
  obtain ⟨hj', rfl⟩ := List.getElem?_eq_some_iff.1 hj
  rcases Nat.lt_trichotomy i j with h' | h' | h'
  · exact absurd h (aheadC_irrefl (hs i j hi' hj' h'))
  · exact h'
  · exact absurd (fun g hg => (h g hg).symm) (aheadC_irrefl (hs j i hj' hi' h'))
theorem everyC_two : (everyC 2).length = 36 := by unfold everyC; rw [length_allF]; decide +kernel
end Go.Proofs.YtpdpnlpepfgknafGreatDoor
namespace Go.Proofs.YtpdpnlpepfgknafGreatDoor
open Go.RowKit

/-- do counts fit all rows? -/
def fitB (l : List Rw) (N : Nat → Int) : Bool := l.all fun r => r.so N
def zeroC : Nat → Int := fun _ => 0
/-- how many from the j-th on do, and the first of these. -/
def manyD (A : List (Nat → Int)) (p : (Nat → Int) → Bool) (j : Nat) : Nat := ((A.drop j).filter p).length
def leastD (A : List (Nat → Int)) (p : (Nat → Int) → Bool) (j : Nat) : Nat → Int := ((A.drop j).find? p).getD zeroC
theorem manyD_end (A : List (Nat → Int)) (p : (Nat → Int) → Bool) : manyD A p A.length = 0 := by unfold manyD; simp
theorem leastD_end (A : List (Nat → Int)) (p : (Nat → Int) → Bool) : leastD A p A.length = zeroC := by unfold leastD; simp
theorem manyD_step {A : List (Nat → Int)} {p : (Nat → Int) → Bool} {j : Nat} {M : Nat → Int} (h : A[j]? = some M) : manyD A p j = manyD A p (j + 1) + (if p M = true then 1 else 0) := by
  obtain ⟨hj, rfl⟩ := List.getElem?_eq_some_iff.1 h
  unfold manyD
  rw [List.drop_eq_getElem_cons hj, List.filter_cons]
  split
  · rw [List.length_cons]
  · rfl
theorem leastD_step {A : List (Nat → Int)} {p : (Nat → Int) → Bool} {j : Nat} {M : Nat → Int} (h : A[j]? = some M) : leastD A p j = if p M = true then M else leastD A p (j + 1) := by
  obtain ⟨hj, rfl⟩ := List.getElem?_eq_some_iff.1 h
  unfold leastD
  rw [List.drop_eq_getElem_cons hj, List.find?_cons]
  split
  · rename_i hp; rw [if_pos hp]; rfl
  · rename_i hp; rw [if_neg (by rw [hp]; decide)]
theorem manyD_le (A : List (Nat → Int)) (p : (Nat → Int) → Bool) (j : Nat) : manyD A p j ≤ A.length := by
  unfold manyD
  have := List.length_filter_le p (A.drop j)
  rw [List.length_drop] at this
  omega
theorem manyD_none {A : List (Nat → Int)} {p : (Nat → Int) → Bool} {j : Nat} (h : manyD A p j = 0) : leastD A p j = zeroC := by
  unfold manyD at h
  have hn := List.eq_nil_of_length_eq_zero h
  have : (A.drop j).find? p = none := by
    rw [List.find?_eq_none]
    intro x hx hp
    have : x ∈ (A.drop j).filter p := List.mem_filter.2 ⟨hx, hp⟩
    rw [hn] at this
    cases this
  unfold leastD
  rw [this]
  rfl
/-- the one behind the first i that are these counts; none, if there is none. -/
def nextTo (A : List (Nat → Int)) (q : (Nat → Int) → Bool) : Nat → Option (Nat → Int)
  | 0 => none
  | i + 1 => if q (A.getD i zeroC) = true then some (A.getD (i + 1) zeroC) else nextTo A q i
/-- what is wrong with so many things and rows; how many fit, the first that do, and what Least tells. -/
def fitFault (u : Int) (l : List Rw) : Int := if 0 ≤ u ∧ u ≤ 6 then rowsFault l else 1
def fitManyN (u : Int) (l : List Rw) : Int := if fitFault u l = 0 then (manyD (everyC u.toNat) (fitB l) 0 : Int) else 0
def leastFault (u : Int) (l : List Rw) : Int := if fitFault u l = 0 then (if fitManyN u l = 0 then 5 else 0) else fitFault u l
def leastN (u : Int) (l : List Rw) : Nat → Int := if fitFault u l = 0 then leastD (everyC u.toNat) (fitB l) 0 else zeroC
/-- the next ones. -/
def nextO (u : Int) (N : Nat → Int) : Option (Nat → Int) := nextTo (everyC u.toNat) (fun M => (List.range 8).all fun f => M f == N f) ((everyC u.toNat).length - 1)
def nextFault (u : Int) (N : Nat → Int) : Int :=
  if 0 ≤ u ∧ u ≤ 6 then (if countsFault N = 0 then (if sumN N 8 = u then (if (nextO u N).isSome = true then 0 else 5) else 3) else countsFault N) else 1
def nextN (u : Int) (N : Nat → Int) : Nat → Int := if nextFault u N = 0 then (nextO u N).getD zeroC else zeroC
end Go.Proofs.YtpdpnlpepfgknafGreatDoor
namespace Go.Proofs.YtpdpnlpepfgknafGreatDoor
open Go.RowKit

theorem allF_ne (r : Nat) : ∀ (u : Nat) (N : Nat → Int), allF r u N ≠ [] := by
  induction r with
  | zero => intro u N h; cases h
  | succ r ih =>
    intro u N h
    unfold allF at h
    rw [List.flatMap_eq_nil_iff] at h
    exact ih _ _ (h 0 (List.mem_range.2 (by omega)))
/-- the first has all in the last field. -/
theorem allF_head (r : Nat) : ∀ (u : Nat) (N : Nat → Int), ∃ M, (allF r u N)[0]? = some M ∧ M 7 = (u : Int) := by
  induction r with
  | zero => intro u N; exact ⟨putN N 7 u, rfl, putN_same _ _ _⟩
  | succ r ih =>
    intro u N
    obtain ⟨M, h1, h2⟩ := ih u (putN N (6 - r) (0 : Nat))
    refine ⟨M, ?_, h2⟩
    unfold allF
    rw [List.range_succ_eq_map, List.flatMap_cons, List.getElem?_append_left (by have := (List.getElem?_eq_some_iff.1 h1).1; exact this)]
    exact h1
/-- the last has all in the first one. -/
theorem allF_last (r : Nat) (hr : r ≤ 7) : ∀ (u : Nat) (N : Nat → Int), ∃ M, (allF r u N)[(allF r u N).length - 1]? = some M ∧ ∀ g, g < 8 → M g = if g = 7 - r then (u : Int) else if 7 - r < g then 0 else N g := by
  induction r with
  | zero =>
    intro u N
    refine ⟨putN N 7 u, rfl, fun g hg => ?_⟩
    by_cases e : g = 7
    · subst e; rw [putN_same, if_pos rfl]
    · rw [putN_other N e, if_neg (by omega), if_neg (by omega)]
  | succ r ih =>
    intro u N
    obtain ⟨M, h1, h2⟩ := ih (by omega) 0 (putN N (6 - r) u)
    have e : allF (r + 1) u N = allTo r u N u ++ allF r 0 (putN N (6 - r) u) := by
      rw [← allTo_all, allTo_succ, Nat.sub_self]
    have hp : 0 < (allF r 0 (putN N (6 - r) u)).length := List.length_pos_iff.2 (allF_ne r 0 _)
    refine ⟨M, ?_, fun g hg => ?_⟩
    · rw [e, List.length_append, List.getElem?_append_right (by omega)]
      rw [show (allTo r u N u).length + (allF r 0 (putN N (6 - r) u)).length - 1 - (allTo r u N u).length = (allF r 0 (putN N (6 - r) u)).length - 1 by omega]
      exact h1
    · rw [h2 g hg]
      by_cases e1 : g = 7 - (r + 1)
      · rw [if_neg (by omega), if_neg (by omega), if_pos e1, show 6 - r = g by omega, putN_same]
      · rw [if_neg e1]
        by_cases e2 : g = 7 - r
        · rw [if_pos e2, if_pos (by omega)]; rfl
        · rw [if_neg e2]
          by_cases e3 : 7 - r < g
          · rw [if_pos e3, if_pos (by omega)]
          · rw [if_neg e3, if_neg (by omega), putN_other N (by omega)]
theorem nextTo_none {A : List (Nat → Int)} {q : (Nat → Int) → Bool} {n : Nat} (h : ∀ i, i < n → q (A.getD i zeroC) = false) : nextTo A q n = none := by
  induction n with
  | zero => rfl
  | succ n ih =>
    unfold nextTo
    rw [if_neg (by rw [h n (by omega)]; decide)]
    exact ih fun i hi => h i (by omega)
theorem getD_of {A : List (Nat → Int)} {i : Nat} (h : i < A.length) : A[i]? = some (A.getD i zeroC) := by
  rw [List.getD_eq_getElem?_getD, List.getElem?_eq_getElem h]; rfl
theorem all8_iff {N M : Nat → Int} : ((List.range 8).all fun f => M f == N f) = true ↔ ∀ f, f < 8 → M f = N f := by
  rw [List.all_eq_true]
  exact ⟨fun h f hf => by simpa using h f (List.mem_range.2 hf), fun h f hf => by simpa using h f (List.mem_range.1 hf)⟩
/-- behind all in the first field there are none. -/
theorem next_last (u : Nat) (N : Nat → Int) (h0 : N 0 = u) (h : ∀ g, 0 < g → g < 8 → N g = 0) : nextO (u : Int) N = none := by
  unfold nextO
  rw [Int.toNat_natCast]
  obtain ⟨M, h1, h2⟩ := allF_last 7 (by omega) u fun _ => 0
  refine nextTo_none fun i hi => ?_
  rcases (Bool.eq_false_or_eq_true ((List.range 8).all fun f => (everyC u).getD i zeroC f == N f)).symm with e | e
  · exact e
  · have e' := all8_iff.1 e
    have := everyC_once (u := u) (getD_of (show i < (everyC u).length by omega)) h1 (fun g hg => by
      rw [e' g hg, h2 g hg]
      by_cases eg : g = 0
      · subst eg; rw [h0]; rfl
      · rw [h g (by omega) hg, if_neg (by omega), if_pos (by omega)])
    have hl : (allF 7 u fun _ => 0) = everyC u := rfl
    rw [hl] at this
    omega
/-- without a row all fit. -/
theorem fitB_nil (N : Nat → Int) : fitB [] N = true := rfl
theorem many_nil {u : Nat} (hu : u ≤ 6) : fitManyN (u : Int) [] = ((everyC u).length : Int) := by
  have e : fitFault (u : Int) [] = 0 := by unfold fitFault; rw [if_pos (by omega)]; rfl
  unfold fitManyN manyD
  rw [if_pos e, Int.toNat_natCast, List.drop_zero, List.filter_eq_self.2 fun M _ => fitB_nil M]
theorem least_nil {u : Nat} (hu : u ≤ 6) : leastFault (u : Int) [] = 0 ∧ leastN (u : Int) [] 7 = u := by
  have e : fitFault (u : Int) [] = 0 := by unfold fitFault; rw [if_pos (by omega)]; rfl
  obtain ⟨M, h1, h2⟩ := allF_head 7 u fun _ => 0
  have hl : (allF 7 u fun _ => 0) = everyC u := rfl
  rw [hl] at h1
  constructor
  · unfold leastFault
    have hp : 0 < (everyC u).length := (List.getElem?_eq_some_iff.1 h1).1
    rw [if_pos e, if_neg (by rw [many_nil hu]; omega)]
  · unfold leastN leastD
    rw [if_pos e, Int.toNat_natCast, List.drop_zero]
    cases hA : everyC u with
    | nil => rw [hA] at h1; simp at h1
    | cons B A =>
      rw [hA] at h1
      obtain rfl : B = M := by simpa using h1
      rw [List.find?_cons_of_pos (fitB_nil B)]
      exact h2

/-! ### none ahead fits -/
theorem fitB_same {l : List Rw} {N M : Nat → Int} (h : ∀ g, g < 8 → N g = M g) : fitB l N = fitB l M := by
  unfold fitB
  have : ∀ r : Rw, r.so N = r.so M := fun r => by unfold Rw.so; rw [sumT_same (fun _ _ => rfl) h]
  simp only [this]
theorem fitB_append (l m : List Rw) (N : Nat → Int) : fitB (l ++ m) N = (fitB l N && fitB m N) := by unfold fitB; rw [List.all_append]
theorem manyD_append (A : List (Nat → Int)) (l m : List Rw) (j : Nat) : manyD A (fitB (l ++ m)) j ≤ manyD A (fitB l) j := by
  unfold manyD
  have e : (A.drop j).filter (fitB (l ++ m)) = ((A.drop j).filter (fitB l)).filter (fitB m) := by
    rw [List.filter_filter]
    apply List.filter_congr
    intro N _
    rw [fitB_append, Bool.and_comm]
  rw [e]
  exact List.length_filter_le _ _
theorem manyD_all (A : List (Nat → Int)) (p : (Nat → Int) → Bool) : manyD A p 0 ≤ A.length := manyD_le A p 0
/-- where none fits, none of u things does. -/
theorem none_fits {u : Nat} {l : List Rw} (h : manyD (everyC u) (fitB l) 0 = 0) {N : Nat → Int} (h0 : ∀ g, g < 8 → 0 ≤ N g) (hs : sumN N 8 = u) : fitB l N = false := by
  obtain ⟨A, hA, hAN⟩ := everyC_all h0 hs
  rw [← fitB_same (l := l) hAN]
  rcases (Bool.eq_false_or_eq_true (fitB l A)).symm with e | e
  · exact e
  · unfold manyD at h
    rw [List.drop_zero] at h
    have hn := List.eq_nil_of_length_eq_zero h
    have : A ∈ (everyC u).filter (fitB l) := List.mem_filter.2 ⟨hA, e⟩
    rw [hn] at this
    cases this
/-- where some fit, the least is one of these, and fits. -/
theorem least_fits {u : Nat} {l : List Rw} (h : ¬ manyD (everyC u) (fitB l) 0 = 0) : leastD (everyC u) (fitB l) 0 ∈ everyC u ∧ fitB l (leastD (everyC u) (fitB l) 0) = true := by
  unfold leastD
  rw [List.drop_zero]
  cases e : (everyC u).find? (fitB l) with
  | none =>
    refine absurd ?_ h
    unfold manyD
    rw [List.drop_zero, List.filter_eq_nil_iff.2 fun M hM => by simpa using List.find?_eq_none.1 e M hM]
    rfl
  | some M => exact ⟨List.mem_of_find?_eq_some e, List.find?_some e⟩
/-- what fits is not ahead of the least. -/
theorem least_first {u : Nat} {l : List Rw} {N : Nat → Int} (h0 : ∀ g, g < 8 → 0 ≤ N g) (hs : sumN N 8 = u) (hf : fitB l N = true) {f : Nat} (hfl : f < 8) (he : ∀ g, g < f → N g = leastD (everyC u) (fitB l) 0 g) (hne : N f ≠ leastD (everyC u) (fitB l) 0 f) : leastD (everyC u) (fitB l) 0 f < N f := by
  obtain ⟨A, hA, hAN⟩ := everyC_all h0 hs
  have hfA : fitB l A = true := by rw [fitB_same hAN]; exact hf
  have hsrt := everyC_sorted u
  obtain ⟨X, hX⟩ : ∃ X, X = leastD (everyC u) (fitB l) 0 := ⟨_, rfl⟩
  rw [← hX] at he hne ⊢
  have key : aheadC X A ∨ ∀ g, g < 8 → X g = A g := by
    unfold leastD at hX
    rw [List.drop_zero] at hX
    cases e : (everyC u).find? (fitB l) with
    | none => exact absurd hfA (by simpa using List.find?_eq_none.1 e A hA)
    | some M =>
      rw [e] at hX
      have hXM : X = M := hX
      obtain ⟨hM, ats, bs, hab, has⟩ := List.find?_eq_some_iff_append.1 e
      rw [hab] at hA hsrt
      rcases List.mem_append.1 hA with h | h
      · have := has A h
        rw [hfA] at this
        simp at this
      · rcases List.mem_cons.1 h with h | h
        · right; intro g _; rw [hXM, h]
        · left
          rw [hXM]
          exact (List.pairwise_cons.1 (List.pairwise_append.1 hsrt).2.1).1 A h
  rcases key with ⟨d, hd, hde, hdl⟩ | h
  · have hAd := hAN
    rcases Nat.lt_trichotomy d f with h' | h' | h'
    · have := he d h'
      have := hAd d hd
      omega
    · subst h'
      rw [← hAN d hd]; exact hdl
    · have := hde f h'
      have := hAd f hfl
      omega
  · exact absurd ((hAN f hfl).symm.trans (h f hfl).symm) hne
end Go.Proofs.YtpdpnlpepfgknafGreatDoor
namespace Go.Proofs.YtpdpnlpepfgknafGreatDoor
open Go.RowKit

/-- the last of the first k fields that has any; 0, if none has. -/
def lastTo (N : Nat → Int) : Nat → Nat
  | 0 => 0
  | k + 1 => if 0 < N k then k else lastTo N k
theorem lastTo_lt (N : Nat → Int) (k : Nat) (h : lastTo N k ≠ 0) : lastTo N k < k := by
  induction k with
  | zero => exact absurd rfl h
  | succ k ih =>
    unfold lastTo at h ⊢
    split
    · omega
    · rename_i hn
      rw [if_neg hn] at h
      have := ih h
      omega
theorem lastTo_same {N M : Nat → Int} {k : Nat} (h : ∀ g, g < k → N g = M g) : lastTo N k = lastTo M k := by
  induction k with
  | zero => rfl
  | succ k ih => unfold lastTo; rw [h k (by omega), ih fun g hg => h g (by omega)]
theorem lastTo_has {N : Nat → Int} {k : Nat} (h : lastTo N k ≠ 0) : 0 < N (lastTo N k) := by
  induction k with
  | zero => exact absurd rfl h
  | succ k ih =>
    unfold lastTo at h ⊢
    split
    · rename_i hp; exact hp
    · rename_i hn
      rw [if_neg hn] at h
      exact ih h
/-- L the last that has any: the counts behind. -/
def afterL (N : Nat → Int) (L : Nat) : Nat → Int := putN (putN (putN N L 0) (L - 1) (N (L - 1) + 1)) 7 (N L - 1)
def afterN (N : Nat → Int) : Nat → Int := afterL N (lastTo N 8)
def afterO (N : Nat → Int) : Nat → Int := if lastTo N 8 = 0 then zeroC else afterN N
theorem afterN_same {N M : Nat → Int} (h : ∀ g, g < 8 → N g = M g) (hl : lastTo N 8 ≠ 0) : ∀ g, g < 8 → afterN N g = afterN M g := by
  intro g hg
  have hlt := lastTo_lt N 8 hl
  unfold afterN afterL
  rw [← lastTo_same h, h _ hlt, h (lastTo N 8 - 1) (by omega)]
  unfold putN
  rw [h g hg]
/-- each is behind the one ahead of it. -/
def stepsB : List (Nat → Int) → Bool
  | [] => true
  | M :: L => (match L with
    | [] => lastTo M 8 == 0
    | M' :: _ => lastTo M 8 != 0 && (List.range 8).all fun f => afterN M f == M' f) && stepsB L
theorem steps_all : ∀ u, u ≤ 6 → stepsB (everyC u) = true := by decide +kernel
theorem steps_at {A : List (Nat → Int)} (h : stepsB A = true) : ∀ {i : Nat} {M : Nat → Int}, A[i]? = some M →
    (lastTo M 8 ≠ 0 ∧ ∃ M', A[i + 1]? = some M' ∧ ∀ f, f < 8 → afterN M f = M' f) ∨ (lastTo M 8 = 0 ∧ i + 1 = A.length) := by
  induction A with
  | nil => intro i M hi; simp at hi
  | cons X L ih =>
    intro i M hi
    unfold stepsB at h
    rw [Bool.and_eq_true] at h
    cases i with
    | zero =>
      obtain rfl : X = M := by simpa using hi
      cases L with
      | nil =>
        have h1 := h.1
        simp only [beq_iff_eq] at h1
        exact Or.inr ⟨h1, rfl⟩
      | cons M' L =>
        have h1 := h.1
        simp only [Bool.and_eq_true, bne_iff_ne, ne_eq, List.all_eq_true, beq_iff_eq, List.mem_range] at h1
        exact Or.inl ⟨h1.1, M', rfl, h1.2⟩
    | succ i =>
      rcases ih h.2 (i := i) (M := M) (by simpa using hi) with ⟨a, M', b, c⟩ | ⟨a, b⟩
      · exact Or.inl ⟨a, M', by simpa using b, c⟩
      · exact Or.inr ⟨a, by simp [b]⟩
theorem every_steps {u : Nat} (hu : u ≤ 6) {i : Nat} {M : Nat → Int} (hi : (everyC u)[i]? = some M) :
    (lastTo M 8 ≠ 0 ∧ ∃ M', (everyC u)[i + 1]? = some M' ∧ ∀ f, f < 8 → afterN M f = M' f) ∨ (lastTo M 8 = 0 ∧ i + 1 = (everyC u).length) := steps_at (steps_all u hu) hi
theorem nextTo_one {A : List (Nat → Int)} {q : (Nat → Int) → Bool} {n j : Nat} (hj : j < n) (hq : q (A.getD j zeroC) = true) (h : ∀ i, i < n → q (A.getD i zeroC) = true → i = j) : nextTo A q n = some (A.getD (j + 1) zeroC) := by
  induction n with
  | zero => omega
  | succ n ih =>
    unfold nextTo
    by_cases e : n = j
    · subst e; rw [if_pos hq]
    · have : ¬ q (A.getD n zeroC) = true := fun hn => e (h n (by omega) hn)
      rw [if_neg this]
      exact ih (by omega) fun i hi hqi => h i (by omega) hqi
/-- what is told of the next ones, by the last that has any. -/
theorem next_after {u : Nat} (hu : u ≤ 6) {N : Nat → Int} (hf : countsFault N = 0) (hs : sumN N 8 = u) :
    nextFault (u : Int) N = (if lastTo N 8 = 0 then 5 else 0) ∧ ∀ g, g < 8 → nextN (u : Int) N g = afterO N g := by
  obtain ⟨A, hA, hAN⟩ := everyC_all (u := u) (fun g hg => ((counts_zero.1 hf).1 g hg).1) hs
  obtain ⟨i, hi⟩ := List.mem_iff_getElem?.1 hA
  have hil := (List.getElem?_eq_some_iff.1 hi).1
  have hl := lastTo_same (k := 8) hAN
  have huu : (0 : Int) ≤ (u : Int) ∧ (u : Int) ≤ 6 := by omega
  have hgi : (everyC u).getD i zeroC = A := by rw [List.getD_eq_getElem?_getD, hi]; rfl
  have honly : ∀ j, j < (everyC u).length → ((List.range 8).all fun f => (everyC u).getD j zeroC f == N f) = true → j = i := fun j hj hq =>
    everyC_once (u := u) (getD_of hj) hi fun g hg => ((all8_iff.1 hq) g hg).trans (hAN g hg).symm
  rcases every_steps hu hi with ⟨h0, M', hM', he⟩ | ⟨h0, he⟩
  · have hil2 := (List.getElem?_eq_some_iff.1 hM').1
    have hgM : (everyC u).getD (i + 1) zeroC = M' := by rw [List.getD_eq_getElem?_getD, hM']; rfl
    have ho : nextO (u : Int) N = some M' := by
      unfold nextO
      rw [Int.toNat_natCast, ← hgM]
      exact nextTo_one (by omega) (by rw [hgi]; exact all8_iff.2 hAN) fun j hj hq => honly j (by omega) hq
    have hnf : nextFault (u : Int) N = 0 := by unfold nextFault; rw [if_pos huu, if_pos hf, if_pos hs, ho]; rfl
    rw [hl] at h0
    refine ⟨by rw [if_neg h0]; exact hnf, fun g hg => ?_⟩
    unfold nextN afterO
    rw [if_pos hnf, if_neg h0, ho]
    show M' g = _
    rw [← he g hg]
    exact afterN_same hAN (by rw [hl]; exact h0) g hg
  · have ho : nextO (u : Int) N = none := by
      unfold nextO
      rw [Int.toNat_natCast]
      refine nextTo_none fun j hj => ?_
      rcases (Bool.eq_false_or_eq_true ((List.range 8).all fun f => (everyC u).getD j zeroC f == N f)).symm with e | e
      · exact e
      · have := honly j (by omega) e
        omega
    have hnf : nextFault (u : Int) N = 5 := by unfold nextFault; rw [if_pos huu, if_pos hf, if_pos hs, ho]; rfl
    rw [hl] at h0
    refine ⟨by rw [if_pos h0]; exact hnf, fun g _ => ?_⟩
    unfold nextN afterO
    rw [if_neg (by rw [hnf]; decide), if_pos h0]
end Go.Proofs.YtpdpnlpepfgknafGreatDoor

namespace Go.Proofs.YtpdpnlpepfgknafGreatDoor
open Go.RowKit

/-- whatever lay from block B on lies as it lay. -/
structure Over (B : Nat) (W W' : World) : Prop where
  size : W.heap.size ≤ W'.heap.size
  same : ∀ b, B ≤ b → b < W.heap.size → W'.heap[b]? = W.heap[b]?
theorem Over.refl (B : Nat) (W : World) : Over B W W := ⟨Nat.le_refl _, fun _ _ _ => rfl⟩
theorem Over.trans {B : Nat} {X Y Z : World} (h : Over B X Y) (k : Over B Y Z) : Over B X Z :=
  ⟨Nat.le_trans h.size k.size, fun b hb hl => (k.same b hb (Nat.lt_of_lt_of_le hl h.size)).trans (h.same b hb hl)⟩
theorem Over.mono {B B' : Nat} {W W' : World} (h : Over B W W') (hB : B ≤ B') : Over B' W W' := ⟨h.size, fun b hb hl => h.same b (Nat.le_trans hB hb) hl⟩
theorem Over.of_below {B : Nat} {W W' : World} (h : Below W.heap.size W W') : Over B W W' := ⟨h.size, fun b _ hl => h.block b hl⟩
theorem Over.alloc {B : Nat} {X W : World} (h : Over B X W) (o : Obj) : Over B X (W.alloc o) := h.trans (.of_below ((Below.refl _ _).alloc (Nat.le_refl _) _))
theorem Over.setCell {B : Nat} {X W : World} (h : Over B X W) {p : Addr} (hp : p.block < B) (u : Value) : Over B X (W.setCell p u) :=
  h.trans ⟨by simp [World.setCell], fun b hb _ => Below.heap_setCell _ _ _ _ (by omega)⟩
theorem Over.setNew {B : Nat} {X W : World} (h : Over B X W) {p : Addr} (hp : X.heap.size ≤ p.block) (u : Value) : Over B X (W.setCell p u) :=
  ⟨Nat.le_trans h.size (by simp [World.setCell]), fun b hb hl => (Below.heap_setCell _ _ _ _ (by omega)).trans (h.same b hb hl)⟩
theorem below_putObj {B l : Nat} (W : World) (o : Obj) (h : B ≤ l) : Below B W (W.putObj l o) :=
  ⟨rfl, rfl, rfl, by simp, fun k hk => World.putObj_heap_other (by omega)⟩

/-- the iterator's word: A, one behind the other, to whatever loop whose rounds leave alone what the iterator has made since. -/
def SeqG {α : Type} (n : Nat) (P : Program) (g : Nat) (lb : Array Value) (encs : α → Array Value) (A : List α) (W : World) : Prop :=
  ∀ (l : Nat) (J Jx : Nat → World → Prop),
    (∀ k W1 W2, J k W1 → Below W.heap.size W1 W2 → J k W2) →
    (∀ k x W1, A[k]? = some x → J k W1 → YieldAt Fence.wide (n - 1) P l (encs x) W1 fun e W' =>
      (e = .returned (.bool true) ∧ J (k + 1) W' ∧ Over W.heap.size W1 W') ∨ (e = .returned (.bool false) ∧ Jx (k + 1) W')) →
    J 0 W →
    CallsIn Fence.wide n P g (#[.func (.yield l) #[] #[]] ++ lb) W fun e W' => (∃ v, e = .returned v) ∧ (J A.length W' ∨ ∃ k, k < A.length ∧ Jx (k + 1) W')

/-- how a round's body may be left. -/
def roundPostG (B : Nat) (I Ix : Nat → World → Prop) (k : Nat) (W : World) : Exit → Act → World → Prop
  | .normal, _, W' => Over B W W' ∧ I (k + 1) W'
  | .ret, _, W' => Over B W W' ∧ Ix (k + 1) W'
  | _, _, _ => False

theorem wpIn_range_own {α : Type} {P : Program} {n : Nat} {g : Operand} {ps : Array Tmp} {assign body : Code} {Q : Exit → Act → World → Prop} {a : Act} {w : World}
    (h1 : 1 ≤ n) {gf : Nat} {lb : Array Value} (hg : a.eval g = .func (.func gf) #[] lb) (eg : ∀ args w, (callFunc gf args).run P w = .ok (.enter gf args) w)
    {encs : α → Array Value} {A : List α} (hseq : ∀ W, Below w.heap.size w W → SeqG (n - 1) P gf lb encs A W) (hps : ∀ x, (encs x).size = ps.size)
    (I Ix : Nat → World → Prop) (hI : ∀ k W1 W2, I k W1 → Below w.heap.size W1 W2 → I k W2) (hIx : ∀ k W1 W2, Ix k W1 → Below w.heap.size W1 W2 → Ix k W2) (h0 : I 0 w)
    (hround : ∀ (l k : Nat) (x : α) (W : World), A[k]? = some x → w.heap.size ≤ l → l < W.heap.size → I k W →
      assign.wpIn (Fence.wide.inRound l) (n - 1 - 1) P (Exit.then (fun a1 W1 => Over w.heap.size W W1 ∧ ∀ o, body.wpIn (Fence.wide.inRound l) (n - 1 - 1) P (roundPostG w.heap.size I Ix k (W1.putObj l o)) a1 (W1.putObj l o)) (fun _ _ _ => False))
        { tmps := (ps.zip (encs x)).foldl (fun t (p, v) => t.setIfInBounds p v) a.tmps, defers := [] } W)
    (hdone : ∀ (D : Nat) (W : World), w.heap.size ≤ D → I A.length W → W.heap[D]? = some (.deferred (some [])) → Q .normal { a with defers := { target := .collected D, args := #[] } :: a.defers } W)
    (hstop : ∀ (D k : Nat) (W : World), w.heap.size ≤ D → k < A.length → Ix (k + 1) W → W.heap[D]? = some (.deferred (some [])) → Code.ret.wpIn Fence.wide n P Q { a with defers := { target := .collected D, args := #[] } :: a.defers } W) :
    (Code.rangeFunc g ps assign body).wpIn Fence.wide n P Q a w := by
  refine wpIn_rangeFunc ?_
  intro fn hfn
  rw [show Fence.wide.round = none from rfl]
  obtain ⟨rec, hrec⟩ : ∃ rec : LoopState → Option Code → Loop, rec = fun st pe => { state := st, pending := pe, fn, tmps := a.tmps, params := ps, assign, body, defers := w.heap.size } := ⟨_, rfl⟩
  obtain ⟨W1, hW1⟩ : ∃ W1, (w.alloc (.deferred (some []))).alloc (.loop (rec .ready none)) = W1 := ⟨_, rfl⟩
  have hs1 : W1.heap.size = w.heap.size + 1 + 1 := by rw [← hW1, World.size_alloc, World.size_alloc]
  have hL1 : W1.heap[w.heap.size + 1]? = some (.loop (rec .ready none)) := by
    rw [← hW1]; have := World.alloc_heap_new (w.alloc (.deferred (some []))) (.loop (rec .ready none)); rwa [World.size_alloc] at this
  have hK1 : W1.heap[w.heap.size]? = some (.deferred (some [])) := by
    rw [← hW1]; exact (Below.heap_alloc _ _ _ (by simp)).trans (World.alloc_heap_new w _)
  have hb1 : Below w.heap.size w W1 := by
    rw [← hW1]; exact ((Below.refl _ w).alloc (Nat.le_refl _) _).alloc (by simp) _
  have hI1 : I 0 W1 := hI _ _ _ h0 hb1
  refine ⟨w.heap.size + 1, [{ target := .collected w.heap.size, args := #[] }], W1, { target := .fn (.func gf) lb, args := #[.func (.yield (w.heap.size + 1)) #[] #[]] }, W1, gf,
    #[.func (.yield (w.heap.size + 1)) #[] #[]] ++ lb, W1, ?_, ?_, ?_, ?_, fun _ => h1, ?_⟩
  · rw [← hW1, hrec]; exact run_enterLoop_outer _ _ _ _ _
  · simp only [resolve, hg]
    simp [go_sem]
  · intro f' _; exact trivial
  · simp [invoke, go_sem, eg]
  · refine (hseq W1 hb1 (w.heap.size + 1)
      (fun k W => I k W ∧ W.heap[w.heap.size + 1]? = some (.loop (rec .ready none)) ∧ W.heap[w.heap.size]? = some (.deferred (some [])))
      (fun k W => Ix k W ∧ W.heap[w.heap.size + 1]? = some (.loop (rec .done (some .ret))) ∧ W.heap[w.heap.size]? = some (.deferred (some [])))
      (fun k X Y hs hb => ⟨hI k X Y hs.1 (hb.mono (by omega)), (hb.block _ (by omega)).trans hs.2.1, (hb.block _ (by omega)).trans hs.2.2⟩)
      ?_ ⟨hI1, hL1, hK1⟩).mono ?_
    · rintro k x W hx ⟨hi, hl, hk⟩
      have hlt : w.heap.size + 1 < W.heap.size := (Array.getElem?_eq_some_iff.1 hl).1
      have hy := run_yield (P := P) (args := encs x) hl (by rw [hrec]; exact hps x)
      rw [hrec] at hy
      refine ⟨fn, _, assign, body, hy, roundIn_of_wpIn hfn (wpIn_mono (hround _ k x W hx (by omega) hlt hi) ?_)⟩
      intro e a1 Wa hp
      cases e with
      | normal =>
        obtain ⟨ha, hb⟩ := hp
        have hla : Wa.heap[w.heap.size + 1]? = some (.loop (rec .ready none)) := (ha.same _ (by omega) hlt).trans hl
        have hka : Wa.heap[w.heap.size]? = some (.deferred (some [])) := (ha.same _ (by omega) (by omega)).trans hk
        have hlta : w.heap.size + 1 < Wa.heap.size := (Array.getElem?_eq_some_iff.1 hla).1
        refine ⟨_, run_beginRound hla (by rw [hrec]), ?_⟩
        have hl2 : (Wa.putObj (w.heap.size + 1) (.loop { rec .ready none with state := .busy })).heap[w.heap.size + 1]? = some (.loop { rec .ready none with state := .busy }) := World.putObj_heap_same hlta
        have hk2 : (Wa.putObj (w.heap.size + 1) (.loop { rec .ready none with state := .busy })).heap[w.heap.size]? = some (.deferred (some [])) := (World.putObj_heap_other (by omega)).trans hka
        refine wpIn_mono (hb _) ?_
        have fin : ∀ (jump : Option Code) (W3 : World), Over w.heap.size (Wa.putObj (w.heap.size + 1) (.loop { rec .ready none with state := .busy })) W3 →
            (Instr.endRound (w.heap.size + 1) jump).run P W3 = .ok (.bool jump.isNone) (W3.putObj (w.heap.size + 1) (.loop (rec (if jump.isNone then .ready else .done) jump))) ∧
            (W3.putObj (w.heap.size + 1) (.loop (rec (if jump.isNone then .ready else .done) jump))).heap[w.heap.size + 1]? = some (.loop (rec (if jump.isNone then .ready else .done) jump)) ∧
            (W3.putObj (w.heap.size + 1) (.loop (rec (if jump.isNone then .ready else .done) jump))).heap[w.heap.size]? = some (.deferred (some [])) := fun jump W3 hk3 => by
          have hl3 := (hk3.same _ (by omega) (by simpa using hlta)).trans hl2
          have := run_endRound (P := P) jump hl3
          rw [hrec] at this ⊢
          exact ⟨this, World.putObj_heap_same (Array.getElem?_eq_some_iff.1 hl3).1, (World.putObj_heap_other (by omega)).trans ((hk3.same _ (by omega) (by simp; omega)).trans hk2)⟩
        rintro e a3 W3 hp
        cases e with
        | normal =>
          obtain ⟨hk3, hi3⟩ := hp
          obtain ⟨hr, hl4, hk4⟩ := fin none W3 hk3
          refine ⟨_, _, hr, .inl ⟨rfl, ⟨hI _ _ _ hi3 (below_putObj _ _ (by omega)), hl4, hk4⟩, ?_⟩⟩
          refine ⟨?_, fun b hb1 hb2 => ?_⟩
          · have := ha.size
            have := hk3.size
            simp at this
            simp
            omega
          · rw [hs1] at hb1
            have s1 := ha.size
            refine (World.putObj_heap_other (by omega)).trans ((hk3.same b (by omega) (by simp; omega)).trans ((World.putObj_heap_other (by omega)).trans (ha.same b (by omega) hb2)))
        | ret =>
          obtain ⟨hk3, hi3⟩ := hp
          obtain ⟨hr, hl4, hk4⟩ := fin (some .ret) W3 hk3
          exact ⟨_, _, hr, .inr ⟨rfl, hIx _ _ _ hi3 (below_putObj _ _ (by omega)), hl4, hk4⟩⟩
        | exit id => exact hp.elim
        | goto t => exact hp.elim
        | panic ch => exact hp.elim
        | outgrown => exact hp.elim
      | ret => exact hp.elim
      | exit id => exact hp.elim
      | goto t => exact hp.elim
      | panic ch => exact hp.elim
      | outgrown => exact hp.elim
    · rintro e W2 ⟨⟨v, rfl⟩, (⟨hi, hl, hk⟩ | ⟨k, hkl, hi, hl, hk⟩)⟩
      · exact ⟨none, _, by have := run_endLoop (P := P) hl (by rw [hrec]; simp); rw [hrec] at this; exact this, hdone _ _ (Nat.le_refl _) (hI _ _ _ hi (below_putObj _ _ (by omega))) ((World.putObj_heap_other (by omega)).trans hk)⟩
      · exact ⟨some .ret, _, by have := run_endLoop (P := P) hl (by rw [hrec]; simp); rw [hrec] at this; exact this, hstop _ k _ (Nat.le_refl _) hkl (hIx _ _ _ hi (below_putObj _ _ (by omega))) ((World.putObj_heap_other (by omega)).trans hk)⟩
end Go.Proofs.YtpdpnlpepfgknafGreatDoor
namespace Go.Proofs.YtpdpnlpepfgknafGreatDoor
open Go.ChangeShapes Go.WideShapes Go.ChangeAt Go.RowKit
set_option maxRecDepth 100000

theorem arr8_put (N : Nat → Int) {f : Nat} (hf : f < 8) (x : Int) : (arr8 N).setIfInBounds f (.int .i64 x) = arr8 (putN N f x) := by
  rcases eight hf with rfl | rfl | rfl | rfl | rfl | rfl | rfl | rfl <;> simp [arr8, putN]
theorem Blk.putN {w : World} {G : Nat} {T : TypeId} {N : Nat → Int} (h : Blk w G T (arr8 N)) {f : Nat} (hf : f < 8) (x : Int) : Blk (w.setCell ⟨G, f, none⟩ (.int .i64 x)) G T (arr8 (putN N f x)) := by
  have := h.set f (.int .i64 x)
  rw [arr8_put N hf] at this
  exact this
theorem Blk.at8 {w : World} {G : Nat} {T : TypeId} {N : Nat → Int} (h : Blk w G T (arr8 N)) {f : Nat} (hf : f < 8) : w.cell? ⟨G, f, none⟩ = some (.int .i64 (N f)) := by rw [h.cell, arr8_get _ hf]

set_option maxHeartbeats 4000000 in
theorem after_any (N : Nat → Int) (w : World) (hN : ∀ f, f < 8 → 0 ≤ N f ∧ N f ≤ 6) :
    Calls Tryz.prog 60 #[.agg #[.int .i64 (N 0), .int .i64 (N 1), .int .i64 (N 2), .int .i64 (N 3), .int .i64 (N 4), .int .i64 (N 5), .int .i64 (N 6), .int .i64 (N 7)]] w fun e w' => e = .returned (.tuple #[.agg (arr8 (afterO N)), .bool (!(lastTo N 8 == 0))]) ∧ Below w.heap.size w w' := by
  obtain ⟨Z, hZ⟩ : ∃ Z : Nat → Int, Z = zeroC := ⟨_, rfl⟩
  obtain ⟨w1, hw1⟩ : ∃ w1, w1 = (w.alloc (.cells #[.int .i64 (N 0), .int .i64 (N 1), .int .i64 (N 2), .int .i64 (N 3), .int .i64 (N 4), .int .i64 (N 5), .int .i64 (N 6), .int .i64 (N 7)] 64)).alloc (.cells #[.int .i64 0, .int .i64 0, .int .i64 0, .int .i64 0, .int .i64 0, .int .i64 0, .int .i64 0, .int .i64 0] 64) := ⟨_, rfl⟩
  have HW : Hid (Below w.heap.size w w1) := by unfold Hid; rw [hw1]; exact (below_alloc1 _ _).alloc (by simp) _
  have HK0 : Hid (Blk w1 w.heap.size 64 (arr8 N)) := by unfold Hid; rw [hw1]; exact (Blk.new _ _ _).old _
  have HK1 : Hid (Blk w1 (w.heap.size + 1) 64 (arr8 Z)) := by
    unfold Hid; rw [hw1, hZ]
    have := Blk.new (w.alloc (.cells (arr8 N) 64)) 64 (arr8 zeroC)
    simp only [World.size_alloc] at this
    exact this
  have HX : Hid (∀ k, k < 8 → w1.cell? ⟨w.heap.size, k, none⟩ = some (.int .i64 (N k))) := fun k hk => HK0.out.at8 hk
  have HN : Hid (∀ f, f < 8 → 0 ≤ N f ∧ N f ≤ 6) := hN
  have HZ : Hid (Z = zeroC) := hZ
  clear hN hZ
  go_enter Tryz.func60, Tryz.ntmps60
  go_wp2_with fail
  rw [← hw1]
  clear hw1
  go_loop [4, 7] (fun l i => ∃ k : Nat, k ≤ 8 ∧ i = .int .i64 k ∧ l = .int .i64 (lastTo N k)) (fun _ i => 8 - (intOf i).toNat)
  case atStart => exact ⟨0, Nat.zero_le _, rfl, rfl⟩
  case round =>
    obtain ⟨k, hk, rfl, rfl⟩ := hrel
    by_cases hlt : k < 8
    · have hc := HX.out k hlt
      have hp0 := HN.out k hlt
      obtain ⟨x, hx⟩ : ∃ x, x = N k := ⟨_, rfl⟩
      rw [← hx] at hc hp0
      have HXk : Hid (x = N k) := hx
      clear hx
      by_cases hp : 0 < x
      · have HS : Hid (lastTo N (k + 1) = k) := by unfold Hid lastTo; rw [if_pos (by rw [← HXk.out]; exact hp)]
        go_wp2
        go_round
        case rel => exact ⟨k + 1, by omega, by go_num, by rw [HS.out]⟩
        case measure => simp [intOf]; omega
      · have HS : Hid (lastTo N (k + 1) = lastTo N k) := by unfold Hid; rw [lastTo, if_neg (by rw [← HXk.out]; exact hp)]
        go_wp2
        go_round
        case rel => exact ⟨k + 1, by omega, by go_num, by rw [HS.out]⟩
        case measure => simp [intOf]; omega
    · obtain rfl : k = 8 := by omega
      have hL8 := lastTo_lt N 8
      have HO : Hid (afterO N = if lastTo N 8 = 0 then zeroC else afterL N (lastTo N 8)) := rfl
      obtain ⟨L, hL⟩ : ∃ L, L = lastTo N 8 := ⟨_, rfl⟩
      rw [← hL] at hL8 HO ⊢
      have HLL : Hid (L = lastTo N 8) := hL
      clear hL
      by_cases h0 : L = 0
      · subst h0
        have HO2 : Hid (afterO N = Z) := by unfold Hid; rw [HO.out, HZ.out]; rfl
        obtain ⟨r0, r1, r2, r3, r4, r5, r6, r7⟩ := HK1.out.cells8
        obtain ⟨f0, f1, f2, f3, f4, f5, f6, f7⟩ := HK1.out.frozen8
        go_wp2
        have hld := load8 (put8_blk HK1.out zeroC)
        refine bodyPost_ret (v := .tuple #[.agg (arr8 zeroC), .bool false]) ?_ rfl ⟨?_, ?_⟩
        · rw [results_cell_tmp rfl]
          unfold put8 at hld
          simp [asAddr, Result.andThen, hld, zeroC] at hld ⊢
        · rw [HO2.out, HZ.out, ← HLL.out]; rfl
        · exact put8_below HW.out (by omega) zeroC
      · obtain ⟨m, hm⟩ : ∃ m, L = m + 1 := ⟨L - 1, by omega⟩
        subst hm
        have hm8 : m + 1 < 8 := hL8 (by omega)
        clear hL8 h0
        have HO2 : Hid (afterO N = putN (putN (putN N (m + 1) 0) m (N m + 1)) 7 (N (m + 1) - 1)) := by
          unfold Hid; rw [HO.out, if_neg (by omega)]; rfl
        have eL : ((m + 1 : Nat) : Int) = (m : Int) + 1 := by omega
        rw [eL]
        clear eL
        have hx1 := HN.out (m + 1) hm8
        have hx2 := HN.out m (by omega)
        have c1 : w1.cell? ⟨w.heap.size, m + 1, none⟩ = some (.int .i64 (N (m + 1))) := HX.out _ hm8
        have z1 : w1.frozen? ⟨w.heap.size, m + 1, none⟩ = false := HK0.out.frozen _
        obtain ⟨x, hx⟩ : ∃ x, x = N (m + 1) := ⟨_, rfl⟩
        obtain ⟨y, hy⟩ : ∃ x, x = N m := ⟨_, rfl⟩
        rw [← hx] at c1 hx1
        rw [← hy] at hx2
        have HXx : Hid (x = N (m + 1)) := hx
        have HXy : Hid (y = N m) := hy
        clear hx hy
        obtain ⟨w2, hw2⟩ : ∃ w2, w2 = w1.setCell ⟨w.heap.size, m + 1, none⟩ (.int .i64 0) := ⟨_, rfl⟩
        have HB2 : Hid (Below w.heap.size w w2) := by unfold Hid; rw [hw2]; exact HW.out.setCell (by simp) _
        have H2 : Hid (Blk w2 w.heap.size 64 (arr8 (putN N (m + 1) 0))) := by unfold Hid; rw [hw2]; exact HK0.out.putN hm8 0
        have R2 : Hid (Blk w2 (w.heap.size + 1) 64 (arr8 Z)) := by unfold Hid; rw [hw2]; exact HK1.out.far (by omega) _ _
        go_upto_region 12 with fail
        rw [← hw2]
        clear hw2 c1 z1
        have c2 : w2.cell? ⟨w.heap.size, m, none⟩ = some (.int .i64 y) := by rw [H2.out.at8 (by omega), putN_other _ (by omega), HXy.out]
        have z2 : w2.frozen? ⟨w.heap.size, m, none⟩ = false := H2.out.frozen _
        obtain ⟨w3, hw3⟩ : ∃ w3, w3 = w2.setCell ⟨w.heap.size, m, none⟩ (.int .i64 (y + 1)) := ⟨_, rfl⟩
        have HB3 : Hid (Below w.heap.size w w3) := by unfold Hid; rw [hw3]; exact HB2.out.setCell (by simp) _
        have H3 : Hid (Blk w3 w.heap.size 64 (arr8 (putN (putN N (m + 1) 0) m (y + 1)))) := by unfold Hid; rw [hw3]; exact H2.out.putN (by omega) _
        have R3 : Hid (Blk w3 (w.heap.size + 1) 64 (arr8 Z)) := by unfold Hid; rw [hw3]; exact R2.out.far (by omega) _ _
        go_upto_region 13 with fail
        rw [← hw3]
        clear hw3 c2 z2
        have c3 := H3.out.at8 (f := 7) (by omega)
        have z3 : w3.frozen? ⟨w.heap.size, 7, none⟩ = false := H3.out.frozen _
        obtain ⟨w4, hw4⟩ : ∃ w4, w4 = w3.setCell ⟨w.heap.size, 7, none⟩ (.int .i64 (x - 1)) := ⟨_, rfl⟩
        have HB4 : Hid (Below w.heap.size w w4) := by unfold Hid; rw [hw4]; exact HB3.out.setCell (by simp) _
        obtain ⟨M, hM⟩ : ∃ M, M = afterO N := ⟨_, rfl⟩
        have H4 : Hid (Blk w4 w.heap.size 64 (arr8 M)) := by
          unfold Hid; rw [hw4, hM, HO2.out, ← HXx.out, ← HXy.out]; exact H3.out.putN (by omega) _
        have R4 : Hid (Blk w4 (w.heap.size + 1) 64 (arr8 Z)) := by unfold Hid; rw [hw4]; exact R3.out.far (by omega) _ _
        go_upto_region 14 with fail
        rw [← hw4]
        clear hw4 c3 z3
        have HM : Hid (M = afterO N) := hM
        clear hM
        obtain ⟨n0, n1, n2, n3, n4, n5, n6, n7⟩ := H4.out.cells8
        obtain ⟨r0, r1, r2, r3, r4, r5, r6, r7⟩ := R4.out.cells8
        obtain ⟨f0, f1, f2, f3, f4, f5, f6, f7⟩ := R4.out.frozen8
        go_wp2
        have hld := load8 (put8_blk R4.out M)
        refine bodyPost_ret (v := .tuple #[.agg (arr8 M), .bool true]) ?_ rfl ⟨?_, ?_⟩
        · rw [results_cell_tmp rfl]
          unfold put8 at hld
          simp [asAddr, Result.andThen, hld]
        · rw [← HM.out, ← HLL.out]; rfl
        · exact put8_below HB4.out (by omega) M
end Go.Proofs.YtpdpnlpepfgknafGreatDoor
