/-
  Plain facts for the reference functions of chapter 1 (powers of 2, things of a set one by one): no program is read here.
-/
import Derived.Test.YteknlcachfhfkaiDoorSetsMath
namespace Go.Proofs.YteknlcachfhfkaiDoor
open Go.RowKit

/-- 2 to the k. -/
def pw (k : Nat) : Int := 2 ^ k
theorem pw_succ (k : Nat) : pw (k + 1) = 2 * pw k := by unfold pw; rw [Int.pow_succ]; omega
theorem pw_pos (k : Nat) : 1 ≤ pw k := by
  induction k with
  | zero => decide
  | succ k ih => rw [pw_succ]; omega
theorem pw_mono {k l : Nat} (h : k ≤ l) : pw k ≤ pw l := by
  induction l with
  | zero => obtain rfl : k = 0 := by omega
            exact Int.le_refl _
  | succ l ih =>
    rcases Nat.lt_or_ge l k with h' | h'
    · obtain rfl : k = l + 1 := by omega
      exact Int.le_refl _
    · have := ih h'
      have := pw_pos l
      rw [pw_succ]; omega
theorem pw_le61 {k : Nat} (h : k ≤ 61) : pw k ≤ 2305843009213693952 := pw_mono h
theorem pw_le6 {k : Nat} (h : k ≤ 6) : pw k ≤ 64 := pw_mono h
theorem allN_pw (u : Int) : allN u = pw u.toNat - 1 := rfl
theorem hasB_pw (s i : Int) : hasB s i = decide (s / pw i.toNat % 2 = 1) := rfl

/-- the things of a set, one by one, of the first k. -/
def pcTo (s : Int) : Nat → Int
  | 0 => 0
  | k + 1 => pcTo s k + if hasB s k = true then 1 else 0
theorem pcTo_le (s : Int) (k : Nat) : 0 ≤ pcTo s k ∧ pcTo s k ≤ k := by
  induction k with
  | zero => exact ⟨Int.le_refl _, Int.le_refl _⟩
  | succ k ih => unfold pcTo; split <;> omega
theorem pcTo_six (s : Int) (h0 : 0 ≤ s) (h1 : s < 64) : pcTo s 6 = pcN s :=
  upto64 (P := fun s => pcTo s 6 = pcN s) (by decide +kernel) s h0 h1

/-- is a thing in what is done to two sets? -/
def inB (what : Int) (x y : Bool) : Bool := if what = 5 then x || y else if what = 6 then x && y else if what = 7 then x && !y else if what = 8 then !x else false
def doTo (what a b : Int) : Nat → Int
  | 0 => 0
  | k + 1 => doTo what a b k + if inB what (hasB a k) (hasB b k) = true then pw k else 0
theorem doTo_le (what a b : Int) (k : Nat) : 0 ≤ doTo what a b k ∧ doTo what a b k < pw k := by
  induction k with
  | zero => exact ⟨Int.le_refl _, show (0 : Int) < pw 0 by decide⟩
  | succ k ih =>
    have := pw_pos k
    unfold doTo
    rw [pw_succ]
    split <;> omega
theorem doTo_do (what u a b : Int) (hl : 5 ≤ what) (hm : what ≤ 8) (ha : okB u a = true) (hb : okB u b = true) : doTo what a b u.toNat = doN what u a b := by
  have hd : what = 5 ∨ what = 6 ∨ what = 7 ∨ what = 8 := by omega
  rcases hd with rfl | rfl | rfl | rfl
  · exact uptoSets (P := fun u a b => doTo 5 a b u.toNat = doN 5 u a b) (by decide +kernel) u a b ha hb
  · exact uptoSets (P := fun u a b => doTo 6 a b u.toNat = doN 6 u a b) (by decide +kernel) u a b ha hb
  · exact uptoSets (P := fun u a b => doTo 7 a b u.toNat = doN 7 u a b) (by decide +kernel) u a b ha hb
  · exact uptoSets (P := fun u a b => doTo 8 a b u.toNat = doN 8 u a b) (by decide +kernel) u a b ha hb

theorem wrap_fit (n : Int) (h0 : 0 ≤ n) (h1 : n ≤ 9223372036854775807) : wrap64 n = n := by unfold wrap64; omega
/-- how the walk spells s / 2^i % 2 == 1. -/
theorem has_spell (s : Int) (i : Nat) (h0 : 0 ≤ s) (h1 : s ≤ 9223372036854775807) : ((wrap64 (s.tdiv (pw i))).tmod 2 == 1) = hasB s i := by
  have hp := pw_pos i
  have hd : 0 ≤ s / pw i := Int.ediv_nonneg h0 (by omega)
  have hle : s / pw i ≤ s := Int.ediv_le_self _ h0
  rw [Int.tdiv_eq_ediv_of_nonneg h0, wrap_fit _ (by omega) (by omega), Int.tmod_eq_emod_of_nonneg hd, hasB_pw, Int.toNat_natCast]
  rfl
theorem has_spell2 (s : Int) (i : Nat) (h0 : 0 ≤ s) : ((s / pw i).tmod 2 == 1) = hasB s i := by
  have hp := pw_pos i
  have hd : 0 ≤ s / pw i := Int.ediv_nonneg h0 (by omega)
  rw [Int.tmod_eq_emod_of_nonneg hd, hasB_pw, Int.toNat_natCast]
  rfl
end Go.Proofs.YteknlcachfhfkaiDoor
