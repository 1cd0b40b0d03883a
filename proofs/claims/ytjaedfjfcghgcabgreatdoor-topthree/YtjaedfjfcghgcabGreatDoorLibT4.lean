/-
  Plain facts on the reference's value of a term, thing by thing, and on the nine letters. No program is read here.
-/
import Derived.Test.YtjaedfjfcghgcabGreatDoorLibT3
namespace Go.Proofs.YtjaedfjfcghgcabGreatDoor
open Go.RowKit

theorem has_do {what u a b : Int} (hl : 5 ≤ what) (hm : what ≤ 8) (ha : okB u a = true) (hb : okB u b = true) (i : Nat) (hi : (i : Int) < u) : hasB (doN what u a b) i = inB what (hasB a i) (hasB b i) := by
  have hd : what = 5 ∨ what = 6 ∨ what = 7 ∨ what = 8 := by omega
  have hj : i < u.toNat := by omega
  rcases hd with rfl | rfl | rfl | rfl
  · exact uptoSets (P := fun u a b => ∀ i < u.toNat, hasB (doN 5 u a b) i = inB 5 (hasB a i) (hasB b i)) (by decide +kernel) u a b ha hb i hj
  · exact uptoSets (P := fun u a b => ∀ i < u.toNat, hasB (doN 6 u a b) i = inB 6 (hasB a i) (hasB b i)) (by decide +kernel) u a b ha hb i hj
  · exact uptoSets (P := fun u a b => ∀ i < u.toNat, hasB (doN 7 u a b) i = inB 7 (hasB a i) (hasB b i)) (by decide +kernel) u a b ha hb i hj
  · exact uptoSets (P := fun u a b => ∀ i < u.toNat, hasB (doN 8 u a b) i = inB 8 (hasB a i) (hasB b i)) (by decide +kernel) u a b ha hb i hj
theorem has_none (i : Nat) : hasB 0 i = false := by simp [hasB]

theorem has_opp {w : Wd} (h : w.ok = true) {n : Nat} {t : List Int} (ht : isTm n t) (i : Nat) (hi : (i : Int) < w.u) : hasB (w.val (t ++ [8])) i = !hasB (w.val t) i := by
  rw [val_opp w ht]
  exact has_do (by omega) (by omega) (ok_val h t) (ok_val h t) i hi
theorem has_two {w : Wd} (h : w.ok = true) {s : Int} (h5 : 5 ≤ s) (h7 : s ≤ 7) {n m : Nat} {a b : List Int} (ha : isTm n a) (hb : isTm m b) (i : Nat) (hi : (i : Int) < w.u) : hasB (w.val (a ++ (b ++ [s]))) i = inB s (hasB (w.val a) i) (hasB (w.val b) i) := by
  rw [val_bin w h5 h7 ha hb]
  exact has_do (by omega) (by omega) (ok_val h a) (ok_val h b) i hi
theorem has_leaf {w : Wd} (h : w.ok = true) (s : Int) (h0 : 0 ≤ s) (h4 : s ≤ 4) (i : Nat) (hi : (i : Int) < w.u) : hasB (w.val [s]) i = if s < 3 then hasB (w.name s) i else s == 4 := by
  have z := ok_zero (ok_u h).1 (ok_u h).2
  rw [val_leaf w s h4]
  unfold Wd.made
  by_cases h3 : s < 3
  · rw [if_pos h3, if_pos h3]
  rw [if_neg h3, if_neg h3]
  by_cases h3' : s = 3
  · subst h3'; rw [if_pos rfl]; exact has_none i
  obtain rfl : s = 4 := by omega
  rw [if_neg h3', if_pos rfl, has_do (by omega) (by omega) z z i hi, has_none]; rfl

/-- the value of a set, thing by thing, of the first k. -/
def sumTo (v : Int) : Nat → Int
  | 0 => 0
  | k + 1 => sumTo v k + if hasB v k = true then pw k else 0
/-! ### the letters -/
/-- the bytes of the signs, one by one. -/
def letterL : List UInt8 := [65, 66, 67, 48, 49, 43, 42, 45, 126]
def letterB : ByteArray := ⟨#[65, 66, 67, 48, 49, 43, 42, 45, 126]⟩
/-- which sign a byte is; -1: none. -/
def signOf (b : UInt8) : Int := if b = 65 then 0 else if b = 66 then 1 else if b = 67 then 2 else if b = 48 then 3 else if b = 49 then 4 else if b = 43 then 5 else if b = 42 then 6 else if b = 45 then 7 else if b = 126 then 8 else -1
/-- the byte of a sign. -/
def byteOf (s : Int) : UInt8 := if s = 0 then 65 else if s = 1 then 66 else if s = 2 then 67 else if s = 3 then 48 else if s = 4 then 49 else if s = 5 then 43 else if s = 6 then 42 else if s = 7 then 45 else 126
theorem nine {s : Int} (h : signB s = true) : s = 0 ∨ s = 1 ∨ s = 2 ∨ s = 3 ∨ s = 4 ∨ s = 5 ∨ s = 6 ∨ s = 7 ∨ s = 8 := by
  have := signB_iff.1 h; omega
/-- a term as a text; a text as signs. -/
def textN (t : List Int) : List UInt8 := t.map byteOf
def readN (l : List UInt8) : List Int := l.map signOf
def lettersB (l : List UInt8) : Bool := l.all fun b => signOf b != -1
/-- what is wrong with a text. -/
def textFault (l : List UInt8) : Int := if lettersB l = true then faultN (readN l) else 2
end Go.Proofs.YtjaedfjfcghgcabGreatDoor

