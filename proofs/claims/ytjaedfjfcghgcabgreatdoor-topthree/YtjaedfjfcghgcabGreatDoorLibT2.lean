/-
  Plain facts for the reference functions of chapter 1 (powers of 2, things of a set one by one): no program is read here.
-/
import Derived.Test.YtjaedfjfcghgcabGreatDoorLibT1
namespace Go.Proofs.YtjaedfjfcghgcabGreatDoor
open Go.RowKit

/-- 2 to the k. -/
def pw (k : Nat) : Int := 2 ^ k
theorem pw_succ (k : Nat) : pw (k + 1) = 2 * pw k := by unfold pw; rw [Int.pow_succ]; omega
theorem pw_pos (k : Nat) : 1 ≤ pw k := by
  induction k with
  | zero => decide
  | succ k ih => rw [pw_succ]; omega
/-- the things of a set, one by one, of the first k. -/
def pcTo (s : Int) : Nat → Int
  | 0 => 0
  | k + 1 => pcTo s k + if hasB s k = true then 1 else 0
/-- is a thing in what is done to two sets? -/
def inB (what : Int) (x y : Bool) : Bool := if what = 5 then x || y else if what = 6 then x && y else if what = 7 then x && !y else if what = 8 then !x else false
def doTo (what a b : Int) : Nat → Int
  | 0 => 0
  | k + 1 => doTo what a b k + if inB what (hasB a k) (hasB b k) = true then pw k else 0
end Go.Proofs.YtjaedfjfcghgcabGreatDoor

