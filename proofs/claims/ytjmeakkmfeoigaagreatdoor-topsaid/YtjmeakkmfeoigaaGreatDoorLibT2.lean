/-
  Facts and contracts that the statement leans on.
-/
import Derived.Test.YtjmeakkmfeoigaaGreatDoorLibT1
namespace Go.Proofs.YtjmeakkmfeoigaaGreatDoor
open Go.RowKit
def pw (k : Nat) : Int := 2 ^ k
theorem pw_succ (k : Nat) : pw (k + 1) = 2 * pw k := by unfold pw; rw [Int.pow_succ]; omega
theorem pw_pos (k : Nat) : 1 ≤ pw k := by
 induction k with
 | zero => decide
 | succ k ih => rw [pw_succ]; omega
def pcTo (s : Int) : Nat → Int
 | 0 => 0
 | k + 1 => pcTo s k + if hasB s k = true then 1 else 0
def inB (what : Int) (x y : Bool) : Bool := if what = 5 then x || y else if what = 6 then x && y else if what = 7 then x && !y else if what = 8 then !x else false
def doTo (what a b : Int) : Nat → Int
 | 0 => 0
 | k + 1 => doTo what a b k + if inB what (hasB a k) (hasB b k) = true then pw k else 0
end Go.Proofs.YtjmeakkmfeoigaaGreatDoor