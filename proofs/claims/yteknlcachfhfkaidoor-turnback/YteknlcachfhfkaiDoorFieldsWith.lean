/-
  Proved: what fields.with returns; what was in memory is as it was (a contract that the statements lean on).
-/
import Derived.Test.YteknlcachfhfkaiDoorFieldsMath
import Derived.Test.YteknlcachfhfkaiDoorTermValue
import Derived.Test.YteknlcachfhfkaiDoorTermCheck
import Derived.Handy
namespace Go.Proofs.YteknlcachfhfkaiDoor
open Go.ChangeShapes Go.WideShapes Go.ChangeAt Go.RowKit

theorem bit_at (s : Int) (i : Nat) (h0 : 0 ≤ s) (h1 : s < 256) (hi : i < 8) : bits .and .i64 (s / 2 ^ i) 1 = oneB (hasB s i) := by
  have e : ∀ n : Nat, n < 256 → ∀ i : Nat, i < 8 → bits .and .i64 ((n : Int) / 2 ^ i) 1 = oneB (hasB n i) := by decide +kernel
  obtain ⟨n, rfl⟩ := Int.eq_ofNat_of_zero_le h0
  exact e n (by omega) i hi
theorem or_more {n : Nat} {a : Int} (h : okB n a = true) (h5 : n ≤ 5) (x : Bool) : bits .or .i64 a (wrap64 (oneB x * 2 ^ n)) = a + oneB x * pw n := by
  have e := uptoSets (P := fun u a _ => u ≤ 5 → ∀ x, bits .or .i64 a (wrap64 (oneB x * 2 ^ u.toNat)) = a + oneB x * pw u.toNat) (by decide +kernel) n a a h h (by omega) x
  simpa using e
theorem and_bit : ∀ f : Nat, f < 8 → bits .and .i64 (f : Int) 1 = oneB (bitB f 0) ∧ bits .and .i64 ((f : Int) / 2) 1 = oneB (bitB f 1) ∧ bits .and .i64 ((f : Int) / 4) 1 = oneB (bitB f 2) := by decide +kernel

end Go.Proofs.YteknlcachfhfkaiDoor
