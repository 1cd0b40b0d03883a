/-
  Proved: what fields.with returns; what was in memory is as it was (a contract that the statements lean on).
-/
import Derived.Test.YtgkgbpbohgklhafDoorFieldsMath
import Derived.Test.YtgkgbpbohgklhafDoorTermValue
import Derived.Test.YtgkgbpbohgklhafDoorTermCheck
import Derived.Handy
namespace Go.Proofs.YtgkgbpbohgklhafDoor
open Go.ChangeShapes Go.WideShapes Go.ChangeAt Go.RowKit

theorem bit_at (s : Int) (i : Nat) (h0 : 0 ≤ s) (h1 : s < 256) (hi : i < 8) : bits .and .i64 (s / 2 ^ i) 1 = oneB (hasB s i) := by
  have e : ∀ n : Nat, n < 256 → ∀ i : Nat, i < 8 → bits .and .i64 ((n : Int) / 2 ^ i) 1 = oneB (hasB n i) := by decide +kernel
  obtain ⟨n, rfl⟩ := Int.eq_ofNat_of_zero_le h0
  exact e n (by omega) i hi
theorem or_more {n : Nat} {a : Int} (h : okB n a = true) (h5 : n ≤ 5) (x : Bool) : bits .or .i64 a (wrap64 (oneB x * 2 ^ n)) = a + oneB x * pw n := by
  have e := uptoSets (P := fun u a _ => u ≤ 5 → ∀ x, bits .or .i64 a (wrap64 (oneB x * 2 ^ u.toNat)) = a + oneB x * pw u.toNat) (by decide +kernel) n a a h h (by omega) x
  simpa using e
theorem and_bit : ∀ f : Nat, f < 8 → bits .and .i64 (f : Int) 1 = oneB (bitB f 0) ∧ bits .and .i64 ((f : Int) / 2) 1 = oneB (bitB f 1) ∧ bits .and .i64 ((f : Int) / 4) 1 = oneB (bitB f 2) := by decide +kernel

set_option maxRecDepth 100000 in
set_option maxHeartbeats 4000000 in
theorem with_field (n : Nat) (a b c : Int) (f : Nat) (hok : (Wd.mk n a b c).ok = true) (h5 : n ≤ 5) (hf : f < 8) (w : World) :
    Calls Tryd.prog 74 #[.agg #[.int .i64 n, .int .i64 a, .int .i64 b, .int .i64 c], .int .i64 f] w fun e w' => e = .returned (((Wd.mk n a b c).more f).v) ∧ Below w.heap.size w w' := by
  have HV : Hid (Value.agg #[.int .i64 ((n : Int) + 1), .int .i64 (bits .or .i64 a (wrap64 (bits .and .i64 (f : Int) 1 * 2 ^ n))), .int .i64 (bits .or .i64 b (wrap64 (bits .and .i64 ((f : Int) / 2) 1 * 2 ^ n))), .int .i64 (bits .or .i64 c (wrap64 (bits .and .i64 ((f : Int) / 4) 1 * 2 ^ n)))] = ((Wd.mk n a b c).more f).v) := by
    obtain ⟨h1, h2, h3⟩ := Wd.ok_iff.1 hok
    obtain ⟨e1, e2, e3⟩ := and_bit f hf
    unfold Hid
    rw [e1, e2, e3, or_more h1 h5, or_more h2 h5, or_more h3 h5]
    rfl
  clear hok
  go_enter Tryd.func74, Tryd.ntmps74
  go_wp2
  refine wp_loop_rounds 4 ?_
  rw [rounds_succ]
  go_wp2
  go_region
  go_wp2
  rw [rounds_succ]
  go_wp2
  go_region
  go_wp2
  rw [rounds_succ]
  go_wp2
  go_region
  go_wp2
  rw [rounds_succ]
  go_wp2
  go_returns
  exact ⟨back_v HV.out, by go_grown⟩
end Go.Proofs.YtgkgbpbohgklhafDoor
