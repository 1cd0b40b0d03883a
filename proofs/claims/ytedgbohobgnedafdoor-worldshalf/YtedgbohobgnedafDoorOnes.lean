/-
  Proved: what math/bits.OnesCount returns, of a number of at most six bits, and that it leaves memory as it was (a contract that the statements lean on).
-/
import Derived.Test.YtedgbohobgnedafDoorSetsDo
namespace Go.Proofs.YtedgbohobgnedafDoor
open Go.ChangeShapes Go.WideShapes Go.ChangeAt Go.RowKit

theorem ones64_any (x : Int) (h0 : 0 ≤ x) (h1 : x < 64) (w : World) :
    Calls Tryd.prog 77 #[.int .u64 x] w fun e w' => e = .returned (.int .i64 (pcN x)) ∧ w = w' := by
  go_enter Tryd.func77, Tryd.ntmps77
  go_wp2
  go_ret
  refine ⟨ret_int ?_, rfl⟩
  revert h1 h0
  intro h0 h1
  obtain ⟨n, rfl⟩ := Int.eq_ofNat_of_zero_le h0
  have h : n < 64 := by omega
  clear h0 h1
  revert n
  decide +kernel

theorem ones_any (x : Int) (h0 : 0 ≤ x) (h1 : x < 64) (w : World) :
    Calls Tryd.prog 74 #[.int .u64 x] w fun e w' => e = .returned (.int .i64 (pcN x)) ∧ w = w' := by
  go_enter Tryd.func74, Tryd.ntmps74
  go_wp2_with (go_at_call 77; refine (ones64_any _ h0 h1 _).mono ?_; rintro e w' ⟨rfl, rfl⟩)
  go_ret
  exact ⟨rfl, rfl⟩
end Go.Proofs.YtedgbohobgnedafDoor
