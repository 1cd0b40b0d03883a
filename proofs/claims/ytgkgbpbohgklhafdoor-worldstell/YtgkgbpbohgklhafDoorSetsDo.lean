/-
  Proved: what sets.Check and sets.Do return, of any numbers, and that it leaves memory as it was (contracts that the statements lean on).
-/
import Derived.Test.YtgkgbpbohgklhafDoorRows
import Derived.Test.YtgkgbpbohgklhafDoorSetsMath
import Derived.WalkKit
import Derived.ProofKit
import Derived.OpenShut
namespace Go.Proofs.YtgkgbpbohgklhafDoor
open Go.ChangeShapes Go.WideShapes Go.ChangeAt Go.RowKit

theorem ret_int {k : IntKind} {a b : Int} (h : a = b) : Ending.returned (.int k a) = .returned (.int k b) := by rw [h]

theorem all_any (u : Int) (h0 : 0 ≤ u) (h1 : u ≤ 6) (w : World) :
    Calls Tryd.prog 63 #[.int .i64 u] w fun e w' => e = .returned (.int .i64 (allN u)) ∧ w = w' := by
  rcases seven h0 h1 with rfl | rfl | rfl | rfl | rfl | rfl | rfl
  all_goals
    go_enter Tryd.func63, Tryd.ntmps63
    go_wp2
    go_ret
    exact ⟨rfl, rfl⟩

theorem check_ok (u s : Int) (h : okB u s = true) (w : World) :
    Calls Tryd.prog 43 #[.int .i64 u, .int .i64 s] w fun e w' => e = .returned .nilIface ∧ w = w' := by
  obtain ⟨h0, h1, h2, h3⟩ := okB_iff.1 h
  clear h
  go_enter Tryd.func43, Tryd.ntmps43
  go_wp2_with (go_at_call 63; refine (all_any _ h0 h1 _).mono ?_; rintro e w' ⟨rfl, rfl⟩)
  go_ret
  exact ⟨rfl, rfl⟩

theorem check_no (u s : Int) (h : okB u s = false) (w : World) :
    Calls Tryd.prog 43 #[.int .i64 u, .int .i64 s] w fun e w' => e = .returned (.iface 59 (.int .i64 1)) ∧ w = w' := by
  have h' := okB_not.1 h
  clear h
  by_cases h0 : u < 0
  · clear h'
    go_enter Tryd.func43, Tryd.ntmps43
    go_wp2_with fail
    go_ret
    exact ⟨rfl, rfl⟩
  by_cases h1 : 6 < u
  · clear h'
    go_enter Tryd.func43, Tryd.ntmps43
    go_wp2_with fail
    go_ret
    exact ⟨rfl, rfl⟩
  by_cases h2 : s < 0
  · clear h'
    go_enter Tryd.func43, Tryd.ntmps43
    go_wp2_with fail
    go_ret
    exact ⟨rfl, rfl⟩
  have h3 : allN u < s := by omega
  have h0' : 0 ≤ u := by omega
  have h1' : u ≤ 6 := by omega
  clear h'
  go_enter Tryd.func43, Tryd.ntmps43
  go_wp2_with (go_at_call 63; refine (all_any _ h0' h1' _).mono ?_; rintro e w' ⟨rfl, rfl⟩)
  go_ret
  exact ⟨rfl, rfl⟩

theorem ret_two {k : IntKind} {a b : Int} {v : Value} (h : a = b) : Ending.returned (.tuple #[.int k a, v]) = .returned (.tuple #[.int k b, v]) := by rw [h]

theorem do_ok (what u a b : Int) (hl : 5 ≤ what) (hm : what ≤ 8) (ha : okB u a = true) (hb : okB u b = true) (w : World) :
    Calls Tryd.prog 89 #[.int .i64 what, .int .i64 u, .int .i64 a, .int .i64 b] w fun e w' => e = .returned (.tuple #[.int .i64 (doN what u a b), .nilIface]) ∧ w = w' := by
  obtain ⟨u0, u1, a0, a1⟩ := okB_lt ha
  obtain ⟨_, _, b0, b1⟩ := okB_lt hb
  have hd : what = 5 ∨ what = 6 ∨ what = 7 ∨ what = 8 := by omega
  clear hl hm
  rcases hd with rfl | rfl | rfl | rfl
  · go_enter Tryd.func89, Tryd.ntmps89
    go_wp2_with (go_at_call 43; refine (check_ok _ _ ?_ _).mono ?_; assumption; rintro e w' ⟨rfl, rfl⟩)
    go_ret2
    exact ⟨ret_two (or_bits a b a0 a1 b0 b1), rfl⟩
  · go_enter Tryd.func89, Tryd.ntmps89
    go_wp2_with (go_at_call 43; refine (check_ok _ _ ?_ _).mono ?_; assumption; rintro e w' ⟨rfl, rfl⟩)
    go_ret2
    exact ⟨ret_two (and_bits a b a0 a1 b0 b1), rfl⟩
  · go_enter Tryd.func89, Tryd.ntmps89
    go_wp2_with (go_at_call 43; refine (check_ok _ _ ?_ _).mono ?_; assumption; rintro e w' ⟨rfl, rfl⟩)
    go_ret2
    exact ⟨ret_two (less_bits a b a0 a1 b0 b1), rfl⟩
  · go_enter Tryd.func89, Tryd.ntmps89
    go_wp2_with (first | (go_at_call 43; refine (check_ok _ _ ?_ _).mono ?_; assumption; rintro e w' ⟨rfl, rfl⟩) | (go_at_call 63; refine (all_any _ u0 u1 _).mono ?_; rintro e w' ⟨rfl, rfl⟩))
    go_ret2
    have hu := allN_le u0 u1
    exact ⟨ret_two (less_bits (allN u) a hu.1 (by omega) a0 a1), rfl⟩

theorem do_no (what u a b : Int) (h : okB u a = false ∨ okB u b = false ∨ what < 5 ∨ 8 < what) (w : World) :
    Calls Tryd.prog 89 #[.int .i64 what, .int .i64 u, .int .i64 a, .int .i64 b] w fun e w' => e = .returned (.tuple #[.int .i64 0, .iface 59 (.int .i64 1)]) ∧ w = w' := by
  by_cases ha : okB u a = false
  · clear h
    go_enter Tryd.func89, Tryd.ntmps89
    go_wp2_with (go_at_call 43; refine (check_no _ _ ha _).mono ?_; rintro e w' ⟨rfl, rfl⟩)
    go_ret2
    exact ⟨rfl, rfl⟩
  have ha' : okB u a = true := by simpa using ha
  by_cases hb : okB u b = false
  · clear h ha
    go_enter Tryd.func89, Tryd.ntmps89
    go_wp2_with (go_at_call 43; (first | (refine (check_ok _ _ ?_ _).mono ?_; assumption) | (refine (check_no _ _ ?_ _).mono ?_; assumption)); rintro e w' ⟨rfl, rfl⟩)
    go_ret2
    exact ⟨rfl, rfl⟩
  have hb' : okB u b = true := by simpa using hb
  have hw : what < 5 ∨ 8 < what := by simpa [ha', hb'] using h
  clear ha hb h
  rcases hw with hw | hw
  all_goals
    go_enter Tryd.func89, Tryd.ntmps89
    go_wp2_with (go_at_call 43; refine (check_ok _ _ ?_ _).mono ?_; assumption; rintro e w' ⟨rfl, rfl⟩)
    go_ret2
    exact ⟨rfl, rfl⟩
end Go.Proofs.YtgkgbpbohgklhafDoor
