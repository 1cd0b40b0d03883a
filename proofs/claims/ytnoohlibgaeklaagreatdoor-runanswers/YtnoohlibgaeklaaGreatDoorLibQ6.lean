/-
  Facts and contracts that the statement leans on.
-/
import Derived.Test.YtnoohlibgaeklaaGreatDoorLibQ4
namespace Go.Proofs.YtnoohlibgaeklaaGreatDoor
open Go.ChangeShapes Go.WideShapes Go.ChangeAt Go.RowKit
set_option maxRecDepth 100000
set_option maxHeartbeats 16000000
theorem kindOf_none (b cap : Nat) (L : Nat) (x : ByteArray) (w : World) (hK : KindsLaid w) (h0 : w.cell? ⟨b, 0, none⟩ = some (.string x)) (h1 : 0 < L) (q1 : ([115, 117, 98] == x.toList) = false) (q2 : ([115, 97, 109, 101] == x.toList) = false) (q3 : ([108, 101, 97, 115, 116] == x.toList) = false) (q4 : ([109, 111, 115, 116] == x.toList) = false) (q5 : ([110, 111, 109, 111, 114, 101] == x.toList) = false) :
    Calls Tryz.prog 89 #[.slice (some ⟨b, 0, none⟩) L cap] w (Bk w (.int .i64 0)) := by
 have y1 : w.cell? ⟨1, 3, none⟩ = some (.string ⟨#[115, 117, 98]⟩) := hK 3 (by decide)
 have y2 : w.cell? ⟨1, 6, none⟩ = some (.string ⟨#[115, 97, 109, 101]⟩) := hK 6 (by decide)
 have y3 : w.cell? ⟨1, 9, none⟩ = some (.string ⟨#[108, 101, 97, 115, 116]⟩) := hK 9 (by decide)
 have y4 : w.cell? ⟨1, 12, none⟩ = some (.string ⟨#[109, 111, 115, 116]⟩) := hK 12 (by decide)
 have y5 : w.cell? ⟨1, 15, none⟩ = some (.string ⟨#[110, 111, 109, 111, 114, 101]⟩) := hK 15 (by decide)
 clear hK
 go_enter Tryz.func89, Tryz.ntmps89
 go_wp2_with fail
 refine wp_loop_rounds 6 ?_
 rw [rounds_succ]
 go_wp2_with fail
 go_quiet (fail)
 go_wp2_with fail
 rw [rounds_succ]
 go_wp2_with fail
 go_quiet (fail)
 go_wp2_with fail
 rw [rounds_succ]
 go_wp2_with fail
 go_quiet (fail)
 go_wp2_with fail
 rw [rounds_succ]
 go_wp2_with fail
 go_quiet (fail)
 go_wp2_with fail
 rw [rounds_succ]
 go_wp2_with fail
 go_quiet (fail)
 go_wp2_with fail
 rw [rounds_succ]
 go_wp2
 go_ret
 refine ⟨rfl, ?_⟩
 repeat (first | exact Below.refl _ _ | exact below_drewNs _ _ | refine Below.drew ?_ | refine Below.trans ?_ ((below_drewNs _ _).mono (Nat.le_refl _)))
end Go.Proofs.YtnoohlibgaeklaaGreatDoor
