/-
  Proved: what atom.kindOf returns, of any words; what was in memory is as it was (a contract that the statements lean on).
-/
import Derived.Test.YtenmheenieifpabGreatDoorAtomCheck
import Derived.Test.YtenmheenieifpabGreatDoorTermWork
namespace Go.Proofs.YtenmheenieifpabGreatDoor
open Go.ChangeShapes Go.WideShapes Go.ChangeAt Go.RowKit
set_option maxRecDepth 100000

theorem words_any (x : ByteArray) (s n : Bool) (w : World) :
    Calls Tryz.prog 54 #[.agg #[.string x, .bool s, .bool n]] w fun e w' => e = .returned (.int .i64 (2 + (if s = true then 1 else 0) + (if n = true then 1 else 0))) ∧ Below w.heap.size w w' := by
  have HB : Hid (Below w.heap.size w (w.alloc (.cells #[.string x, .bool s, .bool n] 55))) := below_alloc1 w _
  cases s <;> cases n
  all_goals
    go_enter Tryz.func54, Tryz.ntmps54
    go_wp2
    go_ret
    exact ⟨rfl, HB.out⟩


set_option maxHeartbeats 2000000 in
theorem kindOf_hit1 (b cap : Nat) (w : World) (hK : KindsLaid w) (h0 : w.cell? ⟨b, 0, none⟩ = some (.string ⟨#[115, 117, 98]⟩)) :
    Calls Tryz.prog 35 #[.slice (some ⟨b, 0, none⟩) 3 cap] w fun e w' => e = .returned (.int .i64 1) ∧ Below w.heap.size w w' := by
  have y1 : w.cell? ⟨0, 3, none⟩ = some (.string ⟨#[115, 117, 98]⟩) := hK 3 (by decide)
  have ys1 : w.cell? ⟨0, 4, none⟩ = some (.bool true) := hK 4 (by decide)
  have yn1 : w.cell? ⟨0, 5, none⟩ = some (.bool false) := hK 5 (by decide)
  have HW : Hid (∀ W, Calls Tryz.prog 54 #[.agg #[.string ⟨#[115, 117, 98]⟩, .bool true, .bool false]] W fun e w' => e = .returned (.int .i64 3) ∧ Below W.heap.size W w') := fun W => words_any _ _ _ W
  clear hK
  go_enter Tryz.func35, Tryz.ntmps35
  go_wp2_with fail
  refine wp_loop_rounds 6 ?_
  rw [rounds_succ]
  go_wp2_with fail
  go_region_with (first | (go_at_call 54; refine (HW.out _).mono ?_; rintro e w2 ⟨rfl, hb⟩))
  all_goals go_wp2
  all_goals go_ret
  all_goals (refine ⟨rfl, Below.trans ?_ hb⟩; repeat (first | exact Below.refl _ _ | exact below_drewNs _ _ | refine Below.drew ?_ | refine Below.trans ?_ ((below_drewNs _ _).mono (Nat.le_refl _))))


set_option maxHeartbeats 2000000 in
theorem kindOf_hit2 (b cap : Nat) (w : World) (hK : KindsLaid w) (h0 : w.cell? ⟨b, 0, none⟩ = some (.string ⟨#[115, 97, 109, 101]⟩)) :
    Calls Tryz.prog 35 #[.slice (some ⟨b, 0, none⟩) 3 cap] w fun e w' => e = .returned (.int .i64 2) ∧ Below w.heap.size w w' := by
  have y1 : w.cell? ⟨0, 3, none⟩ = some (.string ⟨#[115, 117, 98]⟩) := hK 3 (by decide)
  have y2 : w.cell? ⟨0, 6, none⟩ = some (.string ⟨#[115, 97, 109, 101]⟩) := hK 6 (by decide)
  have ys2 : w.cell? ⟨0, 7, none⟩ = some (.bool true) := hK 7 (by decide)
  have yn2 : w.cell? ⟨0, 8, none⟩ = some (.bool false) := hK 8 (by decide)
  have HW : Hid (∀ W, Calls Tryz.prog 54 #[.agg #[.string ⟨#[115, 97, 109, 101]⟩, .bool true, .bool false]] W fun e w' => e = .returned (.int .i64 3) ∧ Below W.heap.size W w') := fun W => words_any _ _ _ W
  clear hK
  go_enter Tryz.func35, Tryz.ntmps35
  go_wp2_with fail
  refine wp_loop_rounds 6 ?_
  rw [rounds_succ]
  go_wp2_with fail
  go_quiet (fail)
  go_wp2_with fail
  rw [rounds_succ]
  go_wp2_with fail
  go_region_with (first | (go_at_call 54; refine (HW.out _).mono ?_; rintro e w2 ⟨rfl, hb⟩))
  all_goals go_wp2
  all_goals go_ret
  all_goals (refine ⟨rfl, Below.trans ?_ hb⟩; repeat (first | exact Below.refl _ _ | exact below_drewNs _ _ | refine Below.drew ?_ | refine Below.trans ?_ ((below_drewNs _ _).mono (Nat.le_refl _))))


set_option maxHeartbeats 2000000 in
theorem kindOf_hit3 (b cap : Nat) (w : World) (hK : KindsLaid w) (h0 : w.cell? ⟨b, 0, none⟩ = some (.string ⟨#[108, 101, 97, 115, 116]⟩)) :
    Calls Tryz.prog 35 #[.slice (some ⟨b, 0, none⟩) 3 cap] w fun e w' => e = .returned (.int .i64 3) ∧ Below w.heap.size w w' := by
  have y1 : w.cell? ⟨0, 3, none⟩ = some (.string ⟨#[115, 117, 98]⟩) := hK 3 (by decide)
  have y2 : w.cell? ⟨0, 6, none⟩ = some (.string ⟨#[115, 97, 109, 101]⟩) := hK 6 (by decide)
  have y3 : w.cell? ⟨0, 9, none⟩ = some (.string ⟨#[108, 101, 97, 115, 116]⟩) := hK 9 (by decide)
  have ys3 : w.cell? ⟨0, 10, none⟩ = some (.bool false) := hK 10 (by decide)
  have yn3 : w.cell? ⟨0, 11, none⟩ = some (.bool true) := hK 11 (by decide)
  have HW : Hid (∀ W, Calls Tryz.prog 54 #[.agg #[.string ⟨#[108, 101, 97, 115, 116]⟩, .bool false, .bool true]] W fun e w' => e = .returned (.int .i64 3) ∧ Below W.heap.size W w') := fun W => words_any _ _ _ W
  clear hK
  go_enter Tryz.func35, Tryz.ntmps35
  go_wp2_with fail
  refine wp_loop_rounds 6 ?_
  rw [rounds_succ]
  go_wp2_with fail
  go_quiet (fail)
  go_wp2_with fail
  rw [rounds_succ]
  go_wp2_with fail
  go_quiet (fail)
  go_wp2_with fail
  rw [rounds_succ]
  go_wp2_with fail
  go_region_with (first | (go_at_call 54; refine (HW.out _).mono ?_; rintro e w2 ⟨rfl, hb⟩))
  all_goals go_wp2
  all_goals go_ret
  all_goals (refine ⟨rfl, Below.trans ?_ hb⟩; repeat (first | exact Below.refl _ _ | exact below_drewNs _ _ | refine Below.drew ?_ | refine Below.trans ?_ ((below_drewNs _ _).mono (Nat.le_refl _))))


set_option maxHeartbeats 2000000 in
theorem kindOf_hit4 (b cap : Nat) (w : World) (hK : KindsLaid w) (h0 : w.cell? ⟨b, 0, none⟩ = some (.string ⟨#[109, 111, 115, 116]⟩)) :
    Calls Tryz.prog 35 #[.slice (some ⟨b, 0, none⟩) 3 cap] w fun e w' => e = .returned (.int .i64 4) ∧ Below w.heap.size w w' := by
  have y1 : w.cell? ⟨0, 3, none⟩ = some (.string ⟨#[115, 117, 98]⟩) := hK 3 (by decide)
  have y2 : w.cell? ⟨0, 6, none⟩ = some (.string ⟨#[115, 97, 109, 101]⟩) := hK 6 (by decide)
  have y3 : w.cell? ⟨0, 9, none⟩ = some (.string ⟨#[108, 101, 97, 115, 116]⟩) := hK 9 (by decide)
  have y4 : w.cell? ⟨0, 12, none⟩ = some (.string ⟨#[109, 111, 115, 116]⟩) := hK 12 (by decide)
  have ys4 : w.cell? ⟨0, 13, none⟩ = some (.bool false) := hK 13 (by decide)
  have yn4 : w.cell? ⟨0, 14, none⟩ = some (.bool true) := hK 14 (by decide)
  have HW : Hid (∀ W, Calls Tryz.prog 54 #[.agg #[.string ⟨#[109, 111, 115, 116]⟩, .bool false, .bool true]] W fun e w' => e = .returned (.int .i64 3) ∧ Below W.heap.size W w') := fun W => words_any _ _ _ W
  clear hK
  go_enter Tryz.func35, Tryz.ntmps35
  go_wp2_with fail
  refine wp_loop_rounds 6 ?_
  rw [rounds_succ]
  go_wp2_with fail
  go_quiet (fail)
  go_wp2_with fail
  rw [rounds_succ]
  go_wp2_with fail
  go_quiet (fail)
  go_wp2_with fail
  rw [rounds_succ]
  go_wp2_with fail
  go_quiet (fail)
  go_wp2_with fail
  rw [rounds_succ]
  go_wp2_with fail
  go_region_with (first | (go_at_call 54; refine (HW.out _).mono ?_; rintro e w2 ⟨rfl, hb⟩))
  all_goals go_wp2
  all_goals go_ret
  all_goals (refine ⟨rfl, Below.trans ?_ hb⟩; repeat (first | exact Below.refl _ _ | exact below_drewNs _ _ | refine Below.drew ?_ | refine Below.trans ?_ ((below_drewNs _ _).mono (Nat.le_refl _))))


set_option maxHeartbeats 2000000 in
theorem kindOf_hit5 (b cap : Nat) (w : World) (hK : KindsLaid w) (h0 : w.cell? ⟨b, 0, none⟩ = some (.string ⟨#[110, 111, 109, 111, 114, 101]⟩)) :
    Calls Tryz.prog 35 #[.slice (some ⟨b, 0, none⟩) 4 cap] w fun e w' => e = .returned (.int .i64 5) ∧ Below w.heap.size w w' := by
  have y1 : w.cell? ⟨0, 3, none⟩ = some (.string ⟨#[115, 117, 98]⟩) := hK 3 (by decide)
  have y2 : w.cell? ⟨0, 6, none⟩ = some (.string ⟨#[115, 97, 109, 101]⟩) := hK 6 (by decide)
  have y3 : w.cell? ⟨0, 9, none⟩ = some (.string ⟨#[108, 101, 97, 115, 116]⟩) := hK 9 (by decide)
  have y4 : w.cell? ⟨0, 12, none⟩ = some (.string ⟨#[109, 111, 115, 116]⟩) := hK 12 (by decide)
  have y5 : w.cell? ⟨0, 15, none⟩ = some (.string ⟨#[110, 111, 109, 111, 114, 101]⟩) := hK 15 (by decide)
  have ys5 : w.cell? ⟨0, 16, none⟩ = some (.bool true) := hK 16 (by decide)
  have yn5 : w.cell? ⟨0, 17, none⟩ = some (.bool true) := hK 17 (by decide)
  have HW : Hid (∀ W, Calls Tryz.prog 54 #[.agg #[.string ⟨#[110, 111, 109, 111, 114, 101]⟩, .bool true, .bool true]] W fun e w' => e = .returned (.int .i64 4) ∧ Below W.heap.size W w') := fun W => words_any _ _ _ W
  clear hK
  go_enter Tryz.func35, Tryz.ntmps35
  go_wp2_with fail
  refine wp_loop_rounds 6 ?_
  rw [rounds_succ]
  go_wp2_with fail
  go_quiet (fail)
  go_wp2_with fail
  rw [rounds_succ]
  go_wp2_with fail
  go_quiet (fail)
  go_wp2_with fail
  rw [rounds_succ]
  go_wp2_with fail
  go_quiet (fail)
  go_wp2_with fail
  rw [rounds_succ]
  go_wp2_with fail
  go_quiet (fail)
  go_wp2_with fail
  rw [rounds_succ]
  go_wp2_with fail
  go_region_with (first | (go_at_call 54; refine (HW.out _).mono ?_; rintro e w2 ⟨rfl, hb⟩))
  all_goals go_wp2
  all_goals go_ret
  all_goals (refine ⟨rfl, Below.trans ?_ hb⟩; repeat (first | exact Below.refl _ _ | exact below_drewNs _ _ | refine Below.drew ?_ | refine Below.trans ?_ ((below_drewNs _ _).mono (Nat.le_refl _))))


set_option maxHeartbeats 2000000 in
theorem kindOf_miss1 (b cap : Nat) (L : Nat) (w : World) (hK : KindsLaid w) (hb0 : b < w.heap.size) (h0 : w.cell? ⟨b, 0, none⟩ = some (.string ⟨#[115, 117, 98]⟩)) (hne : ¬ (L : Int) = 3) (h1 : 0 < L) :
    Calls Tryz.prog 35 #[.slice (some ⟨b, 0, none⟩) L cap] w fun e w' => e = .returned (.int .i64 0) ∧ Below w.heap.size w w' := by
  have y1 : w.cell? ⟨0, 3, none⟩ = some (.string ⟨#[115, 117, 98]⟩) := hK 3 (by decide)
  have ys1 : w.cell? ⟨0, 4, none⟩ = some (.bool true) := hK 4 (by decide)
  have yn1 : w.cell? ⟨0, 5, none⟩ = some (.bool false) := hK 5 (by decide)
  have HW : Hid (∀ W, Calls Tryz.prog 54 #[.agg #[.string ⟨#[115, 117, 98]⟩, .bool true, .bool false]] W fun e w' => e = .returned (.int .i64 3) ∧ Below W.heap.size W w') := fun W => words_any _ _ _ W
  have hne' : ((3 : Int) == (L : Int)) = false := by simp; omega
  have HKw : Hid (KindsLaid w) := hK
  have HB0 : Hid (b < w.heap.size) := hb0
  have H0 : Hid (w.cell? ⟨b, 0, none⟩ = some (.string ⟨#[115, 117, 98]⟩)) := h0
  clear hK hb0
  go_enter Tryz.func35, Tryz.ntmps35
  go_wp2_with fail
  refine wp_loop_rounds 6 ?_
  rw [rounds_succ]
  go_wp2_with fail
  go_region_with (first | (go_at_call 54; refine (HW.out _).mono ?_; rintro e w2 ⟨rfl, hb⟩))
  all_goals
    have HBw : Hid (Below w.heap.size w w2) := by
      refine Below.trans ?_ hb
      repeat (first | exact Below.refl _ _ | exact below_drewNs _ _ | refine Below.drew ?_ | refine Below.trans ?_ ((below_drewNs _ _).mono (Nat.le_refl _)))
    have HK2 := HKw.out.below HBw.out
    have g0 := (HBw.out.cell (p := ⟨b, 0, none⟩) HB0.out).trans H0.out
    have z2 : w2.cell? ⟨0, 6, none⟩ = some (.string ⟨#[115, 97, 109, 101]⟩) := HK2 6 (by decide)
    have z3 : w2.cell? ⟨0, 9, none⟩ = some (.string ⟨#[108, 101, 97, 115, 116]⟩) := HK2 9 (by decide)
    have z4 : w2.cell? ⟨0, 12, none⟩ = some (.string ⟨#[109, 111, 115, 116]⟩) := HK2 12 (by decide)
    have z5 : w2.cell? ⟨0, 15, none⟩ = some (.string ⟨#[110, 111, 109, 111, 114, 101]⟩) := HK2 15 (by decide)
    clear hb HK2
    go_wp2_with fail
    rw [rounds_succ]
    go_wp2_with fail
    go_quiet (fail)
    go_wp2_with fail
    rw [rounds_succ]
    go_wp2_with fail
    go_quiet (fail)
    go_wp2_with fail
    rw [rounds_succ]
    go_wp2_with fail
    go_quiet (fail)
    go_wp2_with fail
    rw [rounds_succ]
    go_wp2_with fail
    go_quiet (fail)
    go_wp2_with fail
    rw [rounds_succ]
    go_wp2
    go_ret
    refine ⟨rfl, ?_⟩
    repeat (first | exact HBw.out | exact HBw.out.trans ((below_drewNs _ _).mono HBw.out.size) | refine Below.drew ?_ | refine Below.trans ?_ ((below_drewNs _ _).mono HBw.out.size))


set_option maxHeartbeats 2000000 in
theorem kindOf_miss2 (b cap : Nat) (L : Nat) (w : World) (hK : KindsLaid w) (hb0 : b < w.heap.size) (h0 : w.cell? ⟨b, 0, none⟩ = some (.string ⟨#[115, 97, 109, 101]⟩)) (hne : ¬ (L : Int) = 3) (h1 : 0 < L) :
    Calls Tryz.prog 35 #[.slice (some ⟨b, 0, none⟩) L cap] w fun e w' => e = .returned (.int .i64 0) ∧ Below w.heap.size w w' := by
  have y1 : w.cell? ⟨0, 3, none⟩ = some (.string ⟨#[115, 117, 98]⟩) := hK 3 (by decide)
  have y2 : w.cell? ⟨0, 6, none⟩ = some (.string ⟨#[115, 97, 109, 101]⟩) := hK 6 (by decide)
  have ys2 : w.cell? ⟨0, 7, none⟩ = some (.bool true) := hK 7 (by decide)
  have yn2 : w.cell? ⟨0, 8, none⟩ = some (.bool false) := hK 8 (by decide)
  have HW : Hid (∀ W, Calls Tryz.prog 54 #[.agg #[.string ⟨#[115, 97, 109, 101]⟩, .bool true, .bool false]] W fun e w' => e = .returned (.int .i64 3) ∧ Below W.heap.size W w') := fun W => words_any _ _ _ W
  have hne' : ((3 : Int) == (L : Int)) = false := by simp; omega
  have HKw : Hid (KindsLaid w) := hK
  have HB0 : Hid (b < w.heap.size) := hb0
  have H0 : Hid (w.cell? ⟨b, 0, none⟩ = some (.string ⟨#[115, 97, 109, 101]⟩)) := h0
  clear hK hb0
  go_enter Tryz.func35, Tryz.ntmps35
  go_wp2_with fail
  refine wp_loop_rounds 6 ?_
  rw [rounds_succ]
  go_wp2_with fail
  go_quiet (fail)
  go_wp2_with fail
  rw [rounds_succ]
  go_wp2_with fail
  go_region_with (first | (go_at_call 54; refine (HW.out _).mono ?_; rintro e w2 ⟨rfl, hb⟩))
  all_goals
    have HBw : Hid (Below w.heap.size w w2) := by
      refine Below.trans ?_ hb
      repeat (first | exact Below.refl _ _ | exact below_drewNs _ _ | refine Below.drew ?_ | refine Below.trans ?_ ((below_drewNs _ _).mono (Nat.le_refl _)))
    have HK2 := HKw.out.below HBw.out
    have g0 := (HBw.out.cell (p := ⟨b, 0, none⟩) HB0.out).trans H0.out
    have z3 : w2.cell? ⟨0, 9, none⟩ = some (.string ⟨#[108, 101, 97, 115, 116]⟩) := HK2 9 (by decide)
    have z4 : w2.cell? ⟨0, 12, none⟩ = some (.string ⟨#[109, 111, 115, 116]⟩) := HK2 12 (by decide)
    have z5 : w2.cell? ⟨0, 15, none⟩ = some (.string ⟨#[110, 111, 109, 111, 114, 101]⟩) := HK2 15 (by decide)
    clear hb HK2
    go_wp2_with fail
    rw [rounds_succ]
    go_wp2_with fail
    go_quiet (fail)
    go_wp2_with fail
    rw [rounds_succ]
    go_wp2_with fail
    go_quiet (fail)
    go_wp2_with fail
    rw [rounds_succ]
    go_wp2_with fail
    go_quiet (fail)
    go_wp2_with fail
    rw [rounds_succ]
    go_wp2
    go_ret
    refine ⟨rfl, ?_⟩
    repeat (first | exact HBw.out | exact HBw.out.trans ((below_drewNs _ _).mono HBw.out.size) | refine Below.drew ?_ | refine Below.trans ?_ ((below_drewNs _ _).mono HBw.out.size))


set_option maxHeartbeats 2000000 in
theorem kindOf_miss3 (b cap : Nat) (L : Nat) (w : World) (hK : KindsLaid w) (hb0 : b < w.heap.size) (h0 : w.cell? ⟨b, 0, none⟩ = some (.string ⟨#[108, 101, 97, 115, 116]⟩)) (hne : ¬ (L : Int) = 3) (h1 : 0 < L) :
    Calls Tryz.prog 35 #[.slice (some ⟨b, 0, none⟩) L cap] w fun e w' => e = .returned (.int .i64 0) ∧ Below w.heap.size w w' := by
  have y1 : w.cell? ⟨0, 3, none⟩ = some (.string ⟨#[115, 117, 98]⟩) := hK 3 (by decide)
  have y2 : w.cell? ⟨0, 6, none⟩ = some (.string ⟨#[115, 97, 109, 101]⟩) := hK 6 (by decide)
  have y3 : w.cell? ⟨0, 9, none⟩ = some (.string ⟨#[108, 101, 97, 115, 116]⟩) := hK 9 (by decide)
  have ys3 : w.cell? ⟨0, 10, none⟩ = some (.bool false) := hK 10 (by decide)
  have yn3 : w.cell? ⟨0, 11, none⟩ = some (.bool true) := hK 11 (by decide)
  have HW : Hid (∀ W, Calls Tryz.prog 54 #[.agg #[.string ⟨#[108, 101, 97, 115, 116]⟩, .bool false, .bool true]] W fun e w' => e = .returned (.int .i64 3) ∧ Below W.heap.size W w') := fun W => words_any _ _ _ W
  have hne' : ((3 : Int) == (L : Int)) = false := by simp; omega
  have HKw : Hid (KindsLaid w) := hK
  have HB0 : Hid (b < w.heap.size) := hb0
  have H0 : Hid (w.cell? ⟨b, 0, none⟩ = some (.string ⟨#[108, 101, 97, 115, 116]⟩)) := h0
  clear hK hb0
  go_enter Tryz.func35, Tryz.ntmps35
  go_wp2_with fail
  refine wp_loop_rounds 6 ?_
  rw [rounds_succ]
  go_wp2_with fail
  go_quiet (fail)
  go_wp2_with fail
  rw [rounds_succ]
  go_wp2_with fail
  go_quiet (fail)
  go_wp2_with fail
  rw [rounds_succ]
  go_wp2_with fail
  go_region_with (first | (go_at_call 54; refine (HW.out _).mono ?_; rintro e w2 ⟨rfl, hb⟩))
  all_goals
    have HBw : Hid (Below w.heap.size w w2) := by
      refine Below.trans ?_ hb
      repeat (first | exact Below.refl _ _ | exact below_drewNs _ _ | refine Below.drew ?_ | refine Below.trans ?_ ((below_drewNs _ _).mono (Nat.le_refl _)))
    have HK2 := HKw.out.below HBw.out
    have g0 := (HBw.out.cell (p := ⟨b, 0, none⟩) HB0.out).trans H0.out
    have z4 : w2.cell? ⟨0, 12, none⟩ = some (.string ⟨#[109, 111, 115, 116]⟩) := HK2 12 (by decide)
    have z5 : w2.cell? ⟨0, 15, none⟩ = some (.string ⟨#[110, 111, 109, 111, 114, 101]⟩) := HK2 15 (by decide)
    clear hb HK2
    go_wp2_with fail
    rw [rounds_succ]
    go_wp2_with fail
    go_quiet (fail)
    go_wp2_with fail
    rw [rounds_succ]
    go_wp2_with fail
    go_quiet (fail)
    go_wp2_with fail
    rw [rounds_succ]
    go_wp2
    go_ret
    refine ⟨rfl, ?_⟩
    repeat (first | exact HBw.out | exact HBw.out.trans ((below_drewNs _ _).mono HBw.out.size) | refine Below.drew ?_ | refine Below.trans ?_ ((below_drewNs _ _).mono HBw.out.size))


set_option maxHeartbeats 2000000 in
theorem kindOf_miss4 (b cap : Nat) (L : Nat) (w : World) (hK : KindsLaid w) (hb0 : b < w.heap.size) (h0 : w.cell? ⟨b, 0, none⟩ = some (.string ⟨#[109, 111, 115, 116]⟩)) (hne : ¬ (L : Int) = 3) (h1 : 0 < L) :
    Calls Tryz.prog 35 #[.slice (some ⟨b, 0, none⟩) L cap] w fun e w' => e = .returned (.int .i64 0) ∧ Below w.heap.size w w' := by
  have y1 : w.cell? ⟨0, 3, none⟩ = some (.string ⟨#[115, 117, 98]⟩) := hK 3 (by decide)
  have y2 : w.cell? ⟨0, 6, none⟩ = some (.string ⟨#[115, 97, 109, 101]⟩) := hK 6 (by decide)
  have y3 : w.cell? ⟨0, 9, none⟩ = some (.string ⟨#[108, 101, 97, 115, 116]⟩) := hK 9 (by decide)
  have y4 : w.cell? ⟨0, 12, none⟩ = some (.string ⟨#[109, 111, 115, 116]⟩) := hK 12 (by decide)
  have ys4 : w.cell? ⟨0, 13, none⟩ = some (.bool false) := hK 13 (by decide)
  have yn4 : w.cell? ⟨0, 14, none⟩ = some (.bool true) := hK 14 (by decide)
  have HW : Hid (∀ W, Calls Tryz.prog 54 #[.agg #[.string ⟨#[109, 111, 115, 116]⟩, .bool false, .bool true]] W fun e w' => e = .returned (.int .i64 3) ∧ Below W.heap.size W w') := fun W => words_any _ _ _ W
  have hne' : ((3 : Int) == (L : Int)) = false := by simp; omega
  have HKw : Hid (KindsLaid w) := hK
  have HB0 : Hid (b < w.heap.size) := hb0
  have H0 : Hid (w.cell? ⟨b, 0, none⟩ = some (.string ⟨#[109, 111, 115, 116]⟩)) := h0
  clear hK hb0
  go_enter Tryz.func35, Tryz.ntmps35
  go_wp2_with fail
  refine wp_loop_rounds 6 ?_
  rw [rounds_succ]
  go_wp2_with fail
  go_quiet (fail)
  go_wp2_with fail
  rw [rounds_succ]
  go_wp2_with fail
  go_quiet (fail)
  go_wp2_with fail
  rw [rounds_succ]
  go_wp2_with fail
  go_quiet (fail)
  go_wp2_with fail
  rw [rounds_succ]
  go_wp2_with fail
  go_region_with (first | (go_at_call 54; refine (HW.out _).mono ?_; rintro e w2 ⟨rfl, hb⟩))
  all_goals
    have HBw : Hid (Below w.heap.size w w2) := by
      refine Below.trans ?_ hb
      repeat (first | exact Below.refl _ _ | exact below_drewNs _ _ | refine Below.drew ?_ | refine Below.trans ?_ ((below_drewNs _ _).mono (Nat.le_refl _)))
    have HK2 := HKw.out.below HBw.out
    have g0 := (HBw.out.cell (p := ⟨b, 0, none⟩) HB0.out).trans H0.out
    have z5 : w2.cell? ⟨0, 15, none⟩ = some (.string ⟨#[110, 111, 109, 111, 114, 101]⟩) := HK2 15 (by decide)
    clear hb HK2
    go_wp2_with fail
    rw [rounds_succ]
    go_wp2_with fail
    go_quiet (fail)
    go_wp2_with fail
    rw [rounds_succ]
    go_wp2
    go_ret
    refine ⟨rfl, ?_⟩
    repeat (first | exact HBw.out | exact HBw.out.trans ((below_drewNs _ _).mono HBw.out.size) | refine Below.drew ?_ | refine Below.trans ?_ ((below_drewNs _ _).mono HBw.out.size))


set_option maxHeartbeats 2000000 in
theorem kindOf_miss5 (b cap : Nat) (L : Nat) (w : World) (hK : KindsLaid w) (hb0 : b < w.heap.size) (h0 : w.cell? ⟨b, 0, none⟩ = some (.string ⟨#[110, 111, 109, 111, 114, 101]⟩)) (hne : ¬ (L : Int) = 4) (h1 : 0 < L) :
    Calls Tryz.prog 35 #[.slice (some ⟨b, 0, none⟩) L cap] w fun e w' => e = .returned (.int .i64 0) ∧ Below w.heap.size w w' := by
  have y1 : w.cell? ⟨0, 3, none⟩ = some (.string ⟨#[115, 117, 98]⟩) := hK 3 (by decide)
  have y2 : w.cell? ⟨0, 6, none⟩ = some (.string ⟨#[115, 97, 109, 101]⟩) := hK 6 (by decide)
  have y3 : w.cell? ⟨0, 9, none⟩ = some (.string ⟨#[108, 101, 97, 115, 116]⟩) := hK 9 (by decide)
  have y4 : w.cell? ⟨0, 12, none⟩ = some (.string ⟨#[109, 111, 115, 116]⟩) := hK 12 (by decide)
  have y5 : w.cell? ⟨0, 15, none⟩ = some (.string ⟨#[110, 111, 109, 111, 114, 101]⟩) := hK 15 (by decide)
  have ys5 : w.cell? ⟨0, 16, none⟩ = some (.bool true) := hK 16 (by decide)
  have yn5 : w.cell? ⟨0, 17, none⟩ = some (.bool true) := hK 17 (by decide)
  have HW : Hid (∀ W, Calls Tryz.prog 54 #[.agg #[.string ⟨#[110, 111, 109, 111, 114, 101]⟩, .bool true, .bool true]] W fun e w' => e = .returned (.int .i64 4) ∧ Below W.heap.size W w') := fun W => words_any _ _ _ W
  have hne' : ((4 : Int) == (L : Int)) = false := by simp; omega
  have HKw : Hid (KindsLaid w) := hK
  have HB0 : Hid (b < w.heap.size) := hb0
  have H0 : Hid (w.cell? ⟨b, 0, none⟩ = some (.string ⟨#[110, 111, 109, 111, 114, 101]⟩)) := h0
  clear hK hb0
  go_enter Tryz.func35, Tryz.ntmps35
  go_wp2_with fail
  refine wp_loop_rounds 6 ?_
  rw [rounds_succ]
  go_wp2_with fail
  go_quiet (fail)
  go_wp2_with fail
  rw [rounds_succ]
  go_wp2_with fail
  go_quiet (fail)
  go_wp2_with fail
  rw [rounds_succ]
  go_wp2_with fail
  go_quiet (fail)
  go_wp2_with fail
  rw [rounds_succ]
  go_wp2_with fail
  go_quiet (fail)
  go_wp2_with fail
  rw [rounds_succ]
  go_wp2_with fail
  go_region_with (first | (go_at_call 54; refine (HW.out _).mono ?_; rintro e w2 ⟨rfl, hb⟩))
  all_goals
    have HBw : Hid (Below w.heap.size w w2) := by
      refine Below.trans ?_ hb
      repeat (first | exact Below.refl _ _ | exact below_drewNs _ _ | refine Below.drew ?_ | refine Below.trans ?_ ((below_drewNs _ _).mono (Nat.le_refl _)))
    have HK2 := HKw.out.below HBw.out
    have g0 := (HBw.out.cell (p := ⟨b, 0, none⟩) HB0.out).trans H0.out
    clear hb HK2
    go_wp2_with fail
    rw [rounds_succ]
    go_wp2
    go_ret
    refine ⟨rfl, ?_⟩
    repeat (first | exact HBw.out | exact HBw.out.trans ((below_drewNs _ _).mono HBw.out.size) | refine Below.drew ?_ | refine Below.trans ?_ ((below_drewNs _ _).mono HBw.out.size))

end Go.Proofs.YtenmheenieifpabGreatDoor
