/-
  Proved: what atom.kindOf returns, of any words; what was in memory is as it was (a contract that the statements lean on).
  Proved: what atom.kindOf returns, of words whose first is no kind's; what was in memory is as it was (a contract that the statements lean on).
  Proved: what atom.kindOf returns, of any words, as one contract.
  Proved: what atom.Parse returns, of any text; what was in memory is as it was (a contract that the statements lean on).
  Proved: what vennref1.Cut returns at a blank, of any text of at most 1048576 bytes: the words that it is cut into; what was in memory is as it was (a contract that the statements lean on).
-/
import Derived.Test.YtfnkbbpjfjendaiGreatDoorLibTX6
import Derived.Test.YtfnkbbpjfjendaiGreatDoorLibTX2
import Derived.Test.YtfnkbbpjfjendaiGreatDoorLibTX5
import Derived.Test.YtfnkbbpjfjendaiGreatDoorLibTX7
import Derived.OwnWalk
import Derived.Laws.OwnMore
import Derived.Laws.AppendOwn
namespace Go.Proofs.YtfnkbbpjfjendaiGreatDoor
open Go.ChangeShapes Go.WideShapes Go.ChangeAt Go.RowKit
set_option maxRecDepth 100000

theorem words_any (x : ByteArray) (s n : Bool) (w : World) :
    Calls Tryz.prog 81 #[.agg #[.string x, .bool s, .bool n]] w fun e w' => e = .returned (.int .i64 (2 + (if s = true then 1 else 0) + (if n = true then 1 else 0))) ∧ Below w.heap.size w w' := by
  have HB : Hid (Below w.heap.size w (w.alloc (.cells #[.string x, .bool s, .bool n] 80))) := below_alloc1 w _
  cases s <;> cases n
  all_goals
    go_enter Tryz.func81, Tryz.ntmps81
    go_wp2
    go_ret
    exact ⟨rfl, HB.out⟩


set_option maxHeartbeats 2000000 in
theorem kindOf_hit1 (b cap : Nat) (w : World) (hK : KindsLaid w) (h0 : w.cell? ⟨b, 0, none⟩ = some (.string ⟨#[115, 117, 98]⟩)) :
    Calls Tryz.prog 67 #[.slice (some ⟨b, 0, none⟩) 3 cap] w fun e w' => e = .returned (.int .i64 1) ∧ Below w.heap.size w w' := by
  have y1 : w.cell? ⟨1, 3, none⟩ = some (.string ⟨#[115, 117, 98]⟩) := hK 3 (by decide)
  have ys1 : w.cell? ⟨1, 4, none⟩ = some (.bool true) := hK 4 (by decide)
  have yn1 : w.cell? ⟨1, 5, none⟩ = some (.bool false) := hK 5 (by decide)
  have HW : Hid (∀ W, Calls Tryz.prog 81 #[.agg #[.string ⟨#[115, 117, 98]⟩, .bool true, .bool false]] W fun e w' => e = .returned (.int .i64 3) ∧ Below W.heap.size W w') := fun W => words_any _ _ _ W
  clear hK
  go_enter Tryz.func67, Tryz.ntmps67
  go_wp2_with fail
  refine wp_loop_rounds 6 ?_
  rw [rounds_succ]
  go_wp2_with fail
  go_region_with (first | (go_at_call 81; refine (HW.out _).mono ?_; rintro e w2 ⟨rfl, hb⟩))
  all_goals go_wp2
  all_goals go_ret
  all_goals (refine ⟨rfl, Below.trans ?_ hb⟩; repeat (first | exact Below.refl _ _ | exact below_drewNs _ _ | refine Below.drew ?_ | refine Below.trans ?_ ((below_drewNs _ _).mono (Nat.le_refl _))))


set_option maxHeartbeats 2000000 in
theorem kindOf_hit2 (b cap : Nat) (w : World) (hK : KindsLaid w) (h0 : w.cell? ⟨b, 0, none⟩ = some (.string ⟨#[115, 97, 109, 101]⟩)) :
    Calls Tryz.prog 67 #[.slice (some ⟨b, 0, none⟩) 3 cap] w fun e w' => e = .returned (.int .i64 2) ∧ Below w.heap.size w w' := by
  have y1 : w.cell? ⟨1, 3, none⟩ = some (.string ⟨#[115, 117, 98]⟩) := hK 3 (by decide)
  have y2 : w.cell? ⟨1, 6, none⟩ = some (.string ⟨#[115, 97, 109, 101]⟩) := hK 6 (by decide)
  have ys2 : w.cell? ⟨1, 7, none⟩ = some (.bool true) := hK 7 (by decide)
  have yn2 : w.cell? ⟨1, 8, none⟩ = some (.bool false) := hK 8 (by decide)
  have HW : Hid (∀ W, Calls Tryz.prog 81 #[.agg #[.string ⟨#[115, 97, 109, 101]⟩, .bool true, .bool false]] W fun e w' => e = .returned (.int .i64 3) ∧ Below W.heap.size W w') := fun W => words_any _ _ _ W
  clear hK
  go_enter Tryz.func67, Tryz.ntmps67
  go_wp2_with fail
  refine wp_loop_rounds 6 ?_
  rw [rounds_succ]
  go_wp2_with fail
  go_quiet (fail)
  go_wp2_with fail
  rw [rounds_succ]
  go_wp2_with fail
  go_region_with (first | (go_at_call 81; refine (HW.out _).mono ?_; rintro e w2 ⟨rfl, hb⟩))
  all_goals go_wp2
  all_goals go_ret
  all_goals (refine ⟨rfl, Below.trans ?_ hb⟩; repeat (first | exact Below.refl _ _ | exact below_drewNs _ _ | refine Below.drew ?_ | refine Below.trans ?_ ((below_drewNs _ _).mono (Nat.le_refl _))))


set_option maxHeartbeats 2000000 in
theorem kindOf_hit3 (b cap : Nat) (w : World) (hK : KindsLaid w) (h0 : w.cell? ⟨b, 0, none⟩ = some (.string ⟨#[108, 101, 97, 115, 116]⟩)) :
    Calls Tryz.prog 67 #[.slice (some ⟨b, 0, none⟩) 3 cap] w fun e w' => e = .returned (.int .i64 3) ∧ Below w.heap.size w w' := by
  have y1 : w.cell? ⟨1, 3, none⟩ = some (.string ⟨#[115, 117, 98]⟩) := hK 3 (by decide)
  have y2 : w.cell? ⟨1, 6, none⟩ = some (.string ⟨#[115, 97, 109, 101]⟩) := hK 6 (by decide)
  have y3 : w.cell? ⟨1, 9, none⟩ = some (.string ⟨#[108, 101, 97, 115, 116]⟩) := hK 9 (by decide)
  have ys3 : w.cell? ⟨1, 10, none⟩ = some (.bool false) := hK 10 (by decide)
  have yn3 : w.cell? ⟨1, 11, none⟩ = some (.bool true) := hK 11 (by decide)
  have HW : Hid (∀ W, Calls Tryz.prog 81 #[.agg #[.string ⟨#[108, 101, 97, 115, 116]⟩, .bool false, .bool true]] W fun e w' => e = .returned (.int .i64 3) ∧ Below W.heap.size W w') := fun W => words_any _ _ _ W
  clear hK
  go_enter Tryz.func67, Tryz.ntmps67
  go_wp2_with fail
  refine wp_loop_rounds 6 ?_
  rw [rounds_succ]
  go_wp2_with fail
  go_quiet (fail)
  go_wp2_with fail
  rw [rounds_succ]
  go_wp2_with fail
  go_quiet (fail)
  go_wp2_with fail
  rw [rounds_succ]
  go_wp2_with fail
  go_region_with (first | (go_at_call 81; refine (HW.out _).mono ?_; rintro e w2 ⟨rfl, hb⟩))
  all_goals go_wp2
  all_goals go_ret
  all_goals (refine ⟨rfl, Below.trans ?_ hb⟩; repeat (first | exact Below.refl _ _ | exact below_drewNs _ _ | refine Below.drew ?_ | refine Below.trans ?_ ((below_drewNs _ _).mono (Nat.le_refl _))))


set_option maxHeartbeats 2000000 in
theorem kindOf_hit4 (b cap : Nat) (w : World) (hK : KindsLaid w) (h0 : w.cell? ⟨b, 0, none⟩ = some (.string ⟨#[109, 111, 115, 116]⟩)) :
    Calls Tryz.prog 67 #[.slice (some ⟨b, 0, none⟩) 3 cap] w fun e w' => e = .returned (.int .i64 4) ∧ Below w.heap.size w w' := by
  have y1 : w.cell? ⟨1, 3, none⟩ = some (.string ⟨#[115, 117, 98]⟩) := hK 3 (by decide)
  have y2 : w.cell? ⟨1, 6, none⟩ = some (.string ⟨#[115, 97, 109, 101]⟩) := hK 6 (by decide)
  have y3 : w.cell? ⟨1, 9, none⟩ = some (.string ⟨#[108, 101, 97, 115, 116]⟩) := hK 9 (by decide)
  have y4 : w.cell? ⟨1, 12, none⟩ = some (.string ⟨#[109, 111, 115, 116]⟩) := hK 12 (by decide)
  have ys4 : w.cell? ⟨1, 13, none⟩ = some (.bool false) := hK 13 (by decide)
  have yn4 : w.cell? ⟨1, 14, none⟩ = some (.bool true) := hK 14 (by decide)
  have HW : Hid (∀ W, Calls Tryz.prog 81 #[.agg #[.string ⟨#[109, 111, 115, 116]⟩, .bool false, .bool true]] W fun e w' => e = .returned (.int .i64 3) ∧ Below W.heap.size W w') := fun W => words_any _ _ _ W
  clear hK
  go_enter Tryz.func67, Tryz.ntmps67
  go_wp2_with fail
  refine wp_loop_rounds 6 ?_
  rw [rounds_succ]
  go_wp2_with fail
  go_quiet (fail)
  go_wp2_with fail
  rw [rounds_succ]
  go_wp2_with fail
  go_quiet (fail)
  go_wp2_with fail
  rw [rounds_succ]
  go_wp2_with fail
  go_quiet (fail)
  go_wp2_with fail
  rw [rounds_succ]
  go_wp2_with fail
  go_region_with (first | (go_at_call 81; refine (HW.out _).mono ?_; rintro e w2 ⟨rfl, hb⟩))
  all_goals go_wp2
  all_goals go_ret
  all_goals (refine ⟨rfl, Below.trans ?_ hb⟩; repeat (first | exact Below.refl _ _ | exact below_drewNs _ _ | refine Below.drew ?_ | refine Below.trans ?_ ((below_drewNs _ _).mono (Nat.le_refl _))))


set_option maxHeartbeats 2000000 in
theorem kindOf_hit5 (b cap : Nat) (w : World) (hK : KindsLaid w) (h0 : w.cell? ⟨b, 0, none⟩ = some (.string ⟨#[110, 111, 109, 111, 114, 101]⟩)) :
    Calls Tryz.prog 67 #[.slice (some ⟨b, 0, none⟩) 4 cap] w fun e w' => e = .returned (.int .i64 5) ∧ Below w.heap.size w w' := by
  have y1 : w.cell? ⟨1, 3, none⟩ = some (.string ⟨#[115, 117, 98]⟩) := hK 3 (by decide)
  have y2 : w.cell? ⟨1, 6, none⟩ = some (.string ⟨#[115, 97, 109, 101]⟩) := hK 6 (by decide)
  have y3 : w.cell? ⟨1, 9, none⟩ = some (.string ⟨#[108, 101, 97, 115, 116]⟩) := hK 9 (by decide)
  have y4 : w.cell? ⟨1, 12, none⟩ = some (.string ⟨#[109, 111, 115, 116]⟩) := hK 12 (by decide)
  have y5 : w.cell? ⟨1, 15, none⟩ = some (.string ⟨#[110, 111, 109, 111, 114, 101]⟩) := hK 15 (by decide)
  have ys5 : w.cell? ⟨1, 16, none⟩ = some (.bool true) := hK 16 (by decide)
  have yn5 : w.cell? ⟨1, 17, none⟩ = some (.bool true) := hK 17 (by decide)
  have HW : Hid (∀ W, Calls Tryz.prog 81 #[.agg #[.string ⟨#[110, 111, 109, 111, 114, 101]⟩, .bool true, .bool true]] W fun e w' => e = .returned (.int .i64 4) ∧ Below W.heap.size W w') := fun W => words_any _ _ _ W
  clear hK
  go_enter Tryz.func67, Tryz.ntmps67
  go_wp2_with fail
  refine wp_loop_rounds 6 ?_
  rw [rounds_succ]
  go_wp2_with fail
  go_quiet (fail)
  go_wp2_with fail
  rw [rounds_succ]
  go_wp2_with fail
  go_quiet (fail)
  go_wp2_with fail
  rw [rounds_succ]
  go_wp2_with fail
  go_quiet (fail)
  go_wp2_with fail
  rw [rounds_succ]
  go_wp2_with fail
  go_quiet (fail)
  go_wp2_with fail
  rw [rounds_succ]
  go_wp2_with fail
  go_region_with (first | (go_at_call 81; refine (HW.out _).mono ?_; rintro e w2 ⟨rfl, hb⟩))
  all_goals go_wp2
  all_goals go_ret
  all_goals (refine ⟨rfl, Below.trans ?_ hb⟩; repeat (first | exact Below.refl _ _ | exact below_drewNs _ _ | refine Below.drew ?_ | refine Below.trans ?_ ((below_drewNs _ _).mono (Nat.le_refl _))))


set_option maxHeartbeats 2000000 in
theorem kindOf_miss1 (b cap : Nat) (L : Nat) (w : World) (hK : KindsLaid w) (hb0 : b < w.heap.size) (h0 : w.cell? ⟨b, 0, none⟩ = some (.string ⟨#[115, 117, 98]⟩)) (hne : ¬ (L : Int) = 3) (h1 : 0 < L) :
    Calls Tryz.prog 67 #[.slice (some ⟨b, 0, none⟩) L cap] w fun e w' => e = .returned (.int .i64 0) ∧ Below w.heap.size w w' := by
  have y1 : w.cell? ⟨1, 3, none⟩ = some (.string ⟨#[115, 117, 98]⟩) := hK 3 (by decide)
  have ys1 : w.cell? ⟨1, 4, none⟩ = some (.bool true) := hK 4 (by decide)
  have yn1 : w.cell? ⟨1, 5, none⟩ = some (.bool false) := hK 5 (by decide)
  have HW : Hid (∀ W, Calls Tryz.prog 81 #[.agg #[.string ⟨#[115, 117, 98]⟩, .bool true, .bool false]] W fun e w' => e = .returned (.int .i64 3) ∧ Below W.heap.size W w') := fun W => words_any _ _ _ W
  have hne' : ((3 : Int) == (L : Int)) = false := by simp; omega
  have HKw : Hid (KindsLaid w) := hK
  have HB0 : Hid (b < w.heap.size) := hb0
  have H0 : Hid (w.cell? ⟨b, 0, none⟩ = some (.string ⟨#[115, 117, 98]⟩)) := h0
  clear hK hb0
  go_enter Tryz.func67, Tryz.ntmps67
  go_wp2_with fail
  refine wp_loop_rounds 6 ?_
  rw [rounds_succ]
  go_wp2_with fail
  go_region_with (first | (go_at_call 81; refine (HW.out _).mono ?_; rintro e w2 ⟨rfl, hb⟩))
  all_goals
    have HBw : Hid (Below w.heap.size w w2) := by
      refine Below.trans ?_ hb
      repeat (first | exact Below.refl _ _ | exact below_drewNs _ _ | refine Below.drew ?_ | refine Below.trans ?_ ((below_drewNs _ _).mono (Nat.le_refl _)))
    have HK2 := HKw.out.below HBw.out
    have g0 := (HBw.out.cell (p := ⟨b, 0, none⟩) HB0.out).trans H0.out
    have z2 : w2.cell? ⟨1, 6, none⟩ = some (.string ⟨#[115, 97, 109, 101]⟩) := HK2 6 (by decide)
    have z3 : w2.cell? ⟨1, 9, none⟩ = some (.string ⟨#[108, 101, 97, 115, 116]⟩) := HK2 9 (by decide)
    have z4 : w2.cell? ⟨1, 12, none⟩ = some (.string ⟨#[109, 111, 115, 116]⟩) := HK2 12 (by decide)
    have z5 : w2.cell? ⟨1, 15, none⟩ = some (.string ⟨#[110, 111, 109, 111, 114, 101]⟩) := HK2 15 (by decide)
    clear hb HK2
    go_wp2_with fail
    rw [rounds_succ]
    go_wp2_with fail
    go_quiet (fail)
    go_wp2_with fail
    rw [rounds_succ]
    go_wp2_with fail
    go_quiet (fail)
    go_wp2_with fail
    rw [rounds_succ]
    go_wp2_with fail
    go_quiet (fail)
    go_wp2_with fail
    rw [rounds_succ]
    go_wp2_with fail
    go_quiet (fail)
    go_wp2_with fail
    rw [rounds_succ]
    go_wp2
    go_ret
    refine ⟨rfl, ?_⟩
    repeat (first | exact HBw.out | exact HBw.out.trans ((below_drewNs _ _).mono HBw.out.size) | refine Below.drew ?_ | refine Below.trans ?_ ((below_drewNs _ _).mono HBw.out.size))


set_option maxHeartbeats 2000000 in
theorem kindOf_miss2 (b cap : Nat) (L : Nat) (w : World) (hK : KindsLaid w) (hb0 : b < w.heap.size) (h0 : w.cell? ⟨b, 0, none⟩ = some (.string ⟨#[115, 97, 109, 101]⟩)) (hne : ¬ (L : Int) = 3) (h1 : 0 < L) :
    Calls Tryz.prog 67 #[.slice (some ⟨b, 0, none⟩) L cap] w fun e w' => e = .returned (.int .i64 0) ∧ Below w.heap.size w w' := by
  have y1 : w.cell? ⟨1, 3, none⟩ = some (.string ⟨#[115, 117, 98]⟩) := hK 3 (by decide)
  have y2 : w.cell? ⟨1, 6, none⟩ = some (.string ⟨#[115, 97, 109, 101]⟩) := hK 6 (by decide)
  have ys2 : w.cell? ⟨1, 7, none⟩ = some (.bool true) := hK 7 (by decide)
  have yn2 : w.cell? ⟨1, 8, none⟩ = some (.bool false) := hK 8 (by decide)
  have HW : Hid (∀ W, Calls Tryz.prog 81 #[.agg #[.string ⟨#[115, 97, 109, 101]⟩, .bool true, .bool false]] W fun e w' => e = .returned (.int .i64 3) ∧ Below W.heap.size W w') := fun W => words_any _ _ _ W
  have hne' : ((3 : Int) == (L : Int)) = false := by simp; omega
  have HKw : Hid (KindsLaid w) := hK
  have HB0 : Hid (b < w.heap.size) := hb0
  have H0 : Hid (w.cell? ⟨b, 0, none⟩ = some (.string ⟨#[115, 97, 109, 101]⟩)) := h0
  clear hK hb0
  go_enter Tryz.func67, Tryz.ntmps67
  go_wp2_with fail
  refine wp_loop_rounds 6 ?_
  rw [rounds_succ]
  go_wp2_with fail
  go_quiet (fail)
  go_wp2_with fail
  rw [rounds_succ]
  go_wp2_with fail
  go_region_with (first | (go_at_call 81; refine (HW.out _).mono ?_; rintro e w2 ⟨rfl, hb⟩))
  all_goals
    have HBw : Hid (Below w.heap.size w w2) := by
      refine Below.trans ?_ hb
      repeat (first | exact Below.refl _ _ | exact below_drewNs _ _ | refine Below.drew ?_ | refine Below.trans ?_ ((below_drewNs _ _).mono (Nat.le_refl _)))
    have HK2 := HKw.out.below HBw.out
    have g0 := (HBw.out.cell (p := ⟨b, 0, none⟩) HB0.out).trans H0.out
    have z3 : w2.cell? ⟨1, 9, none⟩ = some (.string ⟨#[108, 101, 97, 115, 116]⟩) := HK2 9 (by decide)
    have z4 : w2.cell? ⟨1, 12, none⟩ = some (.string ⟨#[109, 111, 115, 116]⟩) := HK2 12 (by decide)
    have z5 : w2.cell? ⟨1, 15, none⟩ = some (.string ⟨#[110, 111, 109, 111, 114, 101]⟩) := HK2 15 (by decide)
    clear hb HK2
    go_wp2_with fail
    rw [rounds_succ]
    go_wp2_with fail
    go_quiet (fail)
    go_wp2_with fail
    rw [rounds_succ]
    go_wp2_with fail
    go_quiet (fail)
    go_wp2_with fail
    rw [rounds_succ]
    go_wp2_with fail
    go_quiet (fail)
    go_wp2_with fail
    rw [rounds_succ]
    go_wp2
    go_ret
    refine ⟨rfl, ?_⟩
    repeat (first | exact HBw.out | exact HBw.out.trans ((below_drewNs _ _).mono HBw.out.size) | refine Below.drew ?_ | refine Below.trans ?_ ((below_drewNs _ _).mono HBw.out.size))


set_option maxHeartbeats 2000000 in
theorem kindOf_miss3 (b cap : Nat) (L : Nat) (w : World) (hK : KindsLaid w) (hb0 : b < w.heap.size) (h0 : w.cell? ⟨b, 0, none⟩ = some (.string ⟨#[108, 101, 97, 115, 116]⟩)) (hne : ¬ (L : Int) = 3) (h1 : 0 < L) :
    Calls Tryz.prog 67 #[.slice (some ⟨b, 0, none⟩) L cap] w fun e w' => e = .returned (.int .i64 0) ∧ Below w.heap.size w w' := by
  have y1 : w.cell? ⟨1, 3, none⟩ = some (.string ⟨#[115, 117, 98]⟩) := hK 3 (by decide)
  have y2 : w.cell? ⟨1, 6, none⟩ = some (.string ⟨#[115, 97, 109, 101]⟩) := hK 6 (by decide)
  have y3 : w.cell? ⟨1, 9, none⟩ = some (.string ⟨#[108, 101, 97, 115, 116]⟩) := hK 9 (by decide)
  have ys3 : w.cell? ⟨1, 10, none⟩ = some (.bool false) := hK 10 (by decide)
  have yn3 : w.cell? ⟨1, 11, none⟩ = some (.bool true) := hK 11 (by decide)
  have HW : Hid (∀ W, Calls Tryz.prog 81 #[.agg #[.string ⟨#[108, 101, 97, 115, 116]⟩, .bool false, .bool true]] W fun e w' => e = .returned (.int .i64 3) ∧ Below W.heap.size W w') := fun W => words_any _ _ _ W
  have hne' : ((3 : Int) == (L : Int)) = false := by simp; omega
  have HKw : Hid (KindsLaid w) := hK
  have HB0 : Hid (b < w.heap.size) := hb0
  have H0 : Hid (w.cell? ⟨b, 0, none⟩ = some (.string ⟨#[108, 101, 97, 115, 116]⟩)) := h0
  clear hK hb0
  go_enter Tryz.func67, Tryz.ntmps67
  go_wp2_with fail
  refine wp_loop_rounds 6 ?_
  rw [rounds_succ]
  go_wp2_with fail
  go_quiet (fail)
  go_wp2_with fail
  rw [rounds_succ]
  go_wp2_with fail
  go_quiet (fail)
  go_wp2_with fail
  rw [rounds_succ]
  go_wp2_with fail
  go_region_with (first | (go_at_call 81; refine (HW.out _).mono ?_; rintro e w2 ⟨rfl, hb⟩))
  all_goals
    have HBw : Hid (Below w.heap.size w w2) := by
      refine Below.trans ?_ hb
      repeat (first | exact Below.refl _ _ | exact below_drewNs _ _ | refine Below.drew ?_ | refine Below.trans ?_ ((below_drewNs _ _).mono (Nat.le_refl _)))
    have HK2 := HKw.out.below HBw.out
    have g0 := (HBw.out.cell (p := ⟨b, 0, none⟩) HB0.out).trans H0.out
    have z4 : w2.cell? ⟨1, 12, none⟩ = some (.string ⟨#[109, 111, 115, 116]⟩) := HK2 12 (by decide)
    have z5 : w2.cell? ⟨1, 15, none⟩ = some (.string ⟨#[110, 111, 109, 111, 114, 101]⟩) := HK2 15 (by decide)
    clear hb HK2
    go_wp2_with fail
    rw [rounds_succ]
    go_wp2_with fail
    go_quiet (fail)
    go_wp2_with fail
    rw [rounds_succ]
    go_wp2_with fail
    go_quiet (fail)
    go_wp2_with fail
    rw [rounds_succ]
    go_wp2
    go_ret
    refine ⟨rfl, ?_⟩
    repeat (first | exact HBw.out | exact HBw.out.trans ((below_drewNs _ _).mono HBw.out.size) | refine Below.drew ?_ | refine Below.trans ?_ ((below_drewNs _ _).mono HBw.out.size))


set_option maxHeartbeats 2000000 in
theorem kindOf_miss4 (b cap : Nat) (L : Nat) (w : World) (hK : KindsLaid w) (hb0 : b < w.heap.size) (h0 : w.cell? ⟨b, 0, none⟩ = some (.string ⟨#[109, 111, 115, 116]⟩)) (hne : ¬ (L : Int) = 3) (h1 : 0 < L) :
    Calls Tryz.prog 67 #[.slice (some ⟨b, 0, none⟩) L cap] w fun e w' => e = .returned (.int .i64 0) ∧ Below w.heap.size w w' := by
  have y1 : w.cell? ⟨1, 3, none⟩ = some (.string ⟨#[115, 117, 98]⟩) := hK 3 (by decide)
  have y2 : w.cell? ⟨1, 6, none⟩ = some (.string ⟨#[115, 97, 109, 101]⟩) := hK 6 (by decide)
  have y3 : w.cell? ⟨1, 9, none⟩ = some (.string ⟨#[108, 101, 97, 115, 116]⟩) := hK 9 (by decide)
  have y4 : w.cell? ⟨1, 12, none⟩ = some (.string ⟨#[109, 111, 115, 116]⟩) := hK 12 (by decide)
  have ys4 : w.cell? ⟨1, 13, none⟩ = some (.bool false) := hK 13 (by decide)
  have yn4 : w.cell? ⟨1, 14, none⟩ = some (.bool true) := hK 14 (by decide)
  have HW : Hid (∀ W, Calls Tryz.prog 81 #[.agg #[.string ⟨#[109, 111, 115, 116]⟩, .bool false, .bool true]] W fun e w' => e = .returned (.int .i64 3) ∧ Below W.heap.size W w') := fun W => words_any _ _ _ W
  have hne' : ((3 : Int) == (L : Int)) = false := by simp; omega
  have HKw : Hid (KindsLaid w) := hK
  have HB0 : Hid (b < w.heap.size) := hb0
  have H0 : Hid (w.cell? ⟨b, 0, none⟩ = some (.string ⟨#[109, 111, 115, 116]⟩)) := h0
  clear hK hb0
  go_enter Tryz.func67, Tryz.ntmps67
  go_wp2_with fail
  refine wp_loop_rounds 6 ?_
  rw [rounds_succ]
  go_wp2_with fail
  go_quiet (fail)
  go_wp2_with fail
  rw [rounds_succ]
  go_wp2_with fail
  go_quiet (fail)
  go_wp2_with fail
  rw [rounds_succ]
  go_wp2_with fail
  go_quiet (fail)
  go_wp2_with fail
  rw [rounds_succ]
  go_wp2_with fail
  go_region_with (first | (go_at_call 81; refine (HW.out _).mono ?_; rintro e w2 ⟨rfl, hb⟩))
  all_goals
    have HBw : Hid (Below w.heap.size w w2) := by
      refine Below.trans ?_ hb
      repeat (first | exact Below.refl _ _ | exact below_drewNs _ _ | refine Below.drew ?_ | refine Below.trans ?_ ((below_drewNs _ _).mono (Nat.le_refl _)))
    have HK2 := HKw.out.below HBw.out
    have g0 := (HBw.out.cell (p := ⟨b, 0, none⟩) HB0.out).trans H0.out
    have z5 : w2.cell? ⟨1, 15, none⟩ = some (.string ⟨#[110, 111, 109, 111, 114, 101]⟩) := HK2 15 (by decide)
    clear hb HK2
    go_wp2_with fail
    rw [rounds_succ]
    go_wp2_with fail
    go_quiet (fail)
    go_wp2_with fail
    rw [rounds_succ]
    go_wp2
    go_ret
    refine ⟨rfl, ?_⟩
    repeat (first | exact HBw.out | exact HBw.out.trans ((below_drewNs _ _).mono HBw.out.size) | refine Below.drew ?_ | refine Below.trans ?_ ((below_drewNs _ _).mono HBw.out.size))


set_option maxHeartbeats 2000000 in
theorem kindOf_miss5 (b cap : Nat) (L : Nat) (w : World) (hK : KindsLaid w) (hb0 : b < w.heap.size) (h0 : w.cell? ⟨b, 0, none⟩ = some (.string ⟨#[110, 111, 109, 111, 114, 101]⟩)) (hne : ¬ (L : Int) = 4) (h1 : 0 < L) :
    Calls Tryz.prog 67 #[.slice (some ⟨b, 0, none⟩) L cap] w fun e w' => e = .returned (.int .i64 0) ∧ Below w.heap.size w w' := by
  have y1 : w.cell? ⟨1, 3, none⟩ = some (.string ⟨#[115, 117, 98]⟩) := hK 3 (by decide)
  have y2 : w.cell? ⟨1, 6, none⟩ = some (.string ⟨#[115, 97, 109, 101]⟩) := hK 6 (by decide)
  have y3 : w.cell? ⟨1, 9, none⟩ = some (.string ⟨#[108, 101, 97, 115, 116]⟩) := hK 9 (by decide)
  have y4 : w.cell? ⟨1, 12, none⟩ = some (.string ⟨#[109, 111, 115, 116]⟩) := hK 12 (by decide)
  have y5 : w.cell? ⟨1, 15, none⟩ = some (.string ⟨#[110, 111, 109, 111, 114, 101]⟩) := hK 15 (by decide)
  have ys5 : w.cell? ⟨1, 16, none⟩ = some (.bool true) := hK 16 (by decide)
  have yn5 : w.cell? ⟨1, 17, none⟩ = some (.bool true) := hK 17 (by decide)
  have HW : Hid (∀ W, Calls Tryz.prog 81 #[.agg #[.string ⟨#[110, 111, 109, 111, 114, 101]⟩, .bool true, .bool true]] W fun e w' => e = .returned (.int .i64 4) ∧ Below W.heap.size W w') := fun W => words_any _ _ _ W
  have hne' : ((4 : Int) == (L : Int)) = false := by simp; omega
  have HKw : Hid (KindsLaid w) := hK
  have HB0 : Hid (b < w.heap.size) := hb0
  have H0 : Hid (w.cell? ⟨b, 0, none⟩ = some (.string ⟨#[110, 111, 109, 111, 114, 101]⟩)) := h0
  clear hK hb0
  go_enter Tryz.func67, Tryz.ntmps67
  go_wp2_with fail
  refine wp_loop_rounds 6 ?_
  rw [rounds_succ]
  go_wp2_with fail
  go_quiet (fail)
  go_wp2_with fail
  rw [rounds_succ]
  go_wp2_with fail
  go_quiet (fail)
  go_wp2_with fail
  rw [rounds_succ]
  go_wp2_with fail
  go_quiet (fail)
  go_wp2_with fail
  rw [rounds_succ]
  go_wp2_with fail
  go_quiet (fail)
  go_wp2_with fail
  rw [rounds_succ]
  go_wp2_with fail
  go_region_with (first | (go_at_call 81; refine (HW.out _).mono ?_; rintro e w2 ⟨rfl, hb⟩))
  all_goals
    have HBw : Hid (Below w.heap.size w w2) := by
      refine Below.trans ?_ hb
      repeat (first | exact Below.refl _ _ | exact below_drewNs _ _ | refine Below.drew ?_ | refine Below.trans ?_ ((below_drewNs _ _).mono (Nat.le_refl _)))
    have HK2 := HKw.out.below HBw.out
    have g0 := (HBw.out.cell (p := ⟨b, 0, none⟩) HB0.out).trans H0.out
    clear hb HK2
    go_wp2_with fail
    rw [rounds_succ]
    go_wp2
    go_ret
    refine ⟨rfl, ?_⟩
    repeat (first | exact HBw.out | exact HBw.out.trans ((below_drewNs _ _).mono HBw.out.size) | refine Below.drew ?_ | refine Below.trans ?_ ((below_drewNs _ _).mono HBw.out.size))

end Go.Proofs.YtfnkbbpjfjendaiGreatDoor

namespace Go.Proofs.YtfnkbbpjfjendaiGreatDoor
open Go.ChangeShapes Go.WideShapes Go.ChangeAt Go.RowKit
set_option maxRecDepth 100000


set_option maxHeartbeats 2000000 in
theorem kindOf_none (b cap : Nat) (L : Nat) (x : ByteArray) (w : World) (hK : KindsLaid w) (h0 : w.cell? ⟨b, 0, none⟩ = some (.string x)) (h1 : 0 < L) (q1 : ([115, 117, 98] == x.toList) = false) (q2 : ([115, 97, 109, 101] == x.toList) = false) (q3 : ([108, 101, 97, 115, 116] == x.toList) = false) (q4 : ([109, 111, 115, 116] == x.toList) = false) (q5 : ([110, 111, 109, 111, 114, 101] == x.toList) = false) :
    Calls Tryz.prog 67 #[.slice (some ⟨b, 0, none⟩) L cap] w fun e w' => e = .returned (.int .i64 0) ∧ Below w.heap.size w w' := by
  have y1 : w.cell? ⟨1, 3, none⟩ = some (.string ⟨#[115, 117, 98]⟩) := hK 3 (by decide)
  have y2 : w.cell? ⟨1, 6, none⟩ = some (.string ⟨#[115, 97, 109, 101]⟩) := hK 6 (by decide)
  have y3 : w.cell? ⟨1, 9, none⟩ = some (.string ⟨#[108, 101, 97, 115, 116]⟩) := hK 9 (by decide)
  have y4 : w.cell? ⟨1, 12, none⟩ = some (.string ⟨#[109, 111, 115, 116]⟩) := hK 12 (by decide)
  have y5 : w.cell? ⟨1, 15, none⟩ = some (.string ⟨#[110, 111, 109, 111, 114, 101]⟩) := hK 15 (by decide)
  clear hK
  go_enter Tryz.func67, Tryz.ntmps67
  go_wp2_with fail
  refine wp_loop_rounds 6 ?_
  rw [rounds_succ]
  go_wp2_with fail
  go_quiet (fail)
  go_wp2_with fail
  rw [rounds_succ]
  go_wp2_with fail
  go_quiet (fail)
  go_wp2_with fail
  rw [rounds_succ]
  go_wp2_with fail
  go_quiet (fail)
  go_wp2_with fail
  rw [rounds_succ]
  go_wp2_with fail
  go_quiet (fail)
  go_wp2_with fail
  rw [rounds_succ]
  go_wp2_with fail
  go_quiet (fail)
  go_wp2_with fail
  rw [rounds_succ]
  go_wp2
  go_ret
  refine ⟨rfl, ?_⟩
  repeat (first | exact Below.refl _ _ | exact below_drewNs _ _ | refine Below.drew ?_ | refine Below.trans ?_ ((below_drewNs _ _).mono (Nat.le_refl _)))

end Go.Proofs.YtfnkbbpjfjendaiGreatDoor

namespace Go.Proofs.YtfnkbbpjfjendaiGreatDoor
open Go.ChangeShapes Go.WideShapes Go.ChangeAt Go.RowKit
set_option maxRecDepth 100000

/-- kindOf, whatever the words. -/
theorem kindOf_any (ws : List (List UInt8)) (v : Value) (w : World) (hK : KindsLaid w) (hR : ReadsS w v ws) (h1 : 0 < ws.length) :
    Calls Tryz.prog 67 #[v] w fun e w' => e = .returned (.int .i64 (wordsKind ws)) ∧ Below w.heap.size w w' := by
  obtain ⟨b, cap, rfl, hb, _, hcell⟩ := hR
  have h0 := hcell 0 h1
  clear hcell
  have hk : ∀ x, ws.getD 0 [] = x → wordsKind ws = if ws.length = manyN (kindOfN x) then kindOfN x else 0 := by
    intro x hx; unfold wordsKind; rw [hx]
  by_cases x1 : ws.getD 0 [] = [115, 117, 98]
  · rw [x1] at h0; rw [hk _ x1, show manyN (kindOfN [115, 117, 98]) = 3 by decide, show kindOfN [115, 117, 98] = 1 by decide]
    by_cases hl : ws.length = 3
    · rw [if_pos hl, hl]; exact kindOf_hit1 b cap w hK h0
    · rw [if_neg hl]; exact kindOf_miss1 b cap _ w hK hb h0 (by omega) h1
  by_cases x2 : ws.getD 0 [] = [115, 97, 109, 101]
  · rw [x2] at h0; rw [hk _ x2, show manyN (kindOfN [115, 97, 109, 101]) = 3 by decide, show kindOfN [115, 97, 109, 101] = 2 by decide]
    by_cases hl : ws.length = 3
    · rw [if_pos hl, hl]; exact kindOf_hit2 b cap w hK h0
    · rw [if_neg hl]; exact kindOf_miss2 b cap _ w hK hb h0 (by omega) h1
  by_cases x3 : ws.getD 0 [] = [108, 101, 97, 115, 116]
  · rw [x3] at h0; rw [hk _ x3, show manyN (kindOfN [108, 101, 97, 115, 116]) = 3 by decide, show kindOfN [108, 101, 97, 115, 116] = 3 by decide]
    by_cases hl : ws.length = 3
    · rw [if_pos hl, hl]; exact kindOf_hit3 b cap w hK h0
    · rw [if_neg hl]; exact kindOf_miss3 b cap _ w hK hb h0 (by omega) h1
  by_cases x4 : ws.getD 0 [] = [109, 111, 115, 116]
  · rw [x4] at h0; rw [hk _ x4, show manyN (kindOfN [109, 111, 115, 116]) = 3 by decide, show kindOfN [109, 111, 115, 116] = 4 by decide]
    by_cases hl : ws.length = 3
    · rw [if_pos hl, hl]; exact kindOf_hit4 b cap w hK h0
    · rw [if_neg hl]; exact kindOf_miss4 b cap _ w hK hb h0 (by omega) h1
  by_cases x5 : ws.getD 0 [] = [110, 111, 109, 111, 114, 101]
  · rw [x5] at h0; rw [hk _ x5, show manyN (kindOfN [110, 111, 109, 111, 114, 101]) = 4 by decide, show kindOfN [110, 111, 109, 111, 114, 101] = 5 by decide]
    by_cases hl : ws.length = 4
    · rw [if_pos hl, hl]; exact kindOf_hit5 b cap w hK h0
    · rw [if_neg hl]; exact kindOf_miss5 b cap _ w hK hb h0 (by omega) h1
  have e : wordsKind ws = 0 := by
    have e0 : kindOfN (ws.getD 0 []) = 0 := by unfold kindOfN; rw [if_neg x1, if_neg x2, if_neg x3, if_neg x4, if_neg x5]
    unfold wordsKind
    rw [e0]
    split <;> rfl
  rw [e]
  have q : ∀ l : List UInt8, ¬ ws.getD 0 [] = l → (l == (strOf (ws.getD 0 [])).toList) = false := by
    intro l hl
    rw [Lib.toList_data, strOf_list]
    simpa using fun h => hl h.symm
  exact kindOf_none b cap _ _ w hK h0 h1 (q _ x1) (q _ x2) (q _ x3) (q _ x4) (q _ x5)
end Go.Proofs.YtfnkbbpjfjendaiGreatDoor

namespace Go.Proofs.YtfnkbbpjfjendaiGreatDoor
open Go.ChangeShapes Go.WideShapes Go.ChangeAt Go.RowKit
set_option maxRecDepth 100000

theorem splitL_pos (k : Nat) (l : List UInt8) : 0 < (splitL k l).length := by
  cases k with
  | zero => simp [splitL]
  | succ k => unfold splitL; split <;> simp
theorem splitL_len {k : Nat} : ∀ {l x : List UInt8}, x ∈ splitL k l → x.length ≤ l.length := by
  induction k with
  | zero => intro l x h; simp [splitL] at h; rw [h]; exact Nat.le_refl _
  | succ k ih =>
    intro l x h
    unfold splitL at h
    split at h
    · simp at h; rw [h]; exact Nat.le_refl _
    · rcases List.mem_cons.1 h with h | h
      · rw [h, List.length_take]; exact Nat.min_le_right _ _
      · have := ih h; rw [List.length_drop] at this; omega
/-- the words that Parse sees. -/
def seen (s : ByteArray) : List (List UInt8) := splitL (if 4 ≤ s.size then 4 else s.size) s.data.toList
/-- what Parse answers of words: the fault by its parts. -/
def partFaults (k : Int) (ws : List (List UInt8)) : Int := toldN (textFault (ws.getD 1 [])) (if secondB k = true then textFault (ws.getD 2 []) else 0) (if numberB k = true then numFault (ws.getD (ws.length - 1) []) else 0)
theorem textFault_two {l : List UInt8} : textFault l = 2 ↔ lettersB l = false := by
  unfold textFault
  by_cases h : lettersB l = true
  · rw [if_pos h, h]
    have : ¬ faultN (readN l) = 2 := by unfold faultN; repeat' split <;> omega
    exact ⟨fun h' => absurd h' this, fun h' => by cases h'⟩
  · rw [if_neg h]
    exact ⟨fun _ => by simpa using h, fun _ => rfl⟩
theorem textFault_ok {l : List UInt8} (h : ¬ textFault l = 2) : textFault l = faultN (readN l) := by
  have h' : lettersB l = true := by
    rcases Bool.eq_false_or_eq_true (lettersB l) with e | e
    · exact e
    · exact absurd (textFault_two.2 e) h
  unfold textFault; rw [if_pos h']
theorem numFault_two {l : List UInt8} : (numFault l = 2 ↔ (numOf l).isNone = true) ∧ (numFault l = 0 ∨ numFault l = 2) := by
  unfold numFault
  cases numOf l <;> simp
/-- the parts' faults, told as Parse tells them, are the words' fault; where there is none, it is Check's. -/
theorem told_words {k : Int} (hk : 1 ≤ k ∧ k ≤ 5) (ws : List (List UInt8)) (hw : wordsKind ws = k) :
    (¬ partFaults k ws = 0 → wordsFault ws = partFaults k ws) ∧ (partFaults k ws = 0 → wordsFault ws = atomFault k (wordsS ws) (wordsT k ws) (wordsN k ws)) := by
  have hF : wordsFault ws = if partsBad k ws = true then 2 else atomFault k (wordsS ws) (wordsT k ws) (wordsN k ws) := by
    unfold wordsFault; rw [hw, if_neg (by omega)]
  rw [hF]
  have hb : partsBad k ws = true ↔ (textFault (ws.getD 1 []) = 2 ∨ (if secondB k = true then textFault (ws.getD 2 []) else 0) = 2 ∨ (if numberB k = true then numFault (ws.getD (ws.length - 1) []) else 0) = 2) := by
    unfold partsBad
    rw [textFault_two]
    cases secondB k <;> cases numberB k <;> simp [textFault_two, numFault_two.1, or_assoc]
  by_cases h2 : partsBad k ws = true
  · rw [if_pos h2]
    have e : partFaults k ws = 2 := by unfold partFaults toldN; rw [if_pos (hb.1 h2)]
    rw [e]
    exact ⟨fun _ => rfl, fun h => by cases h⟩
  · rw [if_neg h2]
    have hn := fun h => h2 (hb.2 h)
    have e : partFaults k ws = if textFault (ws.getD 1 []) = 0 then (if (if secondB k = true then textFault (ws.getD 2 []) else 0) = 0 then (if numberB k = true then numFault (ws.getD (ws.length - 1) []) else 0) else (if secondB k = true then textFault (ws.getD 2 []) else 0)) else textFault (ws.getD 1 []) := by
      unfold partFaults toldN; rw [if_neg hn]
    refine ⟨fun h => ?_, fun _ => rfl⟩
    rw [e] at h ⊢
    have hS : textFault (ws.getD 1 []) = faultN (wordsS ws) := textFault_ok (fun h' => hn (Or.inl h'))
    by_cases hs : textFault (ws.getD 1 []) = 0
    · rw [if_pos hs] at h ⊢
      by_cases hc : secondB k = true
      · rw [if_pos hc] at h ⊢
        have hT : textFault (ws.getD 2 []) = faultN (wordsT k ws) := by
          unfold wordsT; rw [if_pos hc]
          exact textFault_ok (fun h' => hn (Or.inr (Or.inl (by rw [if_pos hc]; exact h'))))
        have hsf : secondFault k (wordsT k ws) = textFault (ws.getD 2 []) := by unfold secondFault; rw [if_pos hc, hT]
        by_cases ht : textFault (ws.getD 2 []) = 0
        · rw [if_pos ht] at h
          exfalso
          rcases (numFault_two (l := ws.getD (ws.length - 1) [])).2 with e0 | e0
          · rw [e0] at h; simp at h
          · by_cases hm : numberB k = true
            · exact hn (Or.inr (Or.inr (by rw [if_pos hm]; exact e0)))
            · rw [if_neg hm] at h; exact h rfl
        · rw [if_neg ht]
          rw [atomFault_second hk (by rw [← hS]; exact hs) (by rw [hsf]; exact ht), hsf]
      · rw [if_neg hc] at h
        exfalso
        rw [if_pos rfl] at h
        rcases (numFault_two (l := ws.getD (ws.length - 1) [])).2 with e0 | e0
        · rw [e0] at h; simp at h
        · by_cases hm : numberB k = true
          · exact hn (Or.inr (Or.inr (by rw [if_pos hm]; exact e0)))
          · rw [if_neg hm] at h; exact h rfl
    · rw [if_neg hs]
      rw [atomFault_first hk (by rw [← hS]; exact hs), hS]
end Go.Proofs.YtfnkbbpjfjendaiGreatDoor

namespace Go.Proofs.YtfnkbbpjfjendaiGreatDoor
open Go.ChangeShapes Go.WideShapes Go.ChangeAt Go.RowKit
set_option maxRecDepth 100000

/-- more cuts than there may be blanks change nothing. -/
theorem split_more : ∀ (n m : Nat) (l : List UInt8), l.length ≤ n → l.length ≤ m → splitL n l = splitL m l := by
  intro n
  induction n with
  | zero =>
    intro m l h _
    have hl : l = [] := List.eq_nil_of_length_eq_zero (by omega)
    subst hl
    rw [splitL_miss (by decide), splitL_miss (by decide)]
  | succ n ih =>
    intro m l h hm
    by_cases hb : blankAt l < 0
    · rw [splitL_miss hb, splitL_miss hb]
    · obtain ⟨j, hj⟩ := Int.eq_ofNat_of_zero_le (show 0 ≤ blankAt l by omega)
      have hr := blankAt_range l
      rw [hj] at hr
      obtain ⟨k, rfl⟩ : ∃ k, m = k + 1 := ⟨m - 1, by omega⟩
      rw [splitL_hit hj, splitL_hit hj, ih k _ (by simp; omega) (by simp; omega)]
/-- a text cut at every blank. -/
def cutL (l : List UInt8) : List (List UInt8) := splitL l.length l
theorem cutL_miss {l : List UInt8} (h : blankAt l < 0) : cutL l = [l] := splitL_miss h
theorem cutL_hit {l : List UInt8} {j : Nat} (h : blankAt l = j) : cutL l = l.take j :: cutL (l.drop (j + 1)) := by
  have hr := blankAt_range l
  rw [h] at hr
  obtain ⟨k, hk⟩ : ∃ k, l.length = k + 1 := ⟨l.length - 1, by omega⟩
  rw [cutL, hk, splitL_hit h, cutL, split_more k (l.drop (j + 1)).length _ (by simp; omega) (Nat.le_refl _)]
/-- cut at most k times: all words, or k + 1 of them. -/
theorem split_cut : ∀ (k : Nat) (l : List UInt8), splitL k l = cutL l ∨ (k + 1 < (cutL l).length ∧ (splitL k l).length = k + 1) := by
  intro k
  induction k with
  | zero =>
    intro l
    by_cases hb : blankAt l < 0
    · left; rw [cutL_miss hb]; rfl
    · obtain ⟨j, hj⟩ := Int.eq_ofNat_of_zero_le (show 0 ≤ blankAt l by omega)
      right
      rw [cutL_hit hj]
      have := splitL_pos (l.drop (j + 1)).length (l.drop (j + 1))
      exact ⟨by simp only [List.length_cons]; unfold cutL; omega, rfl⟩
  | succ k ih =>
    intro l
    by_cases hb : blankAt l < 0
    · left; rw [cutL_miss hb, splitL_miss hb]
    · obtain ⟨j, hj⟩ := Int.eq_ofNat_of_zero_le (show 0 ≤ blankAt l by omega)
      rw [cutL_hit hj, splitL_hit hj]
      rcases ih (l.drop (j + 1)) with h | ⟨h1, h2⟩
      · left; rw [h]
      · right; simp only [List.length_cons]; omega
theorem wordsFault_long {ws : List (List UInt8)} (h : 4 < ws.length) : wordsKind ws = 0 ∧ wordsFault ws = 2 := by
  have e : wordsKind ws = 0 := by
    unfold wordsKind
    rw [if_neg]
    unfold manyN
    split <;> omega
  exact ⟨e, by unfold wordsFault; rw [if_pos e]⟩
/-- what Parse sees is read as the whole cut. -/
theorem seen_cut (s : ByteArray) : seen s = cutL s.data.toList ∨ (wordsFault (seen s) = 2 ∧ wordsFault (cutL s.data.toList) = 2) := by
  have hl : s.data.toList.length = s.size := Array.length_toList
  unfold seen
  by_cases h : 4 ≤ s.size
  · rw [if_pos h]
    rcases split_cut 4 s.data.toList with e | ⟨h1, h2⟩
    · exact Or.inl e
    · exact Or.inr ⟨(wordsFault_long (by omega)).2, (wordsFault_long (by omega)).2⟩
  · rw [if_neg h]
    left
    rw [← hl]
    rfl
end Go.Proofs.YtfnkbbpjfjendaiGreatDoor
