/-
  Facts and contracts that the statement leans on.
-/
import Derived.Test.YtnoohlibgaeklaaGreatDoorLibQ4
import Derived.Test.YtnoohlibgaeklaaGreatDoorLibQ1
namespace Go.Proofs.YtnoohlibgaeklaaGreatDoor
open Go.ChangeShapes Go.WideShapes Go.ChangeAt Go.RowKit
set_option maxRecDepth 100000
set_option maxHeartbeats 16000000
theorem words_any (x : ByteArray) (s n : Bool) (w : World) :
    Calls Tryz.prog 135 #[.agg #[.string x, .bool s, .bool n]] w (Bk w (.int .i64 (2 + (if s = true then 1 else 0) + (if n = true then 1 else 0)))) := by
 have HB : Hid (Bw w (w.alloc (.cells #[.string x, .bool s, .bool n] 154))) := below_alloc1 w _
 cases s <;> cases n
 all_goals
  go_enter Tryz.func135, Tryz.ntmps135
  go_wp2
  go_ret
  exact ⟨rfl, HB.out⟩
theorem kindOf_hit1 (b cap : Nat) (w : World) (hK : KindsLaid w) (h0 : w.cell? ⟨b, 0, none⟩ = some (.string ⟨#[115, 117, 98]⟩)) :
    Calls Tryz.prog 89 #[.slice (some ⟨b, 0, none⟩) 3 cap] w (Bk w (.int .i64 1)) := by
 have y1 : w.cell? ⟨1, 3, none⟩ = some (.string ⟨#[115, 117, 98]⟩) := hK 3 (by decide)
 have ys1 : w.cell? ⟨1, 4, none⟩ = some (.bool true) := hK 4 (by decide)
 have yn1 : w.cell? ⟨1, 5, none⟩ = some (.bool false) := hK 5 (by decide)
 have HW : Hid (∀ W, Calls Tryz.prog 135 #[.agg #[.string ⟨#[115, 117, 98]⟩, .bool true, .bool false]] W (Bk W (.int .i64 3))) := fun W => words_any _ _ _ W
 clear hK
 go_enter Tryz.func89, Tryz.ntmps89
 go_wp2_with fail
 refine wp_loop_rounds 6 ?_
 rw [rounds_succ]
 go_wp2_with fail
 go_region_with (first | (go_at_call 135; refine (HW.out _).mono ?_; rintro e w2 ⟨rfl, hb⟩))
 all_goals go_wp2
 all_goals go_ret
 all_goals (refine ⟨rfl, Below.trans ?_ hb⟩; repeat (first | exact Below.refl _ _ | exact below_drewNs _ _ | refine Below.drew ?_ | refine Below.trans ?_ ((below_drewNs _ _).mono (Nat.le_refl _))))
theorem kindOf_hit2 (b cap : Nat) (w : World) (hK : KindsLaid w) (h0 : w.cell? ⟨b, 0, none⟩ = some (.string ⟨#[115, 97, 109, 101]⟩)) :
    Calls Tryz.prog 89 #[.slice (some ⟨b, 0, none⟩) 3 cap] w (Bk w (.int .i64 2)) := by
 have y1 : w.cell? ⟨1, 3, none⟩ = some (.string ⟨#[115, 117, 98]⟩) := hK 3 (by decide)
 have y2 : w.cell? ⟨1, 6, none⟩ = some (.string ⟨#[115, 97, 109, 101]⟩) := hK 6 (by decide)
 have ys2 : w.cell? ⟨1, 7, none⟩ = some (.bool true) := hK 7 (by decide)
 have yn2 : w.cell? ⟨1, 8, none⟩ = some (.bool false) := hK 8 (by decide)
 have HW : Hid (∀ W, Calls Tryz.prog 135 #[.agg #[.string ⟨#[115, 97, 109, 101]⟩, .bool true, .bool false]] W (Bk W (.int .i64 3))) := fun W => words_any _ _ _ W
 clear hK
 go_enter Tryz.func89, Tryz.ntmps89
 go_wp2_with fail
 refine wp_loop_rounds 6 ?_
 rw [rounds_succ]
 go_wp2_with fail
 go_quiet (fail)
 go_wp2_with fail
 rw [rounds_succ]
 go_wp2_with fail
 go_region_with (first | (go_at_call 135; refine (HW.out _).mono ?_; rintro e w2 ⟨rfl, hb⟩))
 all_goals go_wp2
 all_goals go_ret
 all_goals (refine ⟨rfl, Below.trans ?_ hb⟩; repeat (first | exact Below.refl _ _ | exact below_drewNs _ _ | refine Below.drew ?_ | refine Below.trans ?_ ((below_drewNs _ _).mono (Nat.le_refl _))))
theorem kindOf_hit3 (b cap : Nat) (w : World) (hK : KindsLaid w) (h0 : w.cell? ⟨b, 0, none⟩ = some (.string ⟨#[108, 101, 97, 115, 116]⟩)) :
    Calls Tryz.prog 89 #[.slice (some ⟨b, 0, none⟩) 3 cap] w (Bk w (.int .i64 3)) := by
 have y1 : w.cell? ⟨1, 3, none⟩ = some (.string ⟨#[115, 117, 98]⟩) := hK 3 (by decide)
 have y2 : w.cell? ⟨1, 6, none⟩ = some (.string ⟨#[115, 97, 109, 101]⟩) := hK 6 (by decide)
 have y3 : w.cell? ⟨1, 9, none⟩ = some (.string ⟨#[108, 101, 97, 115, 116]⟩) := hK 9 (by decide)
 have ys3 : w.cell? ⟨1, 10, none⟩ = some (.bool false) := hK 10 (by decide)
 have yn3 : w.cell? ⟨1, 11, none⟩ = some (.bool true) := hK 11 (by decide)
 have HW : Hid (∀ W, Calls Tryz.prog 135 #[.agg #[.string ⟨#[108, 101, 97, 115, 116]⟩, .bool false, .bool true]] W (Bk W (.int .i64 3))) := fun W => words_any _ _ _ W
 clear hK
 go_enter Tryz.func89, Tryz.ntmps89
 go_wp2_with fail
 refine wp_loop_rounds 6 ?_
 rw [rounds_succ]
 go_wp2_with fail
 go_quiet (fail)
 go_wp2_with fail
 rw [rounds_succ]
 go_wp2_with fail
 go_quiet (fail)
 go_wp2_with fail
 rw [rounds_succ]
 go_wp2_with fail
 go_region_with (first | (go_at_call 135; refine (HW.out _).mono ?_; rintro e w2 ⟨rfl, hb⟩))
 all_goals go_wp2
 all_goals go_ret
 all_goals (refine ⟨rfl, Below.trans ?_ hb⟩; repeat (first | exact Below.refl _ _ | exact below_drewNs _ _ | refine Below.drew ?_ | refine Below.trans ?_ ((below_drewNs _ _).mono (Nat.le_refl _))))
theorem kindOf_hit4 (b cap : Nat) (w : World) (hK : KindsLaid w) (h0 : w.cell? ⟨b, 0, none⟩ = some (.string ⟨#[109, 111, 115, 116]⟩)) :
    Calls Tryz.prog 89 #[.slice (some ⟨b, 0, none⟩) 3 cap] w (Bk w (.int .i64 4)) := by
 have y1 : w.cell? ⟨1, 3, none⟩ = some (.string ⟨#[115, 117, 98]⟩) := hK 3 (by decide)
 have y2 : w.cell? ⟨1, 6, none⟩ = some (.string ⟨#[115, 97, 109, 101]⟩) := hK 6 (by decide)
 have y3 : w.cell? ⟨1, 9, none⟩ = some (.string ⟨#[108, 101, 97, 115, 116]⟩) := hK 9 (by decide)
 have y4 : w.cell? ⟨1, 12, none⟩ = some (.string ⟨#[109, 111, 115, 116]⟩) := hK 12 (by decide)
 have ys4 : w.cell? ⟨1, 13, none⟩ = some (.bool false) := hK 13 (by decide)
 have yn4 : w.cell? ⟨1, 14, none⟩ = some (.bool true) := hK 14 (by decide)
 have HW : Hid (∀ W, Calls Tryz.prog 135 #[.agg #[.string ⟨#[109, 111, 115, 116]⟩, .bool false, .bool true]] W (Bk W (.int .i64 3))) := fun W => words_any _ _ _ W
 clear hK
 go_enter Tryz.func89, Tryz.ntmps89
 go_wp2_with fail
 refine wp_loop_rounds 6 ?_
 rw [rounds_succ]
 go_wp2_with fail
 go_quiet (fail)
 go_wp2_with fail
 rw [rounds_succ]
 go_wp2_with fail
 go_quiet (fail)
 go_wp2_with fail
 rw [rounds_succ]
 go_wp2_with fail
 go_quiet (fail)
 go_wp2_with fail
 rw [rounds_succ]
 go_wp2_with fail
 go_region_with (first | (go_at_call 135; refine (HW.out _).mono ?_; rintro e w2 ⟨rfl, hb⟩))
 all_goals go_wp2
 all_goals go_ret
 all_goals (refine ⟨rfl, Below.trans ?_ hb⟩; repeat (first | exact Below.refl _ _ | exact below_drewNs _ _ | refine Below.drew ?_ | refine Below.trans ?_ ((below_drewNs _ _).mono (Nat.le_refl _))))
theorem kindOf_hit5 (b cap : Nat) (w : World) (hK : KindsLaid w) (h0 : w.cell? ⟨b, 0, none⟩ = some (.string ⟨#[110, 111, 109, 111, 114, 101]⟩)) :
    Calls Tryz.prog 89 #[.slice (some ⟨b, 0, none⟩) 4 cap] w (Bk w (.int .i64 5)) := by
 have y1 : w.cell? ⟨1, 3, none⟩ = some (.string ⟨#[115, 117, 98]⟩) := hK 3 (by decide)
 have y2 : w.cell? ⟨1, 6, none⟩ = some (.string ⟨#[115, 97, 109, 101]⟩) := hK 6 (by decide)
 have y3 : w.cell? ⟨1, 9, none⟩ = some (.string ⟨#[108, 101, 97, 115, 116]⟩) := hK 9 (by decide)
 have y4 : w.cell? ⟨1, 12, none⟩ = some (.string ⟨#[109, 111, 115, 116]⟩) := hK 12 (by decide)
 have y5 : w.cell? ⟨1, 15, none⟩ = some (.string ⟨#[110, 111, 109, 111, 114, 101]⟩) := hK 15 (by decide)
 have ys5 : w.cell? ⟨1, 16, none⟩ = some (.bool true) := hK 16 (by decide)
 have yn5 : w.cell? ⟨1, 17, none⟩ = some (.bool true) := hK 17 (by decide)
 have HW : Hid (∀ W, Calls Tryz.prog 135 #[.agg #[.string ⟨#[110, 111, 109, 111, 114, 101]⟩, .bool true, .bool true]] W (Bk W (.int .i64 4))) := fun W => words_any _ _ _ W
 clear hK
 go_enter Tryz.func89, Tryz.ntmps89
 go_wp2_with fail
 refine wp_loop_rounds 6 ?_
 rw [rounds_succ]
 go_wp2_with fail
 go_quiet (fail)
 go_wp2_with fail
 rw [rounds_succ]
 go_wp2_with fail
 go_quiet (fail)
 go_wp2_with fail
 rw [rounds_succ]
 go_wp2_with fail
 go_quiet (fail)
 go_wp2_with fail
 rw [rounds_succ]
 go_wp2_with fail
 go_quiet (fail)
 go_wp2_with fail
 rw [rounds_succ]
 go_wp2_with fail
 go_region_with (first | (go_at_call 135; refine (HW.out _).mono ?_; rintro e w2 ⟨rfl, hb⟩))
 all_goals go_wp2
 all_goals go_ret
 all_goals (refine ⟨rfl, Below.trans ?_ hb⟩; repeat (first | exact Below.refl _ _ | exact below_drewNs _ _ | refine Below.drew ?_ | refine Below.trans ?_ ((below_drewNs _ _).mono (Nat.le_refl _))))
theorem kindOf_miss1 (b cap : Nat) (L : Nat) (w : World) (hK : KindsLaid w) (hb0 : b < w.heap.size) (h0 : w.cell? ⟨b, 0, none⟩ = some (.string ⟨#[115, 117, 98]⟩)) (hne : ¬ (L : Int) = 3) (h1 : 0 < L) :
    Calls Tryz.prog 89 #[.slice (some ⟨b, 0, none⟩) L cap] w (Bk w (.int .i64 0)) := by
 have y1 : w.cell? ⟨1, 3, none⟩ = some (.string ⟨#[115, 117, 98]⟩) := hK 3 (by decide)
 have ys1 : w.cell? ⟨1, 4, none⟩ = some (.bool true) := hK 4 (by decide)
 have yn1 : w.cell? ⟨1, 5, none⟩ = some (.bool false) := hK 5 (by decide)
 have HW : Hid (∀ W, Calls Tryz.prog 135 #[.agg #[.string ⟨#[115, 117, 98]⟩, .bool true, .bool false]] W (Bk W (.int .i64 3))) := fun W => words_any _ _ _ W
 have hne' : ((3 : Int) == (L : Int)) = false := by simp; omega
 have HKw := hide hK
 have HB0 := hide hb0
 have H0 := hide h0
 clear hK hb0
 go_enter Tryz.func89, Tryz.ntmps89
 go_wp2_with fail
 refine wp_loop_rounds 6 ?_
 rw [rounds_succ]
 go_wp2_with fail
 go_region_with (first | (go_at_call 135; refine (HW.out _).mono ?_; rintro e w2 ⟨rfl, hb⟩))
 all_goals
  have HBw : Hid (Bw w w2) := by
   refine Below.trans ?_ hb
   repeat (first | exact Below.refl _ _ | exact below_drewNs _ _ | refine Below.drew ?_ | refine Below.trans ?_ ((below_drewNs _ _).mono (Nat.le_refl _)))
  have HK2 := HKw.out.below HBw.out
  have g0 := (HBw.out.cell (p := ⟨b, 0, none⟩) HB0.out).trans H0.out
  have z2 : w2.cell? ⟨1, 6, none⟩ = some (.string ⟨#[115, 97, 109, 101]⟩) := HK2 6 (by decide)
  have z3 : w2.cell? ⟨1, 9, none⟩ = some (.string ⟨#[108, 101, 97, 115, 116]⟩) := HK2 9 (by decide)
  have z4 : w2.cell? ⟨1, 12, none⟩ = some (.string ⟨#[109, 111, 115, 116]⟩) := HK2 12 (by decide)
  have z5 : w2.cell? ⟨1, 15, none⟩ = some (.string ⟨#[110, 111, 109, 111, 114, 101]⟩) := HK2 15 (by decide)
  clear hb HK2
  go_wp2_with fail
  rw [rounds_succ]
  go_wp2_with fail
  go_quiet (fail)
  go_wp2_with fail
  rw [rounds_succ]
  go_wp2_with fail
  go_quiet (fail)
  go_wp2_with fail
  rw [rounds_succ]
  go_wp2_with fail
  go_quiet (fail)
  go_wp2_with fail
  rw [rounds_succ]
  go_wp2_with fail
  go_quiet (fail)
  go_wp2_with fail
  rw [rounds_succ]
  go_wp2
  go_ret
  refine ⟨rfl, ?_⟩
  repeat (first | exact HBw.out | exact HBw.out.trans ((below_drewNs _ _).mono HBw.out.size) | refine Below.drew ?_ | refine Below.trans ?_ ((below_drewNs _ _).mono HBw.out.size))
theorem kindOf_miss2 (b cap : Nat) (L : Nat) (w : World) (hK : KindsLaid w) (hb0 : b < w.heap.size) (h0 : w.cell? ⟨b, 0, none⟩ = some (.string ⟨#[115, 97, 109, 101]⟩)) (hne : ¬ (L : Int) = 3) (h1 : 0 < L) :
    Calls Tryz.prog 89 #[.slice (some ⟨b, 0, none⟩) L cap] w (Bk w (.int .i64 0)) := by
 have y1 : w.cell? ⟨1, 3, none⟩ = some (.string ⟨#[115, 117, 98]⟩) := hK 3 (by decide)
 have y2 : w.cell? ⟨1, 6, none⟩ = some (.string ⟨#[115, 97, 109, 101]⟩) := hK 6 (by decide)
 have ys2 : w.cell? ⟨1, 7, none⟩ = some (.bool true) := hK 7 (by decide)
 have yn2 : w.cell? ⟨1, 8, none⟩ = some (.bool false) := hK 8 (by decide)
 have HW : Hid (∀ W, Calls Tryz.prog 135 #[.agg #[.string ⟨#[115, 97, 109, 101]⟩, .bool true, .bool false]] W (Bk W (.int .i64 3))) := fun W => words_any _ _ _ W
 have hne' : ((3 : Int) == (L : Int)) = false := by simp; omega
 have HKw := hide hK
 have HB0 := hide hb0
 have H0 := hide h0
 clear hK hb0
 go_enter Tryz.func89, Tryz.ntmps89
 go_wp2_with fail
 refine wp_loop_rounds 6 ?_
 rw [rounds_succ]
 go_wp2_with fail
 go_quiet (fail)
 go_wp2_with fail
 rw [rounds_succ]
 go_wp2_with fail
 go_region_with (first | (go_at_call 135; refine (HW.out _).mono ?_; rintro e w2 ⟨rfl, hb⟩))
 all_goals
  have HBw : Hid (Bw w w2) := by
   refine Below.trans ?_ hb
   repeat (first | exact Below.refl _ _ | exact below_drewNs _ _ | refine Below.drew ?_ | refine Below.trans ?_ ((below_drewNs _ _).mono (Nat.le_refl _)))
  have HK2 := HKw.out.below HBw.out
  have g0 := (HBw.out.cell (p := ⟨b, 0, none⟩) HB0.out).trans H0.out
  have z3 : w2.cell? ⟨1, 9, none⟩ = some (.string ⟨#[108, 101, 97, 115, 116]⟩) := HK2 9 (by decide)
  have z4 : w2.cell? ⟨1, 12, none⟩ = some (.string ⟨#[109, 111, 115, 116]⟩) := HK2 12 (by decide)
  have z5 : w2.cell? ⟨1, 15, none⟩ = some (.string ⟨#[110, 111, 109, 111, 114, 101]⟩) := HK2 15 (by decide)
  clear hb HK2
  go_wp2_with fail
  rw [rounds_succ]
  go_wp2_with fail
  go_quiet (fail)
  go_wp2_with fail
  rw [rounds_succ]
  go_wp2_with fail
  go_quiet (fail)
  go_wp2_with fail
  rw [rounds_succ]
  go_wp2_with fail
  go_quiet (fail)
  go_wp2_with fail
  rw [rounds_succ]
  go_wp2
  go_ret
  refine ⟨rfl, ?_⟩
  repeat (first | exact HBw.out | exact HBw.out.trans ((below_drewNs _ _).mono HBw.out.size) | refine Below.drew ?_ | refine Below.trans ?_ ((below_drewNs _ _).mono HBw.out.size))
theorem kindOf_miss3 (b cap : Nat) (L : Nat) (w : World) (hK : KindsLaid w) (hb0 : b < w.heap.size) (h0 : w.cell? ⟨b, 0, none⟩ = some (.string ⟨#[108, 101, 97, 115, 116]⟩)) (hne : ¬ (L : Int) = 3) (h1 : 0 < L) :
    Calls Tryz.prog 89 #[.slice (some ⟨b, 0, none⟩) L cap] w (Bk w (.int .i64 0)) := by
 have y1 : w.cell? ⟨1, 3, none⟩ = some (.string ⟨#[115, 117, 98]⟩) := hK 3 (by decide)
 have y2 : w.cell? ⟨1, 6, none⟩ = some (.string ⟨#[115, 97, 109, 101]⟩) := hK 6 (by decide)
 have y3 : w.cell? ⟨1, 9, none⟩ = some (.string ⟨#[108, 101, 97, 115, 116]⟩) := hK 9 (by decide)
 have ys3 : w.cell? ⟨1, 10, none⟩ = some (.bool false) := hK 10 (by decide)
 have yn3 : w.cell? ⟨1, 11, none⟩ = some (.bool true) := hK 11 (by decide)
 have HW : Hid (∀ W, Calls Tryz.prog 135 #[.agg #[.string ⟨#[108, 101, 97, 115, 116]⟩, .bool false, .bool true]] W (Bk W (.int .i64 3))) := fun W => words_any _ _ _ W
 have hne' : ((3 : Int) == (L : Int)) = false := by simp; omega
 have HKw := hide hK
 have HB0 := hide hb0
 have H0 := hide h0
 clear hK hb0
 go_enter Tryz.func89, Tryz.ntmps89
 go_wp2_with fail
 refine wp_loop_rounds 6 ?_
 rw [rounds_succ]
 go_wp2_with fail
 go_quiet (fail)
 go_wp2_with fail
 rw [rounds_succ]
 go_wp2_with fail
 go_quiet (fail)
 go_wp2_with fail
 rw [rounds_succ]
 go_wp2_with fail
 go_region_with (first | (go_at_call 135; refine (HW.out _).mono ?_; rintro e w2 ⟨rfl, hb⟩))
 all_goals
  have HBw : Hid (Bw w w2) := by
   refine Below.trans ?_ hb
   repeat (first | exact Below.refl _ _ | exact below_drewNs _ _ | refine Below.drew ?_ | refine Below.trans ?_ ((below_drewNs _ _).mono (Nat.le_refl _)))
  have HK2 := HKw.out.below HBw.out
  have g0 := (HBw.out.cell (p := ⟨b, 0, none⟩) HB0.out).trans H0.out
  have z4 : w2.cell? ⟨1, 12, none⟩ = some (.string ⟨#[109, 111, 115, 116]⟩) := HK2 12 (by decide)
  have z5 : w2.cell? ⟨1, 15, none⟩ = some (.string ⟨#[110, 111, 109, 111, 114, 101]⟩) := HK2 15 (by decide)
  clear hb HK2
  go_wp2_with fail
  rw [rounds_succ]
  go_wp2_with fail
  go_quiet (fail)
  go_wp2_with fail
  rw [rounds_succ]
  go_wp2_with fail
  go_quiet (fail)
  go_wp2_with fail
  rw [rounds_succ]
  go_wp2
  go_ret
  refine ⟨rfl, ?_⟩
  repeat (first | exact HBw.out | exact HBw.out.trans ((below_drewNs _ _).mono HBw.out.size) | refine Below.drew ?_ | refine Below.trans ?_ ((below_drewNs _ _).mono HBw.out.size))
theorem kindOf_miss4 (b cap : Nat) (L : Nat) (w : World) (hK : KindsLaid w) (hb0 : b < w.heap.size) (h0 : w.cell? ⟨b, 0, none⟩ = some (.string ⟨#[109, 111, 115, 116]⟩)) (hne : ¬ (L : Int) = 3) (h1 : 0 < L) :
    Calls Tryz.prog 89 #[.slice (some ⟨b, 0, none⟩) L cap] w (Bk w (.int .i64 0)) := by
 have y1 : w.cell? ⟨1, 3, none⟩ = some (.string ⟨#[115, 117, 98]⟩) := hK 3 (by decide)
 have y2 : w.cell? ⟨1, 6, none⟩ = some (.string ⟨#[115, 97, 109, 101]⟩) := hK 6 (by decide)
 have y3 : w.cell? ⟨1, 9, none⟩ = some (.string ⟨#[108, 101, 97, 115, 116]⟩) := hK 9 (by decide)
 have y4 : w.cell? ⟨1, 12, none⟩ = some (.string ⟨#[109, 111, 115, 116]⟩) := hK 12 (by decide)
 have ys4 : w.cell? ⟨1, 13, none⟩ = some (.bool false) := hK 13 (by decide)
 have yn4 : w.cell? ⟨1, 14, none⟩ = some (.bool true) := hK 14 (by decide)
 have HW : Hid (∀ W, Calls Tryz.prog 135 #[.agg #[.string ⟨#[109, 111, 115, 116]⟩, .bool false, .bool true]] W (Bk W (.int .i64 3))) := fun W => words_any _ _ _ W
 have hne' : ((3 : Int) == (L : Int)) = false := by simp; omega
 have HKw := hide hK
 have HB0 := hide hb0
 have H0 := hide h0
 clear hK hb0
 go_enter Tryz.func89, Tryz.ntmps89
 go_wp2_with fail
 refine wp_loop_rounds 6 ?_
 rw [rounds_succ]
 go_wp2_with fail
 go_quiet (fail)
 go_wp2_with fail
 rw [rounds_succ]
 go_wp2_with fail
 go_quiet (fail)
 go_wp2_with fail
 rw [rounds_succ]
 go_wp2_with fail
 go_quiet (fail)
 go_wp2_with fail
 rw [rounds_succ]
 go_wp2_with fail
 go_region_with (first | (go_at_call 135; refine (HW.out _).mono ?_; rintro e w2 ⟨rfl, hb⟩))
 all_goals
  have HBw : Hid (Bw w w2) := by
   refine Below.trans ?_ hb
   repeat (first | exact Below.refl _ _ | exact below_drewNs _ _ | refine Below.drew ?_ | refine Below.trans ?_ ((below_drewNs _ _).mono (Nat.le_refl _)))
  have HK2 := HKw.out.below HBw.out
  have g0 := (HBw.out.cell (p := ⟨b, 0, none⟩) HB0.out).trans H0.out
  have z5 : w2.cell? ⟨1, 15, none⟩ = some (.string ⟨#[110, 111, 109, 111, 114, 101]⟩) := HK2 15 (by decide)
  clear hb HK2
  go_wp2_with fail
  rw [rounds_succ]
  go_wp2_with fail
  go_quiet (fail)
  go_wp2_with fail
  rw [rounds_succ]
  go_wp2
  go_ret
  refine ⟨rfl, ?_⟩
  repeat (first | exact HBw.out | exact HBw.out.trans ((below_drewNs _ _).mono HBw.out.size) | refine Below.drew ?_ | refine Below.trans ?_ ((below_drewNs _ _).mono HBw.out.size))
theorem kindOf_miss5 (b cap : Nat) (L : Nat) (w : World) (hK : KindsLaid w) (hb0 : b < w.heap.size) (h0 : w.cell? ⟨b, 0, none⟩ = some (.string ⟨#[110, 111, 109, 111, 114, 101]⟩)) (hne : ¬ (L : Int) = 4) (h1 : 0 < L) :
    Calls Tryz.prog 89 #[.slice (some ⟨b, 0, none⟩) L cap] w (Bk w (.int .i64 0)) := by
 have y1 : w.cell? ⟨1, 3, none⟩ = some (.string ⟨#[115, 117, 98]⟩) := hK 3 (by decide)
 have y2 : w.cell? ⟨1, 6, none⟩ = some (.string ⟨#[115, 97, 109, 101]⟩) := hK 6 (by decide)
 have y3 : w.cell? ⟨1, 9, none⟩ = some (.string ⟨#[108, 101, 97, 115, 116]⟩) := hK 9 (by decide)
 have y4 : w.cell? ⟨1, 12, none⟩ = some (.string ⟨#[109, 111, 115, 116]⟩) := hK 12 (by decide)
 have y5 : w.cell? ⟨1, 15, none⟩ = some (.string ⟨#[110, 111, 109, 111, 114, 101]⟩) := hK 15 (by decide)
 have ys5 : w.cell? ⟨1, 16, none⟩ = some (.bool true) := hK 16 (by decide)
 have yn5 : w.cell? ⟨1, 17, none⟩ = some (.bool true) := hK 17 (by decide)
 have HW : Hid (∀ W, Calls Tryz.prog 135 #[.agg #[.string ⟨#[110, 111, 109, 111, 114, 101]⟩, .bool true, .bool true]] W (Bk W (.int .i64 4))) := fun W => words_any _ _ _ W
 have hne' : ((4 : Int) == (L : Int)) = false := by simp; omega
 have HKw := hide hK
 have HB0 := hide hb0
 have H0 := hide h0
 clear hK hb0
 go_enter Tryz.func89, Tryz.ntmps89
 go_wp2_with fail
 refine wp_loop_rounds 6 ?_
 rw [rounds_succ]
 go_wp2_with fail
 go_quiet (fail)
 go_wp2_with fail
 rw [rounds_succ]
 go_wp2_with fail
 go_quiet (fail)
 go_wp2_with fail
 rw [rounds_succ]
 go_wp2_with fail
 go_quiet (fail)
 go_wp2_with fail
 rw [rounds_succ]
 go_wp2_with fail
 go_quiet (fail)
 go_wp2_with fail
 rw [rounds_succ]
 go_wp2_with fail
 go_region_with (first | (go_at_call 135; refine (HW.out _).mono ?_; rintro e w2 ⟨rfl, hb⟩))
 all_goals
  have HBw : Hid (Bw w w2) := by
   refine Below.trans ?_ hb
   repeat (first | exact Below.refl _ _ | exact below_drewNs _ _ | refine Below.drew ?_ | refine Below.trans ?_ ((below_drewNs _ _).mono (Nat.le_refl _)))
  have HK2 := HKw.out.below HBw.out
  have g0 := (HBw.out.cell (p := ⟨b, 0, none⟩) HB0.out).trans H0.out
  clear hb HK2
  go_wp2_with fail
  rw [rounds_succ]
  go_wp2
  go_ret
  refine ⟨rfl, ?_⟩
  repeat (first | exact HBw.out | exact HBw.out.trans ((below_drewNs _ _).mono HBw.out.size) | refine Below.drew ?_ | refine Below.trans ?_ ((below_drewNs _ _).mono HBw.out.size))
end Go.Proofs.YtnoohlibgaeklaaGreatDoor
