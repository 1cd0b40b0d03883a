/-
  Proved: what rows.Fits returns, of any rows and any counts; what was in memory is as it was (a contract that the statements lean on). Written by program.
  Proved: what fit.Many returns, of any number of things and any rows; what was in memory is as it was (a contract that the statements lean on).
-/
import Derived.Test.YtgkgbpbohgklhafGreatDoorLibPB17
import Derived.Deep.RegionHeld3
import Derived.Test.YtgkgbpbohgklhafGreatDoorLibPB16
namespace Go.Proofs.YtgkgbpbohgklhafGreatDoor
open Go.ChangeShapes Go.WideShapes Go.ChangeAt Go.RowKit
set_option maxRecDepth 100000

set_option maxHeartbeats 4000000 in
theorem exceeds_any (T N : Nat → Int) (m : Int) (P : Nat) (hT : ∀ f, f < 8 → -2 ≤ T f ∧ T f ≤ 2) (hN : ∀ f, f < 8 → 0 ≤ N f ∧ N f ≤ 6) (w : World) (hP : Blk w P 64 (arr8 N)) :
    Calls Tryz.prog 102 #[.agg #[.int .i64 (T 0), .int .i64 (T 1), .int .i64 (T 2), .int .i64 (T 3), .int .i64 (T 4), .int .i64 (T 5), .int .i64 (T 6), .int .i64 (T 7), .int .i64 m], .pointer (some ⟨P, 0, none⟩)] w fun e w' => e = .returned (.bool (!(Rw.mk T m).so N)) ∧ Below w.heap.size w w' := by
  obtain ⟨w1, hw1⟩ : ∃ w1, w1 = w.alloc (.cells #[.int .i64 (T 0), .int .i64 (T 1), .int .i64 (T 2), .int .i64 (T 3), .int .i64 (T 4), .int .i64 (T 5), .int .i64 (T 6), .int .i64 (T 7), .int .i64 m] 137) := ⟨_, rfl⟩
  have HW : Hid (Below w.heap.size w w1) := by unfold Hid; rw [hw1]; exact below_alloc1 _ _
  have HK0 : Hid (Blk w1 w.heap.size 137 (arrR T m)) := by unfold Hid; rw [hw1]; exact Blk.new _ _ _
  have HK1 : Hid (Blk w1 P 64 (arr8 N)) := hP.below HW.out
  obtain ⟨S, hS⟩ : ∃ S, S = sumT T N 8 := ⟨_, rfl⟩
  have HR : Hid ((!(Rw.mk T m).so N) = decide (S > m)) := by
    unfold Hid Rw.so
    rw [← hS]
    by_cases h : S ≤ m
    · simp [h]
    · simp [h]; omega
  have HC : Hid (∀ W, Below w1.heap.size w1 W → Calls Tryz.prog 103 #[.agg #[.int .i64 (T 0), .int .i64 (T 1), .int .i64 (T 2), .int .i64 (T 3), .int .i64 (T 4), .int .i64 (T 5), .int .i64 (T 6), .int .i64 (T 7)], .agg #[.int .i64 (N 0), .int .i64 (N 1), .int .i64 (N 2), .int .i64 (N 3), .int .i64 (N 4), .int .i64 (N 5), .int .i64 (N 6), .int .i64 (N 7)]] W fun e w' => e = .returned (.int .i64 S) ∧ Below w.heap.size w w' ∧ w'.cell? ⟨w.heap.size, 0, none⟩ = some (.int .i64 (T 0)) ∧ w'.cell? ⟨w.heap.size, 1, none⟩ = some (.int .i64 (T 1)) ∧ w'.cell? ⟨w.heap.size, 2, none⟩ = some (.int .i64 (T 2)) ∧ w'.cell? ⟨w.heap.size, 3, none⟩ = some (.int .i64 (T 3)) ∧ w'.cell? ⟨w.heap.size, 4, none⟩ = some (.int .i64 (T 4)) ∧ w'.cell? ⟨w.heap.size, 5, none⟩ = some (.int .i64 (T 5)) ∧ w'.cell? ⟨w.heap.size, 6, none⟩ = some (.int .i64 (T 6)) ∧ w'.cell? ⟨w.heap.size, 7, none⟩ = some (.int .i64 (T 7)) ∧ w'.cell? ⟨w.heap.size, 8, none⟩ = some (.int .i64 m) ∧ w'.cell? ⟨P, 0, none⟩ = some (.int .i64 (N 0)) ∧ w'.cell? ⟨P, 1, none⟩ = some (.int .i64 (N 1)) ∧ w'.cell? ⟨P, 2, none⟩ = some (.int .i64 (N 2)) ∧ w'.cell? ⟨P, 3, none⟩ = some (.int .i64 (N 3)) ∧ w'.cell? ⟨P, 4, none⟩ = some (.int .i64 (N 4)) ∧ w'.cell? ⟨P, 5, none⟩ = some (.int .i64 (N 5)) ∧ w'.cell? ⟨P, 6, none⟩ = some (.int .i64 (N 6)) ∧ w'.cell? ⟨P, 7, none⟩ = some (.int .i64 (N 7))) := fun W hW => by
    rw [hS]
    refine (sum_any T N hT hN W).mono fun e w' h => ⟨h.1, ?_, ?_⟩
    · exact HW.out.trans ((hW.mono HW.out.size).trans (h.2.mono (Nat.le_trans HW.out.size hW.size)))
    · have k0 := (HK0.out.below hW).below h.2
      have k1 := (HK1.out.below hW).below h.2
      exact ⟨k0.cell 0, k0.cell 1, k0.cell 2, k0.cell 3, k0.cell 4, k0.cell 5, k0.cell 6, k0.cell 7, k0.cell 8, k1.cell 0, k1.cell 1, k1.cell 2, k1.cell 3, k1.cell 4, k1.cell 5, k1.cell 6, k1.cell 7⟩
  obtain ⟨R, hR⟩ : ∃ R, R = (!(Rw.mk T m).so N) := ⟨_, rfl⟩
  rw [← hR] at HR ⊢
  obtain ⟨c0, c1, c2, c3, c4, c5, c6, c7, c8⟩ := HK0.out.cells9
  obtain ⟨d0, d1, d2, d3, d4, d5, d6, d7⟩ := HK1.out.cells8
  clear hR hS hT hN hP
  go_enter Tryz.func102, Tryz.ntmps102
  go_wp2_with fail
  rw [← hw1]
  clear hw1
  have HD0 : Hid (Below w1.heap.size w1 w1.drew) := (Below.refl _ _).drew
  go_region_held3 (fun w' => w'.cell? ⟨w.heap.size, 0, none⟩ = some (.int .i64 (T 0)) ∧ w'.cell? ⟨w.heap.size, 1, none⟩ = some (.int .i64 (T 1)) ∧ w'.cell? ⟨w.heap.size, 2, none⟩ = some (.int .i64 (T 2)) ∧ w'.cell? ⟨w.heap.size, 3, none⟩ = some (.int .i64 (T 3)) ∧ w'.cell? ⟨w.heap.size, 4, none⟩ = some (.int .i64 (T 4)) ∧ w'.cell? ⟨w.heap.size, 5, none⟩ = some (.int .i64 (T 5)) ∧ w'.cell? ⟨w.heap.size, 6, none⟩ = some (.int .i64 (T 6)) ∧ w'.cell? ⟨w.heap.size, 7, none⟩ = some (.int .i64 (T 7)) ∧ w'.cell? ⟨w.heap.size, 8, none⟩ = some (.int .i64 m) ∧ w'.cell? ⟨P, 0, none⟩ = some (.int .i64 (N 0)) ∧ w'.cell? ⟨P, 1, none⟩ = some (.int .i64 (N 1)) ∧ w'.cell? ⟨P, 2, none⟩ = some (.int .i64 (N 2)) ∧ w'.cell? ⟨P, 3, none⟩ = some (.int .i64 (N 3)) ∧ w'.cell? ⟨P, 4, none⟩ = some (.int .i64 (N 4)) ∧ w'.cell? ⟨P, 5, none⟩ = some (.int .i64 (N 5)) ∧ w'.cell? ⟨P, 6, none⟩ = some (.int .i64 (N 6)) ∧ w'.cell? ⟨P, 7, none⟩ = some (.int .i64 (N 7))) (first | (go_keep; done) | ((try dsimp only); (repeat' apply And.intro) <;> (first | (go_keep; done))))
    (first | (go_at_call 103; refine (HC.out _ ?_).mono ?_; (with_reducible exact HD0.out); rintro e w3 ⟨rfl, hb3, e0, e1, e2, e3, e4, e5, e6, e7, e8, e9, e10, e11, e12, e13, e14, e15, e16⟩))
  all_goals
    have HB3 : Hid (Below w.heap.size w w3) := hb3
    clear hb3
    go_wp2
    go_ret
    exact ⟨back_b HR.out.symm, HB3.out⟩

theorem any_rows {l : List Rw} {v : Value} {w : World} (h : ReadsR w v l) : Calls Tryz.prog 100 #[v, .func (.func 101) #[] #[]] w fun e w' => e = .returned (.bool (l.any Rw.wrong)) ∧ Below w.heap.size w w' := by
  have e1 : ∀ args w, (callFunc 101 args).run Tryz.prog w = .ok (.enter 101 args) w := enters_of Tryz.func101 (by kernel_rfl) rfl
  exact anyR l v _ Rw.wrong w h e1 fun W r _ _ => wrong_any r.t r.m W
theorem any_exceeds {l : List Rw} {v : Value} {w : World} (N : Nat → Int) (P : Nat) (h : ReadsR w v l) (hl : l.any Rw.wrong = false) (hN : ∀ f, f < 8 → 0 ≤ N f ∧ N f ≤ 6) (hP : Blk w P 64 (arr8 N)) : Calls Tryz.prog 100 #[v, .func (.func 102) #[] #[.pointer (some ⟨P, 0, none⟩)]] w fun e w' => e = .returned (.bool (l.any fun r => !r.so N)) ∧ Below w.heap.size w w' := by
  have e1 : ∀ args w, (callFunc 102 args).run Tryz.prog w = .ok (.enter 102 args) w := enters_of Tryz.func102 (by kernel_rfl) rfl
  refine anyP l v P _ (fun r => !r.so N) w h e1 fun W r hW hr => ?_
  have hr' : r.wrong = false := by
    have := List.any_eq_false.1 hl r hr
    simpa using this
  exact exceeds_any r.t N r.m P (right_iff.1 hr').1 hN W (hP.below hW)

set_option maxHeartbeats 4000000 in
theorem rfits_full (n : Nat) (ao : Option Addr) (cap : Nat) (N : Nat → Int) (w : World) (h12 : 12 < n) (hl : n ≤ 9223372036854775807) :
    Calls Tryz.prog 89 #[.slice ao n cap, .agg #[.int .i64 (N 0), .int .i64 (N 1), .int .i64 (N 2), .int .i64 (N 3), .int .i64 (N 4), .int .i64 (N 5), .int .i64 (N 6), .int .i64 (N 7)]] w fun e w' => e = .returned (.tuple #[.bool false, .iface 61 (.int .i64 4)]) ∧ Below w.heap.size w w' := by
  have HW : Hid (Below w.heap.size w (w.alloc (.cells #[.int .i64 (N 0), .int .i64 (N 1), .int .i64 (N 2), .int .i64 (N 3), .int .i64 (N 4), .int .i64 (N 5), .int .i64 (N 6), .int .i64 (N 7)] 64))) := below_alloc1 _ _
  go_enter Tryz.func89, Tryz.ntmps89
  go_wp2
  go_ret2
  exact ⟨rfl, HW.out⟩

set_option maxHeartbeats 4000000 in
theorem rfits_wrong (n : Nat) (ao : Option Addr) (cap : Nat) (N : Nat → Int) (w : World) (h12 : n ≤ 12)
    (HA : Hid (∀ W, Below w.heap.size w W → Calls Tryz.prog 100 #[.slice ao n cap, .func (.func 101) #[] #[]] W fun e w' => e = .returned (.bool true) ∧ Below W.heap.size W w')) :
    Calls Tryz.prog 89 #[.slice ao n cap, .agg #[.int .i64 (N 0), .int .i64 (N 1), .int .i64 (N 2), .int .i64 (N 3), .int .i64 (N 4), .int .i64 (N 5), .int .i64 (N 6), .int .i64 (N 7)]] w fun e w' => e = .returned (.tuple #[.bool false, .iface 61 (.int .i64 1)]) ∧ Below w.heap.size w w' := by
  obtain ⟨w1, hw1⟩ : ∃ w1, w1 = w.alloc (.cells #[.int .i64 (N 0), .int .i64 (N 1), .int .i64 (N 2), .int .i64 (N 3), .int .i64 (N 4), .int .i64 (N 5), .int .i64 (N 6), .int .i64 (N 7)] 64) := ⟨_, rfl⟩
  have HW : Hid (Below w.heap.size w w1) := by unfold Hid; rw [hw1]; exact below_alloc1 _ _
  go_enter Tryz.func89, Tryz.ntmps89
  go_wp2_with fail
  rw [← hw1]
  clear hw1
  go_wp2_with fail
  go_at_call 100
  refine (HA.out _ HW.out).mono ?_
  rintro e w2 ⟨rfl, hb⟩
  have HB : Hid (Below w.heap.size w w2) := HW.out.trans (hb.mono HW.out.size)
  clear hb
  go_wp2
  go_ret2
  exact ⟨rfl, HB.out⟩

set_option maxHeartbeats 4000000 in
theorem rfits_counts (n : Nat) (ao : Option Addr) (cap : Nat) (N : Nat → Int) (w : World) (h12 : n ≤ 12) (hf : ¬ countsFault N = 0)
    (HA : Hid (∀ W, Below w.heap.size w W → Calls Tryz.prog 100 #[.slice ao n cap, .func (.func 101) #[] #[]] W fun e w' => e = .returned (.bool false) ∧ Below W.heap.size W w')) :
    Calls Tryz.prog 89 #[.slice ao n cap, .agg #[.int .i64 (N 0), .int .i64 (N 1), .int .i64 (N 2), .int .i64 (N 3), .int .i64 (N 4), .int .i64 (N 5), .int .i64 (N 6), .int .i64 (N 7)]] w fun e w' => e = .returned (.tuple #[.bool false, .iface 61 (.int .i64 (countsFault N))]) ∧ Below w.heap.size w w' := by
  obtain ⟨w1, hw1⟩ : ∃ w1, w1 = w.alloc (.cells #[.int .i64 (N 0), .int .i64 (N 1), .int .i64 (N 2), .int .i64 (N 3), .int .i64 (N 4), .int .i64 (N 5), .int .i64 (N 6), .int .i64 (N 7)] 64) := ⟨_, rfl⟩
  have HW : Hid (Below w.heap.size w w1) := by unfold Hid; rw [hw1]; exact below_alloc1 _ _
  have HK0 : Hid (Blk w1 w.heap.size 64 (arr8 N)) := by unfold Hid; rw [hw1]; exact Blk.new _ _ _
  have HC : Hid (∀ W, Calls Tryz.prog 61 #[.agg #[.int .i64 (N 0), .int .i64 (N 1), .int .i64 (N 2), .int .i64 (N 3), .int .i64 (N 4), .int .i64 (N 5), .int .i64 (N 6), .int .i64 (N 7)]] W fun e w' => e = .returned (.tuple #[.agg #[.int .i64 0, .int .i64 0, .int .i64 0, .int .i64 0], .iface 61 (.int .i64 (countsFault N))]) ∧ Below W.heap.size W w') := fun W => fworld_wrong N W hf
  obtain ⟨F, hF⟩ : ∃ F, F = countsFault N := ⟨_, rfl⟩
  rw [← hF] at HC ⊢
  clear hF hf
  go_enter Tryz.func89, Tryz.ntmps89
  go_wp2_with fail
  rw [← hw1]
  clear hw1
  go_wp2_with fail
  go_at_call 100
  refine (HA.out _ HW.out).mono ?_
  rintro e w2 ⟨rfl, hb⟩
  have HB : Hid (Below w.heap.size w w2) := HW.out.trans (hb.mono HW.out.size)
  have HK : Hid (Blk w2 w.heap.size 64 (arr8 N)) := HK0.out.below hb
  clear hb
  obtain ⟨d0, d1, d2, d3, d4, d5, d6, d7⟩ := HK.out.cells8
  go_wp2_with fail
  go_at_call 61
  refine (HC.out _).mono ?_
  rintro e w3 ⟨rfl, hb⟩
  have HB3 : Hid (Below w.heap.size w w3) := HB.out.trans (hb.mono HB.out.size)
  clear hb d0 d1 d2 d3 d4 d5 d6 d7
  go_wp2
  go_ret2
  exact ⟨rfl, HB3.out.alloc HB3.out.size _⟩

set_option maxHeartbeats 4000000 in
theorem rfits_right (n : Nat) (ao : Option Addr) (cap : Nat) (N : Nat → Int) (w : World) (R : Bool) (h12 : n ≤ 12) (hf : countsFault N = 0)
    (HA : Hid (∀ W, Below w.heap.size w W → Calls Tryz.prog 100 #[.slice ao n cap, .func (.func 101) #[] #[]] W fun e w' => e = .returned (.bool false) ∧ Below W.heap.size W w'))
    (HX : Hid (∀ W, Below w.heap.size w W → Blk W w.heap.size 64 (arr8 N) → Calls Tryz.prog 100 #[.slice ao n cap, .func (.func 102) #[] #[.pointer (some ⟨w.heap.size, 0, none⟩)]] W fun e w' => e = .returned (.bool R) ∧ Below W.heap.size W w')) :
    Calls Tryz.prog 89 #[.slice ao n cap, .agg #[.int .i64 (N 0), .int .i64 (N 1), .int .i64 (N 2), .int .i64 (N 3), .int .i64 (N 4), .int .i64 (N 5), .int .i64 (N 6), .int .i64 (N 7)]] w fun e w' => e = .returned (.tuple #[.bool (!R), .nilIface]) ∧ Below w.heap.size w w' := by
  obtain ⟨w1, hw1⟩ : ∃ w1, w1 = w.alloc (.cells #[.int .i64 (N 0), .int .i64 (N 1), .int .i64 (N 2), .int .i64 (N 3), .int .i64 (N 4), .int .i64 (N 5), .int .i64 (N 6), .int .i64 (N 7)] 64) := ⟨_, rfl⟩
  have HW : Hid (Below w.heap.size w w1) := by unfold Hid; rw [hw1]; exact below_alloc1 _ _
  have HK0 : Hid (Blk w1 w.heap.size 64 (arr8 N)) := by unfold Hid; rw [hw1]; exact Blk.new _ _ _
  obtain ⟨u, hu⟩ : ∃ x, x = (madeN N 8).u := ⟨_, rfl⟩
  obtain ⟨a, ha⟩ : ∃ x, x = (madeN N 8).a := ⟨_, rfl⟩
  obtain ⟨b, hb⟩ : ∃ x, x = (madeN N 8).b := ⟨_, rfl⟩
  obtain ⟨c, hc⟩ : ∃ x, x = (madeN N 8).c := ⟨_, rfl⟩
  have HC : Hid (∀ W, Calls Tryz.prog 61 #[.agg #[.int .i64 (N 0), .int .i64 (N 1), .int .i64 (N 2), .int .i64 (N 3), .int .i64 (N 4), .int .i64 (N 5), .int .i64 (N 6), .int .i64 (N 7)]] W fun e w' => e = .returned (.tuple #[.agg #[.int .i64 u, .int .i64 a, .int .i64 b, .int .i64 c], .nilIface]) ∧ Below W.heap.size W w') := fun W => by
    rw [hu, ha, hb, hc]; exact fworld_right N W hf
  clear hf hu ha hb hc
  go_enter Tryz.func89, Tryz.ntmps89
  go_wp2_with fail
  rw [← hw1]
  clear hw1
  go_wp2_with fail
  go_at_call 100
  refine (HA.out _ HW.out).mono ?_
  rintro e w2 ⟨rfl, hb⟩
  have HB : Hid (Below w.heap.size w w2) := HW.out.trans (hb.mono HW.out.size)
  have HK : Hid (Blk w2 w.heap.size 64 (arr8 N)) := HK0.out.below hb
  clear hb
  obtain ⟨d0, d1, d2, d3, d4, d5, d6, d7⟩ := HK.out.cells8
  go_wp2_with fail
  go_at_call 61
  refine (HC.out _).mono ?_
  rintro e w3 ⟨rfl, hb⟩
  have HB3 : Hid (Below w.heap.size w w3) := HB.out.trans (hb.mono HB.out.size)
  have HK3 : Hid (Blk w3 w.heap.size 64 (arr8 N)) := HK.out.below hb
  clear hb d0 d1 d2 d3 d4 d5 d6 d7
  obtain ⟨w4, hw4⟩ : ∃ x, x = w3.alloc (.cells #[.int .i64 u, .int .i64 a, .int .i64 b, .int .i64 c] 37) := ⟨_, rfl⟩
  have HB4 : Hid (Below w.heap.size w w4) := by unfold Hid; rw [hw4]; exact HB3.out.alloc (HB3.out.size) _
  have HK4 : Hid (Blk w4 w.heap.size 64 (arr8 N)) := by unfold Hid; rw [hw4]; exact HK3.out.old _
  go_wp2_with fail
  rw [← hw4]
  clear hw4
  go_at_call 100
  refine (HX.out _ HB4.out HK4.out).mono ?_
  rintro e w5 ⟨rfl, hb⟩
  have HB5 : Hid (Below w.heap.size w w5) := HB4.out.trans (hb.mono HB4.out.size)
  clear hb
  go_wp2
  go_ret2
  exact ⟨rfl, HB5.out⟩

theorem any_not (l : List Rw) (N : Nat → Int) : (!l.any fun r => !r.so N) = l.all fun r => r.so N := by
  induction l with
  | nil => rfl
  | cons r l ih => rw [List.any_cons, List.all_cons, Bool.not_or, Bool.not_not, ih]
/-- Fits, whatever the rows and the counts. -/
theorem rfits_any (l : List Rw) (v : Value) (N : Nat → Int) (w : World) (h : ReadsR w v l) :
    Calls Tryz.prog 89 #[v, .agg #[.int .i64 (N 0), .int .i64 (N 1), .int .i64 (N 2), .int .i64 (N 3), .int .i64 (N 4), .int .i64 (N 5), .int .i64 (N 6), .int .i64 (N 7)]] w fun e w' => e = .returned (.tuple #[.bool (fitsIs l N), errV (fitsFault l N)]) ∧ Below w.heap.size w w' := by
  obtain ⟨ao, cap, rfl, hl⟩ := h.slice
  by_cases h12 : 12 < l.length
  · have e : fitsFault l N = 4 := by unfold fitsFault rowsFault; simp [h12]
    have e' : fitsIs l N = false := by unfold fitsIs; rw [e]; rfl
    rw [e, e']
    exact rfits_full _ ao cap N w h12 hl
  rcases (Bool.eq_false_or_eq_true (l.any Rw.wrong)).symm with hw | hw
  · have er : rowsFault l = 0 := by unfold rowsFault; rw [if_neg h12, hw]; rfl
    have ef : fitsFault l N = countsFault N := by unfold fitsFault; rw [if_pos er]
    have HA : Hid (∀ W, Below w.heap.size w W → Calls Tryz.prog 100 #[.slice ao l.length cap, .func (.func 101) #[] #[]] W fun e w' => e = .returned (.bool false) ∧ Below W.heap.size W w') := fun W hW => by
      have := any_rows (h.below hW)
      rw [hw] at this
      exact this
    by_cases hf : countsFault N = 0
    · have e' : fitsIs l N = !(l.any fun r => !r.so N) := by unfold fitsIs; rw [ef, if_pos hf, any_not]
      rw [e', ef, hf]
      exact rfits_right _ ao cap N w _ (by omega) hf HA fun W hW hB => any_exceeds N w.heap.size (h.below hW) hw (counts_zero.1 hf).1 hB
    · have e' : fitsIs l N = false := by unfold fitsIs; rw [ef, if_neg hf]
      rw [e', ef, errV_no hf]
      exact rfits_counts _ ao cap N w (by omega) hf HA
  · have er : rowsFault l = 1 := by unfold rowsFault; rw [if_neg h12, hw]; rfl
    have ef : fitsFault l N = 1 := by unfold fitsFault; rw [er]; rfl
    have e' : fitsIs l N = false := by unfold fitsIs; rw [ef]; rfl
    rw [e', ef]
    exact rfits_wrong _ ao cap N w (by omega) fun W hW => by
      have := any_rows (h.below hW)
      rw [hw] at this
      exact this
end Go.Proofs.YtgkgbpbohgklhafGreatDoor

namespace Go.Proofs.YtgkgbpbohgklhafGreatDoor
open Go.ChangeShapes Go.WideShapes Go.ChangeAt Go.RowKit
set_option maxRecDepth 100000
attribute [local go_sem] Oper.semAt_some

/-- how many of the first k fit. -/
def manyT (A : List (Nat → Int)) (p : (Nat → Int) → Bool) (k : Nat) : Nat := ((A.take k).filter p).length
theorem manyT_zero (A : List (Nat → Int)) (p : (Nat → Int) → Bool) : manyT A p 0 = 0 := by unfold manyT; simp
theorem manyT_step {A : List (Nat → Int)} {p : (Nat → Int) → Bool} {k : Nat} {M : Nat → Int} (h : A[k]? = some M) : manyT A p (k + 1) = manyT A p k + (if p M = true then 1 else 0) := by
  obtain ⟨hk, rfl⟩ := List.getElem?_eq_some_iff.1 h
  unfold manyT
  rw [List.take_succ_eq_append_getElem hk, List.filter_append, List.length_append, List.filter_cons]
  split <;> rfl
theorem manyT_all (A : List (Nat → Int)) (p : (Nat → Int) → Bool) : manyT A p A.length = manyD A p 0 := by unfold manyT manyD; simp
theorem manyT_le (A : List (Nat → Int)) (p : (Nat → Int) → Bool) (k : Nat) : manyT A p k ≤ A.length := by
  unfold manyT
  have h1 := List.length_filter_le p (A.take k)
  have h2 := List.length_take_le k A
  have h3 : (A.take k).length ≤ A.length := by rw [List.length_take]; omega
  omega
end Go.Proofs.YtgkgbpbohgklhafGreatDoor
