/-
  Proved: vennlaw1.RowsTell returns true, where the atom is right; what was in memory is as it was (walks that the statement leans on). Written by program.
-/
import Derived.Test.YtenmheenieifpadDoorRowsEq
import Derived.Test.YtenmheenieifpadDoorRowsOne
import Derived.Deep.Cut
namespace Go.Proofs.YtenmheenieifpadDoor
open Go.ChangeShapes Go.WideShapes Go.ChangeAt Go.RowKit
set_option maxRecDepth 100000

set_option maxHeartbeats 8000000 in
theorem rowsTell_GG (k n : Int) (h : Bool) (N : Nat → Int) (T : Nat → Int) (m : Int) (S : Bool) (sao tao lao : Option Addr) (sl scap tl tcap ll lcap : Nat) (w : World)
    (HAt : Hid (∀ W, Below w.heap.size w W → Calls Tryd.prog 8 #[.agg #[.int .i64 k, .slice sao sl scap, .slice tao tl tcap, .int .i64 n]] W fun e w' => e = .returned (.int .i64 0) ∧ Below W.heap.size W w'))
    (HRo : Hid (∀ W, Below w.heap.size w W → Calls Tryd.prog 9 #[.agg #[.int .i64 k, .slice sao sl scap, .slice tao tl tcap, .int .i64 n], .bool h] W fun e w' => e = .returned (.agg #[.int .i64 (T 0), .int .i64 (T 1), .int .i64 (T 2), .int .i64 (T 3), .int .i64 (T 4), .int .i64 (T 5), .int .i64 (T 6), .int .i64 (T 7), .int .i64 m]) ∧ Below W.heap.size W w'))
    (HOf : Hid (∀ W, Below w.heap.size w W → Calls Tryd.prog 10 #[.agg #[.int .i64 k, .slice sao sl scap, .slice tao tl tcap, .int .i64 n], .bool h] W fun e w' => e = .returned (.tuple #[.agg #[.int .i64 (T 0), .int .i64 (T 1), .int .i64 (T 2), .int .i64 (T 3), .int .i64 (T 4), .int .i64 (T 5), .int .i64 (T 6), .int .i64 (T 7), .int .i64 m], .nilIface]) ∧ Below W.heap.size W w'))
    (HE1 : Hid (∀ W, Below w.heap.size w W → Calls Tryd.prog 11 #[.nilIface, .int .i64 0] W fun e w' => e = .returned (.bool true) ∧ Below W.heap.size W w'))
    (HRs : Hid (∀ W, Below w.heap.size w W → Calls Tryd.prog 12 #[.slice lao ll lcap] W fun e w' => e = .returned (.int .i64 0) ∧ Below W.heap.size W w'))
    (HCo : Hid (∀ W, Below w.heap.size w W → Calls Tryd.prog 13 #[.agg #[.int .i64 (N 0), .int .i64 (N 1), .int .i64 (N 2), .int .i64 (N 3), .int .i64 (N 4), .int .i64 (N 5), .int .i64 (N 6), .int .i64 (N 7)]] W fun e w' => e = .returned (.int .i64 0) ∧ Below W.heap.size W w'))
    (HFi : Hid (∀ W, Below w.heap.size w W → Calls Tryd.prog 14 #[.slice lao ll lcap, .agg #[.int .i64 (N 0), .int .i64 (N 1), .int .i64 (N 2), .int .i64 (N 3), .int .i64 (N 4), .int .i64 (N 5), .int .i64 (N 6), .int .i64 (N 7)]] W fun e w' => e = .returned (.bool S) ∧ Below W.heap.size W w'))
    (HFt : Hid (∀ W, Below w.heap.size w W → Calls Tryd.prog 15 #[.slice lao ll lcap, .agg #[.int .i64 (N 0), .int .i64 (N 1), .int .i64 (N 2), .int .i64 (N 3), .int .i64 (N 4), .int .i64 (N 5), .int .i64 (N 6), .int .i64 (N 7)]] W fun e w' => e = .returned (.tuple #[.bool S, .nilIface]) ∧ Below W.heap.size W w'))
    (HE2 : Hid (∀ W, Below w.heap.size w W → Calls Tryd.prog 11 #[.nilIface, .int .i64 0] W fun e w' => e = .returned (.bool true) ∧ Below W.heap.size W w')) :
    Calls Tryd.prog 3 #[.agg #[.int .i64 k, .slice sao sl scap, .slice tao tl tcap, .int .i64 n], .bool h, .slice lao ll lcap, .agg #[.int .i64 (N 0), .int .i64 (N 1), .int .i64 (N 2), .int .i64 (N 3), .int .i64 (N 4), .int .i64 (N 5), .int .i64 (N 6), .int .i64 (N 7)]] w fun e w' => e = .returned (.bool true) ∧ Below w.heap.size w w' := by
  obtain ⟨w1, hw1⟩ : ∃ w1, w1 = (w.alloc (.cells #[.int .i64 k, .slice sao sl scap, .slice tao tl tcap, .int .i64 n] 24)).alloc (.cells #[.int .i64 (N 0), .int .i64 (N 1), .int .i64 (N 2), .int .i64 (N 3), .int .i64 (N 4), .int .i64 (N 5), .int .i64 (N 6), .int .i64 (N 7)] 26) := ⟨_, rfl⟩
  have HB1 : Hid (Below w.heap.size w w1) := by unfold Hid; rw [hw1]; exact (below_alloc1 _ _).alloc (by simp) _
  have HA1 : Hid (Blk w1 w.heap.size 24 #[.int .i64 k, .slice sao sl scap, .slice tao tl tcap, .int .i64 n]) := by unfold Hid; rw [hw1]; exact (Blk.new _ _ _).old _
  have HN1 : Hid (Blk w1 (w.heap.size + 1) 26 (arr8 N)) := by
    unfold Hid; rw [hw1]
    have := Blk.new (w.alloc (.cells #[.int .i64 k, .slice sao sl scap, .slice tao tl tcap, .int .i64 n] 24)) 26 (arr8 N)
    simp only [World.size_alloc] at this
    exact this
  have HX : Hid (∀ W, Blk W w.heap.size 24 #[.int .i64 k, .slice sao sl scap, .slice tao tl tcap, .int .i64 n] → W.cell? ⟨w.heap.size, 0, none⟩ = some (.int .i64 k) ∧ W.cell? ⟨w.heap.size, 1, none⟩ = some (.slice sao sl scap) ∧ W.cell? ⟨w.heap.size, 2, none⟩ = some (.slice tao tl tcap) ∧ W.cell? ⟨w.heap.size, 3, none⟩ = some (.int .i64 n)) := fun W h => ⟨h.cell 0, h.cell 1, h.cell 2, h.cell 3⟩
  go_enter Tryd.func3, Tryd.ntmps3
  go_wp2_with fail
  rw [← hw1]
  clear hw1
  obtain ⟨x0, x1, x2, x3⟩ := HX.out _ HA1.out
  go_wp2_with fail
  go_at_call 8
  refine (HAt.out _ HB1.out).mono ?_
  rintro e w2 ⟨rfl, hb⟩
  have HB2 : Hid (Below w.heap.size w w2) := HB1.out.trans (hb.mono HB1.out.size)
  have HA2 : Hid (Blk w2 w.heap.size 24 #[.int .i64 k, .slice sao sl scap, .slice tao tl tcap, .int .i64 n]) := HA1.out.below hb
  have HN2 : Hid (Blk w2 (w.heap.size + 1) 26 (arr8 N)) := HN1.out.below hb
  clear hb
  clear x0 x1 x2 x3
  obtain ⟨w3, hw3⟩ : ∃ x, x = w2.alloc (.cells #[.int .i64 0, .int .i64 0, .int .i64 0, .int .i64 0, .int .i64 0, .int .i64 0, .int .i64 0, .int .i64 0, .int .i64 0] 29) := ⟨_, rfl⟩
  have HB3 : Hid (Below w.heap.size w w3) := by unfold Hid; rw [hw3]; exact HB2.out.alloc HB2.out.size _
  have HA3 : Hid (Blk w3 w.heap.size 24 #[.int .i64 k, .slice sao sl scap, .slice tao tl tcap, .int .i64 n]) := by unfold Hid; rw [hw3]; exact HA2.out.old _
  have HN3 : Hid (Blk w3 (w.heap.size + 1) 26 (arr8 N)) := by unfold Hid; rw [hw3]; exact HN2.out.old _
  have HP3 : Hid (Blk w3 w2.heap.size 29 #[.int .i64 0, .int .i64 0, .int .i64 0, .int .i64 0, .int .i64 0, .int .i64 0, .int .i64 0, .int .i64 0, .int .i64 0]) := by unfold Hid; rw [hw3]; exact Blk.new _ _ _
  have HGP : Hid (w.heap.size + 1 < w2.heap.size) := HN2.out.lt
  obtain ⟨P, hP⟩ : ∃ P, P = w2.heap.size := ⟨_, rfl⟩
  rw [← hP] at HP3 HGP
  go_upto_region 3 with fail
  rw [← hw3, ← hP]
  clear hw3 hP
  obtain ⟨x0, x1, x2, x3⟩ := HX.out _ HA3.out
  go_wp2_with fail
  go_at_call 9
  refine (HRo.out _ HB3.out).mono ?_
  rintro e w4 ⟨rfl, hb⟩
  have HB4 : Hid (Below w.heap.size w w4) := HB3.out.trans (hb.mono HB3.out.size)
  have HA4 : Hid (Blk w4 w.heap.size 24 #[.int .i64 k, .slice sao sl scap, .slice tao tl tcap, .int .i64 n]) := HA3.out.below hb
  have HN4 : Hid (Blk w4 (w.heap.size + 1) 26 (arr8 N)) := HN3.out.below hb
  have HP4 : Hid (Blk w4 P 29 #[.int .i64 0, .int .i64 0, .int .i64 0, .int .i64 0, .int .i64 0, .int .i64 0, .int .i64 0, .int .i64 0, .int .i64 0]) := HP3.out.below hb
  clear hb
  clear x0 x1 x2 x3
  obtain ⟨Z, hZ⟩ : ∃ Z : Nat → Int, Z = fun _ => 0 := ⟨_, rfl⟩
  have HPz : Hid (Blk w4 P 29 (arrR Z 0)) := by unfold Hid; rw [hZ]; exact HP4.out
  clear hZ
  have p0 : w4.cell? ⟨P, 0, none⟩ = some (.int .i64 0) := HP4.out.cell 0
  have p1 : w4.cell? ⟨P, 1, none⟩ = some (.int .i64 0) := HP4.out.cell 1
  have p2 : w4.cell? ⟨P, 2, none⟩ = some (.int .i64 0) := HP4.out.cell 2
  have p3 : w4.cell? ⟨P, 3, none⟩ = some (.int .i64 0) := HP4.out.cell 3
  have p4 : w4.cell? ⟨P, 4, none⟩ = some (.int .i64 0) := HP4.out.cell 4
  have p5 : w4.cell? ⟨P, 5, none⟩ = some (.int .i64 0) := HP4.out.cell 5
  have p6 : w4.cell? ⟨P, 6, none⟩ = some (.int .i64 0) := HP4.out.cell 6
  have p7 : w4.cell? ⟨P, 7, none⟩ = some (.int .i64 0) := HP4.out.cell 7
  have p8 : w4.cell? ⟨P, 8, none⟩ = some (.int .i64 0) := HP4.out.cell 8
  obtain ⟨f0, f1, f2, f3, f4, f5, f6, f7, f8⟩ := HP4.out.frozen9
  obtain ⟨w5, hw5⟩ : ∃ x, x = putR w4 P T m := ⟨_, rfl⟩
  have HB5 : Hid (Below w.heap.size w w5) := by unfold Hid; rw [hw5]; exact putR_below HB4.out (by have := HGP.out; omega) _ _
  have HA5 : Hid (Blk w5 (w.heap.size) 24 #[.int .i64 k, .slice sao sl scap, .slice tao tl tcap, .int .i64 n]) := by unfold Hid; rw [hw5]; exact putR_far HA4.out (by have := HGP.out; omega) _ _
  have HN5 : Hid (Blk w5 ((w.heap.size + 1)) 26 (arr8 N)) := by unfold Hid; rw [hw5]; exact putR_far HN4.out (by have := HGP.out; omega) _ _
  have HP5 : Hid (Blk w5 P 29 (arrR T m)) := by unfold Hid; rw [hw5]; exact putR_blk HPz.out _ _
  unfold putR at hw5
  go_upto_region 5 with fail
  rw [← hw5]
  clear hw5 p0 p1 p2 p3 p4 p5 p6 p7 p8 f0 f1 f2 f3 f4 f5 f6 f7 f8
  obtain ⟨x0, x1, x2, x3⟩ := HX.out _ HA5.out
  go_wp2_with fail
  go_at_call 10
  refine (HOf.out _ HB5.out).mono ?_
  rintro e w6 ⟨rfl, hb⟩
  have HB6 : Hid (Below w.heap.size w w6) := HB5.out.trans (hb.mono HB5.out.size)
  have HA6 : Hid (Blk w6 w.heap.size 24 #[.int .i64 k, .slice sao sl scap, .slice tao tl tcap, .int .i64 n]) := HA5.out.below hb
  have HN6 : Hid (Blk w6 (w.heap.size + 1) 26 (arr8 N)) := HN5.out.below hb
  have HP6 : Hid (Blk w6 P 29 (arrR T m)) := HP5.out.below hb
  clear hb
  clear x0 x1 x2 x3
  obtain ⟨w7, hw7⟩ : ∃ x, x = w6.alloc (.cells #[.int .i64 (T 0), .int .i64 (T 1), .int .i64 (T 2), .int .i64 (T 3), .int .i64 (T 4), .int .i64 (T 5), .int .i64 (T 6), .int .i64 (T 7), .int .i64 m] 29) := ⟨_, rfl⟩
  have HB7 : Hid (Below w.heap.size w w7) := by unfold Hid; rw [hw7]; exact HB6.out.alloc HB6.out.size _
  have HA7 : Hid (Blk w7 w.heap.size 24 #[.int .i64 k, .slice sao sl scap, .slice tao tl tcap, .int .i64 n]) := by unfold Hid; rw [hw7]; exact HA6.out.old _
  have HN7 : Hid (Blk w7 (w.heap.size + 1) 26 (arr8 N)) := by unfold Hid; rw [hw7]; exact HN6.out.old _
  have HP7 : Hid (Blk w7 P 29 (arrR T m)) := by unfold Hid; rw [hw7]; exact HP6.out.old _
  have HQ7 : Hid (Blk w7 w6.heap.size 29 (arrR T m)) := by unfold Hid; rw [hw7]; exact Blk.new _ _ _
  have HGQ : Hid (w.heap.size + 1 < w6.heap.size) := HN6.out.lt
  obtain ⟨Q, hQ⟩ : ∃ P, P = w6.heap.size := ⟨_, rfl⟩
  rw [← hQ] at HQ7 HGQ
  go_upto_region 6 with fail
  rw [← hw7, ← hQ]
  clear hw7 hQ
  go_wp2_with fail
  go_at_call 11
  refine (HE1.out _ HB7.out).mono ?_
  rintro e w8 ⟨rfl, hb⟩
  have HB8 : Hid (Below w.heap.size w w8) := HB7.out.trans (hb.mono HB7.out.size)
  have HA8 : Hid (Blk w8 w.heap.size 24 #[.int .i64 k, .slice sao sl scap, .slice tao tl tcap, .int .i64 n]) := HA7.out.below hb
  have HN8 : Hid (Blk w8 (w.heap.size + 1) 26 (arr8 N)) := HN7.out.below hb
  have HP8 : Hid (Blk w8 P 29 (arrR T m)) := HP7.out.below hb
  have HQ8 : Hid (Blk w8 Q 29 (arrR T m)) := HQ7.out.below hb
  clear hb
  have q0 : w8.cell? ⟨Q, 0, none⟩ = some (.int .i64 (T 0)) := HQ8.out.cell 0
  have q1 : w8.cell? ⟨Q, 1, none⟩ = some (.int .i64 (T 1)) := HQ8.out.cell 1
  have q2 : w8.cell? ⟨Q, 2, none⟩ = some (.int .i64 (T 2)) := HQ8.out.cell 2
  have q3 : w8.cell? ⟨Q, 3, none⟩ = some (.int .i64 (T 3)) := HQ8.out.cell 3
  have q4 : w8.cell? ⟨Q, 4, none⟩ = some (.int .i64 (T 4)) := HQ8.out.cell 4
  have q5 : w8.cell? ⟨Q, 5, none⟩ = some (.int .i64 (T 5)) := HQ8.out.cell 5
  have q6 : w8.cell? ⟨Q, 6, none⟩ = some (.int .i64 (T 6)) := HQ8.out.cell 6
  have q7 : w8.cell? ⟨Q, 7, none⟩ = some (.int .i64 (T 7)) := HQ8.out.cell 7
  have q8 : w8.cell? ⟨Q, 8, none⟩ = some (.int .i64 m) := HQ8.out.cell 8
  have p0 : w8.cell? ⟨P, 0, none⟩ = some (.int .i64 (T 0)) := HP8.out.cell 0
  have p1 : w8.cell? ⟨P, 1, none⟩ = some (.int .i64 (T 1)) := HP8.out.cell 1
  have p2 : w8.cell? ⟨P, 2, none⟩ = some (.int .i64 (T 2)) := HP8.out.cell 2
  have p3 : w8.cell? ⟨P, 3, none⟩ = some (.int .i64 (T 3)) := HP8.out.cell 3
  have p4 : w8.cell? ⟨P, 4, none⟩ = some (.int .i64 (T 4)) := HP8.out.cell 4
  have p5 : w8.cell? ⟨P, 5, none⟩ = some (.int .i64 (T 5)) := HP8.out.cell 5
  have p6 : w8.cell? ⟨P, 6, none⟩ = some (.int .i64 (T 6)) := HP8.out.cell 6
  have p7 : w8.cell? ⟨P, 7, none⟩ = some (.int .i64 (T 7)) := HP8.out.cell 7
  have p8 : w8.cell? ⟨P, 8, none⟩ = some (.int .i64 m) := HP8.out.cell 8
  have hq := sameR T m
  have hgd := guardR
  go_upto_region 7 with fail
  clear q0 q1 q2 q3 q4 q5 q6 q7 q8 p0 p1 p2 p3 p4 p5 p6 p7 p8
  clear hq hgd
  go_wp2_with fail
  go_at_call 12
  refine (HRs.out _ HB8.out).mono ?_
  rintro e w9 ⟨rfl, hb⟩
  have HB9 : Hid (Below w.heap.size w w9) := HB8.out.trans (hb.mono HB8.out.size)
  have HA9 : Hid (Blk w9 w.heap.size 24 #[.int .i64 k, .slice sao sl scap, .slice tao tl tcap, .int .i64 n]) := HA8.out.below hb
  have HN9 : Hid (Blk w9 (w.heap.size + 1) 26 (arr8 N)) := HN8.out.below hb
  have HP9 : Hid (Blk w9 P 29 (arrR T m)) := HP8.out.below hb
  have HQ9 : Hid (Blk w9 Q 29 (arrR T m)) := HQ8.out.below hb
  clear hb
  obtain ⟨d0, d1, d2, d3, d4, d5, d6, d7⟩ := HN9.out.cells8
  go_wp2_with fail
  go_at_call 13
  refine (HCo.out _ HB9.out).mono ?_
  rintro e w10 ⟨rfl, hb⟩
  have HB10 : Hid (Below w.heap.size w w10) := HB9.out.trans (hb.mono HB9.out.size)
  have HA10 : Hid (Blk w10 w.heap.size 24 #[.int .i64 k, .slice sao sl scap, .slice tao tl tcap, .int .i64 n]) := HA9.out.below hb
  have HN10 : Hid (Blk w10 (w.heap.size + 1) 26 (arr8 N)) := HN9.out.below hb
  have HP10 : Hid (Blk w10 P 29 (arrR T m)) := HP9.out.below hb
  have HQ10 : Hid (Blk w10 Q 29 (arrR T m)) := HQ9.out.below hb
  clear hb
  clear d0 d1 d2 d3 d4 d5 d6 d7
  obtain ⟨d0, d1, d2, d3, d4, d5, d6, d7⟩ := HN10.out.cells8
  go_wp2_with fail
  go_at_call 14
  refine (HFi.out _ HB10.out).mono ?_
  rintro e w11 ⟨rfl, hb⟩
  have HB11 : Hid (Below w.heap.size w w11) := HB10.out.trans (hb.mono HB10.out.size)
  have HA11 : Hid (Blk w11 w.heap.size 24 #[.int .i64 k, .slice sao sl scap, .slice tao tl tcap, .int .i64 n]) := HA10.out.below hb
  have HN11 : Hid (Blk w11 (w.heap.size + 1) 26 (arr8 N)) := HN10.out.below hb
  have HP11 : Hid (Blk w11 P 29 (arrR T m)) := HP10.out.below hb
  have HQ11 : Hid (Blk w11 Q 29 (arrR T m)) := HQ10.out.below hb
  clear hb
  clear d0 d1 d2 d3 d4 d5 d6 d7
  obtain ⟨d0, d1, d2, d3, d4, d5, d6, d7⟩ := HN11.out.cells8
  go_wp2_with fail
  go_at_call 15
  refine (HFt.out _ HB11.out).mono ?_
  rintro e w12 ⟨rfl, hb⟩
  have HB12 : Hid (Below w.heap.size w w12) := HB11.out.trans (hb.mono HB11.out.size)
  have HA12 : Hid (Blk w12 w.heap.size 24 #[.int .i64 k, .slice sao sl scap, .slice tao tl tcap, .int .i64 n]) := HA11.out.below hb
  have HN12 : Hid (Blk w12 (w.heap.size + 1) 26 (arr8 N)) := HN11.out.below hb
  have HP12 : Hid (Blk w12 P 29 (arrR T m)) := HP11.out.below hb
  have HQ12 : Hid (Blk w12 Q 29 (arrR T m)) := HQ11.out.below hb
  clear hb
  clear d0 d1 d2 d3 d4 d5 d6 d7
  go_wp2_with fail
  go_at_call 11
  refine (HE2.out _ HB12.out).mono ?_
  rintro e w13 ⟨rfl, hb⟩
  have HB13 : Hid (Below w.heap.size w w13) := HB12.out.trans (hb.mono HB12.out.size)
  have HA13 : Hid (Blk w13 w.heap.size 24 #[.int .i64 k, .slice sao sl scap, .slice tao tl tcap, .int .i64 n]) := HA12.out.below hb
  have HN13 : Hid (Blk w13 (w.heap.size + 1) 26 (arr8 N)) := HN12.out.below hb
  have HP13 : Hid (Blk w13 P 29 (arrR T m)) := HP12.out.below hb
  have HQ13 : Hid (Blk w13 Q 29 (arrR T m)) := HQ12.out.below hb
  clear hb
  go_wp2
  go_ret
  exact ⟨back_b (by simp), HB13.out⟩

set_option maxHeartbeats 8000000 in
theorem rowsTell_GR (k n : Int) (h : Bool) (N : Nat → Int) (T : Nat → Int) (m : Int) (F : Int) (hF : ¬ F = 0) (sao tao lao : Option Addr) (sl scap tl tcap ll lcap : Nat) (w : World)
    (HAt : Hid (∀ W, Below w.heap.size w W → Calls Tryd.prog 8 #[.agg #[.int .i64 k, .slice sao sl scap, .slice tao tl tcap, .int .i64 n]] W fun e w' => e = .returned (.int .i64 0) ∧ Below W.heap.size W w'))
    (HRo : Hid (∀ W, Below w.heap.size w W → Calls Tryd.prog 9 #[.agg #[.int .i64 k, .slice sao sl scap, .slice tao tl tcap, .int .i64 n], .bool h] W fun e w' => e = .returned (.agg #[.int .i64 (T 0), .int .i64 (T 1), .int .i64 (T 2), .int .i64 (T 3), .int .i64 (T 4), .int .i64 (T 5), .int .i64 (T 6), .int .i64 (T 7), .int .i64 m]) ∧ Below W.heap.size W w'))
    (HOf : Hid (∀ W, Below w.heap.size w W → Calls Tryd.prog 10 #[.agg #[.int .i64 k, .slice sao sl scap, .slice tao tl tcap, .int .i64 n], .bool h] W fun e w' => e = .returned (.tuple #[.agg #[.int .i64 (T 0), .int .i64 (T 1), .int .i64 (T 2), .int .i64 (T 3), .int .i64 (T 4), .int .i64 (T 5), .int .i64 (T 6), .int .i64 (T 7), .int .i64 m], .nilIface]) ∧ Below W.heap.size W w'))
    (HE1 : Hid (∀ W, Below w.heap.size w W → Calls Tryd.prog 11 #[.nilIface, .int .i64 0] W fun e w' => e = .returned (.bool true) ∧ Below W.heap.size W w'))
    (HRs : Hid (∀ W, Below w.heap.size w W → Calls Tryd.prog 12 #[.slice lao ll lcap] W fun e w' => e = .returned (.int .i64 F) ∧ Below W.heap.size W w'))
    (HFt : Hid (∀ W, Below w.heap.size w W → Calls Tryd.prog 15 #[.slice lao ll lcap, .agg #[.int .i64 (N 0), .int .i64 (N 1), .int .i64 (N 2), .int .i64 (N 3), .int .i64 (N 4), .int .i64 (N 5), .int .i64 (N 6), .int .i64 (N 7)]] W fun e w' => e = .returned (.tuple #[.bool false, .iface 66 (.int .i64 F)]) ∧ Below W.heap.size W w'))
    (HE2 : Hid (∀ W, Below w.heap.size w W → Calls Tryd.prog 11 #[.iface 66 (.int .i64 F), .int .i64 F] W fun e w' => e = .returned (.bool true) ∧ Below W.heap.size W w')) :
    Calls Tryd.prog 3 #[.agg #[.int .i64 k, .slice sao sl scap, .slice tao tl tcap, .int .i64 n], .bool h, .slice lao ll lcap, .agg #[.int .i64 (N 0), .int .i64 (N 1), .int .i64 (N 2), .int .i64 (N 3), .int .i64 (N 4), .int .i64 (N 5), .int .i64 (N 6), .int .i64 (N 7)]] w fun e w' => e = .returned (.bool true) ∧ Below w.heap.size w w' := by
  obtain ⟨w1, hw1⟩ : ∃ w1, w1 = (w.alloc (.cells #[.int .i64 k, .slice sao sl scap, .slice tao tl tcap, .int .i64 n] 24)).alloc (.cells #[.int .i64 (N 0), .int .i64 (N 1), .int .i64 (N 2), .int .i64 (N 3), .int .i64 (N 4), .int .i64 (N 5), .int .i64 (N 6), .int .i64 (N 7)] 26) := ⟨_, rfl⟩
  have HB1 : Hid (Below w.heap.size w w1) := by unfold Hid; rw [hw1]; exact (below_alloc1 _ _).alloc (by simp) _
  have HA1 : Hid (Blk w1 w.heap.size 24 #[.int .i64 k, .slice sao sl scap, .slice tao tl tcap, .int .i64 n]) := by unfold Hid; rw [hw1]; exact (Blk.new _ _ _).old _
  have HN1 : Hid (Blk w1 (w.heap.size + 1) 26 (arr8 N)) := by
    unfold Hid; rw [hw1]
    have := Blk.new (w.alloc (.cells #[.int .i64 k, .slice sao sl scap, .slice tao tl tcap, .int .i64 n] 24)) 26 (arr8 N)
    simp only [World.size_alloc] at this
    exact this
  have HX : Hid (∀ W, Blk W w.heap.size 24 #[.int .i64 k, .slice sao sl scap, .slice tao tl tcap, .int .i64 n] → W.cell? ⟨w.heap.size, 0, none⟩ = some (.int .i64 k) ∧ W.cell? ⟨w.heap.size, 1, none⟩ = some (.slice sao sl scap) ∧ W.cell? ⟨w.heap.size, 2, none⟩ = some (.slice tao tl tcap) ∧ W.cell? ⟨w.heap.size, 3, none⟩ = some (.int .i64 n)) := fun W h => ⟨h.cell 0, h.cell 1, h.cell 2, h.cell 3⟩
  go_enter Tryd.func3, Tryd.ntmps3
  go_wp2_with fail
  rw [← hw1]
  clear hw1
  obtain ⟨x0, x1, x2, x3⟩ := HX.out _ HA1.out
  go_wp2_with fail
  go_at_call 8
  refine (HAt.out _ HB1.out).mono ?_
  rintro e w2 ⟨rfl, hb⟩
  have HB2 : Hid (Below w.heap.size w w2) := HB1.out.trans (hb.mono HB1.out.size)
  have HA2 : Hid (Blk w2 w.heap.size 24 #[.int .i64 k, .slice sao sl scap, .slice tao tl tcap, .int .i64 n]) := HA1.out.below hb
  have HN2 : Hid (Blk w2 (w.heap.size + 1) 26 (arr8 N)) := HN1.out.below hb
  clear hb
  clear x0 x1 x2 x3
  obtain ⟨w3, hw3⟩ : ∃ x, x = w2.alloc (.cells #[.int .i64 0, .int .i64 0, .int .i64 0, .int .i64 0, .int .i64 0, .int .i64 0, .int .i64 0, .int .i64 0, .int .i64 0] 29) := ⟨_, rfl⟩
  have HB3 : Hid (Below w.heap.size w w3) := by unfold Hid; rw [hw3]; exact HB2.out.alloc HB2.out.size _
  have HA3 : Hid (Blk w3 w.heap.size 24 #[.int .i64 k, .slice sao sl scap, .slice tao tl tcap, .int .i64 n]) := by unfold Hid; rw [hw3]; exact HA2.out.old _
  have HN3 : Hid (Blk w3 (w.heap.size + 1) 26 (arr8 N)) := by unfold Hid; rw [hw3]; exact HN2.out.old _
  have HP3 : Hid (Blk w3 w2.heap.size 29 #[.int .i64 0, .int .i64 0, .int .i64 0, .int .i64 0, .int .i64 0, .int .i64 0, .int .i64 0, .int .i64 0, .int .i64 0]) := by unfold Hid; rw [hw3]; exact Blk.new _ _ _
  have HGP : Hid (w.heap.size + 1 < w2.heap.size) := HN2.out.lt
  obtain ⟨P, hP⟩ : ∃ P, P = w2.heap.size := ⟨_, rfl⟩
  rw [← hP] at HP3 HGP
  go_upto_region 3 with fail
  rw [← hw3, ← hP]
  clear hw3 hP
  obtain ⟨x0, x1, x2, x3⟩ := HX.out _ HA3.out
  go_wp2_with fail
  go_at_call 9
  refine (HRo.out _ HB3.out).mono ?_
  rintro e w4 ⟨rfl, hb⟩
  have HB4 : Hid (Below w.heap.size w w4) := HB3.out.trans (hb.mono HB3.out.size)
  have HA4 : Hid (Blk w4 w.heap.size 24 #[.int .i64 k, .slice sao sl scap, .slice tao tl tcap, .int .i64 n]) := HA3.out.below hb
  have HN4 : Hid (Blk w4 (w.heap.size + 1) 26 (arr8 N)) := HN3.out.below hb
  have HP4 : Hid (Blk w4 P 29 #[.int .i64 0, .int .i64 0, .int .i64 0, .int .i64 0, .int .i64 0, .int .i64 0, .int .i64 0, .int .i64 0, .int .i64 0]) := HP3.out.below hb
  clear hb
  clear x0 x1 x2 x3
  obtain ⟨Z, hZ⟩ : ∃ Z : Nat → Int, Z = fun _ => 0 := ⟨_, rfl⟩
  have HPz : Hid (Blk w4 P 29 (arrR Z 0)) := by unfold Hid; rw [hZ]; exact HP4.out
  clear hZ
  have p0 : w4.cell? ⟨P, 0, none⟩ = some (.int .i64 0) := HP4.out.cell 0
  have p1 : w4.cell? ⟨P, 1, none⟩ = some (.int .i64 0) := HP4.out.cell 1
  have p2 : w4.cell? ⟨P, 2, none⟩ = some (.int .i64 0) := HP4.out.cell 2
  have p3 : w4.cell? ⟨P, 3, none⟩ = some (.int .i64 0) := HP4.out.cell 3
  have p4 : w4.cell? ⟨P, 4, none⟩ = some (.int .i64 0) := HP4.out.cell 4
  have p5 : w4.cell? ⟨P, 5, none⟩ = some (.int .i64 0) := HP4.out.cell 5
  have p6 : w4.cell? ⟨P, 6, none⟩ = some (.int .i64 0) := HP4.out.cell 6
  have p7 : w4.cell? ⟨P, 7, none⟩ = some (.int .i64 0) := HP4.out.cell 7
  have p8 : w4.cell? ⟨P, 8, none⟩ = some (.int .i64 0) := HP4.out.cell 8
  obtain ⟨f0, f1, f2, f3, f4, f5, f6, f7, f8⟩ := HP4.out.frozen9
  obtain ⟨w5, hw5⟩ : ∃ x, x = putR w4 P T m := ⟨_, rfl⟩
  have HB5 : Hid (Below w.heap.size w w5) := by unfold Hid; rw [hw5]; exact putR_below HB4.out (by have := HGP.out; omega) _ _
  have HA5 : Hid (Blk w5 (w.heap.size) 24 #[.int .i64 k, .slice sao sl scap, .slice tao tl tcap, .int .i64 n]) := by unfold Hid; rw [hw5]; exact putR_far HA4.out (by have := HGP.out; omega) _ _
  have HN5 : Hid (Blk w5 ((w.heap.size + 1)) 26 (arr8 N)) := by unfold Hid; rw [hw5]; exact putR_far HN4.out (by have := HGP.out; omega) _ _
  have HP5 : Hid (Blk w5 P 29 (arrR T m)) := by unfold Hid; rw [hw5]; exact putR_blk HPz.out _ _
  unfold putR at hw5
  go_upto_region 5 with fail
  rw [← hw5]
  clear hw5 p0 p1 p2 p3 p4 p5 p6 p7 p8 f0 f1 f2 f3 f4 f5 f6 f7 f8
  obtain ⟨x0, x1, x2, x3⟩ := HX.out _ HA5.out
  go_wp2_with fail
  go_at_call 10
  refine (HOf.out _ HB5.out).mono ?_
  rintro e w6 ⟨rfl, hb⟩
  have HB6 : Hid (Below w.heap.size w w6) := HB5.out.trans (hb.mono HB5.out.size)
  have HA6 : Hid (Blk w6 w.heap.size 24 #[.int .i64 k, .slice sao sl scap, .slice tao tl tcap, .int .i64 n]) := HA5.out.below hb
  have HN6 : Hid (Blk w6 (w.heap.size + 1) 26 (arr8 N)) := HN5.out.below hb
  have HP6 : Hid (Blk w6 P 29 (arrR T m)) := HP5.out.below hb
  clear hb
  clear x0 x1 x2 x3
  obtain ⟨w7, hw7⟩ : ∃ x, x = w6.alloc (.cells #[.int .i64 (T 0), .int .i64 (T 1), .int .i64 (T 2), .int .i64 (T 3), .int .i64 (T 4), .int .i64 (T 5), .int .i64 (T 6), .int .i64 (T 7), .int .i64 m] 29) := ⟨_, rfl⟩
  have HB7 : Hid (Below w.heap.size w w7) := by unfold Hid; rw [hw7]; exact HB6.out.alloc HB6.out.size _
  have HA7 : Hid (Blk w7 w.heap.size 24 #[.int .i64 k, .slice sao sl scap, .slice tao tl tcap, .int .i64 n]) := by unfold Hid; rw [hw7]; exact HA6.out.old _
  have HN7 : Hid (Blk w7 (w.heap.size + 1) 26 (arr8 N)) := by unfold Hid; rw [hw7]; exact HN6.out.old _
  have HP7 : Hid (Blk w7 P 29 (arrR T m)) := by unfold Hid; rw [hw7]; exact HP6.out.old _
  have HQ7 : Hid (Blk w7 w6.heap.size 29 (arrR T m)) := by unfold Hid; rw [hw7]; exact Blk.new _ _ _
  have HGQ : Hid (w.heap.size + 1 < w6.heap.size) := HN6.out.lt
  obtain ⟨Q, hQ⟩ : ∃ P, P = w6.heap.size := ⟨_, rfl⟩
  rw [← hQ] at HQ7 HGQ
  go_upto_region 6 with fail
  rw [← hw7, ← hQ]
  clear hw7 hQ
  go_wp2_with fail
  go_at_call 11
  refine (HE1.out _ HB7.out).mono ?_
  rintro e w8 ⟨rfl, hb⟩
  have HB8 : Hid (Below w.heap.size w w8) := HB7.out.trans (hb.mono HB7.out.size)
  have HA8 : Hid (Blk w8 w.heap.size 24 #[.int .i64 k, .slice sao sl scap, .slice tao tl tcap, .int .i64 n]) := HA7.out.below hb
  have HN8 : Hid (Blk w8 (w.heap.size + 1) 26 (arr8 N)) := HN7.out.below hb
  have HP8 : Hid (Blk w8 P 29 (arrR T m)) := HP7.out.below hb
  have HQ8 : Hid (Blk w8 Q 29 (arrR T m)) := HQ7.out.below hb
  clear hb
  have q0 : w8.cell? ⟨Q, 0, none⟩ = some (.int .i64 (T 0)) := HQ8.out.cell 0
  have q1 : w8.cell? ⟨Q, 1, none⟩ = some (.int .i64 (T 1)) := HQ8.out.cell 1
  have q2 : w8.cell? ⟨Q, 2, none⟩ = some (.int .i64 (T 2)) := HQ8.out.cell 2
  have q3 : w8.cell? ⟨Q, 3, none⟩ = some (.int .i64 (T 3)) := HQ8.out.cell 3
  have q4 : w8.cell? ⟨Q, 4, none⟩ = some (.int .i64 (T 4)) := HQ8.out.cell 4
  have q5 : w8.cell? ⟨Q, 5, none⟩ = some (.int .i64 (T 5)) := HQ8.out.cell 5
  have q6 : w8.cell? ⟨Q, 6, none⟩ = some (.int .i64 (T 6)) := HQ8.out.cell 6
  have q7 : w8.cell? ⟨Q, 7, none⟩ = some (.int .i64 (T 7)) := HQ8.out.cell 7
  have q8 : w8.cell? ⟨Q, 8, none⟩ = some (.int .i64 m) := HQ8.out.cell 8
  have p0 : w8.cell? ⟨P, 0, none⟩ = some (.int .i64 (T 0)) := HP8.out.cell 0
  have p1 : w8.cell? ⟨P, 1, none⟩ = some (.int .i64 (T 1)) := HP8.out.cell 1
  have p2 : w8.cell? ⟨P, 2, none⟩ = some (.int .i64 (T 2)) := HP8.out.cell 2
  have p3 : w8.cell? ⟨P, 3, none⟩ = some (.int .i64 (T 3)) := HP8.out.cell 3
  have p4 : w8.cell? ⟨P, 4, none⟩ = some (.int .i64 (T 4)) := HP8.out.cell 4
  have p5 : w8.cell? ⟨P, 5, none⟩ = some (.int .i64 (T 5)) := HP8.out.cell 5
  have p6 : w8.cell? ⟨P, 6, none⟩ = some (.int .i64 (T 6)) := HP8.out.cell 6
  have p7 : w8.cell? ⟨P, 7, none⟩ = some (.int .i64 (T 7)) := HP8.out.cell 7
  have p8 : w8.cell? ⟨P, 8, none⟩ = some (.int .i64 m) := HP8.out.cell 8
  have hq := sameR T m
  have hgd := guardR
  go_upto_region 7 with fail
  clear q0 q1 q2 q3 q4 q5 q6 q7 q8 p0 p1 p2 p3 p4 p5 p6 p7 p8
  clear hq hgd
  go_wp2_with fail
  go_at_call 12
  refine (HRs.out _ HB8.out).mono ?_
  rintro e w9 ⟨rfl, hb⟩
  have HB9 : Hid (Below w.heap.size w w9) := HB8.out.trans (hb.mono HB8.out.size)
  have HA9 : Hid (Blk w9 w.heap.size 24 #[.int .i64 k, .slice sao sl scap, .slice tao tl tcap, .int .i64 n]) := HA8.out.below hb
  have HN9 : Hid (Blk w9 (w.heap.size + 1) 26 (arr8 N)) := HN8.out.below hb
  have HP9 : Hid (Blk w9 P 29 (arrR T m)) := HP8.out.below hb
  have HQ9 : Hid (Blk w9 Q 29 (arrR T m)) := HQ8.out.below hb
  clear hb
  obtain ⟨d0, d1, d2, d3, d4, d5, d6, d7⟩ := HN9.out.cells8
  go_wp2_with fail
  go_at_call 15
  refine (HFt.out _ HB9.out).mono ?_
  rintro e w10 ⟨rfl, hb⟩
  have HB10 : Hid (Below w.heap.size w w10) := HB9.out.trans (hb.mono HB9.out.size)
  have HA10 : Hid (Blk w10 w.heap.size 24 #[.int .i64 k, .slice sao sl scap, .slice tao tl tcap, .int .i64 n]) := HA9.out.below hb
  have HN10 : Hid (Blk w10 (w.heap.size + 1) 26 (arr8 N)) := HN9.out.below hb
  have HP10 : Hid (Blk w10 P 29 (arrR T m)) := HP9.out.below hb
  have HQ10 : Hid (Blk w10 Q 29 (arrR T m)) := HQ9.out.below hb
  clear hb
  clear d0 d1 d2 d3 d4 d5 d6 d7
  go_wp2_with fail
  go_at_call 11
  refine (HE2.out _ HB10.out).mono ?_
  rintro e w11 ⟨rfl, hb⟩
  have HB11 : Hid (Below w.heap.size w w11) := HB10.out.trans (hb.mono HB10.out.size)
  have HA11 : Hid (Blk w11 w.heap.size 24 #[.int .i64 k, .slice sao sl scap, .slice tao tl tcap, .int .i64 n]) := HA10.out.below hb
  have HN11 : Hid (Blk w11 (w.heap.size + 1) 26 (arr8 N)) := HN10.out.below hb
  have HP11 : Hid (Blk w11 P 29 (arrR T m)) := HP10.out.below hb
  have HQ11 : Hid (Blk w11 Q 29 (arrR T m)) := HQ10.out.below hb
  clear hb
  go_wp2
  go_ret
  exact ⟨rfl, HB11.out⟩

set_option maxHeartbeats 8000000 in
theorem rowsTell_GC (k n : Int) (h : Bool) (N : Nat → Int) (T : Nat → Int) (m : Int) (F : Int) (hF : ¬ F = 0) (sao tao lao : Option Addr) (sl scap tl tcap ll lcap : Nat) (w : World)
    (HAt : Hid (∀ W, Below w.heap.size w W → Calls Tryd.prog 8 #[.agg #[.int .i64 k, .slice sao sl scap, .slice tao tl tcap, .int .i64 n]] W fun e w' => e = .returned (.int .i64 0) ∧ Below W.heap.size W w'))
    (HRo : Hid (∀ W, Below w.heap.size w W → Calls Tryd.prog 9 #[.agg #[.int .i64 k, .slice sao sl scap, .slice tao tl tcap, .int .i64 n], .bool h] W fun e w' => e = .returned (.agg #[.int .i64 (T 0), .int .i64 (T 1), .int .i64 (T 2), .int .i64 (T 3), .int .i64 (T 4), .int .i64 (T 5), .int .i64 (T 6), .int .i64 (T 7), .int .i64 m]) ∧ Below W.heap.size W w'))
    (HOf : Hid (∀ W, Below w.heap.size w W → Calls Tryd.prog 10 #[.agg #[.int .i64 k, .slice sao sl scap, .slice tao tl tcap, .int .i64 n], .bool h] W fun e w' => e = .returned (.tuple #[.agg #[.int .i64 (T 0), .int .i64 (T 1), .int .i64 (T 2), .int .i64 (T 3), .int .i64 (T 4), .int .i64 (T 5), .int .i64 (T 6), .int .i64 (T 7), .int .i64 m], .nilIface]) ∧ Below W.heap.size W w'))
    (HE1 : Hid (∀ W, Below w.heap.size w W → Calls Tryd.prog 11 #[.nilIface, .int .i64 0] W fun e w' => e = .returned (.bool true) ∧ Below W.heap.size W w'))
    (HRs : Hid (∀ W, Below w.heap.size w W → Calls Tryd.prog 12 #[.slice lao ll lcap] W fun e w' => e = .returned (.int .i64 0) ∧ Below W.heap.size W w'))
    (HCo : Hid (∀ W, Below w.heap.size w W → Calls Tryd.prog 13 #[.agg #[.int .i64 (N 0), .int .i64 (N 1), .int .i64 (N 2), .int .i64 (N 3), .int .i64 (N 4), .int .i64 (N 5), .int .i64 (N 6), .int .i64 (N 7)]] W fun e w' => e = .returned (.int .i64 F) ∧ Below W.heap.size W w'))
    (HFt : Hid (∀ W, Below w.heap.size w W → Calls Tryd.prog 15 #[.slice lao ll lcap, .agg #[.int .i64 (N 0), .int .i64 (N 1), .int .i64 (N 2), .int .i64 (N 3), .int .i64 (N 4), .int .i64 (N 5), .int .i64 (N 6), .int .i64 (N 7)]] W fun e w' => e = .returned (.tuple #[.bool false, .iface 66 (.int .i64 F)]) ∧ Below W.heap.size W w'))
    (HE2 : Hid (∀ W, Below w.heap.size w W → Calls Tryd.prog 11 #[.iface 66 (.int .i64 F), .int .i64 F] W fun e w' => e = .returned (.bool true) ∧ Below W.heap.size W w')) :
    Calls Tryd.prog 3 #[.agg #[.int .i64 k, .slice sao sl scap, .slice tao tl tcap, .int .i64 n], .bool h, .slice lao ll lcap, .agg #[.int .i64 (N 0), .int .i64 (N 1), .int .i64 (N 2), .int .i64 (N 3), .int .i64 (N 4), .int .i64 (N 5), .int .i64 (N 6), .int .i64 (N 7)]] w fun e w' => e = .returned (.bool true) ∧ Below w.heap.size w w' := by
  obtain ⟨w1, hw1⟩ : ∃ w1, w1 = (w.alloc (.cells #[.int .i64 k, .slice sao sl scap, .slice tao tl tcap, .int .i64 n] 24)).alloc (.cells #[.int .i64 (N 0), .int .i64 (N 1), .int .i64 (N 2), .int .i64 (N 3), .int .i64 (N 4), .int .i64 (N 5), .int .i64 (N 6), .int .i64 (N 7)] 26) := ⟨_, rfl⟩
  have HB1 : Hid (Below w.heap.size w w1) := by unfold Hid; rw [hw1]; exact (below_alloc1 _ _).alloc (by simp) _
  have HA1 : Hid (Blk w1 w.heap.size 24 #[.int .i64 k, .slice sao sl scap, .slice tao tl tcap, .int .i64 n]) := by unfold Hid; rw [hw1]; exact (Blk.new _ _ _).old _
  have HN1 : Hid (Blk w1 (w.heap.size + 1) 26 (arr8 N)) := by
    unfold Hid; rw [hw1]
    have := Blk.new (w.alloc (.cells #[.int .i64 k, .slice sao sl scap, .slice tao tl tcap, .int .i64 n] 24)) 26 (arr8 N)
    simp only [World.size_alloc] at this
    exact this
  have HX : Hid (∀ W, Blk W w.heap.size 24 #[.int .i64 k, .slice sao sl scap, .slice tao tl tcap, .int .i64 n] → W.cell? ⟨w.heap.size, 0, none⟩ = some (.int .i64 k) ∧ W.cell? ⟨w.heap.size, 1, none⟩ = some (.slice sao sl scap) ∧ W.cell? ⟨w.heap.size, 2, none⟩ = some (.slice tao tl tcap) ∧ W.cell? ⟨w.heap.size, 3, none⟩ = some (.int .i64 n)) := fun W h => ⟨h.cell 0, h.cell 1, h.cell 2, h.cell 3⟩
  go_enter Tryd.func3, Tryd.ntmps3
  go_wp2_with fail
  rw [← hw1]
  clear hw1
  obtain ⟨x0, x1, x2, x3⟩ := HX.out _ HA1.out
  go_wp2_with fail
  go_at_call 8
  refine (HAt.out _ HB1.out).mono ?_
  rintro e w2 ⟨rfl, hb⟩
  have HB2 : Hid (Below w.heap.size w w2) := HB1.out.trans (hb.mono HB1.out.size)
  have HA2 : Hid (Blk w2 w.heap.size 24 #[.int .i64 k, .slice sao sl scap, .slice tao tl tcap, .int .i64 n]) := HA1.out.below hb
  have HN2 : Hid (Blk w2 (w.heap.size + 1) 26 (arr8 N)) := HN1.out.below hb
  clear hb
  clear x0 x1 x2 x3
  obtain ⟨w3, hw3⟩ : ∃ x, x = w2.alloc (.cells #[.int .i64 0, .int .i64 0, .int .i64 0, .int .i64 0, .int .i64 0, .int .i64 0, .int .i64 0, .int .i64 0, .int .i64 0] 29) := ⟨_, rfl⟩
  have HB3 : Hid (Below w.heap.size w w3) := by unfold Hid; rw [hw3]; exact HB2.out.alloc HB2.out.size _
  have HA3 : Hid (Blk w3 w.heap.size 24 #[.int .i64 k, .slice sao sl scap, .slice tao tl tcap, .int .i64 n]) := by unfold Hid; rw [hw3]; exact HA2.out.old _
  have HN3 : Hid (Blk w3 (w.heap.size + 1) 26 (arr8 N)) := by unfold Hid; rw [hw3]; exact HN2.out.old _
  have HP3 : Hid (Blk w3 w2.heap.size 29 #[.int .i64 0, .int .i64 0, .int .i64 0, .int .i64 0, .int .i64 0, .int .i64 0, .int .i64 0, .int .i64 0, .int .i64 0]) := by unfold Hid; rw [hw3]; exact Blk.new _ _ _
  have HGP : Hid (w.heap.size + 1 < w2.heap.size) := HN2.out.lt
  obtain ⟨P, hP⟩ : ∃ P, P = w2.heap.size := ⟨_, rfl⟩
  rw [← hP] at HP3 HGP
  go_upto_region 3 with fail
  rw [← hw3, ← hP]
  clear hw3 hP
  obtain ⟨x0, x1, x2, x3⟩ := HX.out _ HA3.out
  go_wp2_with fail
  go_at_call 9
  refine (HRo.out _ HB3.out).mono ?_
  rintro e w4 ⟨rfl, hb⟩
  have HB4 : Hid (Below w.heap.size w w4) := HB3.out.trans (hb.mono HB3.out.size)
  have HA4 : Hid (Blk w4 w.heap.size 24 #[.int .i64 k, .slice sao sl scap, .slice tao tl tcap, .int .i64 n]) := HA3.out.below hb
  have HN4 : Hid (Blk w4 (w.heap.size + 1) 26 (arr8 N)) := HN3.out.below hb
  have HP4 : Hid (Blk w4 P 29 #[.int .i64 0, .int .i64 0, .int .i64 0, .int .i64 0, .int .i64 0, .int .i64 0, .int .i64 0, .int .i64 0, .int .i64 0]) := HP3.out.below hb
  clear hb
  clear x0 x1 x2 x3
  obtain ⟨Z, hZ⟩ : ∃ Z : Nat → Int, Z = fun _ => 0 := ⟨_, rfl⟩
  have HPz : Hid (Blk w4 P 29 (arrR Z 0)) := by unfold Hid; rw [hZ]; exact HP4.out
  clear hZ
  have p0 : w4.cell? ⟨P, 0, none⟩ = some (.int .i64 0) := HP4.out.cell 0
  have p1 : w4.cell? ⟨P, 1, none⟩ = some (.int .i64 0) := HP4.out.cell 1
  have p2 : w4.cell? ⟨P, 2, none⟩ = some (.int .i64 0) := HP4.out.cell 2
  have p3 : w4.cell? ⟨P, 3, none⟩ = some (.int .i64 0) := HP4.out.cell 3
  have p4 : w4.cell? ⟨P, 4, none⟩ = some (.int .i64 0) := HP4.out.cell 4
  have p5 : w4.cell? ⟨P, 5, none⟩ = some (.int .i64 0) := HP4.out.cell 5
  have p6 : w4.cell? ⟨P, 6, none⟩ = some (.int .i64 0) := HP4.out.cell 6
  have p7 : w4.cell? ⟨P, 7, none⟩ = some (.int .i64 0) := HP4.out.cell 7
  have p8 : w4.cell? ⟨P, 8, none⟩ = some (.int .i64 0) := HP4.out.cell 8
  obtain ⟨f0, f1, f2, f3, f4, f5, f6, f7, f8⟩ := HP4.out.frozen9
  obtain ⟨w5, hw5⟩ : ∃ x, x = putR w4 P T m := ⟨_, rfl⟩
  have HB5 : Hid (Below w.heap.size w w5) := by unfold Hid; rw [hw5]; exact putR_below HB4.out (by have := HGP.out; omega) _ _
  have HA5 : Hid (Blk w5 (w.heap.size) 24 #[.int .i64 k, .slice sao sl scap, .slice tao tl tcap, .int .i64 n]) := by unfold Hid; rw [hw5]; exact putR_far HA4.out (by have := HGP.out; omega) _ _
  have HN5 : Hid (Blk w5 ((w.heap.size + 1)) 26 (arr8 N)) := by unfold Hid; rw [hw5]; exact putR_far HN4.out (by have := HGP.out; omega) _ _
  have HP5 : Hid (Blk w5 P 29 (arrR T m)) := by unfold Hid; rw [hw5]; exact putR_blk HPz.out _ _
  unfold putR at hw5
  go_upto_region 5 with fail
  rw [← hw5]
  clear hw5 p0 p1 p2 p3 p4 p5 p6 p7 p8 f0 f1 f2 f3 f4 f5 f6 f7 f8
  obtain ⟨x0, x1, x2, x3⟩ := HX.out _ HA5.out
  go_wp2_with fail
  go_at_call 10
  refine (HOf.out _ HB5.out).mono ?_
  rintro e w6 ⟨rfl, hb⟩
  have HB6 : Hid (Below w.heap.size w w6) := HB5.out.trans (hb.mono HB5.out.size)
  have HA6 : Hid (Blk w6 w.heap.size 24 #[.int .i64 k, .slice sao sl scap, .slice tao tl tcap, .int .i64 n]) := HA5.out.below hb
  have HN6 : Hid (Blk w6 (w.heap.size + 1) 26 (arr8 N)) := HN5.out.below hb
  have HP6 : Hid (Blk w6 P 29 (arrR T m)) := HP5.out.below hb
  clear hb
  clear x0 x1 x2 x3
  obtain ⟨w7, hw7⟩ : ∃ x, x = w6.alloc (.cells #[.int .i64 (T 0), .int .i64 (T 1), .int .i64 (T 2), .int .i64 (T 3), .int .i64 (T 4), .int .i64 (T 5), .int .i64 (T 6), .int .i64 (T 7), .int .i64 m] 29) := ⟨_, rfl⟩
  have HB7 : Hid (Below w.heap.size w w7) := by unfold Hid; rw [hw7]; exact HB6.out.alloc HB6.out.size _
  have HA7 : Hid (Blk w7 w.heap.size 24 #[.int .i64 k, .slice sao sl scap, .slice tao tl tcap, .int .i64 n]) := by unfold Hid; rw [hw7]; exact HA6.out.old _
  have HN7 : Hid (Blk w7 (w.heap.size + 1) 26 (arr8 N)) := by unfold Hid; rw [hw7]; exact HN6.out.old _
  have HP7 : Hid (Blk w7 P 29 (arrR T m)) := by unfold Hid; rw [hw7]; exact HP6.out.old _
  have HQ7 : Hid (Blk w7 w6.heap.size 29 (arrR T m)) := by unfold Hid; rw [hw7]; exact Blk.new _ _ _
  have HGQ : Hid (w.heap.size + 1 < w6.heap.size) := HN6.out.lt
  obtain ⟨Q, hQ⟩ : ∃ P, P = w6.heap.size := ⟨_, rfl⟩
  rw [← hQ] at HQ7 HGQ
  go_upto_region 6 with fail
  rw [← hw7, ← hQ]
  clear hw7 hQ
  go_wp2_with fail
  go_at_call 11
  refine (HE1.out _ HB7.out).mono ?_
  rintro e w8 ⟨rfl, hb⟩
  have HB8 : Hid (Below w.heap.size w w8) := HB7.out.trans (hb.mono HB7.out.size)
  have HA8 : Hid (Blk w8 w.heap.size 24 #[.int .i64 k, .slice sao sl scap, .slice tao tl tcap, .int .i64 n]) := HA7.out.below hb
  have HN8 : Hid (Blk w8 (w.heap.size + 1) 26 (arr8 N)) := HN7.out.below hb
  have HP8 : Hid (Blk w8 P 29 (arrR T m)) := HP7.out.below hb
  have HQ8 : Hid (Blk w8 Q 29 (arrR T m)) := HQ7.out.below hb
  clear hb
  have q0 : w8.cell? ⟨Q, 0, none⟩ = some (.int .i64 (T 0)) := HQ8.out.cell 0
  have q1 : w8.cell? ⟨Q, 1, none⟩ = some (.int .i64 (T 1)) := HQ8.out.cell 1
  have q2 : w8.cell? ⟨Q, 2, none⟩ = some (.int .i64 (T 2)) := HQ8.out.cell 2
  have q3 : w8.cell? ⟨Q, 3, none⟩ = some (.int .i64 (T 3)) := HQ8.out.cell 3
  have q4 : w8.cell? ⟨Q, 4, none⟩ = some (.int .i64 (T 4)) := HQ8.out.cell 4
  have q5 : w8.cell? ⟨Q, 5, none⟩ = some (.int .i64 (T 5)) := HQ8.out.cell 5
  have q6 : w8.cell? ⟨Q, 6, none⟩ = some (.int .i64 (T 6)) := HQ8.out.cell 6
  have q7 : w8.cell? ⟨Q, 7, none⟩ = some (.int .i64 (T 7)) := HQ8.out.cell 7
  have q8 : w8.cell? ⟨Q, 8, none⟩ = some (.int .i64 m) := HQ8.out.cell 8
  have p0 : w8.cell? ⟨P, 0, none⟩ = some (.int .i64 (T 0)) := HP8.out.cell 0
  have p1 : w8.cell? ⟨P, 1, none⟩ = some (.int .i64 (T 1)) := HP8.out.cell 1
  have p2 : w8.cell? ⟨P, 2, none⟩ = some (.int .i64 (T 2)) := HP8.out.cell 2
  have p3 : w8.cell? ⟨P, 3, none⟩ = some (.int .i64 (T 3)) := HP8.out.cell 3
  have p4 : w8.cell? ⟨P, 4, none⟩ = some (.int .i64 (T 4)) := HP8.out.cell 4
  have p5 : w8.cell? ⟨P, 5, none⟩ = some (.int .i64 (T 5)) := HP8.out.cell 5
  have p6 : w8.cell? ⟨P, 6, none⟩ = some (.int .i64 (T 6)) := HP8.out.cell 6
  have p7 : w8.cell? ⟨P, 7, none⟩ = some (.int .i64 (T 7)) := HP8.out.cell 7
  have p8 : w8.cell? ⟨P, 8, none⟩ = some (.int .i64 m) := HP8.out.cell 8
  have hq := sameR T m
  have hgd := guardR
  go_upto_region 7 with fail
  clear q0 q1 q2 q3 q4 q5 q6 q7 q8 p0 p1 p2 p3 p4 p5 p6 p7 p8
  clear hq hgd
  go_wp2_with fail
  go_at_call 12
  refine (HRs.out _ HB8.out).mono ?_
  rintro e w9 ⟨rfl, hb⟩
  have HB9 : Hid (Below w.heap.size w w9) := HB8.out.trans (hb.mono HB8.out.size)
  have HA9 : Hid (Blk w9 w.heap.size 24 #[.int .i64 k, .slice sao sl scap, .slice tao tl tcap, .int .i64 n]) := HA8.out.below hb
  have HN9 : Hid (Blk w9 (w.heap.size + 1) 26 (arr8 N)) := HN8.out.below hb
  have HP9 : Hid (Blk w9 P 29 (arrR T m)) := HP8.out.below hb
  have HQ9 : Hid (Blk w9 Q 29 (arrR T m)) := HQ8.out.below hb
  clear hb
  obtain ⟨d0, d1, d2, d3, d4, d5, d6, d7⟩ := HN9.out.cells8
  go_wp2_with fail
  go_at_call 13
  refine (HCo.out _ HB9.out).mono ?_
  rintro e w10 ⟨rfl, hb⟩
  have HB10 : Hid (Below w.heap.size w w10) := HB9.out.trans (hb.mono HB9.out.size)
  have HA10 : Hid (Blk w10 w.heap.size 24 #[.int .i64 k, .slice sao sl scap, .slice tao tl tcap, .int .i64 n]) := HA9.out.below hb
  have HN10 : Hid (Blk w10 (w.heap.size + 1) 26 (arr8 N)) := HN9.out.below hb
  have HP10 : Hid (Blk w10 P 29 (arrR T m)) := HP9.out.below hb
  have HQ10 : Hid (Blk w10 Q 29 (arrR T m)) := HQ9.out.below hb
  clear hb
  clear d0 d1 d2 d3 d4 d5 d6 d7
  obtain ⟨d0, d1, d2, d3, d4, d5, d6, d7⟩ := HN10.out.cells8
  go_wp2_with fail
  go_at_call 15
  refine (HFt.out _ HB10.out).mono ?_
  rintro e w11 ⟨rfl, hb⟩
  have HB11 : Hid (Below w.heap.size w w11) := HB10.out.trans (hb.mono HB10.out.size)
  have HA11 : Hid (Blk w11 w.heap.size 24 #[.int .i64 k, .slice sao sl scap, .slice tao tl tcap, .int .i64 n]) := HA10.out.below hb
  have HN11 : Hid (Blk w11 (w.heap.size + 1) 26 (arr8 N)) := HN10.out.below hb
  have HP11 : Hid (Blk w11 P 29 (arrR T m)) := HP10.out.below hb
  have HQ11 : Hid (Blk w11 Q 29 (arrR T m)) := HQ10.out.below hb
  clear hb
  clear d0 d1 d2 d3 d4 d5 d6 d7
  go_wp2_with fail
  go_at_call 11
  refine (HE2.out _ HB11.out).mono ?_
  rintro e w12 ⟨rfl, hb⟩
  have HB12 : Hid (Below w.heap.size w w12) := HB11.out.trans (hb.mono HB11.out.size)
  have HA12 : Hid (Blk w12 w.heap.size 24 #[.int .i64 k, .slice sao sl scap, .slice tao tl tcap, .int .i64 n]) := HA11.out.below hb
  have HN12 : Hid (Blk w12 (w.heap.size + 1) 26 (arr8 N)) := HN11.out.below hb
  have HP12 : Hid (Blk w12 P 29 (arrR T m)) := HP11.out.below hb
  have HQ12 : Hid (Blk w12 Q 29 (arrR T m)) := HQ11.out.below hb
  clear hb
  go_wp2
  go_ret
  exact ⟨rfl, HB12.out⟩

end Go.Proofs.YtenmheenieifpadDoor
