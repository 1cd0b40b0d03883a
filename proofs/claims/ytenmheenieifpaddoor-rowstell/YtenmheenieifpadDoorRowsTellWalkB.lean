/-
  Proved: vennlaw1.RowsTell returns true, where the atom is wrong; what was in memory is as it was (walks that the statement leans on). Written by program.
-/
import Derived.Test.YtenmheenieifpadDoorRowsEq
import Derived.Test.YtenmheenieifpadDoorRowsOne
import Derived.Deep.Cut
namespace Go.Proofs.YtenmheenieifpadDoor
open Go.ChangeShapes Go.WideShapes Go.ChangeAt Go.RowKit
set_option maxRecDepth 100000

theorem zeroR (w : World) : (binOp .eql 29 (.agg #[.int .i64 0, .int .i64 0, .int .i64 0, .int .i64 0, .int .i64 0, .int .i64 0, .int .i64 0, .int .i64 0, .int .i64 0]) (.agg #[.int .i64 0, .int .i64 0, .int .i64 0, .int .i64 0, .int .i64 0, .int .i64 0, .int .i64 0, .int .i64 0, .int .i64 0])).run Tryd.prog w = .ok (.bool true) w := sameR (fun _ => 0) 0 w

set_option maxHeartbeats 8000000 in
theorem rowsTell_BG (k n : Int) (h : Bool) (N : Nat → Int) (E : Int) (hE : ¬ E = 0) (S : Bool) (sao tao lao : Option Addr) (sl scap tl tcap ll lcap : Nat) (w : World)
    (HAt : Hid (∀ W, Below w.heap.size w W → Calls Tryd.prog 8 #[.agg #[.int .i64 k, .slice sao sl scap, .slice tao tl tcap, .int .i64 n]] W fun e w' => e = .returned (.int .i64 E) ∧ Below W.heap.size W w'))
    (HOf : Hid (∀ W, Below w.heap.size w W → Calls Tryd.prog 10 #[.agg #[.int .i64 k, .slice sao sl scap, .slice tao tl tcap, .int .i64 n], .bool h] W fun e w' => e = .returned (.tuple #[.agg #[.int .i64 0, .int .i64 0, .int .i64 0, .int .i64 0, .int .i64 0, .int .i64 0, .int .i64 0, .int .i64 0, .int .i64 0], .iface 66 (.int .i64 E)]) ∧ Below W.heap.size W w'))
    (HE1 : Hid (∀ W, Below w.heap.size w W → Calls Tryd.prog 11 #[.iface 66 (.int .i64 E), .int .i64 E] W fun e w' => e = .returned (.bool true) ∧ Below W.heap.size W w'))
    (HRs : Hid (∀ W, Below w.heap.size w W → Calls Tryd.prog 12 #[.slice lao ll lcap] W fun e w' => e = .returned (.int .i64 0) ∧ Below W.heap.size W w'))
    (HCo : Hid (∀ W, Below w.heap.size w W → Calls Tryd.prog 13 #[.agg #[.int .i64 (N 0), .int .i64 (N 1), .int .i64 (N 2), .int .i64 (N 3), .int .i64 (N 4), .int .i64 (N 5), .int .i64 (N 6), .int .i64 (N 7)]] W fun e w' => e = .returned (.int .i64 0) ∧ Below W.heap.size W w'))
    (HFi : Hid (∀ W, Below w.heap.size w W → Calls Tryd.prog 14 #[.slice lao ll lcap, .agg #[.int .i64 (N 0), .int .i64 (N 1), .int .i64 (N 2), .int .i64 (N 3), .int .i64 (N 4), .int .i64 (N 5), .int .i64 (N 6), .int .i64 (N 7)]] W fun e w' => e = .returned (.bool S) ∧ Below W.heap.size W w'))
    (HFt : Hid (∀ W, Below w.heap.size w W → Calls Tryd.prog 15 #[.slice lao ll lcap, .agg #[.int .i64 (N 0), .int .i64 (N 1), .int .i64 (N 2), .int .i64 (N 3), .int .i64 (N 4), .int .i64 (N 5), .int .i64 (N 6), .int .i64 (N 7)]] W fun e w' => e = .returned (.tuple #[.bool S, .nilIface]) ∧ Below W.heap.size W w'))
    (HE2 : Hid (∀ W, Below w.heap.size w W → Calls Tryd.prog 11 #[.nilIface, .int .i64 0] W fun e w' => e = .returned (.bool true) ∧ Below W.heap.size W w')) :
    Calls Tryd.prog 3 #[.agg #[.int .i64 k, .slice sao sl scap, .slice tao tl tcap, .int .i64 n], .bool h, .slice lao ll lcap, .agg #[.int .i64 (N 0), .int .i64 (N 1), .int .i64 (N 2), .int .i64 (N 3), .int .i64 (N 4), .int .i64 (N 5), .int .i64 (N 6), .int .i64 (N 7)]] w fun e w' => e = .returned (.bool true) ∧ Below w.heap.size w w' := by
  obtain ⟨w1, hw1⟩ : ∃ w1, w1 = (w.alloc (.cells #[.int .i64 k, .slice sao sl scap, .slice tao tl tcap, .int .i64 n] 24)).alloc (.cells #[.int .i64 (N 0), .int .i64 (N 1), .int .i64 (N 2), .int .i64 (N 3), .int .i64 (N 4), .int .i64 (N 5), .int .i64 (N 6), .int .i64 (N 7)] 26) := ⟨_, rfl⟩
  have HB1 : Hid (Below w.heap.size w w1) := by unfold Hid; rw [hw1]; exact (below_alloc1 _ _).alloc (by simp) _
  have HA1 : Hid (Blk w1 w.heap.size 24 #[.int .i64 k, .slice sao sl scap, .slice tao tl tcap, .int .i64 n]) := by unfold Hid; rw [hw1]; exact (Blk.new _ _ _).old _
  have HN1 : Hid (Blk w1 (w.heap.size + 1) 26 (arr8 N)) := by
    unfold Hid; rw [hw1]
    have := Blk.new (w.alloc (.cells #[.int .i64 k, .slice sao sl scap, .slice tao tl tcap, .int .i64 n] 24)) 26 (arr8 N)
    simp only [World.size_alloc] at this
    exact this
  have HX : Hid (∀ W, Blk W w.heap.size 24 #[.int .i64 k, .slice sao sl scap, .slice tao tl tcap, .int .i64 n] → W.cell? ⟨w.heap.size, 0, none⟩ = some (.int .i64 k) ∧ W.cell? ⟨w.heap.size, 1, none⟩ = some (.slice sao sl scap) ∧ W.cell? ⟨w.heap.size, 2, none⟩ = some (.slice tao tl tcap) ∧ W.cell? ⟨w.heap.size, 3, none⟩ = some (.int .i64 n)) := fun W h => ⟨h.cell 0, h.cell 1, h.cell 2, h.cell 3⟩
  go_enter Tryd.func3, Tryd.ntmps3
  go_wp2_with fail
  rw [← hw1]
  clear hw1
  obtain ⟨x0, x1, x2, x3⟩ := HX.out _ HA1.out
  go_wp2_with fail
  go_at_call 8
  refine (HAt.out _ HB1.out).mono ?_
  rintro e w2 ⟨rfl, hb⟩
  have HB2 : Hid (Below w.heap.size w w2) := HB1.out.trans (hb.mono HB1.out.size)
  have HA2 : Hid (Blk w2 w.heap.size 24 #[.int .i64 k, .slice sao sl scap, .slice tao tl tcap, .int .i64 n]) := HA1.out.below hb
  have HN2 : Hid (Blk w2 (w.heap.size + 1) 26 (arr8 N)) := HN1.out.below hb
  clear hb
  clear x0 x1 x2 x3
  obtain ⟨w3, hw3⟩ : ∃ x, x = w2.alloc (.cells #[.int .i64 0, .int .i64 0, .int .i64 0, .int .i64 0, .int .i64 0, .int .i64 0, .int .i64 0, .int .i64 0, .int .i64 0] 29) := ⟨_, rfl⟩
  have HB3 : Hid (Below w.heap.size w w3) := by unfold Hid; rw [hw3]; exact HB2.out.alloc HB2.out.size _
  have HA3 : Hid (Blk w3 w.heap.size 24 #[.int .i64 k, .slice sao sl scap, .slice tao tl tcap, .int .i64 n]) := by unfold Hid; rw [hw3]; exact HA2.out.old _
  have HN3 : Hid (Blk w3 (w.heap.size + 1) 26 (arr8 N)) := by unfold Hid; rw [hw3]; exact HN2.out.old _
  have HP3 : Hid (Blk w3 w2.heap.size 29 #[.int .i64 0, .int .i64 0, .int .i64 0, .int .i64 0, .int .i64 0, .int .i64 0, .int .i64 0, .int .i64 0, .int .i64 0]) := by unfold Hid; rw [hw3]; exact Blk.new _ _ _
  have HGP : Hid (w.heap.size + 1 < w2.heap.size) := HN2.out.lt
  obtain ⟨P, hP⟩ : ∃ P, P = w2.heap.size := ⟨_, rfl⟩
  rw [← hP] at HP3 HGP
  go_upto_region 3 with fail
  rw [← hw3, ← hP]
  clear hw3 hP
  obtain ⟨x0, x1, x2, x3⟩ := HX.out _ HA3.out
  go_wp2_with fail
  go_at_call 10
  refine (HOf.out _ HB3.out).mono ?_
  rintro e w4 ⟨rfl, hb⟩
  have HB4 : Hid (Below w.heap.size w w4) := HB3.out.trans (hb.mono HB3.out.size)
  have HA4 : Hid (Blk w4 w.heap.size 24 #[.int .i64 k, .slice sao sl scap, .slice tao tl tcap, .int .i64 n]) := HA3.out.below hb
  have HN4 : Hid (Blk w4 (w.heap.size + 1) 26 (arr8 N)) := HN3.out.below hb
  have HP4 : Hid (Blk w4 P 29 #[.int .i64 0, .int .i64 0, .int .i64 0, .int .i64 0, .int .i64 0, .int .i64 0, .int .i64 0, .int .i64 0, .int .i64 0]) := HP3.out.below hb
  clear hb
  clear x0 x1 x2 x3
  obtain ⟨w5, hw5⟩ : ∃ x, x = w4.alloc (.cells #[.int .i64 0, .int .i64 0, .int .i64 0, .int .i64 0, .int .i64 0, .int .i64 0, .int .i64 0, .int .i64 0, .int .i64 0] 29) := ⟨_, rfl⟩
  have HB5 : Hid (Below w.heap.size w w5) := by unfold Hid; rw [hw5]; exact HB4.out.alloc HB4.out.size _
  have HA5 : Hid (Blk w5 w.heap.size 24 #[.int .i64 k, .slice sao sl scap, .slice tao tl tcap, .int .i64 n]) := by unfold Hid; rw [hw5]; exact HA4.out.old _
  have HN5 : Hid (Blk w5 (w.heap.size + 1) 26 (arr8 N)) := by unfold Hid; rw [hw5]; exact HN4.out.old _
  have HP5 : Hid (Blk w5 P 29 #[.int .i64 0, .int .i64 0, .int .i64 0, .int .i64 0, .int .i64 0, .int .i64 0, .int .i64 0, .int .i64 0, .int .i64 0]) := by unfold Hid; rw [hw5]; exact HP4.out.old _
  have HQ5 : Hid (Blk w5 w4.heap.size 29 #[.int .i64 0, .int .i64 0, .int .i64 0, .int .i64 0, .int .i64 0, .int .i64 0, .int .i64 0, .int .i64 0, .int .i64 0]) := by unfold Hid; rw [hw5]; exact Blk.new _ _ _
  have HGQ : Hid (w.heap.size + 1 < w4.heap.size) := HN4.out.lt
  obtain ⟨Q, hQ⟩ : ∃ P, P = w4.heap.size := ⟨_, rfl⟩
  rw [← hQ] at HQ5 HGQ
  go_upto_region 6 with fail
  rw [← hw5, ← hQ]
  clear hw5 hQ
  go_wp2_with fail
  go_at_call 11
  refine (HE1.out _ HB5.out).mono ?_
  rintro e w6 ⟨rfl, hb⟩
  have HB6 : Hid (Below w.heap.size w w6) := HB5.out.trans (hb.mono HB5.out.size)
  have HA6 : Hid (Blk w6 w.heap.size 24 #[.int .i64 k, .slice sao sl scap, .slice tao tl tcap, .int .i64 n]) := HA5.out.below hb
  have HN6 : Hid (Blk w6 (w.heap.size + 1) 26 (arr8 N)) := HN5.out.below hb
  have HP6 : Hid (Blk w6 P 29 #[.int .i64 0, .int .i64 0, .int .i64 0, .int .i64 0, .int .i64 0, .int .i64 0, .int .i64 0, .int .i64 0, .int .i64 0]) := HP5.out.below hb
  have HQ6 : Hid (Blk w6 Q 29 #[.int .i64 0, .int .i64 0, .int .i64 0, .int .i64 0, .int .i64 0, .int .i64 0, .int .i64 0, .int .i64 0, .int .i64 0]) := HQ5.out.below hb
  clear hb
  have q0 : w6.cell? ⟨Q, 0, none⟩ = some (.int .i64 0) := HQ6.out.cell 0
  have q1 : w6.cell? ⟨Q, 1, none⟩ = some (.int .i64 0) := HQ6.out.cell 1
  have q2 : w6.cell? ⟨Q, 2, none⟩ = some (.int .i64 0) := HQ6.out.cell 2
  have q3 : w6.cell? ⟨Q, 3, none⟩ = some (.int .i64 0) := HQ6.out.cell 3
  have q4 : w6.cell? ⟨Q, 4, none⟩ = some (.int .i64 0) := HQ6.out.cell 4
  have q5 : w6.cell? ⟨Q, 5, none⟩ = some (.int .i64 0) := HQ6.out.cell 5
  have q6 : w6.cell? ⟨Q, 6, none⟩ = some (.int .i64 0) := HQ6.out.cell 6
  have q7 : w6.cell? ⟨Q, 7, none⟩ = some (.int .i64 0) := HQ6.out.cell 7
  have q8 : w6.cell? ⟨Q, 8, none⟩ = some (.int .i64 0) := HQ6.out.cell 8
  have p0 : w6.cell? ⟨P, 0, none⟩ = some (.int .i64 0) := HP6.out.cell 0
  have p1 : w6.cell? ⟨P, 1, none⟩ = some (.int .i64 0) := HP6.out.cell 1
  have p2 : w6.cell? ⟨P, 2, none⟩ = some (.int .i64 0) := HP6.out.cell 2
  have p3 : w6.cell? ⟨P, 3, none⟩ = some (.int .i64 0) := HP6.out.cell 3
  have p4 : w6.cell? ⟨P, 4, none⟩ = some (.int .i64 0) := HP6.out.cell 4
  have p5 : w6.cell? ⟨P, 5, none⟩ = some (.int .i64 0) := HP6.out.cell 5
  have p6 : w6.cell? ⟨P, 6, none⟩ = some (.int .i64 0) := HP6.out.cell 6
  have p7 : w6.cell? ⟨P, 7, none⟩ = some (.int .i64 0) := HP6.out.cell 7
  have p8 : w6.cell? ⟨P, 8, none⟩ = some (.int .i64 0) := HP6.out.cell 8
  have hq := zeroR
  have hgd := guardR
  go_upto_region 7 with fail
  clear q0 q1 q2 q3 q4 q5 q6 q7 q8 p0 p1 p2 p3 p4 p5 p6 p7 p8
  clear hq hgd
  go_wp2_with fail
  go_at_call 12
  refine (HRs.out _ HB6.out).mono ?_
  rintro e w7 ⟨rfl, hb⟩
  have HB7 : Hid (Below w.heap.size w w7) := HB6.out.trans (hb.mono HB6.out.size)
  have HA7 : Hid (Blk w7 w.heap.size 24 #[.int .i64 k, .slice sao sl scap, .slice tao tl tcap, .int .i64 n]) := HA6.out.below hb
  have HN7 : Hid (Blk w7 (w.heap.size + 1) 26 (arr8 N)) := HN6.out.below hb
  have HP7 : Hid (Blk w7 P 29 #[.int .i64 0, .int .i64 0, .int .i64 0, .int .i64 0, .int .i64 0, .int .i64 0, .int .i64 0, .int .i64 0, .int .i64 0]) := HP6.out.below hb
  have HQ7 : Hid (Blk w7 Q 29 #[.int .i64 0, .int .i64 0, .int .i64 0, .int .i64 0, .int .i64 0, .int .i64 0, .int .i64 0, .int .i64 0, .int .i64 0]) := HQ6.out.below hb
  clear hb
  obtain ⟨d0, d1, d2, d3, d4, d5, d6, d7⟩ := HN7.out.cells8
  go_wp2_with fail
  go_at_call 13
  refine (HCo.out _ HB7.out).mono ?_
  rintro e w8 ⟨rfl, hb⟩
  have HB8 : Hid (Below w.heap.size w w8) := HB7.out.trans (hb.mono HB7.out.size)
  have HA8 : Hid (Blk w8 w.heap.size 24 #[.int .i64 k, .slice sao sl scap, .slice tao tl tcap, .int .i64 n]) := HA7.out.below hb
  have HN8 : Hid (Blk w8 (w.heap.size + 1) 26 (arr8 N)) := HN7.out.below hb
  have HP8 : Hid (Blk w8 P 29 #[.int .i64 0, .int .i64 0, .int .i64 0, .int .i64 0, .int .i64 0, .int .i64 0, .int .i64 0, .int .i64 0, .int .i64 0]) := HP7.out.below hb
  have HQ8 : Hid (Blk w8 Q 29 #[.int .i64 0, .int .i64 0, .int .i64 0, .int .i64 0, .int .i64 0, .int .i64 0, .int .i64 0, .int .i64 0, .int .i64 0]) := HQ7.out.below hb
  clear hb
  clear d0 d1 d2 d3 d4 d5 d6 d7
  obtain ⟨d0, d1, d2, d3, d4, d5, d6, d7⟩ := HN8.out.cells8
  go_wp2_with fail
  go_at_call 14
  refine (HFi.out _ HB8.out).mono ?_
  rintro e w9 ⟨rfl, hb⟩
  have HB9 : Hid (Below w.heap.size w w9) := HB8.out.trans (hb.mono HB8.out.size)
  have HA9 : Hid (Blk w9 w.heap.size 24 #[.int .i64 k, .slice sao sl scap, .slice tao tl tcap, .int .i64 n]) := HA8.out.below hb
  have HN9 : Hid (Blk w9 (w.heap.size + 1) 26 (arr8 N)) := HN8.out.below hb
  have HP9 : Hid (Blk w9 P 29 #[.int .i64 0, .int .i64 0, .int .i64 0, .int .i64 0, .int .i64 0, .int .i64 0, .int .i64 0, .int .i64 0, .int .i64 0]) := HP8.out.below hb
  have HQ9 : Hid (Blk w9 Q 29 #[.int .i64 0, .int .i64 0, .int .i64 0, .int .i64 0, .int .i64 0, .int .i64 0, .int .i64 0, .int .i64 0, .int .i64 0]) := HQ8.out.below hb
  clear hb
  clear d0 d1 d2 d3 d4 d5 d6 d7
  obtain ⟨d0, d1, d2, d3, d4, d5, d6, d7⟩ := HN9.out.cells8
  go_wp2_with fail
  go_at_call 15
  refine (HFt.out _ HB9.out).mono ?_
  rintro e w10 ⟨rfl, hb⟩
  have HB10 : Hid (Below w.heap.size w w10) := HB9.out.trans (hb.mono HB9.out.size)
  have HA10 : Hid (Blk w10 w.heap.size 24 #[.int .i64 k, .slice sao sl scap, .slice tao tl tcap, .int .i64 n]) := HA9.out.below hb
  have HN10 : Hid (Blk w10 (w.heap.size + 1) 26 (arr8 N)) := HN9.out.below hb
  have HP10 : Hid (Blk w10 P 29 #[.int .i64 0, .int .i64 0, .int .i64 0, .int .i64 0, .int .i64 0, .int .i64 0, .int .i64 0, .int .i64 0, .int .i64 0]) := HP9.out.below hb
  have HQ10 : Hid (Blk w10 Q 29 #[.int .i64 0, .int .i64 0, .int .i64 0, .int .i64 0, .int .i64 0, .int .i64 0, .int .i64 0, .int .i64 0, .int .i64 0]) := HQ9.out.below hb
  clear hb
  clear d0 d1 d2 d3 d4 d5 d6 d7
  go_wp2_with fail
  go_at_call 11
  refine (HE2.out _ HB10.out).mono ?_
  rintro e w11 ⟨rfl, hb⟩
  have HB11 : Hid (Below w.heap.size w w11) := HB10.out.trans (hb.mono HB10.out.size)
  have HA11 : Hid (Blk w11 w.heap.size 24 #[.int .i64 k, .slice sao sl scap, .slice tao tl tcap, .int .i64 n]) := HA10.out.below hb
  have HN11 : Hid (Blk w11 (w.heap.size + 1) 26 (arr8 N)) := HN10.out.below hb
  have HP11 : Hid (Blk w11 P 29 #[.int .i64 0, .int .i64 0, .int .i64 0, .int .i64 0, .int .i64 0, .int .i64 0, .int .i64 0, .int .i64 0, .int .i64 0]) := HP10.out.below hb
  have HQ11 : Hid (Blk w11 Q 29 #[.int .i64 0, .int .i64 0, .int .i64 0, .int .i64 0, .int .i64 0, .int .i64 0, .int .i64 0, .int .i64 0, .int .i64 0]) := HQ10.out.below hb
  clear hb
  go_wp2
  go_ret
  exact ⟨back_b (by simp), HB11.out⟩

set_option maxHeartbeats 8000000 in
theorem rowsTell_BR (k n : Int) (h : Bool) (N : Nat → Int) (E : Int) (hE : ¬ E = 0) (F : Int) (hF : ¬ F = 0) (sao tao lao : Option Addr) (sl scap tl tcap ll lcap : Nat) (w : World)
    (HAt : Hid (∀ W, Below w.heap.size w W → Calls Tryd.prog 8 #[.agg #[.int .i64 k, .slice sao sl scap, .slice tao tl tcap, .int .i64 n]] W fun e w' => e = .returned (.int .i64 E) ∧ Below W.heap.size W w'))
    (HOf : Hid (∀ W, Below w.heap.size w W → Calls Tryd.prog 10 #[.agg #[.int .i64 k, .slice sao sl scap, .slice tao tl tcap, .int .i64 n], .bool h] W fun e w' => e = .returned (.tuple #[.agg #[.int .i64 0, .int .i64 0, .int .i64 0, .int .i64 0, .int .i64 0, .int .i64 0, .int .i64 0, .int .i64 0, .int .i64 0], .iface 66 (.int .i64 E)]) ∧ Below W.heap.size W w'))
    (HE1 : Hid (∀ W, Below w.heap.size w W → Calls Tryd.prog 11 #[.iface 66 (.int .i64 E), .int .i64 E] W fun e w' => e = .returned (.bool true) ∧ Below W.heap.size W w'))
    (HRs : Hid (∀ W, Below w.heap.size w W → Calls Tryd.prog 12 #[.slice lao ll lcap] W fun e w' => e = .returned (.int .i64 F) ∧ Below W.heap.size W w'))
    (HFt : Hid (∀ W, Below w.heap.size w W → Calls Tryd.prog 15 #[.slice lao ll lcap, .agg #[.int .i64 (N 0), .int .i64 (N 1), .int .i64 (N 2), .int .i64 (N 3), .int .i64 (N 4), .int .i64 (N 5), .int .i64 (N 6), .int .i64 (N 7)]] W fun e w' => e = .returned (.tuple #[.bool false, .iface 66 (.int .i64 F)]) ∧ Below W.heap.size W w'))
    (HE2 : Hid (∀ W, Below w.heap.size w W → Calls Tryd.prog 11 #[.iface 66 (.int .i64 F), .int .i64 F] W fun e w' => e = .returned (.bool true) ∧ Below W.heap.size W w')) :
    Calls Tryd.prog 3 #[.agg #[.int .i64 k, .slice sao sl scap, .slice tao tl tcap, .int .i64 n], .bool h, .slice lao ll lcap, .agg #[.int .i64 (N 0), .int .i64 (N 1), .int .i64 (N 2), .int .i64 (N 3), .int .i64 (N 4), .int .i64 (N 5), .int .i64 (N 6), .int .i64 (N 7)]] w fun e w' => e = .returned (.bool true) ∧ Below w.heap.size w w' := by
  obtain ⟨w1, hw1⟩ : ∃ w1, w1 = (w.alloc (.cells #[.int .i64 k, .slice sao sl scap, .slice tao tl tcap, .int .i64 n] 24)).alloc (.cells #[.int .i64 (N 0), .int .i64 (N 1), .int .i64 (N 2), .int .i64 (N 3), .int .i64 (N 4), .int .i64 (N 5), .int .i64 (N 6), .int .i64 (N 7)] 26) := ⟨_, rfl⟩
  have HB1 : Hid (Below w.heap.size w w1) := by unfold Hid; rw [hw1]; exact (below_alloc1 _ _).alloc (by simp) _
  have HA1 : Hid (Blk w1 w.heap.size 24 #[.int .i64 k, .slice sao sl scap, .slice tao tl tcap, .int .i64 n]) := by unfold Hid; rw [hw1]; exact (Blk.new _ _ _).old _
  have HN1 : Hid (Blk w1 (w.heap.size + 1) 26 (arr8 N)) := by
    unfold Hid; rw [hw1]
    have := Blk.new (w.alloc (.cells #[.int .i64 k, .slice sao sl scap, .slice tao tl tcap, .int .i64 n] 24)) 26 (arr8 N)
    simp only [World.size_alloc] at this
    exact this
  have HX : Hid (∀ W, Blk W w.heap.size 24 #[.int .i64 k, .slice sao sl scap, .slice tao tl tcap, .int .i64 n] → W.cell? ⟨w.heap.size, 0, none⟩ = some (.int .i64 k) ∧ W.cell? ⟨w.heap.size, 1, none⟩ = some (.slice sao sl scap) ∧ W.cell? ⟨w.heap.size, 2, none⟩ = some (.slice tao tl tcap) ∧ W.cell? ⟨w.heap.size, 3, none⟩ = some (.int .i64 n)) := fun W h => ⟨h.cell 0, h.cell 1, h.cell 2, h.cell 3⟩
  go_enter Tryd.func3, Tryd.ntmps3
  go_wp2_with fail
  rw [← hw1]
  clear hw1
  obtain ⟨x0, x1, x2, x3⟩ := HX.out _ HA1.out
  go_wp2_with fail
  go_at_call 8
  refine (HAt.out _ HB1.out).mono ?_
  rintro e w2 ⟨rfl, hb⟩
  have HB2 : Hid (Below w.heap.size w w2) := HB1.out.trans (hb.mono HB1.out.size)
  have HA2 : Hid (Blk w2 w.heap.size 24 #[.int .i64 k, .slice sao sl scap, .slice tao tl tcap, .int .i64 n]) := HA1.out.below hb
  have HN2 : Hid (Blk w2 (w.heap.size + 1) 26 (arr8 N)) := HN1.out.below hb
  clear hb
  clear x0 x1 x2 x3
  obtain ⟨w3, hw3⟩ : ∃ x, x = w2.alloc (.cells #[.int .i64 0, .int .i64 0, .int .i64 0, .int .i64 0, .int .i64 0, .int .i64 0, .int .i64 0, .int .i64 0, .int .i64 0] 29) := ⟨_, rfl⟩
  have HB3 : Hid (Below w.heap.size w w3) := by unfold Hid; rw [hw3]; exact HB2.out.alloc HB2.out.size _
  have HA3 : Hid (Blk w3 w.heap.size 24 #[.int .i64 k, .slice sao sl scap, .slice tao tl tcap, .int .i64 n]) := by unfold Hid; rw [hw3]; exact HA2.out.old _
  have HN3 : Hid (Blk w3 (w.heap.size + 1) 26 (arr8 N)) := by unfold Hid; rw [hw3]; exact HN2.out.old _
  have HP3 : Hid (Blk w3 w2.heap.size 29 #[.int .i64 0, .int .i64 0, .int .i64 0, .int .i64 0, .int .i64 0, .int .i64 0, .int .i64 0, .int .i64 0, .int .i64 0]) := by unfold Hid; rw [hw3]; exact Blk.new _ _ _
  have HGP : Hid (w.heap.size + 1 < w2.heap.size) := HN2.out.lt
  obtain ⟨P, hP⟩ : ∃ P, P = w2.heap.size := ⟨_, rfl⟩
  rw [← hP] at HP3 HGP
  go_upto_region 3 with fail
  rw [← hw3, ← hP]
  clear hw3 hP
  obtain ⟨x0, x1, x2, x3⟩ := HX.out _ HA3.out
  go_wp2_with fail
  go_at_call 10
  refine (HOf.out _ HB3.out).mono ?_
  rintro e w4 ⟨rfl, hb⟩
  have HB4 : Hid (Below w.heap.size w w4) := HB3.out.trans (hb.mono HB3.out.size)
  have HA4 : Hid (Blk w4 w.heap.size 24 #[.int .i64 k, .slice sao sl scap, .slice tao tl tcap, .int .i64 n]) := HA3.out.below hb
  have HN4 : Hid (Blk w4 (w.heap.size + 1) 26 (arr8 N)) := HN3.out.below hb
  have HP4 : Hid (Blk w4 P 29 #[.int .i64 0, .int .i64 0, .int .i64 0, .int .i64 0, .int .i64 0, .int .i64 0, .int .i64 0, .int .i64 0, .int .i64 0]) := HP3.out.below hb
  clear hb
  clear x0 x1 x2 x3
  obtain ⟨w5, hw5⟩ : ∃ x, x = w4.alloc (.cells #[.int .i64 0, .int .i64 0, .int .i64 0, .int .i64 0, .int .i64 0, .int .i64 0, .int .i64 0, .int .i64 0, .int .i64 0] 29) := ⟨_, rfl⟩
  have HB5 : Hid (Below w.heap.size w w5) := by unfold Hid; rw [hw5]; exact HB4.out.alloc HB4.out.size _
  have HA5 : Hid (Blk w5 w.heap.size 24 #[.int .i64 k, .slice sao sl scap, .slice tao tl tcap, .int .i64 n]) := by unfold Hid; rw [hw5]; exact HA4.out.old _
  have HN5 : Hid (Blk w5 (w.heap.size + 1) 26 (arr8 N)) := by unfold Hid; rw [hw5]; exact HN4.out.old _
  have HP5 : Hid (Blk w5 P 29 #[.int .i64 0, .int .i64 0, .int .i64 0, .int .i64 0, .int .i64 0, .int .i64 0, .int .i64 0, .int .i64 0, .int .i64 0]) := by unfold Hid; rw [hw5]; exact HP4.out.old _
  have HQ5 : Hid (Blk w5 w4.heap.size 29 #[.int .i64 0, .int .i64 0, .int .i64 0, .int .i64 0, .int .i64 0, .int .i64 0, .int .i64 0, .int .i64 0, .int .i64 0]) := by unfold Hid; rw [hw5]; exact Blk.new _ _ _
  have HGQ : Hid (w.heap.size + 1 < w4.heap.size) := HN4.out.lt
  obtain ⟨Q, hQ⟩ : ∃ P, P = w4.heap.size := ⟨_, rfl⟩
  rw [← hQ] at HQ5 HGQ
  go_upto_region 6 with fail
  rw [← hw5, ← hQ]
  clear hw5 hQ
  go_wp2_with fail
  go_at_call 11
  refine (HE1.out _ HB5.out).mono ?_
  rintro e w6 ⟨rfl, hb⟩
  have HB6 : Hid (Below w.heap.size w w6) := HB5.out.trans (hb.mono HB5.out.size)
  have HA6 : Hid (Blk w6 w.heap.size 24 #[.int .i64 k, .slice sao sl scap, .slice tao tl tcap, .int .i64 n]) := HA5.out.below hb
  have HN6 : Hid (Blk w6 (w.heap.size + 1) 26 (arr8 N)) := HN5.out.below hb
  have HP6 : Hid (Blk w6 P 29 #[.int .i64 0, .int .i64 0, .int .i64 0, .int .i64 0, .int .i64 0, .int .i64 0, .int .i64 0, .int .i64 0, .int .i64 0]) := HP5.out.below hb
  have HQ6 : Hid (Blk w6 Q 29 #[.int .i64 0, .int .i64 0, .int .i64 0, .int .i64 0, .int .i64 0, .int .i64 0, .int .i64 0, .int .i64 0, .int .i64 0]) := HQ5.out.below hb
  clear hb
  have q0 : w6.cell? ⟨Q, 0, none⟩ = some (.int .i64 0) := HQ6.out.cell 0
  have q1 : w6.cell? ⟨Q, 1, none⟩ = some (.int .i64 0) := HQ6.out.cell 1
  have q2 : w6.cell? ⟨Q, 2, none⟩ = some (.int .i64 0) := HQ6.out.cell 2
  have q3 : w6.cell? ⟨Q, 3, none⟩ = some (.int .i64 0) := HQ6.out.cell 3
  have q4 : w6.cell? ⟨Q, 4, none⟩ = some (.int .i64 0) := HQ6.out.cell 4
  have q5 : w6.cell? ⟨Q, 5, none⟩ = some (.int .i64 0) := HQ6.out.cell 5
  have q6 : w6.cell? ⟨Q, 6, none⟩ = some (.int .i64 0) := HQ6.out.cell 6
  have q7 : w6.cell? ⟨Q, 7, none⟩ = some (.int .i64 0) := HQ6.out.cell 7
  have q8 : w6.cell? ⟨Q, 8, none⟩ = some (.int .i64 0) := HQ6.out.cell 8
  have p0 : w6.cell? ⟨P, 0, none⟩ = some (.int .i64 0) := HP6.out.cell 0
  have p1 : w6.cell? ⟨P, 1, none⟩ = some (.int .i64 0) := HP6.out.cell 1
  have p2 : w6.cell? ⟨P, 2, none⟩ = some (.int .i64 0) := HP6.out.cell 2
  have p3 : w6.cell? ⟨P, 3, none⟩ = some (.int .i64 0) := HP6.out.cell 3
  have p4 : w6.cell? ⟨P, 4, none⟩ = some (.int .i64 0) := HP6.out.cell 4
  have p5 : w6.cell? ⟨P, 5, none⟩ = some (.int .i64 0) := HP6.out.cell 5
  have p6 : w6.cell? ⟨P, 6, none⟩ = some (.int .i64 0) := HP6.out.cell 6
  have p7 : w6.cell? ⟨P, 7, none⟩ = some (.int .i64 0) := HP6.out.cell 7
  have p8 : w6.cell? ⟨P, 8, none⟩ = some (.int .i64 0) := HP6.out.cell 8
  have hq := zeroR
  have hgd := guardR
  go_upto_region 7 with fail
  clear q0 q1 q2 q3 q4 q5 q6 q7 q8 p0 p1 p2 p3 p4 p5 p6 p7 p8
  clear hq hgd
  go_wp2_with fail
  go_at_call 12
  refine (HRs.out _ HB6.out).mono ?_
  rintro e w7 ⟨rfl, hb⟩
  have HB7 : Hid (Below w.heap.size w w7) := HB6.out.trans (hb.mono HB6.out.size)
  have HA7 : Hid (Blk w7 w.heap.size 24 #[.int .i64 k, .slice sao sl scap, .slice tao tl tcap, .int .i64 n]) := HA6.out.below hb
  have HN7 : Hid (Blk w7 (w.heap.size + 1) 26 (arr8 N)) := HN6.out.below hb
  have HP7 : Hid (Blk w7 P 29 #[.int .i64 0, .int .i64 0, .int .i64 0, .int .i64 0, .int .i64 0, .int .i64 0, .int .i64 0, .int .i64 0, .int .i64 0]) := HP6.out.below hb
  have HQ7 : Hid (Blk w7 Q 29 #[.int .i64 0, .int .i64 0, .int .i64 0, .int .i64 0, .int .i64 0, .int .i64 0, .int .i64 0, .int .i64 0, .int .i64 0]) := HQ6.out.below hb
  clear hb
  obtain ⟨d0, d1, d2, d3, d4, d5, d6, d7⟩ := HN7.out.cells8
  go_wp2_with fail
  go_at_call 15
  refine (HFt.out _ HB7.out).mono ?_
  rintro e w8 ⟨rfl, hb⟩
  have HB8 : Hid (Below w.heap.size w w8) := HB7.out.trans (hb.mono HB7.out.size)
  have HA8 : Hid (Blk w8 w.heap.size 24 #[.int .i64 k, .slice sao sl scap, .slice tao tl tcap, .int .i64 n]) := HA7.out.below hb
  have HN8 : Hid (Blk w8 (w.heap.size + 1) 26 (arr8 N)) := HN7.out.below hb
  have HP8 : Hid (Blk w8 P 29 #[.int .i64 0, .int .i64 0, .int .i64 0, .int .i64 0, .int .i64 0, .int .i64 0, .int .i64 0, .int .i64 0, .int .i64 0]) := HP7.out.below hb
  have HQ8 : Hid (Blk w8 Q 29 #[.int .i64 0, .int .i64 0, .int .i64 0, .int .i64 0, .int .i64 0, .int .i64 0, .int .i64 0, .int .i64 0, .int .i64 0]) := HQ7.out.below hb
  clear hb
  clear d0 d1 d2 d3 d4 d5 d6 d7
  go_wp2_with fail
  go_at_call 11
  refine (HE2.out _ HB8.out).mono ?_
  rintro e w9 ⟨rfl, hb⟩
  have HB9 : Hid (Below w.heap.size w w9) := HB8.out.trans (hb.mono HB8.out.size)
  have HA9 : Hid (Blk w9 w.heap.size 24 #[.int .i64 k, .slice sao sl scap, .slice tao tl tcap, .int .i64 n]) := HA8.out.below hb
  have HN9 : Hid (Blk w9 (w.heap.size + 1) 26 (arr8 N)) := HN8.out.below hb
  have HP9 : Hid (Blk w9 P 29 #[.int .i64 0, .int .i64 0, .int .i64 0, .int .i64 0, .int .i64 0, .int .i64 0, .int .i64 0, .int .i64 0, .int .i64 0]) := HP8.out.below hb
  have HQ9 : Hid (Blk w9 Q 29 #[.int .i64 0, .int .i64 0, .int .i64 0, .int .i64 0, .int .i64 0, .int .i64 0, .int .i64 0, .int .i64 0, .int .i64 0]) := HQ8.out.below hb
  clear hb
  go_wp2
  go_ret
  exact ⟨rfl, HB9.out⟩

set_option maxHeartbeats 8000000 in
theorem rowsTell_BC (k n : Int) (h : Bool) (N : Nat → Int) (E : Int) (hE : ¬ E = 0) (F : Int) (hF : ¬ F = 0) (sao tao lao : Option Addr) (sl scap tl tcap ll lcap : Nat) (w : World)
    (HAt : Hid (∀ W, Below w.heap.size w W → Calls Tryd.prog 8 #[.agg #[.int .i64 k, .slice sao sl scap, .slice tao tl tcap, .int .i64 n]] W fun e w' => e = .returned (.int .i64 E) ∧ Below W.heap.size W w'))
    (HOf : Hid (∀ W, Below w.heap.size w W → Calls Tryd.prog 10 #[.agg #[.int .i64 k, .slice sao sl scap, .slice tao tl tcap, .int .i64 n], .bool h] W fun e w' => e = .returned (.tuple #[.agg #[.int .i64 0, .int .i64 0, .int .i64 0, .int .i64 0, .int .i64 0, .int .i64 0, .int .i64 0, .int .i64 0, .int .i64 0], .iface 66 (.int .i64 E)]) ∧ Below W.heap.size W w'))
    (HE1 : Hid (∀ W, Below w.heap.size w W → Calls Tryd.prog 11 #[.iface 66 (.int .i64 E), .int .i64 E] W fun e w' => e = .returned (.bool true) ∧ Below W.heap.size W w'))
    (HRs : Hid (∀ W, Below w.heap.size w W → Calls Tryd.prog 12 #[.slice lao ll lcap] W fun e w' => e = .returned (.int .i64 0) ∧ Below W.heap.size W w'))
    (HCo : Hid (∀ W, Below w.heap.size w W → Calls Tryd.prog 13 #[.agg #[.int .i64 (N 0), .int .i64 (N 1), .int .i64 (N 2), .int .i64 (N 3), .int .i64 (N 4), .int .i64 (N 5), .int .i64 (N 6), .int .i64 (N 7)]] W fun e w' => e = .returned (.int .i64 F) ∧ Below W.heap.size W w'))
    (HFt : Hid (∀ W, Below w.heap.size w W → Calls Tryd.prog 15 #[.slice lao ll lcap, .agg #[.int .i64 (N 0), .int .i64 (N 1), .int .i64 (N 2), .int .i64 (N 3), .int .i64 (N 4), .int .i64 (N 5), .int .i64 (N 6), .int .i64 (N 7)]] W fun e w' => e = .returned (.tuple #[.bool false, .iface 66 (.int .i64 F)]) ∧ Below W.heap.size W w'))
    (HE2 : Hid (∀ W, Below w.heap.size w W → Calls Tryd.prog 11 #[.iface 66 (.int .i64 F), .int .i64 F] W fun e w' => e = .returned (.bool true) ∧ Below W.heap.size W w')) :
    Calls Tryd.prog 3 #[.agg #[.int .i64 k, .slice sao sl scap, .slice tao tl tcap, .int .i64 n], .bool h, .slice lao ll lcap, .agg #[.int .i64 (N 0), .int .i64 (N 1), .int .i64 (N 2), .int .i64 (N 3), .int .i64 (N 4), .int .i64 (N 5), .int .i64 (N 6), .int .i64 (N 7)]] w fun e w' => e = .returned (.bool true) ∧ Below w.heap.size w w' := by
  obtain ⟨w1, hw1⟩ : ∃ w1, w1 = (w.alloc (.cells #[.int .i64 k, .slice sao sl scap, .slice tao tl tcap, .int .i64 n] 24)).alloc (.cells #[.int .i64 (N 0), .int .i64 (N 1), .int .i64 (N 2), .int .i64 (N 3), .int .i64 (N 4), .int .i64 (N 5), .int .i64 (N 6), .int .i64 (N 7)] 26) := ⟨_, rfl⟩
  have HB1 : Hid (Below w.heap.size w w1) := by unfold Hid; rw [hw1]; exact (below_alloc1 _ _).alloc (by simp) _
  have HA1 : Hid (Blk w1 w.heap.size 24 #[.int .i64 k, .slice sao sl scap, .slice tao tl tcap, .int .i64 n]) := by unfold Hid; rw [hw1]; exact (Blk.new _ _ _).old _
  have HN1 : Hid (Blk w1 (w.heap.size + 1) 26 (arr8 N)) := by
    unfold Hid; rw [hw1]
    have := Blk.new (w.alloc (.cells #[.int .i64 k, .slice sao sl scap, .slice tao tl tcap, .int .i64 n] 24)) 26 (arr8 N)
    simp only [World.size_alloc] at this
    exact this
  have HX : Hid (∀ W, Blk W w.heap.size 24 #[.int .i64 k, .slice sao sl scap, .slice tao tl tcap, .int .i64 n] → W.cell? ⟨w.heap.size, 0, none⟩ = some (.int .i64 k) ∧ W.cell? ⟨w.heap.size, 1, none⟩ = some (.slice sao sl scap) ∧ W.cell? ⟨w.heap.size, 2, none⟩ = some (.slice tao tl tcap) ∧ W.cell? ⟨w.heap.size, 3, none⟩ = some (.int .i64 n)) := fun W h => ⟨h.cell 0, h.cell 1, h.cell 2, h.cell 3⟩
  go_enter Tryd.func3, Tryd.ntmps3
  go_wp2_with fail
  rw [← hw1]
  clear hw1
  obtain ⟨x0, x1, x2, x3⟩ := HX.out _ HA1.out
  go_wp2_with fail
  go_at_call 8
  refine (HAt.out _ HB1.out).mono ?_
  rintro e w2 ⟨rfl, hb⟩
  have HB2 : Hid (Below w.heap.size w w2) := HB1.out.trans (hb.mono HB1.out.size)
  have HA2 : Hid (Blk w2 w.heap.size 24 #[.int .i64 k, .slice sao sl scap, .slice tao tl tcap, .int .i64 n]) := HA1.out.below hb
  have HN2 : Hid (Blk w2 (w.heap.size + 1) 26 (arr8 N)) := HN1.out.below hb
  clear hb
  clear x0 x1 x2 x3
  obtain ⟨w3, hw3⟩ : ∃ x, x = w2.alloc (.cells #[.int .i64 0, .int .i64 0, .int .i64 0, .int .i64 0, .int .i64 0, .int .i64 0, .int .i64 0, .int .i64 0, .int .i64 0] 29) := ⟨_, rfl⟩
  have HB3 : Hid (Below w.heap.size w w3) := by unfold Hid; rw [hw3]; exact HB2.out.alloc HB2.out.size _
  have HA3 : Hid (Blk w3 w.heap.size 24 #[.int .i64 k, .slice sao sl scap, .slice tao tl tcap, .int .i64 n]) := by unfold Hid; rw [hw3]; exact HA2.out.old _
  have HN3 : Hid (Blk w3 (w.heap.size + 1) 26 (arr8 N)) := by unfold Hid; rw [hw3]; exact HN2.out.old _
  have HP3 : Hid (Blk w3 w2.heap.size 29 #[.int .i64 0, .int .i64 0, .int .i64 0, .int .i64 0, .int .i64 0, .int .i64 0, .int .i64 0, .int .i64 0, .int .i64 0]) := by unfold Hid; rw [hw3]; exact Blk.new _ _ _
  have HGP : Hid (w.heap.size + 1 < w2.heap.size) := HN2.out.lt
  obtain ⟨P, hP⟩ : ∃ P, P = w2.heap.size := ⟨_, rfl⟩
  rw [← hP] at HP3 HGP
  go_upto_region 3 with fail
  rw [← hw3, ← hP]
  clear hw3 hP
  obtain ⟨x0, x1, x2, x3⟩ := HX.out _ HA3.out
  go_wp2_with fail
  go_at_call 10
  refine (HOf.out _ HB3.out).mono ?_
  rintro e w4 ⟨rfl, hb⟩
  have HB4 : Hid (Below w.heap.size w w4) := HB3.out.trans (hb.mono HB3.out.size)
  have HA4 : Hid (Blk w4 w.heap.size 24 #[.int .i64 k, .slice sao sl scap, .slice tao tl tcap, .int .i64 n]) := HA3.out.below hb
  have HN4 : Hid (Blk w4 (w.heap.size + 1) 26 (arr8 N)) := HN3.out.below hb
  have HP4 : Hid (Blk w4 P 29 #[.int .i64 0, .int .i64 0, .int .i64 0, .int .i64 0, .int .i64 0, .int .i64 0, .int .i64 0, .int .i64 0, .int .i64 0]) := HP3.out.below hb
  clear hb
  clear x0 x1 x2 x3
  obtain ⟨w5, hw5⟩ : ∃ x, x = w4.alloc (.cells #[.int .i64 0, .int .i64 0, .int .i64 0, .int .i64 0, .int .i64 0, .int .i64 0, .int .i64 0, .int .i64 0, .int .i64 0] 29) := ⟨_, rfl⟩
  have HB5 : Hid (Below w.heap.size w w5) := by unfold Hid; rw [hw5]; exact HB4.out.alloc HB4.out.size _
  have HA5 : Hid (Blk w5 w.heap.size 24 #[.int .i64 k, .slice sao sl scap, .slice tao tl tcap, .int .i64 n]) := by unfold Hid; rw [hw5]; exact HA4.out.old _
  have HN5 : Hid (Blk w5 (w.heap.size + 1) 26 (arr8 N)) := by unfold Hid; rw [hw5]; exact HN4.out.old _
  have HP5 : Hid (Blk w5 P 29 #[.int .i64 0, .int .i64 0, .int .i64 0, .int .i64 0, .int .i64 0, .int .i64 0, .int .i64 0, .int .i64 0, .int .i64 0]) := by unfold Hid; rw [hw5]; exact HP4.out.old _
  have HQ5 : Hid (Blk w5 w4.heap.size 29 #[.int .i64 0, .int .i64 0, .int .i64 0, .int .i64 0, .int .i64 0, .int .i64 0, .int .i64 0, .int .i64 0, .int .i64 0]) := by unfold Hid; rw [hw5]; exact Blk.new _ _ _
  have HGQ : Hid (w.heap.size + 1 < w4.heap.size) := HN4.out.lt
  obtain ⟨Q, hQ⟩ : ∃ P, P = w4.heap.size := ⟨_, rfl⟩
  rw [← hQ] at HQ5 HGQ
  go_upto_region 6 with fail
  rw [← hw5, ← hQ]
  clear hw5 hQ
  go_wp2_with fail
  go_at_call 11
  refine (HE1.out _ HB5.out).mono ?_
  rintro e w6 ⟨rfl, hb⟩
  have HB6 : Hid (Below w.heap.size w w6) := HB5.out.trans (hb.mono HB5.out.size)
  have HA6 : Hid (Blk w6 w.heap.size 24 #[.int .i64 k, .slice sao sl scap, .slice tao tl tcap, .int .i64 n]) := HA5.out.below hb
  have HN6 : Hid (Blk w6 (w.heap.size + 1) 26 (arr8 N)) := HN5.out.below hb
  have HP6 : Hid (Blk w6 P 29 #[.int .i64 0, .int .i64 0, .int .i64 0, .int .i64 0, .int .i64 0, .int .i64 0, .int .i64 0, .int .i64 0, .int .i64 0]) := HP5.out.below hb
  have HQ6 : Hid (Blk w6 Q 29 #[.int .i64 0, .int .i64 0, .int .i64 0, .int .i64 0, .int .i64 0, .int .i64 0, .int .i64 0, .int .i64 0, .int .i64 0]) := HQ5.out.below hb
  clear hb
  have q0 : w6.cell? ⟨Q, 0, none⟩ = some (.int .i64 0) := HQ6.out.cell 0
  have q1 : w6.cell? ⟨Q, 1, none⟩ = some (.int .i64 0) := HQ6.out.cell 1
  have q2 : w6.cell? ⟨Q, 2, none⟩ = some (.int .i64 0) := HQ6.out.cell 2
  have q3 : w6.cell? ⟨Q, 3, none⟩ = some (.int .i64 0) := HQ6.out.cell 3
  have q4 : w6.cell? ⟨Q, 4, none⟩ = some (.int .i64 0) := HQ6.out.cell 4
  have q5 : w6.cell? ⟨Q, 5, none⟩ = some (.int .i64 0) := HQ6.out.cell 5
  have q6 : w6.cell? ⟨Q, 6, none⟩ = some (.int .i64 0) := HQ6.out.cell 6
  have q7 : w6.cell? ⟨Q, 7, none⟩ = some (.int .i64 0) := HQ6.out.cell 7
  have q8 : w6.cell? ⟨Q, 8, none⟩ = some (.int .i64 0) := HQ6.out.cell 8
  have p0 : w6.cell? ⟨P, 0, none⟩ = some (.int .i64 0) := HP6.out.cell 0
  have p1 : w6.cell? ⟨P, 1, none⟩ = some (.int .i64 0) := HP6.out.cell 1
  have p2 : w6.cell? ⟨P, 2, none⟩ = some (.int .i64 0) := HP6.out.cell 2
  have p3 : w6.cell? ⟨P, 3, none⟩ = some (.int .i64 0) := HP6.out.cell 3
  have p4 : w6.cell? ⟨P, 4, none⟩ = some (.int .i64 0) := HP6.out.cell 4
  have p5 : w6.cell? ⟨P, 5, none⟩ = some (.int .i64 0) := HP6.out.cell 5
  have p6 : w6.cell? ⟨P, 6, none⟩ = some (.int .i64 0) := HP6.out.cell 6
  have p7 : w6.cell? ⟨P, 7, none⟩ = some (.int .i64 0) := HP6.out.cell 7
  have p8 : w6.cell? ⟨P, 8, none⟩ = some (.int .i64 0) := HP6.out.cell 8
  have hq := zeroR
  have hgd := guardR
  go_upto_region 7 with fail
  clear q0 q1 q2 q3 q4 q5 q6 q7 q8 p0 p1 p2 p3 p4 p5 p6 p7 p8
  clear hq hgd
  go_wp2_with fail
  go_at_call 12
  refine (HRs.out _ HB6.out).mono ?_
  rintro e w7 ⟨rfl, hb⟩
  have HB7 : Hid (Below w.heap.size w w7) := HB6.out.trans (hb.mono HB6.out.size)
  have HA7 : Hid (Blk w7 w.heap.size 24 #[.int .i64 k, .slice sao sl scap, .slice tao tl tcap, .int .i64 n]) := HA6.out.below hb
  have HN7 : Hid (Blk w7 (w.heap.size + 1) 26 (arr8 N)) := HN6.out.below hb
  have HP7 : Hid (Blk w7 P 29 #[.int .i64 0, .int .i64 0, .int .i64 0, .int .i64 0, .int .i64 0, .int .i64 0, .int .i64 0, .int .i64 0, .int .i64 0]) := HP6.out.below hb
  have HQ7 : Hid (Blk w7 Q 29 #[.int .i64 0, .int .i64 0, .int .i64 0, .int .i64 0, .int .i64 0, .int .i64 0, .int .i64 0, .int .i64 0, .int .i64 0]) := HQ6.out.below hb
  clear hb
  obtain ⟨d0, d1, d2, d3, d4, d5, d6, d7⟩ := HN7.out.cells8
  go_wp2_with fail
  go_at_call 13
  refine (HCo.out _ HB7.out).mono ?_
  rintro e w8 ⟨rfl, hb⟩
  have HB8 : Hid (Below w.heap.size w w8) := HB7.out.trans (hb.mono HB7.out.size)
  have HA8 : Hid (Blk w8 w.heap.size 24 #[.int .i64 k, .slice sao sl scap, .slice tao tl tcap, .int .i64 n]) := HA7.out.below hb
  have HN8 : Hid (Blk w8 (w.heap.size + 1) 26 (arr8 N)) := HN7.out.below hb
  have HP8 : Hid (Blk w8 P 29 #[.int .i64 0, .int .i64 0, .int .i64 0, .int .i64 0, .int .i64 0, .int .i64 0, .int .i64 0, .int .i64 0, .int .i64 0]) := HP7.out.below hb
  have HQ8 : Hid (Blk w8 Q 29 #[.int .i64 0, .int .i64 0, .int .i64 0, .int .i64 0, .int .i64 0, .int .i64 0, .int .i64 0, .int .i64 0, .int .i64 0]) := HQ7.out.below hb
  clear hb
  clear d0 d1 d2 d3 d4 d5 d6 d7
  obtain ⟨d0, d1, d2, d3, d4, d5, d6, d7⟩ := HN8.out.cells8
  go_wp2_with fail
  go_at_call 15
  refine (HFt.out _ HB8.out).mono ?_
  rintro e w9 ⟨rfl, hb⟩
  have HB9 : Hid (Below w.heap.size w w9) := HB8.out.trans (hb.mono HB8.out.size)
  have HA9 : Hid (Blk w9 w.heap.size 24 #[.int .i64 k, .slice sao sl scap, .slice tao tl tcap, .int .i64 n]) := HA8.out.below hb
  have HN9 : Hid (Blk w9 (w.heap.size + 1) 26 (arr8 N)) := HN8.out.below hb
  have HP9 : Hid (Blk w9 P 29 #[.int .i64 0, .int .i64 0, .int .i64 0, .int .i64 0, .int .i64 0, .int .i64 0, .int .i64 0, .int .i64 0, .int .i64 0]) := HP8.out.below hb
  have HQ9 : Hid (Blk w9 Q 29 #[.int .i64 0, .int .i64 0, .int .i64 0, .int .i64 0, .int .i64 0, .int .i64 0, .int .i64 0, .int .i64 0, .int .i64 0]) := HQ8.out.below hb
  clear hb
  clear d0 d1 d2 d3 d4 d5 d6 d7
  go_wp2_with fail
  go_at_call 11
  refine (HE2.out _ HB9.out).mono ?_
  rintro e w10 ⟨rfl, hb⟩
  have HB10 : Hid (Below w.heap.size w w10) := HB9.out.trans (hb.mono HB9.out.size)
  have HA10 : Hid (Blk w10 w.heap.size 24 #[.int .i64 k, .slice sao sl scap, .slice tao tl tcap, .int .i64 n]) := HA9.out.below hb
  have HN10 : Hid (Blk w10 (w.heap.size + 1) 26 (arr8 N)) := HN9.out.below hb
  have HP10 : Hid (Blk w10 P 29 #[.int .i64 0, .int .i64 0, .int .i64 0, .int .i64 0, .int .i64 0, .int .i64 0, .int .i64 0, .int .i64 0, .int .i64 0]) := HP9.out.below hb
  have HQ10 : Hid (Blk w10 Q 29 #[.int .i64 0, .int .i64 0, .int .i64 0, .int .i64 0, .int .i64 0, .int .i64 0, .int .i64 0, .int .i64 0, .int .i64 0]) := HQ9.out.below hb
  clear hb
  go_wp2
  go_ret
  exact ⟨rfl, HB10.out⟩

end Go.Proofs.YtenmheenieifpadDoor
