/-
  Proved: vennlaw4.RowsNot returns true, of any atom; what was in memory is as it was (a walk that the statement leans on). Written by program.
-/
import Derived.Test.YtenmheenieifpadDoorRowsOf
namespace Go.Proofs.YtenmheenieifpadDoor
open Go.ChangeShapes Go.WideShapes Go.ChangeAt Go.RowKit
set_option maxRecDepth 100000

set_option maxHeartbeats 8000000 in
theorem rowsNot_right (k n : Int) (T1 T2 : Nat → Int) (m1 m2 : Int) (sao tao : Option Addr) (sl scap tl tcap : Nat) (w : World) (h1 : ∀ f, f < 8 → -1 ≤ T1 f ∧ T1 f ≤ 1) (h2 : ∀ f, f < 8 → T2 f = - T1 f) (hm1 : -21 ≤ m1 ∧ m1 ≤ 20) (hm2 : m2 = -(m1 + 1))
    (H1 : Hid (∀ W, Below w.heap.size w W → Calls Tryd.prog 10 #[.agg #[.int .i64 k, .slice sao sl scap, .slice tao tl tcap, .int .i64 n], .bool true] W fun e w' => e = .returned (.tuple #[.agg #[.int .i64 (T1 0), .int .i64 (T1 1), .int .i64 (T1 2), .int .i64 (T1 3), .int .i64 (T1 4), .int .i64 (T1 5), .int .i64 (T1 6), .int .i64 (T1 7), .int .i64 m1], .nilIface]) ∧ Below W.heap.size W w'))
    (H2 : Hid (∀ W, Below w.heap.size w W → Calls Tryd.prog 10 #[.agg #[.int .i64 k, .slice sao sl scap, .slice tao tl tcap, .int .i64 n], .bool false] W fun e w' => e = .returned (.tuple #[.agg #[.int .i64 (T2 0), .int .i64 (T2 1), .int .i64 (T2 2), .int .i64 (T2 3), .int .i64 (T2 4), .int .i64 (T2 5), .int .i64 (T2 6), .int .i64 (T2 7), .int .i64 m2], .nilIface]) ∧ Below W.heap.size W w')) :
    Calls Tryd.prog 5 #[.agg #[.int .i64 k, .slice sao sl scap, .slice tao tl tcap, .int .i64 n]] w fun e w' => e = .returned (.bool true) ∧ Below w.heap.size w w' := by
  have HT : Hid (∀ f, f < 8 → -1 ≤ T1 f ∧ T1 f ≤ 1) := h1
  have HS : Hid (∀ f, f < 8 → T2 f = - T1 f) := h2
  clear h1 h2
  obtain ⟨hm10, hm11⟩ := hm1
  have q1 : -21 ≤ m2 := by omega
  have q2 : m2 ≤ 20 := by omega
  have q3 : m1 + m2 = -1 := by omega
  clear hm2
  obtain ⟨w1, hw1⟩ : ∃ w1, w1 = w.alloc (.cells #[.int .i64 k, .slice sao sl scap, .slice tao tl tcap, .int .i64 n] 24) := ⟨_, rfl⟩
  have HB1 : Hid (Below w.heap.size w w1) := by unfold Hid; rw [hw1]; exact below_alloc1 _ _
  have HA1 : Hid (Blk w1 w.heap.size 24 #[.int .i64 k, .slice sao sl scap, .slice tao tl tcap, .int .i64 n]) := by unfold Hid; rw [hw1]; exact Blk.new _ _ _
  have HX : Hid (∀ W, Blk W w.heap.size 24 #[.int .i64 k, .slice sao sl scap, .slice tao tl tcap, .int .i64 n] → W.cell? ⟨w.heap.size, 0, none⟩ = some (.int .i64 k) ∧ W.cell? ⟨w.heap.size, 1, none⟩ = some (.slice sao sl scap) ∧ W.cell? ⟨w.heap.size, 2, none⟩ = some (.slice tao tl tcap) ∧ W.cell? ⟨w.heap.size, 3, none⟩ = some (.int .i64 n)) := fun W h => ⟨h.cell 0, h.cell 1, h.cell 2, h.cell 3⟩
  obtain ⟨x0, x1, x2, x3⟩ := HX.out _ HA1.out
  go_enter Tryd.func5, Tryd.ntmps5
  go_wp2_with fail
  rw [← hw1]
  clear hw1
  go_wp2_with fail
  go_at_call 10
  refine (H1.out _ HB1.out).mono ?_
  rintro e w2 ⟨rfl, hb⟩
  have HB2 : Hid (Below w.heap.size w w2) := HB1.out.trans (hb.mono HB1.out.size)
  have HA2 : Hid (Blk w2 w.heap.size 24 #[.int .i64 k, .slice sao sl scap, .slice tao tl tcap, .int .i64 n]) := HA1.out.below hb
  clear hb x0 x1 x2 x3
  obtain ⟨w3, hw3⟩ : ∃ x, x = w2.alloc (.cells #[.int .i64 (T1 0), .int .i64 (T1 1), .int .i64 (T1 2), .int .i64 (T1 3), .int .i64 (T1 4), .int .i64 (T1 5), .int .i64 (T1 6), .int .i64 (T1 7), .int .i64 m1] 29) := ⟨_, rfl⟩
  have HB3 : Hid (Below w.heap.size w w3) := by unfold Hid; rw [hw3]; exact HB2.out.alloc HB2.out.size _
  have HA3 : Hid (Blk w3 w.heap.size 24 #[.int .i64 k, .slice sao sl scap, .slice tao tl tcap, .int .i64 n]) := by unfold Hid; rw [hw3]; exact HA2.out.old _
  have HR3 : Hid (Blk w3 w2.heap.size 29 (arrR T1 m1)) := by unfold Hid; rw [hw3]; exact Blk.new _ _ _
  obtain ⟨P1, hP1⟩ : ∃ P, P = w2.heap.size := ⟨_, rfl⟩
  rw [← hP1] at HR3
  go_upto_region 2 with fail
  rw [← hw3, ← hP1]
  clear hw3 hP1
  obtain ⟨x0, x1, x2, x3⟩ := HX.out _ HA3.out
  go_wp2_with fail
  go_at_call 10
  refine (H2.out _ HB3.out).mono ?_
  rintro e w4 ⟨rfl, hb⟩
  have HB4 : Hid (Below w.heap.size w w4) := HB3.out.trans (hb.mono HB3.out.size)
  have HA4 : Hid (Blk w4 w.heap.size 24 #[.int .i64 k, .slice sao sl scap, .slice tao tl tcap, .int .i64 n]) := HA3.out.below hb
  have HQ4 : Hid (Blk w4 P1 29 (arrR T1 m1)) := HR3.out.below hb
  clear hb x0 x1 x2 x3
  obtain ⟨w5, hw5⟩ : ∃ x, x = w4.alloc (.cells #[.int .i64 (T2 0), .int .i64 (T2 1), .int .i64 (T2 2), .int .i64 (T2 3), .int .i64 (T2 4), .int .i64 (T2 5), .int .i64 (T2 6), .int .i64 (T2 7), .int .i64 m2] 29) := ⟨_, rfl⟩
  have HB5 : Hid (Below w.heap.size w w5) := by unfold Hid; rw [hw5]; exact HB4.out.alloc HB4.out.size _
  have HA5 : Hid (Blk w5 w.heap.size 24 #[.int .i64 k, .slice sao sl scap, .slice tao tl tcap, .int .i64 n]) := by unfold Hid; rw [hw5]; exact HA4.out.old _
  have HR5a : Hid (Blk w5 P1 29 (arrR T1 m1)) := by unfold Hid; rw [hw5]; exact HQ4.out.old _
  have HR5 : Hid (Blk w5 w4.heap.size 29 (arrR T2 m2)) := by unfold Hid; rw [hw5]; exact Blk.new _ _ _
  obtain ⟨P3, hP3⟩ : ∃ P, P = w4.heap.size := ⟨_, rfl⟩
  rw [← hP3] at HR5
  go_upto_region 3 with fail
  rw [← hw5, ← hP3]
  clear hw5 hP3
  obtain ⟨x0, x1, x2, x3⟩ := HX.out _ HA5.out
  clear x0 x1 x2 x3
  go_wp2
  go_loopw [7] (fun i wr => ∃ f : Nat, f ≤ 8 ∧ i = .int .i64 f ∧ Below w5.heap.size w5 wr) (fun i _ => 8 - (intOf i).toNat)
  case atStart => exact ⟨0, Nat.zero_le _, rfl, Below.refl _ _⟩
  case round =>
    obtain ⟨f, hf, rfl, hb⟩ := hrel
    have HB6 : Hid (Below w5.heap.size w5 wr) := hb
    clear hb
    by_cases hlt : f < 8
    · have c : wr.cell? ⟨P1, f, none⟩ = some (.int .i64 (T1 f)) := by rw [(HR5a.out.below HB6.out).cell, arrR_get _ _ hlt]
      have d : wr.cell? ⟨P3, f, none⟩ = some (.int .i64 (T2 f)) := by rw [(HR5.out.below HB6.out).cell, arrR_get _ _ hlt]
      have p1 := HT.out f hlt
      have p2 := HS.out f hlt
      obtain ⟨x, hx⟩ : ∃ x, x = T1 f := ⟨_, rfl⟩
      obtain ⟨y, hy⟩ : ∃ y, y = T2 f := ⟨_, rfl⟩
      rw [← hx] at c p1 p2
      rw [← hy] at d p2
      clear hx hy
      obtain ⟨p0, p1⟩ := p1
      have p3 : -1 ≤ y := by omega
      have p4 : y ≤ 1 := by omega
      have p5 : x + y = 0 := by omega
      clear p2
      go_wp2
      go_region
      go_wp2
      go_roundw
      case rel => exact ⟨f + 1, by omega, by go_num, HB6.out.drew⟩
      case measure => simp [intOf]; omega
    · obtain rfl : f = 8 := by omega
      have c : wr.cell? ⟨P1, 8, none⟩ = some (.int .i64 m1) := (HR5a.out.below HB6.out).cell 8
      have d : wr.cell? ⟨P3, 8, none⟩ = some (.int .i64 m2) := (HR5.out.below HB6.out).cell 8
      go_wp2
      go_ret
      exact ⟨back_b (by simp), HB5.out.trans (HB6.out.mono HB5.out.size)⟩

set_option maxHeartbeats 8000000 in
theorem rowsNot_bad (k n F : Int) (sao tao : Option Addr) (sl scap tl tcap : Nat) (w : World)
    (H1 : Hid (∀ W, Below w.heap.size w W → Calls Tryd.prog 10 #[.agg #[.int .i64 k, .slice sao sl scap, .slice tao tl tcap, .int .i64 n], .bool true] W fun e w' => e = .returned (.tuple #[.agg #[.int .i64 0, .int .i64 0, .int .i64 0, .int .i64 0, .int .i64 0, .int .i64 0, .int .i64 0, .int .i64 0, .int .i64 0], .iface 66 (.int .i64 F)]) ∧ Below W.heap.size W w'))
    (H2 : Hid (∀ W, Below w.heap.size w W → Calls Tryd.prog 10 #[.agg #[.int .i64 k, .slice sao sl scap, .slice tao tl tcap, .int .i64 n], .bool false] W fun e w' => e = .returned (.tuple #[.agg #[.int .i64 0, .int .i64 0, .int .i64 0, .int .i64 0, .int .i64 0, .int .i64 0, .int .i64 0, .int .i64 0, .int .i64 0], .iface 66 (.int .i64 F)]) ∧ Below W.heap.size W w'))
    (H3 : Hid (∀ W, Below w.heap.size w W → Calls Tryd.prog 18 #[.agg #[.int .i64 k, .slice sao sl scap, .slice tao tl tcap, .int .i64 n]] W fun e w' => e = .returned (.iface 66 (.int .i64 F)) ∧ Below W.heap.size W w')) :
    Calls Tryd.prog 5 #[.agg #[.int .i64 k, .slice sao sl scap, .slice tao tl tcap, .int .i64 n]] w fun e w' => e = .returned (.bool true) ∧ Below w.heap.size w w' := by
  obtain ⟨w1, hw1⟩ : ∃ w1, w1 = w.alloc (.cells #[.int .i64 k, .slice sao sl scap, .slice tao tl tcap, .int .i64 n] 24) := ⟨_, rfl⟩
  have HB1 : Hid (Below w.heap.size w w1) := by unfold Hid; rw [hw1]; exact below_alloc1 _ _
  have HA1 : Hid (Blk w1 w.heap.size 24 #[.int .i64 k, .slice sao sl scap, .slice tao tl tcap, .int .i64 n]) := by unfold Hid; rw [hw1]; exact Blk.new _ _ _
  have HX : Hid (∀ W, Blk W w.heap.size 24 #[.int .i64 k, .slice sao sl scap, .slice tao tl tcap, .int .i64 n] → W.cell? ⟨w.heap.size, 0, none⟩ = some (.int .i64 k) ∧ W.cell? ⟨w.heap.size, 1, none⟩ = some (.slice sao sl scap) ∧ W.cell? ⟨w.heap.size, 2, none⟩ = some (.slice tao tl tcap) ∧ W.cell? ⟨w.heap.size, 3, none⟩ = some (.int .i64 n)) := fun W h => ⟨h.cell 0, h.cell 1, h.cell 2, h.cell 3⟩
  obtain ⟨x0, x1, x2, x3⟩ := HX.out _ HA1.out
  go_enter Tryd.func5, Tryd.ntmps5
  go_wp2_with fail
  rw [← hw1]
  clear hw1
  go_wp2_with fail
  go_at_call 10
  refine (H1.out _ HB1.out).mono ?_
  rintro e w2 ⟨rfl, hb⟩
  have HB2 : Hid (Below w.heap.size w w2) := HB1.out.trans (hb.mono HB1.out.size)
  have HA2 : Hid (Blk w2 w.heap.size 24 #[.int .i64 k, .slice sao sl scap, .slice tao tl tcap, .int .i64 n]) := HA1.out.below hb
  clear hb x0 x1 x2 x3
  obtain ⟨w3, hw3⟩ : ∃ x, x = w2.alloc (.cells #[.int .i64 0, .int .i64 0, .int .i64 0, .int .i64 0, .int .i64 0, .int .i64 0, .int .i64 0, .int .i64 0, .int .i64 0] 29) := ⟨_, rfl⟩
  have HB3 : Hid (Below w.heap.size w w3) := by unfold Hid; rw [hw3]; exact HB2.out.alloc HB2.out.size _
  have HA3 : Hid (Blk w3 w.heap.size 24 #[.int .i64 k, .slice sao sl scap, .slice tao tl tcap, .int .i64 n]) := by unfold Hid; rw [hw3]; exact HA2.out.old _
  obtain ⟨P1, hP1⟩ : ∃ P, P = w2.heap.size := ⟨_, rfl⟩
  go_upto_region 2 with fail
  rw [← hw3, ← hP1]
  clear hw3 hP1
  obtain ⟨x0, x1, x2, x3⟩ := HX.out _ HA3.out
  go_wp2_with fail
  go_at_call 10
  refine (H2.out _ HB3.out).mono ?_
  rintro e w4 ⟨rfl, hb⟩
  have HB4 : Hid (Below w.heap.size w w4) := HB3.out.trans (hb.mono HB3.out.size)
  have HA4 : Hid (Blk w4 w.heap.size 24 #[.int .i64 k, .slice sao sl scap, .slice tao tl tcap, .int .i64 n]) := HA3.out.below hb
  clear hb x0 x1 x2 x3
  obtain ⟨w5, hw5⟩ : ∃ x, x = w4.alloc (.cells #[.int .i64 0, .int .i64 0, .int .i64 0, .int .i64 0, .int .i64 0, .int .i64 0, .int .i64 0, .int .i64 0, .int .i64 0] 29) := ⟨_, rfl⟩
  have HB5 : Hid (Below w.heap.size w w5) := by unfold Hid; rw [hw5]; exact HB4.out.alloc HB4.out.size _
  have HA5 : Hid (Blk w5 w.heap.size 24 #[.int .i64 k, .slice sao sl scap, .slice tao tl tcap, .int .i64 n]) := by unfold Hid; rw [hw5]; exact HA4.out.old _
  obtain ⟨P3, hP3⟩ : ∃ P, P = w4.heap.size := ⟨_, rfl⟩
  go_upto_region 3 with fail
  rw [← hw5, ← hP3]
  clear hw5 hP3
  obtain ⟨x0, x1, x2, x3⟩ := HX.out _ HA5.out
  go_wp2_with fail
  go_at_call 18
  refine (H3.out _ HB5.out).mono ?_
  rintro e w6 ⟨rfl, hb⟩
  have HB6 : Hid (Below w.heap.size w w6) := HB5.out.trans (hb.mono HB5.out.size)
  clear hb x0 x1 x2 x3
  go_wp2
  go_ret
  exact ⟨rfl, HB6.out⟩

theorem rowsNot_walk (k n : Int) (vs vt : Value) (s t : List Int) (w : World) (hS : Reads w vs s) (hT : Reads w vt t) (hg : KindsLaid w ∧ TimesLaid w) :
    Calls Tryd.prog 5 #[.agg #[.int .i64 k, vs, vt, .int .i64 n]] w fun e w' => e = .returned (.bool true) ∧ Below w.heap.size w w' := by
  have ho : ∀ (h : Bool) W, Below w.heap.size w W → Calls Tryd.prog 10 #[.agg #[.int .i64 k, vs, vt, .int .i64 n], .bool h] W fun e w' => e = .returned (.tuple #[.agg (arrR (ofT k s t n h) (ofM k s t n h)), errV (atomFault k s t n)]) ∧ Below W.heap.size W w' := fun h W hW => rowsOf_any k n h vs vt s t W (hS.below hW) (hT.below hW) (hg.1.below hW) (hg.2.below hW)
  have hc : ∀ W, Below w.heap.size w W → Calls Tryd.prog 18 #[.agg #[.int .i64 k, vs, vt, .int .i64 n]] W fun e w' => e = .returned (errV (atomFault k s t n)) ∧ Below W.heap.size W w' := fun W hW => acheck_any k n _ _ s t W (hS.below hW) (hT.below hW) (hg.1.below hW)
  obtain ⟨sao, scap, rfl, _⟩ := hS.slice
  obtain ⟨tao, tcap, rfl, _⟩ := hT.slice
  by_cases hf : atomFault k s t n = 0
  · have e1 : ∀ h, ofT k s t n h = rowT k s t h := fun h => by unfold ofT; rw [if_pos hf]
    have e2 : ∀ h, ofM k s t n h = rowM k n h := fun h => by unfold ofM; rw [if_pos hf]
    simp only [e1, e2, hf] at ho
    exact rowsNot_right k n (rowT k s t true) (rowT k s t false) (rowM k n true) (rowM k n false) sao tao _ scap _ tcap w (fun f _ => rowT_le k s t true f) (fun f _ => rfl) (rowM_le hf true) rfl (ho true) (ho false)
  · have e1 : ∀ h, ofT k s t n h = fun _ => 0 := fun h => by unfold ofT; rw [if_neg hf]
    have e2 : ∀ h, ofM k s t n h = 0 := fun h => by unfold ofM; rw [if_neg hf]
    simp only [e1, e2, errV_no hf] at ho hc
    exact rowsNot_bad k n (atomFault k s t n) sao tao _ scap _ tcap w (ho true) (ho false) hc
end Go.Proofs.YtenmheenieifpadDoor
