/-
  Proved: vennlaw2.SpanTells returns true where what it calls answers as chapter 14 says; what was in memory is as it was (the walk that the statement leans on).
-/
import Derived.Test.YtgkgbpbohgklhagDoorLibS4
import Derived.Test.YtgkgbpbohgklhagDoorLibS7
import Derived.Deep.CutRange
import Derived.Deep.CutBlock
namespace Go.Proofs.YtgkgbpbohgklhagDoor
open Go.ChangeShapes Go.WideShapes Go.ChangeAt Go.RowKit
set_option maxRecDepth 100000

set_option maxHeartbeats 8000000 in
theorem spanTells_in (ao : Option Addr) (al acap : Nat) (co : Option Addr) (cl ccap : Nat) (vt : Value) (u lo hi E E2 X : Int) (w : World)
    (HE2 : Hid (E2 = if E = 0 then (if lo = hi then 0 else 8) else E)) (HX : Hid (X = if E2 = 0 then lo else 0))
    (HSp : Hid (∀ W, Below w.heap.size w W → Calls Tryd.prog 17 #[.agg #[.slice ao al acap, .slice co cl ccap], vt, .int .i64 u] W fun e w' => e = .returned (.tuple #[.agg #[.int .i64 lo, .int .i64 hi], .int .i64 E]) ∧ Below W.heap.size W w'))
    (HOf : Hid (∀ W, Below w.heap.size w W → Calls Tryd.prog 18 #[.agg #[.slice ao al acap, .slice co cl ccap], vt, .int .i64 u] W fun e w' => e = .returned (.tuple #[.agg #[.int .i64 lo, .int .i64 hi], errV E]) ∧ Below W.heap.size W w'))
    (HEx : Hid (∀ W, Below w.heap.size w W → Calls Tryd.prog 19 #[.agg #[.slice ao al acap, .slice co cl ccap], vt, .int .i64 u] W fun e w' => e = .returned (.tuple #[.int .i64 X, errV E2]) ∧ Below W.heap.size W w'))
    (HEr : Hid (∀ n W, Below w.heap.size w W → Calls Tryd.prog 11 #[errV n, .int .i64 n] W fun e w' => e = .returned (.bool true) ∧ Below W.heap.size W w')) :
    Calls Tryd.prog 6 #[.agg #[.slice ao al acap, .slice co cl ccap], vt, .int .i64 u] w fun e w' => e = .returned (.bool true) ∧ Below w.heap.size w w' := by
  obtain ⟨w1, hw1⟩ : ∃ w1, w1 = w.alloc (.cells #[.slice ao al acap, .slice co cl ccap] 42) := ⟨_, rfl⟩
  have HB1 : Hid (Below w.heap.size w w1) := by unfold Hid; rw [hw1]; exact below_alloc1 _ _
  have HP1 : Hid (Blk w1 w.heap.size 42 #[.slice ao al acap, .slice co cl ccap]) := by unfold Hid; rw [hw1]; exact Blk.new _ _ _
  have x0 : w1.cell? ⟨w.heap.size, 0, none⟩ = some (.slice ao al acap) := HP1.out.cell 0
  have x1 : w1.cell? ⟨w.heap.size, 1, none⟩ = some (.slice co cl ccap) := HP1.out.cell 1
  go_enter Tryd.func6, Tryd.ntmps6
  go_wp2_with fail
  rw [← hw1]
  clear hw1
  go_wp2_with fail
  go_at_call 17
  refine (HSp.out _ HB1.out).mono ?_
  rintro e w2 ⟨rfl, hb⟩
  have HB2 : Hid (Below w.heap.size w w2) := HB1.out.trans (hb.mono HB1.out.size)
  have HP2 : Hid (Blk w2 w.heap.size 42 #[.slice ao al acap, .slice co cl ccap]) := HP1.out.below hb
  clear hb x0 x1
  obtain ⟨w3, hw3⟩ : ∃ w3, w3 = w2.alloc (.cells #[.int .i64 lo, .int .i64 hi] 48) := ⟨_, rfl⟩
  have HB3 : Hid (Below w.heap.size w w3) := by unfold Hid; rw [hw3]; exact HB2.out.alloc HB2.out.size _
  have HP3 : Hid (Blk w3 w.heap.size 42 #[.slice ao al acap, .slice co cl ccap]) := by unfold Hid; rw [hw3]; exact HP2.out.old _
  have HS3 : Hid (Blk w3 w2.heap.size 48 (arrP (lo, hi))) := by unfold Hid; rw [hw3]; exact Blk.new _ _ _
  go_upto_region 2 with fail
  rw [← hw3]
  clear hw3
  have x0 : w3.cell? ⟨w.heap.size, 0, none⟩ = some (.slice ao al acap) := HP3.out.cell 0
  have x1 : w3.cell? ⟨w.heap.size, 1, none⟩ = some (.slice co cl ccap) := HP3.out.cell 1
  go_wp2_with fail
  go_at_call 18
  refine (HOf.out _ HB3.out).mono ?_
  rintro e w4 ⟨rfl, hb⟩
  have HB4 : Hid (Below w.heap.size w w4) := HB3.out.trans (hb.mono HB3.out.size)
  have HP4 : Hid (Blk w4 w.heap.size 42 #[.slice ao al acap, .slice co cl ccap]) := HP3.out.below hb
  have HS4 : Hid (Blk w4 w2.heap.size 48 (arrP (lo, hi))) := HS3.out.below hb
  clear hb x0 x1
  obtain ⟨w5, hw5⟩ : ∃ w5, w5 = w4.alloc (.cells #[.int .i64 lo, .int .i64 hi] 48) := ⟨_, rfl⟩
  have HB5 : Hid (Below w.heap.size w w5) := by unfold Hid; rw [hw5]; exact HB4.out.alloc HB4.out.size _
  have HP5 : Hid (Blk w5 w.heap.size 42 #[.slice ao al acap, .slice co cl ccap]) := by unfold Hid; rw [hw5]; exact HP4.out.old _
  have HS5 : Hid (Blk w5 w2.heap.size 48 (arrP (lo, hi))) := by unfold Hid; rw [hw5]; exact HS4.out.old _
  have HX5 : Hid (Blk w5 w4.heap.size 48 (arrP (lo, hi))) := by unfold Hid; rw [hw5]; exact Blk.new _ _ _
  go_upto_region 3 with fail
  rw [← hw5]
  clear hw5
  go_wp2_with fail
  go_at_call 11
  refine (HEr.out E _ HB5.out).mono ?_
  rintro e w6 ⟨rfl, hb⟩
  have HB6 : Hid (Below w.heap.size w w6) := HB5.out.trans (hb.mono HB5.out.size)
  have HP6 : Hid (Blk w6 w.heap.size 42 #[.slice ao al acap, .slice co cl ccap]) := HP5.out.below hb
  have HS6 : Hid (Blk w6 w2.heap.size 48 (arrP (lo, hi))) := HS5.out.below hb
  have HX6 : Hid (Blk w6 w4.heap.size 48 (arrP (lo, hi))) := HX5.out.below hb
  clear hb
  obtain ⟨y0, y1⟩ := HS6.out.cells2
  obtain ⟨z0, z1⟩ := HX6.out.cells2
  have hq := sameP lo hi
  have hgd := guardP
  go_upto_region 4 with fail
  clear z0 z1 hq hgd
  go_cut [8, 44] from 36 (fun p q wx => p = .int .i64 E ∧ (∃ b : Bool, q = .bool b ∧ ((b = true ∧ E2 = 8) ∨ (b = false ∧ E2 = E))) ∧ wx = w6)
  case first =>
    by_cases h0 : E = 0
    · have H0 : Hid (E = 0) := h0
      have h2 := HE2.out
      rw [if_pos h0] at h2
      have d0 : (E == 0) = true := by simp [h0]
      clear h0
      by_cases hl : lo = hi
      · rw [if_pos hl] at h2
        have H2 : Hid (E2 = E) := by unfold Hid; rw [h2, H0.out]
        have dl : (lo != hi) = false := by simp [hl]
        clear h2 hl
        go_wp2_with fail
        go_meet
        case rel => exact ⟨rfl, ⟨false, rfl, Or.inr ⟨rfl, H2.out⟩⟩, rfl⟩
      · rw [if_neg hl] at h2
        have H2 : Hid (E2 = 8) := h2
        have dl : (lo != hi) = true := by simp [hl]
        clear h2 hl
        go_wp2_with fail
        go_meet
        case rel => exact ⟨rfl, ⟨true, rfl, Or.inl ⟨rfl, H2.out⟩⟩, rfl⟩
    · have H2 : Hid (E2 = E) := by unfold Hid; rw [HE2.out, if_neg h0]
      have d0 : (E == 0) = false := by simp [h0]
      clear h0
      go_wp2_with fail
      go_meet
      case rel => exact ⟨rfl, ⟨false, rfl, Or.inr ⟨rfl, H2.out⟩⟩, rfl⟩
  case rest =>
    obtain ⟨rfl, ⟨b, rfl, hb⟩, rfl⟩ := hcut
    have HB : Hid ((b = true ∧ E2 = 8) ∨ (b = false ∧ E2 = E)) := hb
    clear hb
    go_upto_if 44 with fail
    go_cut [8] from 45 (fun p wx => p = .int .i64 E2 ∧ wx = wc)
    case first =>
      rcases HB.out with ⟨rfl, h2⟩ | ⟨rfl, h2⟩
      · have H2 : Hid (E2 = 8) := h2
        clear h2 HB
        go_wp2_with fail
        go_meet
        case rel => exact ⟨by rw [H2.out], rfl⟩
      · have H2 : Hid (E2 = E) := h2
        clear h2 HB
        go_wp2_with fail
        go_meet
        case rel => exact ⟨by rw [H2.out], rfl⟩
    case rest =>
      obtain ⟨rfl, hwc⟩ := hcut
      obtain rfl := hwc
      have x0 : wc.cell? ⟨w.heap.size, 0, none⟩ = some (.slice ao al acap) := HP6.out.cell 0
      have x1 : wc.cell? ⟨w.heap.size, 1, none⟩ = some (.slice co cl ccap) := HP6.out.cell 1
      clear y0 y1
      go_wp2_with fail
      go_at_call 19
      refine (HEx.out _ HB6.out).mono ?_
      rintro e w7 ⟨rfl, hb⟩
      have HB7 : Hid (Below w.heap.size w w7) := HB6.out.trans (hb.mono HB6.out.size)
      have HS7 : Hid (Blk w7 w2.heap.size 48 (arrP (lo, hi))) := HS6.out.below hb
      clear hb x0 x1
      go_wp2_with fail
      go_at_call 11
      refine (HEr.out E2 _ HB7.out).mono ?_
      rintro e w8 ⟨rfl, hb⟩
      have HB8 : Hid (Below w.heap.size w w8) := HB7.out.trans (hb.mono HB7.out.size)
      have HS8 : Hid (Blk w8 w2.heap.size 48 (arrP (lo, hi))) := HS7.out.below hb
      clear hb
      obtain ⟨y0, y1⟩ := HS8.out.cells2
      have hX := HX.out
      by_cases h0 : E2 = 0
      · rw [if_pos h0] at hX
        have d0 : (E2 == 0) = true := by simp [h0]
        have n0 : (E2 != 0) = false := by simp [h0]
        have HXl : Hid (X = lo) := hX
        clear h0 hX
        rw [HXl.out]
        go_wp2
        go_ret
        exact ⟨rfl, HB8.out⟩
      · rw [if_neg h0] at hX
        have d0 : (E2 == 0) = false := by simp [h0]
        have n0 : (E2 != 0) = true := by simp [h0]
        have HXl : Hid (X = 0) := hX
        clear h0 hX
        rw [HXl.out]
        go_wp2
        go_ret
        exact ⟨rfl, HB8.out⟩
end Go.Proofs.YtgkgbpbohgklhagDoor
