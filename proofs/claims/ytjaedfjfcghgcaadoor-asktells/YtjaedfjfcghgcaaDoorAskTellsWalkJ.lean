/-
  Proved: vennlaw2.AskTells returns true where what it calls answers as chapter 18 says; what was in memory is as it was (the walk that the statement leans on).
-/
import Derived.Test.YtjaedfjfcghgcaaDoorLibA22
import Derived.Test.YtjaedfjfcghgcaaDoorLibA6
import Derived.Deep.CutRange
import Derived.Deep.CutBlock
namespace Go.Proofs.YtjaedfjfcghgcaaDoor
open Go.ChangeShapes Go.WideShapes Go.ChangeAt Go.RowKit
set_option maxRecDepth 100000

set_option maxHeartbeats 16000000 in
theorem askTells_in (lo : Option Addr) (ll lcap : Nat) (ao : Option Addr) (al acap : Nat) (co : Option Addr) (cl ccap : Nat) (u e1 ef e2 E N y n an g1 g2 E3 N3 bn : Int) (P Y : Nat → Int × Int) (w : World)
    (He2 : Hid (e2 = if e1 = 0 then ef else e1)) (HE : Hid (E = if e2 = 0 then (if y + n = 0 then 6 else 0) else e2)) (HN : Hid (N = if E = 0 then an else 0))
    (Hg2 : Hid (g2 = if g1 = 0 then ef else g1)) (HE3 : Hid (E3 = if g2 = 0 then (if (Y 7).1 + (Y 7).2 = 0 then 6 else 0) else g2)) (HN3 : Hid (N3 = if E3 = 0 then bn else 0))
    (HY0 : Hid (Y 0 = (0, 0))) (HY : Hid (∀ k, Y (k + 1) = ((Y k).1 + (P k).1, (Y k).2 + (P k).2)))
    (HPr : Hid (∀ k, (0 ≤ (P k).1 ∧ 0 ≤ (P k).2) ∧ (P k).1 + (P k).2 ≤ 1716)) (HYr : Hid (∀ k, k ≤ 7 → (0 ≤ (Y k).1 ∧ 0 ≤ (Y k).2) ∧ (Y k).1 + (Y k).2 ≤ 1716 * 7))
    (Hyn : Hid ((0 ≤ y ∧ 0 ≤ n) ∧ y + n ≤ 1716))
    (HFo : Hid (∀ W, Below w.heap.size w W → Calls Tryd.prog 9 #[.slice lo ll lcap, .int .i64 u] W fun e w' => e = .returned (.int .i64 e1) ∧ Below W.heap.size W w'))
    (HFz : Hid (∀ W, Below w.heap.size w W → Calls Tryd.prog 9 #[.slice lo ll lcap, .int .i64 0] W fun e w' => e = .returned (.int .i64 g1) ∧ Below W.heap.size W w'))
    (HFm : Hid (∀ W, Below w.heap.size w W → Calls Tryd.prog 18 #[.agg #[.slice ao al acap, .slice co cl ccap]] W fun e w' => e = .returned (.int .i64 ef) ∧ Below W.heap.size W w'))
    (HAs : Hid (e2 = 0 → ∀ W, Below w.heap.size w W → Calls Tryd.prog 19 #[.slice lo ll lcap, .agg #[.slice ao al acap, .slice co cl ccap], .int .i64 u] W fun e w' => e = .returned (.tuple #[.int .i64 y, .int .i64 n]) ∧ Below W.heap.size W w'))
    (HAk : Hid (g2 = 0 → ∀ (k : Nat), k ≤ 6 → ∀ W, Below w.heap.size w W → Calls Tryd.prog 19 #[.slice lo ll lcap, .agg #[.slice ao al acap, .slice co cl ccap], .int .i64 k] W fun e w' => e = .returned (.tuple #[.int .i64 (P k).1, .int .i64 (P k).2]) ∧ Below W.heap.size W w'))
    (HAn : Hid (∀ W, Calls Tryd.prog 20 #[.int .i64 y, .int .i64 n] W fun e w' => e = .returned (.int .i64 an) ∧ w' = W))
    (HAm : Hid (∀ W, Calls Tryd.prog 20 #[.int .i64 (Y 7).1, .int .i64 (Y 7).2] W fun e w' => e = .returned (.int .i64 bn) ∧ w' = W))
    (HOf : Hid (∀ W, Below w.heap.size w W → Calls Tryd.prog 21 #[.slice lo ll lcap, .agg #[.slice ao al acap, .slice co cl ccap], .int .i64 u] W fun e w' => e = .returned (.tuple #[.int .i64 N, errV E]) ∧ Below W.heap.size W w'))
    (HAl : Hid (∀ W, Below w.heap.size w W → Calls Tryd.prog 22 #[.slice lo ll lcap, .agg #[.slice ao al acap, .slice co cl ccap]] W fun e w' => e = .returned (.tuple #[.int .i64 N3, errV E3]) ∧ Below W.heap.size W w'))
    (HEr : Hid (∀ n W, Below w.heap.size w W → Calls Tryd.prog 12 #[errV n, .int .i64 n] W fun e w' => e = .returned (.bool true) ∧ Below W.heap.size W w')) :
    Calls Tryd.prog 6 #[.slice lo ll lcap, .agg #[.slice ao al acap, .slice co cl ccap], .int .i64 u] w fun e w' => e = .returned (.bool true) ∧ Below w.heap.size w w' := by
  obtain ⟨w1, hw1⟩ : ∃ w1, w1 = w.alloc (.cells #[.slice ao al acap, .slice co cl ccap] 42) := ⟨_, rfl⟩
  have B1 : Hid (Below w.heap.size w w1) := by unfold Hid; rw [hw1]; exact below_alloc1 _ _
  have kF1 : Hid (Blk w1 w.heap.size 42 #[.slice ao al acap, .slice co cl ccap]) := by unfold Hid; rw [hw1]; exact Blk.new _ _ _
  go_enter Tryd.func6, Tryd.ntmps6
  go_wp2_with fail
  rw [← hw1]
  clear hw1
  go_at_call 9
  refine (HFo.out _ B1.out).mono ?_
  rintro e w2 ⟨rfl, hb⟩
  have B2 : Hid (Below w.heap.size w w2) := B1.out.trans (hb.mono B1.out.size)
  have kF2 : Hid (Blk w2 w.heap.size 42 #[.slice ao al acap, .slice co cl ccap]) := kF1.out.below hb
  clear hb
  go_upto_if 24 with fail
  go_cut [7, 24] from 25 (fun q _ wx => q = .int .i64 e2 ∧ Below w2.heap.size w2 wx)
  case first =>
    by_cases h1 : e1 = 0
    · have d1 : (e1 == 0) = true := by simp [h1]
      have H : Hid (e2 = ef) := by unfold Hid; rw [He2.out, if_pos h1]
      clear h1
      have x0 : w2.cell? ⟨w.heap.size, 0, none⟩ = some (.slice ao al acap) := kF2.out.cell 0
      have x1 : w2.cell? ⟨w.heap.size, 1, none⟩ = some (.slice co cl ccap) := kF2.out.cell 1
      go_wp2_with fail
      go_at_call 18
      refine (HFm.out _ B2.out).mono ?_
      rintro e w3 ⟨rfl, hb⟩
      have Hb : Hid (Below w2.heap.size w2 w3) := hb
      clear hb x0 x1
      go_wp2_with fail
      go_meet
      case rel => exact ⟨by rw [H.out], Hb.out⟩
    · have d1 : (e1 == 0) = false := by simp [h1]
      have H : Hid (e2 = e1) := by unfold Hid; rw [He2.out, if_neg h1]
      clear h1
      go_wp2_with fail
      go_meet
      case rel => exact ⟨by rw [H.out], Below.refl _ _⟩
  case rest =>
  obtain ⟨rfl, hbc⟩ := hcut
  obtain ⟨w3, hw3⟩ : ∃ x, x = wc := ⟨_, rfl⟩
  subst hw3
  have B3 : Hid (Below w.heap.size w w3) := B2.out.trans (hbc.mono B2.out.size)
  have kF3 : Hid (Blk w3 w.heap.size 42 #[.slice ao al acap, .slice co cl ccap]) := kF2.out.below hbc
  clear hbc
  go_upto_if 28 with fail
  go_cut [7, 8, 9, 10, 28] from 29 (fun q a _ _ _ wx => q = .int .i64 E ∧ a = .int .i64 N ∧ Below w3.heap.size w3 wx)
  case first =>
    by_cases h2 : e2 = 0
    · have d2 : (e2 == 0) = true := by simp [h2]
      have H : Hid (E = if y + n = 0 then 6 else 0) := by unfold Hid; rw [HE.out, if_pos h2]
      have HAs0 : Hid _ := HAs.out h2
      have H2 : Hid (e2 = 0) := h2
      clear h2
      have x0 : w3.cell? ⟨w.heap.size, 0, none⟩ = some (.slice ao al acap) := kF3.out.cell 0
      have x1 : w3.cell? ⟨w.heap.size, 1, none⟩ = some (.slice co cl ccap) := kF3.out.cell 1
      go_wp2_with fail
      go_at_call 19
      refine (HAs0.out _ B3.out).mono ?_
      rintro e w4 ⟨rfl, hb⟩
      have Hb : Hid (Below w3.heap.size w3 w4) := hb
      clear hb x0 x1
      obtain ⟨⟨r1, r2⟩, r3⟩ := Hyn.out
      by_cases hz : y + n = 0
      · have hE := H.out
        rw [if_pos hz] at hE
        have HEv : Hid (E = 6) := hE
        have HNv : Hid (N = 0) := by unfold Hid; rw [HN.out, hE, if_neg (by decide)]
        have dz : (y + n == 0) = true := by simp [hz]
        clear hz hE
        go_wp2_with fail
        go_meet
        case rel => exact ⟨by rw [HEv.out], by rw [HNv.out], Hb.out⟩
      · have hE := H.out
        rw [if_neg hz] at hE
        have HEv : Hid (E = 0) := hE
        have HNv : Hid (N = an) := by unfold Hid; rw [HN.out, if_pos hE]
        have dz : (y + n == 0) = false := by simp [hz]
        clear hz hE
        go_wp2_with fail
        go_at_call 20
        refine (HAn.out _).mono ?_
        rintro e w5 ⟨rfl, hw5⟩
        obtain rfl := hw5
        go_wp2_with fail
        go_meet
        case rel => exact ⟨by rw [HEv.out, H2.out], by rw [HNv.out], Hb.out⟩
    · have d2 : (e2 == 0) = false := by simp [h2]
      have HEv : Hid (E = e2) := by unfold Hid; rw [HE.out, if_neg h2]
      have HNv : Hid (N = 0) := by unfold Hid; rw [HN.out, HEv.out, if_neg h2]
      clear h2
      go_wp2_with fail
      go_meet
      case rel => exact ⟨by rw [HEv.out], by rw [HNv.out], Below.refl _ _⟩
  case rest =>
  obtain ⟨rfl, rfl, hbc⟩ := hcut
  obtain ⟨w4, hw4⟩ : ∃ x, x = wc := ⟨_, rfl⟩
  subst hw4
  have B4 : Hid (Below w.heap.size w w4) := B3.out.trans (hbc.mono B3.out.size)
  have kF4 : Hid (Blk w4 w.heap.size 42 #[.slice ao al acap, .slice co cl ccap]) := kF3.out.below hbc
  clear hbc
  have x0 : w4.cell? ⟨w.heap.size, 0, none⟩ = some (.slice ao al acap) := kF4.out.cell 0
  have x1 : w4.cell? ⟨w.heap.size, 1, none⟩ = some (.slice co cl ccap) := kF4.out.cell 1
  go_wp2_with fail
  go_at_call 21
  refine (HOf.out _ B4.out).mono ?_
  rintro e w5 ⟨rfl, hb⟩
  have B5 : Hid (Below w.heap.size w w5) := B4.out.trans (hb.mono B4.out.size)
  have kF5 : Hid (Blk w5 w.heap.size 42 #[.slice ao al acap, .slice co cl ccap]) := kF4.out.below hb
  clear hb x0 x1
  go_wp2_with fail
  go_at_call 12
  refine (HEr.out E _ B5.out).mono ?_
  rintro e w6 ⟨rfl, hb⟩
  have B6 : Hid (Below w.heap.size w w6) := B5.out.trans (hb.mono B5.out.size)
  have kF6 : Hid (Blk w6 w.heap.size 42 #[.slice ao al acap, .slice co cl ccap]) := kF5.out.below hb
  clear hb
  go_wp2_with fail
  go_at_call 9
  refine (HFz.out _ B6.out).mono ?_
  rintro e w7 ⟨rfl, hb⟩
  have B7 : Hid (Below w.heap.size w w7) := B6.out.trans (hb.mono B6.out.size)
  have kF7 : Hid (Blk w7 w.heap.size 42 #[.slice ao al acap, .slice co cl ccap]) := kF6.out.below hb
  clear hb
  go_upto_if 61 with fail
  go_cut [7, 61] from 62 (fun q _ wx => q = .int .i64 g2 ∧ Below w7.heap.size w7 wx)
  case first =>
    by_cases h1 : g1 = 0
    · have d1 : (g1 == 0) = true := by simp [h1]
      have H : Hid (g2 = ef) := by unfold Hid; rw [Hg2.out, if_pos h1]
      clear h1
      have x0 : w7.cell? ⟨w.heap.size, 0, none⟩ = some (.slice ao al acap) := kF7.out.cell 0
      have x1 : w7.cell? ⟨w.heap.size, 1, none⟩ = some (.slice co cl ccap) := kF7.out.cell 1
      go_wp2_with fail
      go_at_call 18
      refine (HFm.out _ B7.out).mono ?_
      rintro e w8 ⟨rfl, hb⟩
      have Hb : Hid (Below w7.heap.size w7 w8) := hb
      clear hb x0 x1
      go_wp2_with fail
      go_meet
      case rel => exact ⟨by rw [H.out], Hb.out⟩
    · have d1 : (g1 == 0) = false := by simp [h1]
      have H : Hid (g2 = g1) := by unfold Hid; rw [Hg2.out, if_neg h1]
      clear h1
      go_wp2_with fail
      go_meet
      case rel => exact ⟨by rw [H.out], Below.refl _ _⟩
  case rest =>
  obtain ⟨rfl, hbc⟩ := hcut
  obtain ⟨w8, hw8⟩ : ∃ x, x = wc := ⟨_, rfl⟩
  subst hw8
  have B8 : Hid (Below w.heap.size w w8) := B7.out.trans (hbc.mono B7.out.size)
  have kF8 : Hid (Blk w8 w.heap.size 42 #[.slice ao al acap, .slice co cl ccap]) := kF7.out.below hbc
  clear hbc
  go_upto_block 0 with fail
  go_cut [14, 15, 16, 17, 18] from 64 (fun p q _ _ _ wx => (p = .int .i64 (if g2 = 0 then (Y 7).1 else 0) ∧ q = .int .i64 (if g2 = 0 then (Y 7).2 else 0)) ∧ Below w8.heap.size w8 wx)
  case first =>
    by_cases h2 : g2 = 0
    · have HAk0 : Hid _ := HAk.out h2
      have d2 : (g2 == 0) = true := by simp [h2]
      have H2 : Hid (g2 = 0) := h2
      clear h2
      go_wp2_with fail
      go_loopw [14, 15, 16, 17, 18] (fun p q i _ _ wr => ∃ k : Nat, k ≤ 7 ∧ i = .int .i64 k ∧ p = .int .i64 (Y k).1 ∧ q = .int .i64 (Y k).2 ∧ Below w8.heap.size w8 wr) (fun _ _ i _ _ _ => 7 - (intOf i).toNat)
      case atStart => exact ⟨0, Nat.zero_le _, rfl, by rw [HY0.out], by rw [HY0.out], Below.refl _ _⟩
      case round =>
        obtain ⟨k, hk, rfl, rfl, rfl, hbr⟩ := hrel
        have HBr : Hid (Below w8.heap.size w8 wr) := hbr
        have HBw : Hid (Below w.heap.size w wr) := B8.out.trans (hbr.mono B8.out.size)
        clear hbr
        by_cases hlt : k ≤ 6
        · have HAk1 : Hid _ := HAk0.out k hlt
          obtain ⟨⟨r1, r2⟩, r3⟩ := HPr.out k
          obtain ⟨⟨q1, q2⟩, q3⟩ := HYr.out k hk
          have HYk := HY.out k
          obtain ⟨s1, hs1⟩ : ∃ s, s = (Y k).1 := ⟨_, rfl⟩
          obtain ⟨s2, hs2⟩ : ∃ s, s = (Y k).2 := ⟨_, rfl⟩
          obtain ⟨t1, ht1⟩ : ∃ s, s = (P k).1 := ⟨_, rfl⟩
          obtain ⟨t2, ht2⟩ : ∃ s, s = (P k).2 := ⟨_, rfl⟩
          rw [← hs1, ← hs2, ← ht1, ← ht2] at HYk
          rw [← hs1] at q1 q3
          rw [← hs2] at q2 q3
          rw [← ht1] at r1 r3
          rw [← ht2] at r2 r3
          rw [← ht1, ← ht2] at HAk1
          rw [← hs1, ← hs2]
          have HYs : Hid (Y (k + 1) = (s1 + t1, s2 + t2)) := HYk
          clear HYk hs1 hs2 ht1 ht2
          have hk6 : (k : Int) ≤ 6 := by omega
          have x0 : wr.cell? ⟨w.heap.size, 0, none⟩ = some (.slice ao al acap) := (kF8.out.below HBr.out).cell 0
          have x1 : wr.cell? ⟨w.heap.size, 1, none⟩ = some (.slice co cl ccap) := (kF8.out.below HBr.out).cell 1
          go_wp2_with fail
          go_at_call 19
          refine (HAk1.out _ HBw.out).mono ?_
          rintro e w9 ⟨rfl, hb⟩
          have HB9 : Hid (Below w8.heap.size w8 w9) := HBr.out.trans (hb.mono HBr.out.size)
          clear hb x0 x1
          go_wp2
          go_roundw
          case rel => exact ⟨k + 1, by omega, by go_num, by rw [HYs.out], by rw [HYs.out], HB9.out⟩
          case measure => simp [intOf]; omega
        · obtain rfl : k = 7 := by omega
          go_wp2_with fail
          go_meet
          case rel => exact ⟨⟨by rw [if_pos H2.out], by rw [if_pos H2.out]⟩, HBr.out⟩
    · have d2 : (g2 == 0) = false := by simp [h2]
      have H2 : Hid (¬ g2 = 0) := h2
      clear h2
      go_wp2_with fail
      refine wp_loop_rounds 1 ?_
      rw [rounds_succ]
      go_wp2_with fail
      go_meet
      case rel => exact ⟨⟨by rw [if_neg H2.out], by rw [if_neg H2.out]⟩, Below.refl _ _⟩
  case rest =>
  obtain ⟨⟨rfl, rfl⟩, hbc⟩ := hcut
  obtain ⟨w9, hw9⟩ : ∃ x, x = wc := ⟨_, rfl⟩
  subst hw9
  have B9 : Hid (Below w.heap.size w w9) := B8.out.trans (hbc.mono B8.out.size)
  have kF9 : Hid (Blk w9 w.heap.size 42 #[.slice ao al acap, .slice co cl ccap]) := kF8.out.below hbc
  clear hbc
  obtain ⟨p1, hp1⟩ : ∃ x, x = (if g2 = 0 then (Y 7).1 else 0) := ⟨_, rfl⟩
  obtain ⟨p2, hp2⟩ : ∃ x, x = (if g2 = 0 then (Y 7).2 else 0) := ⟨_, rfl⟩
  have HQ : Hid ((g2 = 0 ∧ p1 + p2 = 0 ∧ E3 = 6 ∧ N3 = 0) ∨ (g2 = 0 ∧ ¬ p1 + p2 = 0 ∧ E3 = 0 ∧ N3 = bn ∧ p1 = (Y 7).1 ∧ p2 = (Y 7).2) ∨ (¬ g2 = 0 ∧ E3 = g2 ∧ N3 = 0)) := by
    have h3 := HE3.out
    have h4 := HN3.out
    by_cases h2 : g2 = 0
    · rw [if_pos h2] at hp1 hp2 h3
      by_cases hz : (Y 7).1 + (Y 7).2 = 0
      · rw [if_pos hz] at h3
        left
        exact ⟨h2, by rw [hp1, hp2]; exact hz, h3, by rw [h4, h3, if_neg (by decide)]⟩
      · rw [if_neg hz] at h3
        right; left
        exact ⟨h2, by rw [hp1, hp2]; exact hz, h3, by rw [h4, if_pos h3], hp1, hp2⟩
    · rw [if_neg h2] at h3
      right; right
      exact ⟨h2, h3, by rw [h4, h3, if_neg h2]⟩
  have HPr2 : Hid ((0 ≤ p1 ∧ 0 ≤ p2) ∧ p1 + p2 ≤ 12012) := by
    obtain ⟨⟨q1, q2⟩, q3⟩ := HYr.out 7 (by omega)
    unfold Hid
    by_cases h2 : g2 = 0
    · rw [if_pos h2] at hp1 hp2; omega
    · rw [if_neg h2] at hp1 hp2; omega
  rw [← hp1, ← hp2]
  clear hp1 hp2
  obtain ⟨⟨r1, r2⟩, r3⟩ := HPr2.out
  go_upto_region 24 with fail
  go_cut [92] from 85 (fun q wx => (∃ b : Bool, q = .bool b ∧ ((b = true ∧ g2 = 0 ∧ p1 + p2 = 0) ∨ (b = false ∧ (¬ g2 = 0 ∨ ¬ p1 + p2 = 0)))) ∧ wx = w9)
  case first =>
    by_cases h2 : g2 = 0
    · have d2 : (g2 == 0) = true := by simp [h2]
      by_cases hz : p1 + p2 = 0
      · have dz : (p1 + p2 == 0) = true := by simp [hz]
        have HH : Hid (g2 = 0 ∧ p1 + p2 = 0) := ⟨h2, hz⟩
        clear h2 hz
        go_wp2_with fail
        go_meet
        case rel => exact ⟨⟨true, rfl, Or.inl ⟨rfl, HH.out.1, HH.out.2⟩⟩, rfl⟩
      · have dz : (p1 + p2 == 0) = false := by simp [hz]
        have HH : Hid (¬ p1 + p2 = 0) := hz
        clear h2 hz
        go_wp2_with fail
        go_meet
        case rel => exact ⟨⟨false, rfl, Or.inr ⟨rfl, Or.inr HH.out⟩⟩, rfl⟩
    · have d2 : (g2 == 0) = false := by simp [h2]
      have HH : Hid (¬ g2 = 0) := h2
      clear h2
      go_wp2_with fail
      go_meet
      case rel => exact ⟨⟨false, rfl, Or.inr ⟨rfl, Or.inl HH.out⟩⟩, rfl⟩
  case rest =>
  obtain ⟨⟨b, rfl, hb⟩, hwx⟩ := hcut
  have HB : Hid ((b = true ∧ g2 = 0 ∧ p1 + p2 = 0) ∨ (b = false ∧ (¬ g2 = 0 ∨ ¬ p1 + p2 = 0))) := hb
  clear hb
  rw [hwx]
  clear hwx
  go_upto_if 92 with fail
  go_cut [7, 8] from 93 (fun q a wx => q = .int .i64 E3 ∧ a = .int .i64 N3 ∧ wx = w9)
  case first =>
    rcases HQ.out with ⟨h1, h2, h3, h4⟩ | ⟨h1, h2, h3, h4, h5, h6⟩ | ⟨h1, h3, h4⟩
    · obtain rfl : b = true := by
        rcases HB.out with ⟨h, _⟩ | ⟨_, h | h⟩
        · exact h
        · exact absurd h1 h
        · exact absurd h2 h
      have HH : Hid (E3 = 6 ∧ N3 = 0) := ⟨h3, h4⟩
      clear h1 h2 h3 h4 HB HQ
      go_wp2_with fail
      go_meet
      case rel => exact ⟨by rw [HH.out.1], by rw [HH.out.2], rfl⟩
    · obtain rfl : b = false := by
        rcases HB.out with ⟨_, _, h⟩ | ⟨h, _⟩
        · exact absurd h h2
        · exact h
      have HH : Hid (E3 = g2 ∧ N3 = bn) := ⟨by rw [h3, h1], h4⟩
      have d2 : (g2 == 0) = true := by simp [h1]
      have HA : Hid (∀ W, Calls Tryd.prog 20 #[.int .i64 p1, .int .i64 p2] W fun e w' => e = .returned (.int .i64 bn) ∧ w' = W) := by
        unfold Hid
        rw [h5, h6]
        exact HAm.out
      clear h1 h2 h3 h4 h5 h6 HB HQ
      go_wp2_with fail
      go_at_call 20
      refine (HA.out _).mono ?_
      rintro e w10 ⟨rfl, hw10⟩
      obtain rfl := hw10
      go_wp2_with fail
      go_meet
      case rel => exact ⟨by rw [HH.out.1], by rw [HH.out.2], rfl⟩
    · obtain rfl : b = false := by
        rcases HB.out with ⟨_, h, _⟩ | ⟨h, _⟩
        · exact absurd h h1
        · exact h
      have HH : Hid (E3 = g2 ∧ N3 = 0) := ⟨h3, h4⟩
      have d2 : (g2 == 0) = false := by simp [h1]
      clear h1 h3 h4 HB HQ
      go_wp2_with fail
      go_meet
      case rel => exact ⟨by rw [HH.out.1], by rw [HH.out.2], rfl⟩
  case rest =>
  obtain ⟨rfl, rfl, hwx⟩ := hcut
  rw [hwx]
  clear hwx
  have x0 : w9.cell? ⟨w.heap.size, 0, none⟩ = some (.slice ao al acap) := kF9.out.cell 0
  have x1 : w9.cell? ⟨w.heap.size, 1, none⟩ = some (.slice co cl ccap) := kF9.out.cell 1
  go_wp2_with fail
  go_at_call 22
  refine (HAl.out _ B9.out).mono ?_
  rintro e w10 ⟨rfl, hb⟩
  have B10 : Hid (Below w.heap.size w w10) := B9.out.trans (hb.mono B9.out.size)
  clear hb x0 x1
  go_wp2_with fail
  go_at_call 12
  refine (HEr.out E3 _ B10.out).mono ?_
  rintro e w11 ⟨rfl, hb⟩
  have B11 : Hid (Below w.heap.size w w11) := B10.out.trans (hb.mono B10.out.size)
  clear hb
  go_wp2
  go_ret
  exact ⟨rfl, B11.out⟩
end Go.Proofs.YtjaedfjfcghgcaaDoor
