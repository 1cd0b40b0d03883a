/-
  Proved: vennlaw2.WorldsTell returns true where what it calls answers as chapters 4, 6 and 11 say; what was in memory is as it was (the walk that the statement leans on).
-/
import Derived.Test.YtgkgbpbohgklhafDoorLibPC5
import Derived.Test.YtgkgbpbohgklhafDoorLibPD1
import Derived.Test.YtgkgbpbohgklhafDoorLibPC7
import Derived.Deep.CutRange
import Derived.Deep.CutBlock
import Derived.Deep.RegionWith
namespace Go.Proofs.YtgkgbpbohgklhafDoor
open Go.ChangeShapes Go.WideShapes Go.ChangeAt Go.RowKit
set_option maxRecDepth 100000

/-- what the walk asks of the numbers: e of the things, A all worlds, g of the formula and the things, s the worlds in which it holds. -/
structure WorldsN (u e A e0 g s : Int) (q : (Nat → Int) → Bool) : Prop where
  out : ¬ (0 ≤ u ∧ u ≤ 6) → e = 1 ∧ A = 0
  well : 0 ≤ u ∧ u ≤ 6 → e = 0 ∧ A = eightN u.toNat
  form : g = if e0 = 0 then e else e0
  bad : ¬ g = 0 → s = 0
  good : g = 0 → (0 ≤ u ∧ u ≤ 6) ∧ s = sumL q (everyC u.toNat)

set_option maxHeartbeats 16000000 in
theorem worldsTell_in (ao : Option Addr) (al acap : Nat) (co : Option Addr) (cl ccap : Nat) (u wu wa wb wc : Int) (e A e0 g s f k : Int) (q : (Nat → Int) → Bool) (M : Nat → Int) (w : World)
    (HN : Hid (WorldsN u e A e0 g s q)) (HK : Hid (¬ f = 0 → k = 0))
    (HAll : Hid (∀ W, Below w.heap.size w W → Calls Tryd.prog 6 #[.int .i64 u] W fun x w' => x = .returned (.tuple #[.int .i64 A, errV e]) ∧ Below W.heap.size W w'))
    (HLi : Hid (∀ W, Below w.heap.size w W → Calls Tryd.prog 11 #[.agg #[.int .i64 wu, .int .i64 wa, .int .i64 wb, .int .i64 wc]] W fun x w' => x = .returned (.tuple #[.int .i64 k, errV f]) ∧ Below W.heap.size W w'))
    (HOf : Hid (∀ W, Below w.heap.size w W → Calls Tryd.prog 16 #[.agg #[.slice ao al acap, .slice co cl ccap], .int .i64 u] W fun x w' => x = .returned (.tuple #[.int .i64 s, errV g]) ∧ Below W.heap.size W w'))
    (HEr : Hid (∀ n W, Below w.heap.size w W → Calls Tryd.prog 7 #[errV n, .int .i64 n] W fun x w' => x = .returned (.bool true) ∧ Below W.heap.size W w'))
    (HWo : Hid (∀ W, Below w.heap.size w W → Calls Tryd.prog 8 #[.agg #[.int .i64 wu, .int .i64 wa, .int .i64 wb, .int .i64 wc]] W fun x w' => x = .returned (.int .i64 f) ∧ Below W.heap.size W w'))
    (HFd : Hid (f = 0 → ∀ W, Below w.heap.size w W → Calls Tryd.prog 10 #[.agg #[.int .i64 wu, .int .i64 wa, .int .i64 wb, .int .i64 wc]] W fun x w' => x = .returned (.agg #[.int .i64 (M 0), .int .i64 (M 1), .int .i64 (M 2), .int .i64 (M 3), .int .i64 (M 4), .int .i64 (M 5), .int .i64 (M 6), .int .i64 (M 7)]) ∧ Below W.heap.size W w'))
    (HWy : Hid (f = 0 → ∀ W, Calls Tryd.prog 9 #[.agg #[.int .i64 (M 0), .int .i64 (M 1), .int .i64 (M 2), .int .i64 (M 3), .int .i64 (M 4), .int .i64 (M 5), .int .i64 (M 6), .int .i64 (M 7)]] W fun x w' => x = .returned (.int .i64 k) ∧ Below W.heap.size W w'))
    (HFm : Hid (∀ W, Below w.heap.size w W → Calls Tryd.prog 12 #[.agg #[.slice ao al acap, .slice co cl ccap]] W fun x w' => x = .returned (.int .i64 e0) ∧ Below W.heap.size W w'))
    (HEv : Hid (g = 0 → ∀ W, Calls Tryd.prog 13 #[.int .i64 u] W fun x w' => (∃ bE oE ecap, x = .returned (.slice (some ⟨bE, oE, none⟩) (everyC u.toNat).length ecap) ∧ bE < w'.heap.size ∧ ∀ i N, (everyC u.toNat)[i]? = some N → CntAt w' bE (oE + i * 8) N) ∧ Below W.heap.size W w'))
    (HIs : Hid (g = 0 → ∀ N ∈ everyC u.toNat, ∃ D : Wd, (∀ W, Calls Tryd.prog 15 #[.agg #[.int .i64 (N 0), .int .i64 (N 1), .int .i64 (N 2), .int .i64 (N 3), .int .i64 (N 4), .int .i64 (N 5), .int .i64 (N 6), .int .i64 (N 7)]] W fun x w' => x = .returned (.agg #[.int .i64 D.u, .int .i64 D.a, .int .i64 D.b, .int .i64 D.c]) ∧ Below W.heap.size W w') ∧
      (∀ W, Below w.heap.size w W → Calls Tryd.prog 14 #[.agg #[.slice ao al acap, .slice co cl ccap], .agg #[.int .i64 D.u, .int .i64 D.a, .int .i64 D.b, .int .i64 D.c]] W fun x w' => x = .returned (.bool (q N)) ∧ Below W.heap.size W w') ∧
      (∀ W, Calls Tryd.prog 9 #[.agg #[.int .i64 (N 0), .int .i64 (N 1), .int .i64 (N 2), .int .i64 (N 3), .int .i64 (N 4), .int .i64 (N 5), .int .i64 (N 6), .int .i64 (N 7)]] W fun x w' => x = .returned (.int .i64 (likeN N)) ∧ Below W.heap.size W w'))) :
    Calls Tryd.prog 3 #[.agg #[.slice ao al acap, .slice co cl ccap], .int .i64 u, .agg #[.int .i64 wu, .int .i64 wa, .int .i64 wb, .int .i64 wc]] w fun x w' => x = .returned (.bool true) ∧ Below w.heap.size w w' := by
  obtain ⟨w1, hw1⟩ : ∃ w1, w1 = (w.alloc (.cells #[.slice ao al acap, .slice co cl ccap] 25)).alloc (.cells #[.int .i64 wu, .int .i64 wa, .int .i64 wb, .int .i64 wc] 28) := ⟨_, rfl⟩
  have HB1 : Hid (Below w.heap.size w w1) := by unfold Hid; rw [hw1]; exact (below_alloc1 _ _).alloc (by simp) _
  have HP1 : Hid (Blk w1 w.heap.size 25 #[.slice ao al acap, .slice co cl ccap]) := by unfold Hid; rw [hw1]; exact (Blk.new _ _ _).old _
  have HQ1 : Hid (Blk w1 (w.heap.size + 1) 28 #[.int .i64 wu, .int .i64 wa, .int .i64 wb, .int .i64 wc]) := by
    unfold Hid; rw [hw1]
    have := Blk.new (w.alloc (.cells #[.slice ao al acap, .slice co cl ccap] 25)) 28 #[.int .i64 wu, .int .i64 wa, .int .i64 wb, .int .i64 wc]
    simp only [World.size_alloc] at this
    exact this
  go_enter Tryd.func3, Tryd.ntmps3
  go_upto_region 3 with fail
  rw [← hw1]
  clear hw1
  go_cut [26] from 21 (fun x wx => (∃ b : Bool, x = .bool b ∧ ((b = true ∧ ¬ (0 ≤ u ∧ u ≤ 6)) ∨ (b = false ∧ (0 ≤ u ∧ u ≤ 6)))) ∧ wx = w1)
  case first =>
    by_cases h0 : u < 0
    · go_wp2_with fail
      go_meet
      case rel => exact ⟨⟨true, rfl, Or.inl ⟨rfl, by omega⟩⟩, rfl⟩
    · by_cases h6 : 6 < u
      · go_wp2_with fail
        go_meet
        case rel => exact ⟨⟨true, rfl, Or.inl ⟨rfl, by omega⟩⟩, rfl⟩
      · go_wp2_with fail
        go_meet
        case rel => exact ⟨⟨false, rfl, Or.inr ⟨rfl, by omega⟩⟩, rfl⟩
  case rest =>
    obtain ⟨⟨b, rfl, hb⟩, rfl⟩ := hcut
    have HU : Hid ((b = true ∧ ¬ (0 ≤ u ∧ u ≤ 6)) ∨ (b = false ∧ (0 ≤ u ∧ u ≤ 6))) := hb
    clear hb
    go_upto_if 26 with fail
    go_cut [7, 8] from 21 (fun x y wx => ((x = .int .i64 1 ∧ y = .int .i64 0 ∧ ¬ (0 ≤ u ∧ u ≤ 6)) ∨ (x = .int .i64 0 ∧ y = .int .i64 1 ∧ (0 ≤ u ∧ u ≤ 6))) ∧ wx = wc)
    case first =>
      rcases HU.out with ⟨rfl, h⟩ | ⟨rfl, h⟩
      · have H : Hid (¬ (0 ≤ u ∧ u ≤ 6)) := h
        clear h HU
        go_wp2_with fail
        go_meet
        case rel => exact ⟨Or.inl ⟨rfl, rfl, H.out⟩, rfl⟩
      · have H : Hid (0 ≤ u ∧ u ≤ 6) := h
        clear h HU
        go_wp2_with fail
        go_meet
        case rel => exact ⟨Or.inr ⟨rfl, rfl, H.out⟩, rfl⟩
    case rest =>
      obtain ⟨hor, rfl⟩ := hcut
      have HO : Hid ((u7 = .int .i64 1 ∧ u8 = .int .i64 0 ∧ ¬ (0 ≤ u ∧ u ≤ 6)) ∨ (u7 = .int .i64 0 ∧ u8 = .int .i64 1 ∧ (0 ≤ u ∧ u ≤ 6))) := hor
      clear hor HU
      obtain ⟨w2, hw2⟩ : ∃ x, x = wc := ⟨_, rfl⟩
      subst hw2
      go_upto_block 0 with fail
      go_cut [7, 8, 9] from 21 (fun x y _ wx => x = .int .i64 e ∧ y = .int .i64 A ∧ wx = w2)
      case first =>
        rcases HO.out with ⟨rfl, rfl, hu⟩ | ⟨rfl, rfl, hu⟩
        · obtain ⟨he, hA⟩ := HN.out.out hu
          have HE : Hid (e = 1 ∧ A = 0) := ⟨he, hA⟩
          clear he hA HO
          go_wp2_with fail
          go_loop [8, 9] (fun y i => y = .int .i64 0 ∧ i = .int .i64 0) (fun _ _ => 0)
          case atStart => exact ⟨rfl, rfl⟩
          case round =>
            obtain ⟨rfl, rfl⟩ := hrel
            by_cases h0 : 0 < u
            · go_wp2_with fail
              go_meet
              case rel => exact ⟨by rw [HE.out.1], by rw [HE.out.2], rfl⟩
            · go_wp2_with fail
              go_meet
              case rel => exact ⟨by rw [HE.out.1], by rw [HE.out.2], rfl⟩
        · obtain ⟨he, hA⟩ := HN.out.well hu
          obtain ⟨n, rfl⟩ := Int.eq_ofNat_of_zero_le hu.1
          have HE : Hid (e = 0 ∧ A = eightN n) := ⟨he, by rw [hA]; rfl⟩
          have hn : n ≤ 6 := by omega
          clear he hA HO hu
          go_wp2_with fail
          go_loop [8, 9] (fun y i => ∃ k : Nat, k ≤ n ∧ i = .int .i64 k ∧ y = .int .i64 (eightN k)) (fun _ i => n - (intOf i).toNat)
          case atStart => exact ⟨0, Nat.zero_le _, rfl, rfl⟩
          case round =>
            obtain ⟨k, hk, rfl, rfl⟩ := hrel
            by_cases hlt : k < n
            · have h1 := eight_le (k + 1) (by omega)
              have h2 := eight_pos (k + 1)
              have HS : Hid (eightN (k + 1) = eightN k * 8) := rfl
              rw [HS.out] at h1 h2
              have hl : (k : Int) < (n : Int) := by omega
              go_wp2
              go_round
              case rel => exact ⟨k + 1, by omega, by go_num, by rw [HS.out]⟩
              case measure => simp [intOf]; omega
            · obtain rfl : k = n := by omega
              go_wp2_with fail
              go_meet
              case rel => exact ⟨by rw [HE.out.1], by rw [HE.out.2], rfl⟩
      case rest =>
        obtain ⟨rfl, rfl, rfl⟩ := hcut
        clear HO
        obtain ⟨w3, hw3⟩ : ∃ x, x = wc := ⟨_, rfl⟩
        subst hw3
        go_wp2_with fail
        go_at_call 6
        refine (HAll.out _ HB1.out).mono ?_
        rintro x w4 ⟨rfl, hb⟩
        have HB4 : Hid (Below w.heap.size w w4) := HB1.out.trans (hb.mono HB1.out.size)
        have HP4 : Hid (Blk w4 w.heap.size 25 #[.slice ao al acap, .slice co cl ccap]) := HP1.out.below hb
        have HQ4 : Hid (Blk w4 (w.heap.size + 1) 28 #[.int .i64 wu, .int .i64 wa, .int .i64 wb, .int .i64 wc]) := HQ1.out.below hb
        clear hb
        go_wp2_with fail
        go_at_call 7
        refine (HEr.out e _ HB4.out).mono ?_
        rintro x w5 ⟨rfl, hb⟩
        have HB5 : Hid (Below w.heap.size w w5) := HB4.out.trans (hb.mono HB4.out.size)
        have HP5 : Hid (Blk w5 w.heap.size 25 #[.slice ao al acap, .slice co cl ccap]) := HP4.out.below hb
        have HQ5 : Hid (Blk w5 (w.heap.size + 1) 28 #[.int .i64 wu, .int .i64 wa, .int .i64 wb, .int .i64 wc]) := HQ4.out.below hb
        clear hb
        have y0 : w5.cell? ⟨w.heap.size + 1, 0, none⟩ = some (.int .i64 wu) := HQ5.out.cell 0
        have y1 : w5.cell? ⟨w.heap.size + 1, 1, none⟩ = some (.int .i64 wa) := HQ5.out.cell 1
        have y2 : w5.cell? ⟨w.heap.size + 1, 2, none⟩ = some (.int .i64 wb) := HQ5.out.cell 2
        have y3 : w5.cell? ⟨w.heap.size + 1, 3, none⟩ = some (.int .i64 wc) := HQ5.out.cell 3
        go_wp2_with fail
        go_at_call 8
        refine (HWo.out _ HB5.out).mono ?_
        rintro x w6 ⟨rfl, hb⟩
        have HB6 : Hid (Below w.heap.size w w6) := HB5.out.trans (hb.mono HB5.out.size)
        have HP6 : Hid (Blk w6 w.heap.size 25 #[.slice ao al acap, .slice co cl ccap]) := HP5.out.below hb
        have HQ6 : Hid (Blk w6 (w.heap.size + 1) 28 #[.int .i64 wu, .int .i64 wa, .int .i64 wb, .int .i64 wc]) := HQ5.out.below hb
        clear hb y0 y1 y2 y3
        go_upto_if 54 with fail
        go_cut [13, 14] from 21 (fun x y wx => x = .int .i64 f ∧ y = .int .i64 k ∧ Below w6.heap.size w6 wx)
        case first =>
          by_cases hf : f = 0
          · have HF : Hid (f = 0) := hf
            clear hf
            rw [HF.out]
            have y0 : w6.cell? ⟨w.heap.size + 1, 0, none⟩ = some (.int .i64 wu) := HQ6.out.cell 0
            have y1 : w6.cell? ⟨w.heap.size + 1, 1, none⟩ = some (.int .i64 wa) := HQ6.out.cell 1
            have y2 : w6.cell? ⟨w.heap.size + 1, 2, none⟩ = some (.int .i64 wb) := HQ6.out.cell 2
            have y3 : w6.cell? ⟨w.heap.size + 1, 3, none⟩ = some (.int .i64 wc) := HQ6.out.cell 3
            go_wp2_with fail
            go_at_call 10
            refine (HFd.out HF.out _ HB6.out).mono ?_
            rintro x w7 ⟨rfl, hb⟩
            have HB7 : Hid (Below w6.heap.size w6 w7) := hb
            clear hb y0 y1 y2 y3
            go_wp2_with fail
            go_at_call 9
            refine (HWy.out HF.out _).mono ?_
            rintro x w8 ⟨rfl, hb⟩
            have HB8 : Hid (Below w6.heap.size w6 w8) := HB7.out.trans (hb.mono HB7.out.size)
            clear hb
            go_wp2_with fail
            go_meet
            case rel => exact ⟨by rw [HF.out], rfl, HB8.out⟩
          · have HZ : Hid (k = 0) := HK.out hf
            have d0 : (f == 0) = false := by simp [hf]
            clear hf
            go_wp2_with fail
            go_meet
            case rel => exact ⟨rfl, by rw [HZ.out], Below.refl _ _⟩
        case rest =>
          obtain ⟨rfl, rfl, hbc⟩ := hcut
          obtain ⟨w7, hw7⟩ : ∃ x, x = wc := ⟨_, rfl⟩
          subst hw7
          have HB7 : Hid (Below w.heap.size w w7) := HB6.out.trans (hbc.mono HB6.out.size)
          have HP7 : Hid (Blk w7 w.heap.size 25 #[.slice ao al acap, .slice co cl ccap]) := HP6.out.below hbc
          have HQ7 : Hid (Blk w7 (w.heap.size + 1) 28 #[.int .i64 wu, .int .i64 wa, .int .i64 wb, .int .i64 wc]) := HQ6.out.below hbc
          clear hbc
          have y0 : w7.cell? ⟨w.heap.size + 1, 0, none⟩ = some (.int .i64 wu) := HQ7.out.cell 0
          have y1 : w7.cell? ⟨w.heap.size + 1, 1, none⟩ = some (.int .i64 wa) := HQ7.out.cell 1
          have y2 : w7.cell? ⟨w.heap.size + 1, 2, none⟩ = some (.int .i64 wb) := HQ7.out.cell 2
          have y3 : w7.cell? ⟨w.heap.size + 1, 3, none⟩ = some (.int .i64 wc) := HQ7.out.cell 3
          go_wp2_with fail
          go_at_call 11
          refine (HLi.out _ HB7.out).mono ?_
          rintro x w8 ⟨rfl, hb⟩
          have HB8 : Hid (Below w.heap.size w w8) := HB7.out.trans (hb.mono HB7.out.size)
          have HP8 : Hid (Blk w8 w.heap.size 25 #[.slice ao al acap, .slice co cl ccap]) := HP7.out.below hb
          clear hb y0 y1 y2 y3
          go_wp2_with fail
          go_at_call 7
          refine (HEr.out f _ HB8.out).mono ?_
          rintro x w9 ⟨rfl, hb⟩
          have HB9 : Hid (Below w.heap.size w w9) := HB8.out.trans (hb.mono HB8.out.size)
          have HP9 : Hid (Blk w9 w.heap.size 25 #[.slice ao al acap, .slice co cl ccap]) := HP8.out.below hb
          clear hb
          have x0 : w9.cell? ⟨w.heap.size, 0, none⟩ = some (.slice ao al acap) := HP9.out.cell 0
          have x1 : w9.cell? ⟨w.heap.size, 1, none⟩ = some (.slice co cl ccap) := HP9.out.cell 1
          go_wp2_with fail
          go_at_call 12
          refine (HFm.out _ HB9.out).mono ?_
          rintro x wa' ⟨rfl, hb⟩
          have HBa : Hid (Below w.heap.size w wa') := HB9.out.trans (hb.mono HB9.out.size)
          have HPa : Hid (Blk wa' w.heap.size 25 #[.slice ao al acap, .slice co cl ccap]) := HP9.out.below hb
          clear hb x0 x1
          go_upto_if 74 with fail
          go_cut [7, 11, 13] from 21 (fun x _ y wx => x = .int .i64 e ∧ y = .int .i64 g ∧ wx = wa')
          case first =>
            by_cases h0 : e0 = 0
            · have HG : Hid (g = e) := by unfold Hid; rw [HN.out.form, if_pos h0]
              have H0 : Hid (e0 = 0) := h0
              clear h0
              rw [H0.out]
              go_wp2_with fail
              go_meet
              case rel => exact ⟨rfl, by rw [HG.out], rfl⟩
            · have HG : Hid (g = e0) := by unfold Hid; rw [HN.out.form, if_neg h0]
              have d0 : (e0 == 0) = false := by simp [h0]
              clear h0
              go_wp2_with fail
              go_meet
              case rel => exact ⟨rfl, by rw [HG.out], rfl⟩
          case rest =>
            obtain ⟨rfl, rfl, rfl⟩ := hcut
            obtain ⟨wd, hwd⟩ : ∃ x, x = wc := ⟨_, rfl⟩
            subst hwd
            go_upto_if 77 with fail
            go_cut [13, 16, 17, 18, 19] from 21 (fun x y _ _ _ wx => x = .int .i64 g ∧ y = .int .i64 s ∧ Below wd.heap.size wd wx)
            case first =>
              by_cases hg : g = 0
              · have HG : Hid (g = 0) := hg
                clear hg
                rw [HG.out]
                obtain ⟨hu, hs⟩ := HN.out.good HG.out
                obtain ⟨n, rfl⟩ := Int.eq_ofNat_of_zero_le hu.1
                have hn : n ≤ 6 := by omega
                obtain ⟨L, hL⟩ : ∃ L, L = everyC ((n : Int)).toNat := ⟨_, rfl⟩
                rw [← hL] at hs
                have HEv' : Hid (∀ W, Calls Tryd.prog 13 #[.int .i64 n] W fun x w' => (∃ bE oE ecap, x = .returned (.slice (some ⟨bE, oE, none⟩) L.length ecap) ∧ bE < w'.heap.size ∧ ∀ i N, L[i]? = some N → CntAt w' bE (oE + i * 8) N) ∧ Below W.heap.size W w') := by
                  unfold Hid; rw [hL]; exact HEv.out HG.out
                have HS : Hid (s = sumL q L) := hs
                have HSm : Hid (∀ k, 0 ≤ sumL q (L.take k) ∧ sumL q (L.take k) ≤ 262144) := fun k => by
                  have hp : ∀ N ∈ L, 1 ≤ likeN N := fun N hN => by rw [hL, Int.toNat_natCast] at hN; exact like_pos hn hN
                  have h1 := sumL_range (A := L.take k) (fun N hN => hp N (List.mem_of_mem_take hN)) q
                  have h2 := sumL_part (fun N hN => by have := hp N hN; omega) (p := fun _ => true) k
                  have h3 : sumL (fun _ => true) L = eightN n := by rw [hL, Int.toNat_natCast]; exact (like_facts n hn).2
                  have h4 := eight_le n hn
                  omega
                have HLn : Hid (L.length ≤ 1716) := by unfold Hid; rw [hL, Int.toNat_natCast]; exact length_everyC hn
                have HIs' : Hid (∀ N ∈ L, ∃ D : Wd, (∀ W, Calls Tryd.prog 15 #[.agg #[.int .i64 (N 0), .int .i64 (N 1), .int .i64 (N 2), .int .i64 (N 3), .int .i64 (N 4), .int .i64 (N 5), .int .i64 (N 6), .int .i64 (N 7)]] W fun x w' => x = .returned (.agg #[.int .i64 D.u, .int .i64 D.a, .int .i64 D.b, .int .i64 D.c]) ∧ Below W.heap.size W w') ∧
                    (∀ W, Below w.heap.size w W → Calls Tryd.prog 14 #[.agg #[.slice ao al acap, .slice co cl ccap], .agg #[.int .i64 D.u, .int .i64 D.a, .int .i64 D.b, .int .i64 D.c]] W fun x w' => x = .returned (.bool (q N)) ∧ Below W.heap.size W w') ∧
                    (∀ W, Calls Tryd.prog 9 #[.agg #[.int .i64 (N 0), .int .i64 (N 1), .int .i64 (N 2), .int .i64 (N 3), .int .i64 (N 4), .int .i64 (N 5), .int .i64 (N 6), .int .i64 (N 7)]] W fun x w' => x = .returned (.int .i64 (likeN N)) ∧ Below W.heap.size W w')) := by
                  unfold Hid; rw [hL]; exact HIs.out HG.out
                clear hu hs hL
                go_wp2_with fail
                go_at_call 13
                refine (HEv'.out _).mono ?_
                rintro x we ⟨⟨bE, oE, ecap, rfl, hbE, hat⟩, hb⟩
                have HBe : Hid (Below wd.heap.size wd we) := hb
                have HPe : Hid (Blk we w.heap.size 25 #[.slice ao al acap, .slice co cl ccap]) := HPa.out.below hb
                have HBw : Hid (Below w.heap.size w we) := HBa.out.trans (hb.mono HBa.out.size)
                have HbE : Hid (bE < we.heap.size) := hbE
                have HAt : Hid (∀ i N, L[i]? = some N → CntAt we bE (oE + i * 8) N) := hat
                clear hb hbE hat
                have hL63 := HLn.out
                go_wp2
                go_loopw [16, 18, 19] (fun y i _ wr => ∃ j : Nat, j ≤ L.length ∧ i = .int .i64 j ∧ y = .int .i64 (sumL q (L.take j)) ∧ Below we.heap.size we wr) (fun _ i _ _ => L.length - (intOf i).toNat)
                case atStart => exact ⟨0, Nat.zero_le _, rfl, rfl, Below.refl _ _⟩
                case round =>
                  obtain ⟨j, hj, rfl, rfl, hbr⟩ := hrel
                  have HBr : Hid (Below we.heap.size we wr) := hbr
                  have HBwr : Hid (Below w.heap.size w wr) := HBw.out.trans (hbr.mono HBw.out.size)
                  clear hbr
                  by_cases hlt : j < L.length
                  · obtain ⟨N, hN⟩ : ∃ N, L[j]? = some N := ⟨_, List.getElem?_eq_getElem hlt⟩
                    obtain ⟨D, hMd, hTr, hWy⟩ := HIs'.out N (List.mem_of_getElem? hN)
                    have HMd : Hid (∀ W, Calls Tryd.prog 15 #[.agg #[.int .i64 (N 0), .int .i64 (N 1), .int .i64 (N 2), .int .i64 (N 3), .int .i64 (N 4), .int .i64 (N 5), .int .i64 (N 6), .int .i64 (N 7)]] W fun x w' => x = .returned (.agg #[.int .i64 D.u, .int .i64 D.a, .int .i64 D.b, .int .i64 D.c]) ∧ Below W.heap.size W w') := hMd
                    have HWy' : Hid (∀ W, Calls Tryd.prog 9 #[.agg #[.int .i64 (N 0), .int .i64 (N 1), .int .i64 (N 2), .int .i64 (N 3), .int .i64 (N 4), .int .i64 (N 5), .int .i64 (N 6), .int .i64 (N 7)]] W fun x w' => x = .returned (.int .i64 (likeN N)) ∧ Below W.heap.size W w') := hWy
                    have HCt : Hid (CntAt we bE (oE + j * 8) N) := HAt.out j N hN
                    have hbE : bE < wr.heap.size := Nat.lt_of_lt_of_le HbE.out HBr.out.size
                    have hP0 : w.heap.size < wr.heap.size := Nat.lt_of_lt_of_le HPe.out.lt HBr.out.size
                    have x0 : wr.cell? ⟨w.heap.size, 0, none⟩ = some (.slice ao al acap) := (HPe.out.below HBr.out).cell 0
                    have x1 : wr.cell? ⟨w.heap.size, 1, none⟩ = some (.slice co cl ccap) := (HPe.out.below HBr.out).cell 1
                    have y0 : wr.cell? ⟨bE, oE + j * 8, none⟩ = some (.int .i64 (N 0)) := (HBr.out.cell HbE.out).trans (HCt.out 0 (by omega))
                    have y1 : wr.cell? ⟨bE, oE + j * 8 + 1, none⟩ = some (.int .i64 (N 1)) := (HBr.out.cell HbE.out).trans (HCt.out 1 (by omega))
                    have y2 : wr.cell? ⟨bE, oE + j * 8 + 2, none⟩ = some (.int .i64 (N 2)) := (HBr.out.cell HbE.out).trans (HCt.out 2 (by omega))
                    have y3 : wr.cell? ⟨bE, oE + j * 8 + 3, none⟩ = some (.int .i64 (N 3)) := (HBr.out.cell HbE.out).trans (HCt.out 3 (by omega))
                    have y4 : wr.cell? ⟨bE, oE + j * 8 + 4, none⟩ = some (.int .i64 (N 4)) := (HBr.out.cell HbE.out).trans (HCt.out 4 (by omega))
                    have y5 : wr.cell? ⟨bE, oE + j * 8 + 5, none⟩ = some (.int .i64 (N 5)) := (HBr.out.cell HbE.out).trans (HCt.out 5 (by omega))
                    have y6 : wr.cell? ⟨bE, oE + j * 8 + 6, none⟩ = some (.int .i64 (N 6)) := (HBr.out.cell HbE.out).trans (HCt.out 6 (by omega))
                    have y7 : wr.cell? ⟨bE, oE + j * 8 + 7, none⟩ = some (.int .i64 (N 7)) := (HBr.out.cell HbE.out).trans (HCt.out 7 (by omega))
                    have HSt : Hid (sumL q (L.take (j + 1)) = sumL q (L.take j) + if q N = true then likeN N else 0) := sumL_take hN
                    obtain ⟨b, hbq⟩ : ∃ b, b = q N := ⟨_, rfl⟩
                    rw [← hbq] at hTr HSt
                    have HM1 : Hid (∀ W, Below wr.heap.size wr W → Calls Tryd.prog 15 #[.agg #[.int .i64 (N 0), .int .i64 (N 1), .int .i64 (N 2), .int .i64 (N 3), .int .i64 (N 4), .int .i64 (N 5), .int .i64 (N 6), .int .i64 (N 7)]] W fun x w' => x = .returned (.agg #[.int .i64 D.u, .int .i64 D.a, .int .i64 D.b, .int .i64 D.c]) ∧ (w'.cell? ⟨w.heap.size, 0, none⟩ = some (.slice ao al acap) ∧ w'.cell? ⟨w.heap.size, 1, none⟩ = some (.slice co cl ccap)) ∧ Below wr.heap.size wr w') := fun W hW => (hMd W).mono fun x w' ⟨hx, hb⟩ => by
                      have hb' := hW.trans (hb.mono hW.size)
                      exact ⟨hx, ⟨(hb'.cell hP0).trans x0, (hb'.cell hP0).trans x1⟩, hb'⟩
                    have HT1 : Hid (∀ W, Below wr.heap.size wr W → Calls Tryd.prog 14 #[.agg #[.slice ao al acap, .slice co cl ccap], .agg #[.int .i64 D.u, .int .i64 D.a, .int .i64 D.b, .int .i64 D.c]] W fun x w' => x = .returned (.bool b) ∧ Below wr.heap.size wr w') := fun W hW => (hTr W (HBwr.out.trans (hW.mono HBwr.out.size))).mono fun x w' ⟨hx, hb⟩ => ⟨hx, hW.trans (hb.mono hW.size)⟩
                    clear hMd hTr hWy hN hbq
                    go_upto_region 27 with fail
                    go_cut [19] from 80 to 100 (fun x wx => x = .bool b ∧ Below wr.heap.size wr wx)
                    case first =>
                      go_region_with (first
                        | (go_at_call 15; refine (HM1.out _ (Below.drew (Below.refl _ _))).mono ?_; rintro x w7 ⟨rfl, ⟨_, _⟩, hb7⟩)
                        | (go_at_call 14; refine (HT1.out _ (by first | exact hb7 | exact hb7.drew)).mono ?_; rintro x w8 ⟨rfl, hb8⟩))
                      all_goals (try go_wp2_with fail)
                      all_goals go_meet
                      all_goals exact ⟨rfl, hb8⟩
                    case rest =>
                      obtain ⟨rfl, hbc⟩ := hcut
                      obtain ⟨wf, hwf⟩ : ∃ x, x = wc := ⟨_, rfl⟩
                      subst hwf
                      have HBf : Hid (Below we.heap.size we wf) := HBr.out.trans (hbc.mono HBr.out.size)
                      have z0 : wf.cell? ⟨bE, oE + j * 8, none⟩ = some (.int .i64 (N 0)) := (hbc.cell hbE).trans y0
                      have z1 : wf.cell? ⟨bE, oE + j * 8 + 1, none⟩ = some (.int .i64 (N 1)) := (hbc.cell hbE).trans y1
                      have z2 : wf.cell? ⟨bE, oE + j * 8 + 2, none⟩ = some (.int .i64 (N 2)) := (hbc.cell hbE).trans y2
                      have z3 : wf.cell? ⟨bE, oE + j * 8 + 3, none⟩ = some (.int .i64 (N 3)) := (hbc.cell hbE).trans y3
                      have z4 : wf.cell? ⟨bE, oE + j * 8 + 4, none⟩ = some (.int .i64 (N 4)) := (hbc.cell hbE).trans y4
                      have z5 : wf.cell? ⟨bE, oE + j * 8 + 5, none⟩ = some (.int .i64 (N 5)) := (hbc.cell hbE).trans y5
                      have z6 : wf.cell? ⟨bE, oE + j * 8 + 6, none⟩ = some (.int .i64 (N 6)) := (hbc.cell hbE).trans y6
                      have z7 : wf.cell? ⟨bE, oE + j * 8 + 7, none⟩ = some (.int .i64 (N 7)) := (hbc.cell hbE).trans y7
                      clear x0 x1 y0 y1 y2 y3 y4 y5 y6 y7 hbc
                      have hs1 := HSm.out (j + 1)
                      have hs0 := HSm.out j
                      obtain ⟨S, hS⟩ : ∃ S, S = sumL q (L.take j) := ⟨_, rfl⟩
                      rw [← hS] at HSt hs0 ⊢
                      clear hS
                      rw [HSt.out] at hs1
                      cases b with
                      | true =>
                        have HSu : Hid (sumL q (L.take (j + 1)) = S + likeN N) := by unfold Hid; rw [HSt.out, if_pos rfl]
                        rw [if_pos rfl] at hs1
                        clear HSt
                        go_wp2_with fail
                        go_at_call 9
                        refine (HWy'.out _).mono ?_
                        rintro x wg ⟨rfl, hb⟩
                        have HBg : Hid (Below we.heap.size we wg) := HBf.out.trans (hb.mono HBf.out.size)
                        clear hb z0 z1 z2 z3 z4 z5 z6 z7
                        go_wp2
                        go_roundw
                        case rel => exact ⟨j + 1, by omega, by go_num, by rw [HSu.out], HBg.out⟩
                        case measure => simp [intOf]; omega
                      | false =>
                        have HSu : Hid (sumL q (L.take (j + 1)) = S) := by unfold Hid; rw [HSt.out, if_neg (by decide)]; omega
                        clear HSt hs1 z0 z1 z2 z3 z4 z5 z6 z7
                        go_wp2
                        go_roundw
                        case rel => exact ⟨j + 1, by omega, by go_num, by rw [HSu.out], HBf.out⟩
                        case measure => simp [intOf]; omega
                  · obtain rfl : j = L.length := by omega
                    have HSe : Hid (sumL q (L.take L.length) = s) := by unfold Hid; rw [HS.out, List.take_length]
                    rw [HSe.out]
                    go_wp2_with fail
                    go_meet
                    case rel => exact ⟨by rw [HG.out], rfl, HBe.out.trans (HBr.out.mono HBe.out.size)⟩
              · have HZ : Hid (s = 0) := HN.out.bad hg
                have d0 : (g == 0) = false := by simp [hg]
                clear hg
                go_wp2_with fail
                go_meet
                case rel => exact ⟨rfl, by rw [HZ.out], Below.refl _ _⟩
            case rest =>
              obtain ⟨rfl, rfl, hbc⟩ := hcut
              obtain ⟨we, hwe⟩ : ∃ x, x = wc := ⟨_, rfl⟩
              subst hwe
              have HBe : Hid (Below w.heap.size w we) := HBa.out.trans (hbc.mono HBa.out.size)
              have HPe : Hid (Blk we w.heap.size 25 #[.slice ao al acap, .slice co cl ccap]) := HPa.out.below hbc
              clear hbc
              have x0 : we.cell? ⟨w.heap.size, 0, none⟩ = some (.slice ao al acap) := HPe.out.cell 0
              have x1 : we.cell? ⟨w.heap.size, 1, none⟩ = some (.slice co cl ccap) := HPe.out.cell 1
              go_wp2_with fail
              go_at_call 16
              refine (HOf.out _ HBe.out).mono ?_
              rintro x wf ⟨rfl, hb⟩
              have HBf : Hid (Below w.heap.size w wf) := HBe.out.trans (hb.mono HBe.out.size)
              clear hb x0 x1
              go_wp2_with fail
              go_at_call 7
              refine (HEr.out g _ HBf.out).mono ?_
              rintro x wg ⟨rfl, hb⟩
              have HBg : Hid (Below w.heap.size w wg) := HBf.out.trans (hb.mono HBf.out.size)
              clear hb
              go_wp2
              go_ret
              exact ⟨rfl, HBg.out⟩
end Go.Proofs.YtgkgbpbohgklhafDoor
