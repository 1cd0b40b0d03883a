/-
  Proved: vennlaw2.WorldsAll returns true where what it calls answers as chapters 4, 9 and 11 say; what was in memory is as it was (the walk that the statement leans on).
-/
import Derived.Test.YtgkgbpbohgklhafGreatDoorLibWB1
import Derived.Test.YtgkgbpbohgklhafGreatDoorLibPB23
import Derived.Test.YtgkgbpbohgklhafGreatDoorLibPB13
import Derived.Deep.CutRange
namespace Go.Proofs.YtgkgbpbohgklhafGreatDoor
open Go.ChangeShapes Go.WideShapes Go.ChangeAt Go.RowKit
set_option maxRecDepth 100000

set_option maxHeartbeats 16000000 in
theorem worldsAll_in (ao : Option Addr) (al acap : Nat) (co : Option Addr) (cl ccap : Nat) (u wu wa wb wc : Int) (g n A m k mf wf hf : Int) (b : Bool) (w : World)
    (HAll : Hid (∀ W, Below w.heap.size w W → Calls Tryz.prog 10 #[.int .i64 u] W fun x w' => x = .returned (.tuple #[.int .i64 A, errV 0]) ∧ Below W.heap.size W w') ∨ ¬ g = 0)
    (HAl2 : Hid (∀ W, Below w.heap.size w W → Calls Tryz.prog 10 #[.int .i64 2] W fun x w' => x = .returned (.tuple #[.int .i64 64, .nilIface]) ∧ Below W.heap.size W w'))
    (HLi2 : Hid (∀ W, Below w.heap.size w W → Calls Tryz.prog 11 #[.agg #[.int .i64 2, .int .i64 1, .int .i64 0, .int .i64 0]] W fun x w' => x = .returned (.tuple #[.int .i64 2, .nilIface]) ∧ Below W.heap.size W w'))
    (HOf : Hid (∀ W, Below w.heap.size w W → Calls Tryz.prog 12 #[.agg #[.slice ao al acap, .slice co cl ccap], .int .i64 u] W fun x w' => x = .returned (.tuple #[.int .i64 n, errV g]) ∧ Below W.heap.size W w'))
    (HNe : Hid (∀ W, Below w.heap.size w W → Calls Tryz.prog 13 #[.agg #[.slice ao al acap, .slice co cl ccap]] W fun x w' => ((∃ o1 l1 q1 o2 l2 q2, x = .returned (.tuple #[.agg #[.slice o1 l1 q1, .slice o2 l2 q2], .nilIface]) ∧ n + m = A ∧ ∀ W', Below w'.heap.size w' W' → Calls Tryz.prog 12 #[.agg #[.slice o1 l1 q1, .slice o2 l2 q2], .int .i64 u] W' fun y w'' => y = .returned (.tuple #[.int .i64 m, .nilIface]) ∧ Below W'.heap.size W' w'') ∨ (∃ j, x = .returned (.tuple #[.agg #[.slice none 0 0, .slice none 0 0], .iface 61 (.int .i64 j)]))) ∧ Below W.heap.size W w') ∨ ¬ g = 0)
    (HMo : Hid (∀ W, Below w.heap.size w W → Calls Tryz.prog 14 #[.agg #[.slice ao al acap, .slice co cl ccap], .int .i64 u] W fun x w' => (∃ D : Wd, x = .returned (.tuple #[.agg #[.int .i64 D.u, .int .i64 D.a, .int .i64 D.b, .int .i64 D.c], errV mf])) ∧ Below W.heap.size W w'))
    (HEr : Hid (∀ W, Below w.heap.size w W → Calls Tryz.prog 8 #[errV mf, .int .i64 5] W fun x w' => x = .returned (.bool (mf == 5)) ∧ Below W.heap.size W w'))
    (HLi : Hid (∀ W, Below w.heap.size w W → Calls Tryz.prog 11 #[.agg #[.int .i64 wu, .int .i64 wa, .int .i64 wb, .int .i64 wc]] W fun x w' => x = .returned (.tuple #[.int .i64 k, errV wf]) ∧ Below W.heap.size W w'))
    (HHo : Hid (∀ W, Below w.heap.size w W → Calls Tryz.prog 15 #[.agg #[.slice ao al acap, .slice co cl ccap], .agg #[.int .i64 wu, .int .i64 wa, .int .i64 wb, .int .i64 wc]] W fun x w' => x = .returned (.tuple #[.bool b, errV hf]) ∧ Below W.heap.size W w'))
    (HR : Hid (g = 0 → 0 ≤ n ∧ n ≤ A ∧ A ≤ 262144 ∧ (mf = 0 → ¬ n = 0) ∧ (mf = 5 → n = 0)))
    (HF : Hid (g = 0 → wf = 0 → hf = 0 → wu = u → 1 ≤ k ∧ k ≤ A ∧ (b = true → k ≤ n) ∧ (b = false → k ≤ A - n))) :
    Calls Tryz.prog 4 #[.agg #[.slice ao al acap, .slice co cl ccap], .int .i64 u, .agg #[.int .i64 wu, .int .i64 wa, .int .i64 wb, .int .i64 wc]] w fun x w' => x = .returned (.bool true) ∧ Below w.heap.size w w' := by
  obtain ⟨w1, hw1⟩ : ∃ w1, w1 = (w.alloc (.cells #[.slice ao al acap, .slice co cl ccap] 29)).alloc (.cells #[.int .i64 wu, .int .i64 wa, .int .i64 wb, .int .i64 wc] 37) := ⟨_, rfl⟩
  have HB1 : Hid (Below w.heap.size w w1) := by unfold Hid; rw [hw1]; exact (below_alloc1 _ _).alloc (by simp) _
  have HP1 : Hid (Blk w1 w.heap.size 29 #[.slice ao al acap, .slice co cl ccap]) := by unfold Hid; rw [hw1]; exact (Blk.new _ _ _).old _
  have HQ1 : Hid (Blk w1 (w.heap.size + 1) 37 #[.int .i64 wu, .int .i64 wa, .int .i64 wb, .int .i64 wc]) := by
    unfold Hid; rw [hw1]
    have := Blk.new (w.alloc (.cells #[.slice ao al acap, .slice co cl ccap] 29)) 37 #[.int .i64 wu, .int .i64 wa, .int .i64 wb, .int .i64 wc]
    simp only [World.size_alloc] at this
    exact this
  have HAll' : Hid _ := HAll
  have HNe' : Hid _ := HNe
  clear HAll HNe
  go_enter Tryz.func4, Tryz.ntmps4
  go_wp2_with fail
  rw [← hw1]
  clear hw1
  go_at_call 10
  refine (HAl2.out _ HB1.out).mono ?_
  rintro x w2 ⟨rfl, hb⟩
  have HB2 : Hid (Below w.heap.size w w2) := HB1.out.trans (hb.mono HB1.out.size)
  have HP2 : Hid (Blk w2 w.heap.size 29 #[.slice ao al acap, .slice co cl ccap]) := HP1.out.below hb
  have HQ2 : Hid (Blk w2 (w.heap.size + 1) 37 #[.int .i64 wu, .int .i64 wa, .int .i64 wb, .int .i64 wc]) := HQ1.out.below hb
  clear hb
  go_wp2_with fail
  go_at_call 11
  refine (HLi2.out _ HB2.out).mono ?_
  rintro x w3 ⟨rfl, hb⟩
  have HB3 : Hid (Below w.heap.size w w3) := HB2.out.trans (hb.mono HB2.out.size)
  have HP3 : Hid (Blk w3 w.heap.size 29 #[.slice ao al acap, .slice co cl ccap]) := HP2.out.below hb
  have HQ3 : Hid (Blk w3 (w.heap.size + 1) 37 #[.int .i64 wu, .int .i64 wa, .int .i64 wb, .int .i64 wc]) := HQ2.out.below hb
  clear hb
  have x0 : w3.cell? ⟨w.heap.size, 0, none⟩ = some (.slice ao al acap) := HP3.out.cell 0
  have x1 : w3.cell? ⟨w.heap.size, 1, none⟩ = some (.slice co cl ccap) := HP3.out.cell 1
  go_wp2_with fail
  go_at_call 12
  refine (HOf.out _ HB3.out).mono ?_
  rintro x w4 ⟨rfl, hb⟩
  have HB4 : Hid (Below w.heap.size w w4) := HB3.out.trans (hb.mono HB3.out.size)
  have HP4 : Hid (Blk w4 w.heap.size 29 #[.slice ao al acap, .slice co cl ccap]) := HP3.out.below hb
  have HQ4 : Hid (Blk w4 (w.heap.size + 1) 37 #[.int .i64 wu, .int .i64 wa, .int .i64 wb, .int .i64 wc]) := HQ3.out.below hb
  clear hb x0 x1
  by_cases hg : g = 0
  · have HAll2 : Hid (∀ W, Below w.heap.size w W → Calls Tryz.prog 10 #[.int .i64 u] W fun x w' => x = .returned (.tuple #[.int .i64 A, .nilIface]) ∧ Below W.heap.size W w') := by
      rcases HAll'.out with h | h
      · exact h
      · exact absurd hg h
    have HNe2 : Hid (∀ W, Below w.heap.size w W → Calls Tryz.prog 13 #[.agg #[.slice ao al acap, .slice co cl ccap]] W fun x w' => ((∃ o1 l1 q1 o2 l2 q2, x = .returned (.tuple #[.agg #[.slice o1 l1 q1, .slice o2 l2 q2], .nilIface]) ∧ n + m = A ∧ ∀ W', Below w'.heap.size w' W' → Calls Tryz.prog 12 #[.agg #[.slice o1 l1 q1, .slice o2 l2 q2], .int .i64 u] W' fun y w'' => y = .returned (.tuple #[.int .i64 m, .nilIface]) ∧ Below W'.heap.size W' w'') ∨ (∃ j, x = .returned (.tuple #[.agg #[.slice none 0 0, .slice none 0 0], .iface 61 (.int .i64 j)]))) ∧ Below W.heap.size W w') := by
      rcases HNe'.out with h | h
      · exact h
      · exact absurd hg h
    obtain ⟨hn0, hnA, hA6, hm0, hm5⟩ := HR.out hg
    have HM0 : Hid (mf = 0 → ¬ n = 0) := hm0
    have HM5 : Hid (mf = 5 → n = 0) := hm5
    have HF' : Hid (wf = 0 → hf = 0 → wu = u → 1 ≤ k ∧ k ≤ A ∧ (b = true → k ≤ n) ∧ (b = false → k ≤ A - n)) := HF.out hg
    have ez : errV g = .nilIface := by rw [hg]; rfl
    rw [ez]
    clear hm0 hm5 HR HF HAll' HNe' hg ez
    go_wp2_with fail
    go_at_call 10
    refine (HAll2.out _ HB4.out).mono ?_
    rintro x w5 ⟨rfl, hb⟩
    have HB5 : Hid (Below w.heap.size w w5) := HB4.out.trans (hb.mono HB4.out.size)
    have HP5 : Hid (Blk w5 w.heap.size 29 #[.slice ao al acap, .slice co cl ccap]) := HP4.out.below hb
    have HQ5 : Hid (Blk w5 (w.heap.size + 1) 37 #[.int .i64 wu, .int .i64 wa, .int .i64 wb, .int .i64 wc]) := HQ4.out.below hb
    clear hb
    have x0 : w5.cell? ⟨w.heap.size, 0, none⟩ = some (.slice ao al acap) := HP5.out.cell 0
    have x1 : w5.cell? ⟨w.heap.size, 1, none⟩ = some (.slice co cl ccap) := HP5.out.cell 1
    go_wp2_with fail
    go_at_call 13
    refine (HNe2.out _ HB5.out).mono ?_
    rintro x w6 ⟨hor, hb⟩
    have HB6 : Hid (Below w.heap.size w w6) := HB5.out.trans (hb.mono HB5.out.size)
    have HP6 : Hid (Blk w6 w.heap.size 29 #[.slice ao al acap, .slice co cl ccap]) := HP5.out.below hb
    have HQ6 : Hid (Blk w6 (w.heap.size + 1) 37 #[.int .i64 wu, .int .i64 wa, .int .i64 wb, .int .i64 wc]) := HQ5.out.below hb
    clear hb x0 x1
    obtain ⟨go, gl, gq, o2, l2, q2, E, rfl, hEN⟩ : ∃ go gl gq o2 l2 q2 E, x = .returned (.tuple #[.agg #[.slice go gl gq, .slice o2 l2 q2], E]) ∧ ((E = .nilIface ∧ n + m = A ∧ ∀ W', Below w6.heap.size w6 W' → Calls Tryz.prog 12 #[.agg #[.slice go gl gq, .slice o2 l2 q2], .int .i64 u] W' fun y w'' => y = .returned (.tuple #[.int .i64 m, .nilIface]) ∧ Below W'.heap.size W' w'') ∨ ∃ j, E = .iface 61 (.int .i64 j)) := by
      rcases hor with ⟨o1, l1, q1, o2, l2, q2, rfl, h1, h2⟩ | ⟨j, rfl⟩
      · exact ⟨o1, l1, q1, o2, l2, q2, _, rfl, Or.inl ⟨rfl, h1, h2⟩⟩
      · exact ⟨none, 0, 0, none, 0, 0, _, rfl, Or.inr ⟨j, rfl⟩⟩
    have HEN : Hid _ := hEN
    clear hor hEN
    obtain ⟨w7, hw7⟩ : ∃ w7, w7 = w6.alloc (.cells #[.slice go gl gq, .slice o2 l2 q2] 29) := ⟨_, rfl⟩
    have HB7 : Hid (Below w.heap.size w w7) := by unfold Hid; rw [hw7]; exact HB6.out.alloc HB6.out.size _
    have HB67 : Hid (Below w6.heap.size w6 w7) := by unfold Hid; rw [hw7]; exact below_alloc1 _ _
    have HP7 : Hid (Blk w7 w.heap.size 29 #[.slice ao al acap, .slice co cl ccap]) := by unfold Hid; rw [hw7]; exact HP6.out.old _
    have HQ7 : Hid (Blk w7 (w.heap.size + 1) 37 #[.int .i64 wu, .int .i64 wa, .int .i64 wb, .int .i64 wc]) := by unfold Hid; rw [hw7]; exact HQ6.out.old _
    have HG7 : Hid (Blk w7 w6.heap.size 29 #[.slice go gl gq, .slice o2 l2 q2]) := by unfold Hid; rw [hw7]; exact Blk.new _ _ _
    go_upto_region 12 with fail
    rw [← hw7]
    clear hw7
    go_cut [12, 74] from 20 (fun e x wx => e = E ∧ (∃ t : Bool, x = .bool t ∧ ((t = true ∧ E = .nilIface) ∨ t = false)) ∧ wx = w7)
    case first =>
      rcases HEN.out with ⟨hE, _⟩ | ⟨j, hE⟩
      · have H : Hid (E = .nilIface) := hE
        clear hE
        rw [H.out]
        go_wp2_with fail
        go_meet
        case rel => exact ⟨H.out.symm, ⟨true, rfl, Or.inl ⟨rfl, H.out⟩⟩, rfl⟩
      · have H : Hid (E = .iface 61 (.int .i64 j)) := hE
        clear hE
        rw [H.out]
        go_wp2_with fail
        go_meet
        case rel => exact ⟨H.out.symm, ⟨false, rfl, Or.inr rfl⟩, rfl⟩
    case rest =>
      obtain ⟨rfl, ⟨t, rfl, ht⟩, rfl⟩ := hcut
      have HT : Hid ((t = true ∧ u12 = .nilIface) ∨ t = false) := ht
      clear ht
      obtain ⟨w8, hw8⟩ : ∃ x, x = wc := ⟨_, rfl⟩
      subst hw8
      go_upto_if 74 with fail
      go_cut [16, 17] from 20 (fun _ _ wx => Below w8.heap.size w8 wx)
      case first =>
        rcases HT.out with ⟨rfl, hE⟩ | rfl
        · obtain ⟨hnm, hO⟩ : n + m = A ∧ ∀ W', Below w6.heap.size w6 W' → Calls Tryz.prog 12 #[.agg #[.slice go gl gq, .slice o2 l2 q2], .int .i64 u] W' fun y w'' => y = .returned (.tuple #[.int .i64 m, .nilIface]) ∧ Below W'.heap.size W' w'' := by
            rcases HEN.out with ⟨_, h1, h2⟩ | ⟨j, h⟩
            · exact ⟨h1, h2⟩
            · rw [hE] at h; cases h
          have HO : Hid (∀ W', Below w6.heap.size w6 W' → Calls Tryz.prog 12 #[.agg #[.slice go gl gq, .slice o2 l2 q2], .int .i64 u] W' fun y w'' => y = .returned (.tuple #[.int .i64 m, .nilIface]) ∧ Below W'.heap.size W' w'') := hO
          have hm : m = A - n := by omega
          rw [hm] at HO
          have en : n + (A - n) = A := by omega
          clear hO hE HT HEN hnm hm
          have y0 : w8.cell? ⟨w6.heap.size, 0, none⟩ = some (.slice go gl gq) := HG7.out.cell 0
          have y1 : w8.cell? ⟨w6.heap.size, 1, none⟩ = some (.slice o2 l2 q2) := HG7.out.cell 1
          go_wp2_with fail
          go_at_call 12
          refine (HO.out _ HB67.out).mono ?_
          rintro x w9 ⟨rfl, hb⟩
          have HB9 : Hid (Below w8.heap.size w8 w9) := hb
          clear hb y0 y1
          go_wp2_with fail
          go_meet
          case rel => exact HB9.out
        · clear HT
          go_wp2_with fail
          go_meet
          case rel => exact Below.refl _ _
      case rest =>
        have hbc := hcut
        obtain ⟨w9, hw9⟩ : ∃ x, x = wc := ⟨_, rfl⟩
        subst hw9
        have HB9 : Hid (Below w.heap.size w w9) := HB7.out.trans (hbc.mono HB7.out.size)
        have HP9 : Hid (Blk w9 w.heap.size 29 #[.slice ao al acap, .slice co cl ccap]) := HP7.out.below hbc
        have HQ9 : Hid (Blk w9 (w.heap.size + 1) 37 #[.int .i64 wu, .int .i64 wa, .int .i64 wb, .int .i64 wc]) := HQ7.out.below hbc
        clear hbc hcut
        have x0 : w9.cell? ⟨w.heap.size, 0, none⟩ = some (.slice ao al acap) := HP9.out.cell 0
        have x1 : w9.cell? ⟨w.heap.size, 1, none⟩ = some (.slice co cl ccap) := HP9.out.cell 1
        go_wp2_with fail
        go_at_call 14
        refine (HMo.out _ HB9.out).mono ?_
        rintro x wa' ⟨⟨D, rfl⟩, hb⟩
        have HBa : Hid (Below w.heap.size w wa') := HB9.out.trans (hb.mono HB9.out.size)
        have HPa : Hid (Blk wa' w.heap.size 29 #[.slice ao al acap, .slice co cl ccap]) := HP9.out.below hb
        have HQa : Hid (Blk wa' (w.heap.size + 1) 37 #[.int .i64 wu, .int .i64 wa, .int .i64 wb, .int .i64 wc]) := HQ9.out.below hb
        clear hb x0 x1
        go_upto_region 17 with fail
        go_cut [12, 109] from 20 (fun _ x wx => x = .bool false ∧ Below wa'.heap.size wa' wx)
        case first =>
          have HE : Hid (Calls Tryz.prog 8 #[errV mf, .int .i64 5] wa' fun x w' => x = .returned (.bool (mf == 5)) ∧ Below wa'.heap.size wa' w') := HEr.out _ HBa.out
          by_cases h0 : mf = 0
          · have hz := HM0.out h0
            have dz : (n == 0) = false := by simp [hz]
            have em : errV mf = .nilIface := by rw [h0]; rfl
            have e5 : (mf == 5) = false := by rw [h0]; rfl
            rw [em, e5] at HE
            rw [em]
            clear em e5 h0 hz
            go_wp2_with fail
            go_at_call 8
            refine HE.out.mono ?_
            rintro x wb' ⟨rfl, hb⟩
            have HBb : Hid (Below wa'.heap.size wa' wb') := hb
            clear hb
            go_wp2_with fail
            go_meet
            case rel => exact ⟨rfl, HBb.out⟩
          · have em : errV mf = .iface 61 (.int .i64 mf) := errV_no h0
            rw [em] at HE
            rw [em]
            by_cases h5 : mf = 5
            · have hz := HM5.out h5
              have e5 : (mf == 5) = true := by rw [h5]; rfl
              rw [e5] at HE
              have dz : (n == 0) = true := by simp [hz]
              have nz : (n != 0) = false := by simp [hz]
              clear em e5 h0 h5 hz
              go_wp2_with fail
              go_at_call 8
              refine HE.out.mono ?_
              rintro x wb' ⟨rfl, hb⟩
              have HBb : Hid (Below wa'.heap.size wa' wb') := hb
              clear hb
              go_wp2_with fail
              go_meet
              case rel => exact ⟨rfl, HBb.out⟩
            · have e5 : (mf == 5) = false := by simp [h5]
              rw [e5] at HE
              clear em e5 h0 h5
              go_wp2_with fail
              go_at_call 8
              refine HE.out.mono ?_
              rintro x wb' ⟨rfl, hb⟩
              have HBb : Hid (Below wa'.heap.size wa' wb') := hb
              clear hb
              go_wp2_with fail
              go_meet
              case rel => exact ⟨rfl, HBb.out⟩
        case rest =>
          obtain ⟨rfl, hbc⟩ := hcut
          obtain ⟨wd, hwd⟩ : ∃ x, x = wc := ⟨_, rfl⟩
          subst hwd
          have HBd : Hid (Below w.heap.size w wd) := HBa.out.trans (hbc.mono HBa.out.size)
          have HPd : Hid (Blk wd w.heap.size 29 #[.slice ao al acap, .slice co cl ccap]) := HPa.out.below hbc
          have HQd : Hid (Blk wd (w.heap.size + 1) 37 #[.int .i64 wu, .int .i64 wa, .int .i64 wb, .int .i64 wc]) := HQa.out.below hbc
          clear hbc
          have y0 : wd.cell? ⟨w.heap.size + 1, 0, none⟩ = some (.int .i64 wu) := HQd.out.cell 0
          have y1 : wd.cell? ⟨w.heap.size + 1, 1, none⟩ = some (.int .i64 wa) := HQd.out.cell 1
          have y2 : wd.cell? ⟨w.heap.size + 1, 2, none⟩ = some (.int .i64 wb) := HQd.out.cell 2
          have y3 : wd.cell? ⟨w.heap.size + 1, 3, none⟩ = some (.int .i64 wc) := HQd.out.cell 3
          go_wp2_with fail
          go_at_call 11
          refine (HLi.out _ HBd.out).mono ?_
          rintro x we ⟨rfl, hb⟩
          have HBe : Hid (Below w.heap.size w we) := HBd.out.trans (hb.mono HBd.out.size)
          have HPe : Hid (Blk we w.heap.size 29 #[.slice ao al acap, .slice co cl ccap]) := HPd.out.below hb
          have HQe : Hid (Blk we (w.heap.size + 1) 37 #[.int .i64 wu, .int .i64 wa, .int .i64 wb, .int .i64 wc]) := HQd.out.below hb
          clear hb y0 y1 y2 y3
          have x0 : we.cell? ⟨w.heap.size, 0, none⟩ = some (.slice ao al acap) := HPe.out.cell 0
          have x1 : we.cell? ⟨w.heap.size, 1, none⟩ = some (.slice co cl ccap) := HPe.out.cell 1
          have y0 : we.cell? ⟨w.heap.size + 1, 0, none⟩ = some (.int .i64 wu) := HQe.out.cell 0
          have y1 : we.cell? ⟨w.heap.size + 1, 1, none⟩ = some (.int .i64 wa) := HQe.out.cell 1
          have y2 : we.cell? ⟨w.heap.size + 1, 2, none⟩ = some (.int .i64 wb) := HQe.out.cell 2
          have y3 : we.cell? ⟨w.heap.size + 1, 3, none⟩ = some (.int .i64 wc) := HQe.out.cell 3
          go_wp2_with fail
          go_at_call 15
          refine (HHo.out _ HBe.out).mono ?_
          rintro x wf' ⟨rfl, hb⟩
          have HBf : Hid (Below w.heap.size w wf') := HBe.out.trans (hb.mono HBe.out.size)
          have HQf : Hid (Blk wf' (w.heap.size + 1) 37 #[.int .i64 wu, .int .i64 wa, .int .i64 wb, .int .i64 wc]) := HQe.out.below hb
          clear hb x0 x1 y0 y1 y2 y3
          have y0 : wf'.cell? ⟨w.heap.size + 1, 0, none⟩ = some (.int .i64 wu) := HQf.out.cell 0
          by_cases h1 : wf = 0
          · have e1 : errV wf = .nilIface := by rw [h1]; rfl
            by_cases h2 : hf = 0
            · have e2 : errV hf = .nilIface := by rw [h2]; rfl
              by_cases h3 : wu = u
              · obtain ⟨k1, kA, kt, kf⟩ := HF'.out h1 h2 h3
                rw [e1, e2]
                clear e1 e2 h1 h2
                subst h3
                cases b with
                | true =>
                  have kn := kt rfl
                  clear kt kf
                  go_wp2
                  go_ret
                  exact ⟨rfl, HBf.out⟩
                | false =>
                  have kn := kf rfl
                  clear kt kf
                  go_wp2
                  go_ret
                  exact ⟨rfl, HBf.out⟩
              · have d3 : (wu == u) = false := by simp [h3]
                have n3 : (wu != u) = true := by simp [h3]
                rw [e1, e2]
                clear e1 e2 h1 h2
                go_wp2
                go_ret
                exact ⟨rfl, HBf.out⟩
            · rw [e1, errV_no h2]
              clear e1 h1
              go_wp2
              go_ret
              exact ⟨rfl, HBf.out⟩
          · rw [errV_no h1]
            go_wp2
            go_ret
            exact ⟨rfl, HBf.out⟩
  · rw [errV_no hg]
    go_wp2
    go_ret
    exact ⟨rfl, HB4.out⟩
end Go.Proofs.YtgkgbpbohgklhafGreatDoor
