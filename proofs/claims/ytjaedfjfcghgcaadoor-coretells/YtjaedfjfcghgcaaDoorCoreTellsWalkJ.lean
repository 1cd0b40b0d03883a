/-
  Proved: vennlaw2.CoreTells returns true where what it calls answers as chapter 13 says; what was in memory is as it was (the walk that the statement leans on).
-/
import Derived.Test.YtjaedfjfcghgcaaDoorLibA6
import Derived.Deep.CutRange
namespace Go.Proofs.YtjaedfjfcghgcaaDoor
open Go.ChangeShapes Go.WideShapes Go.ChangeAt Go.RowKit
set_option maxRecDepth 100000

set_option maxHeartbeats 8000000 in
theorem coreTells_in (lo : Option Addr) (ll lcap : Nat) (u E E2 : Int) (O : Bool) (t : List Int) (w : World)
    (HE2 : Hid (E2 = if E = 0 then (if O = true then 8 else 0) else E)) (HO : Hid (¬ E = 0 → O = false)) (Ht : Hid (¬ E2 = 0 → t = []))
    (HFo : Hid (∀ W, Below w.heap.size w W → Calls Tryd.prog 9 #[.slice lo ll lcap, .int .i64 u] W fun e w' => e = .returned (.int .i64 E) ∧ Below W.heap.size W w'))
    (HOp : Hid (E = 0 → ∀ W, Below w.heap.size w W → Calls Tryd.prog 10 #[.slice lo ll lcap, .int .i64 u] W fun e w' => e = .returned (.bool O) ∧ Below W.heap.size W w'))
    (HCo : Hid (E2 = 0 → ∀ W, Below w.heap.size w W → Calls Tryd.prog 13 #[.slice lo ll lcap, .int .i64 u] W fun e w' => (∃ v, e = .returned v ∧ Reads w' v t) ∧ Below W.heap.size W w'))
    (HPo : Hid (∀ W, Below w.heap.size w W → Calls Tryd.prog 11 #[.slice lo ll lcap, .int .i64 u] W fun e w' => e = .returned (.tuple #[.bool O, errV E]) ∧ Below W.heap.size W w'))
    (HPc : Hid (∀ W, Below w.heap.size w W → Calls Tryd.prog 14 #[.slice lo ll lcap, .int .i64 u] W fun e w' => (∃ vo vl vc, e = .returned (.tuple #[.slice vo vl vc, errV E2]) ∧ ∀ W' v, Below w'.heap.size w' W' → Reads W' v t → Calls Tryd.prog 15 #[.slice vo vl vc, v] W' fun e w'' => e = .returned (.bool true) ∧ Below W'.heap.size W' w'') ∧ Below W.heap.size W w'))
    (HEr : Hid (∀ n W, Below w.heap.size w W → Calls Tryd.prog 12 #[errV n, .int .i64 n] W fun e w' => e = .returned (.bool true) ∧ Below W.heap.size W w')) :
    Calls Tryd.prog 3 #[.slice lo ll lcap, .int .i64 u] w fun e w' => e = .returned (.bool true) ∧ Below w.heap.size w w' := by
  go_enter Tryd.func3, Tryd.ntmps3
  go_wp2_with fail
  go_at_call 9
  refine (HFo.out _ (Below.refl _ _)).mono ?_
  rintro e w1 ⟨rfl, hb⟩
  have HB1 : Hid (Below w.heap.size w w1) := hb
  clear hb
  go_upto_if 17 with fail
  go_cut [5, 6] from 13 (fun p q wx => p = .int .i64 E ∧ q = .bool O ∧ Below w1.heap.size w1 wx)
  case first =>
    by_cases h0 : E = 0
    · have H0 : Hid (E = 0) := h0
      clear h0
      rw [H0.out]
      go_wp2_with fail
      go_at_call 10
      refine (HOp.out H0.out _ HB1.out).mono ?_
      rintro e w2 ⟨rfl, hb⟩
      have HB2 : Hid (Below w1.heap.size w1 w2) := hb
      clear hb
      go_wp2_with fail
      go_meet
      case rel => exact ⟨by rw [H0.out], rfl, HB2.out⟩
    · have HOf : Hid (O = false) := HO.out h0
      have d0 : (E == 0) = false := by simp [h0]
      clear h0
      go_wp2_with fail
      go_meet
      case rel => exact ⟨rfl, by rw [HOf.out], Below.refl _ _⟩
  case rest =>
    obtain ⟨rfl, rfl, hbc⟩ := hcut
    obtain ⟨w2, hw2⟩ : ∃ x, x = wc := ⟨_, rfl⟩
    subst hw2
    have HB2 : Hid (Below w.heap.size w w2) := HB1.out.trans (hbc.mono HB1.out.size)
    clear hbc
    go_wp2_with fail
    go_at_call 11
    refine (HPo.out _ HB2.out).mono ?_
    rintro e w3 ⟨rfl, hb⟩
    have HB3 : Hid (Below w.heap.size w w3) := HB2.out.trans (hb.mono HB2.out.size)
    clear hb
    go_wp2_with fail
    go_at_call 12
    refine (HEr.out E _ HB3.out).mono ?_
    rintro e w4 ⟨rfl, hb⟩
    have HB4 : Hid (Below w.heap.size w w4) := HB3.out.trans (hb.mono HB3.out.size)
    clear hb
    go_upto_region 8 with fail
    go_cut [5, 6, 7, 8, 39] from 13 (fun p _ _ _ q wx => p = .int .i64 E ∧ (∃ b : Bool, q = .bool b ∧ ((b = true ∧ E2 = 8) ∨ (b = false ∧ E2 = E))) ∧ wx = w4)
    case first =>
      by_cases h0 : E = 0
      · have H0 : Hid (E = 0) := h0
        have h2 := HE2.out
        rw [if_pos h0] at h2
        clear h0
        rw [H0.out]
        cases O with
        | true =>
          rw [if_pos rfl] at h2
          have H2 : Hid (E2 = 8) := h2
          clear h2
          go_wp2_with fail
          go_meet
          case rel => exact ⟨by rw [H0.out], ⟨true, rfl, Or.inl ⟨rfl, H2.out⟩⟩, rfl⟩
        | false =>
          rw [if_neg (by decide)] at h2
          have H2 : Hid (E2 = E) := by unfold Hid; rw [h2, H0.out]
          clear h2
          go_wp2_with fail
          go_meet
          case rel => exact ⟨by rw [H0.out], ⟨false, rfl, Or.inr ⟨rfl, H2.out⟩⟩, rfl⟩
      · have H2 : Hid (E2 = E) := by unfold Hid; rw [HE2.out, if_neg h0]
        have d0 : (E == 0) = false := by simp [h0]
        clear h0
        go_wp2_with fail
        go_meet
        case rel => exact ⟨rfl, ⟨false, rfl, Or.inr ⟨rfl, H2.out⟩⟩, rfl⟩
    case rest =>
      obtain ⟨rfl, ⟨b, rfl, hb⟩, rfl⟩ := hcut
      have HB : Hid ((b = true ∧ E2 = 8) ∨ (b = false ∧ E2 = E)) := hb
      clear hb
      obtain ⟨w5, hw5⟩ : ∃ x, x = wc := ⟨_, rfl⟩
      subst hw5
      go_upto_if 39 with fail
      go_cut [5, 10] from 13 (fun p v wx => p = .int .i64 E2 ∧ Reads wx v t ∧ Below w5.heap.size w5 wx)
      case first =>
        rcases HB.out with ⟨rfl, h2⟩ | ⟨rfl, h2⟩
        · have H2 : Hid (E2 = 8) := h2
          have HT : Hid (t = []) := Ht.out (by rw [h2]; decide)
          clear h2 HB
          go_wp2_with fail
          go_meet
          case rel => exact ⟨by rw [H2.out], by rw [HT.out]; exact Or.inl ⟨none, 0, rfl, rfl⟩, Below.refl _ _⟩
        · have H2 : Hid (E2 = E) := h2
          clear h2 HB
          by_cases h0 : E = 0
          · have H0 : Hid (E = 0) := h0
            clear h0
            rw [H0.out]
            go_wp2_with fail
            go_at_call 13
            refine (HCo.out (H2.out.trans H0.out) _ HB4.out).mono ?_
            rintro e w6 ⟨⟨v, rfl, hr⟩, hb⟩
            have HR6 : Hid (Reads w6 v t ∧ Below w5.heap.size w5 w6) := ⟨hr, hb⟩
            clear hr hb
            go_wp2_with fail
            go_meet
            case rel => exact ⟨by rw [H2.out, H0.out], HR6.out.1, HR6.out.2⟩
          · have HT : Hid (t = []) := Ht.out (by rw [H2.out]; exact h0)
            have d0 : (E == 0) = false := by simp [h0]
            clear h0
            go_wp2_with fail
            go_meet
            case rel => exact ⟨by rw [H2.out], by rw [HT.out]; exact Or.inl ⟨none, 0, rfl, rfl⟩, Below.refl _ _⟩
      case rest =>
        obtain ⟨rfl, hrd, hbc⟩ := hcut
        obtain ⟨w6, hw6⟩ : ∃ x, x = wc := ⟨_, rfl⟩
        subst hw6
        have HB6 : Hid (Below w.heap.size w w6) := HB4.out.trans (hbc.mono HB4.out.size)
        have HR6 : Hid (Reads w6 u10 t) := hrd
        clear hrd hbc
        go_wp2_with fail
        go_at_call 14
        refine (HPc.out _ HB6.out).mono ?_
        rintro e w7 ⟨⟨vo, vl, vc, rfl, hI⟩, hb⟩
        have HB7 : Hid (Below w.heap.size w w7) := HB6.out.trans (hb.mono HB6.out.size)
        have HR7 : Hid (Reads w7 u10 t) := HR6.out.below hb
        have HI : Hid (∀ W', Below w7.heap.size w7 W' → Calls Tryd.prog 15 #[.slice vo vl vc, u10] W' fun e w'' => e = .returned (.bool true) ∧ Below W'.heap.size W' w'') := fun W' hW' => hI W' u10 hW' (HR7.out.below hW')
        clear hb hI
        go_wp2_with fail
        go_at_call 12
        refine (HEr.out E2 _ HB7.out).mono ?_
        rintro e w8 ⟨rfl, hb⟩
        have HB8 : Hid (Below w.heap.size w w8) := HB7.out.trans (hb.mono HB7.out.size)
        have HB78 : Hid (Below w7.heap.size w7 w8) := hb
        clear hb
        go_wp2_with fail
        go_at_call 15
        refine (HI.out _ HB78.out).mono ?_
        rintro e w9 ⟨rfl, hb⟩
        have HB9 : Hid (Below w.heap.size w w9) := HB8.out.trans (hb.mono HB8.out.size)
        clear hb
        go_wp2
        go_ret
        exact ⟨rfl, HB9.out⟩
end Go.Proofs.YtjaedfjfcghgcaaDoor
