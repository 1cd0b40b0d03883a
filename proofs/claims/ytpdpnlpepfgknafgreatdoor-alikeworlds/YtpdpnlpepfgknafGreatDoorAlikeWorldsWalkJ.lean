/-
  Proved: vennlaw2.AlikeWorlds returns true where what it calls answers as chapters 1, 2, 9 and 12 say; what was in memory is as it was (the walk that the statement leans on).
-/
import Derived.Test.YtpdpnlpepfgknafGreatDoorLibAB1
import Derived.Test.YtpdpnlpepfgknafGreatDoorLibPB5
import Derived.Test.YtpdpnlpepfgknafGreatDoorLibPB2
import Derived.Test.YtpdpnlpepfgknafGreatDoorLibPB3
import Derived.Deep.CutRange
namespace Go.Proofs.YtpdpnlpepfgknafGreatDoor
open Go.ChangeShapes Go.WideShapes Go.ChangeAt Go.RowKit
set_option maxRecDepth 100000

theorem three_at (w : World) (o0 o1 o2 : Obj) :
    (((w.alloc o0).alloc o1).alloc o2).heap[w.heap.size]? = some o0 ∧ (((w.alloc o0).alloc o1).alloc o2).heap[w.heap.size + 1]? = some o1 ∧ (((w.alloc o0).alloc o1).alloc o2).heap[w.heap.size + 1 + 1]? = some o2 ∧
    Below w.heap.size w (((w.alloc o0).alloc o1).alloc o2) := by
  have s1 : (w.alloc o0).heap.size = w.heap.size + 1 := World.size_alloc _ _
  have s2 : ((w.alloc o0).alloc o1).heap.size = w.heap.size + 1 + 1 := by rw [World.size_alloc, s1]
  refine ⟨?_, ?_, ?_, ?_⟩
  · rw [Below.heap_alloc _ _ _ (by omega), Below.heap_alloc _ _ _ (by omega)]; exact heap_alloc_new _ _
  · rw [Below.heap_alloc _ _ _ (by omega), ← s1]; exact heap_alloc_new _ _
  · rw [← s2]; exact heap_alloc_new _ _
  · exact (((Below.refl _ w).alloc (Nat.le_refl _) _).alloc (by omega) _).alloc (by omega) _
theorem reads_three {w : World} {G : Nat} {x y z : Int} (k : Blk w G 3 #[.int .i64 x, .int .i64 y, .int .i64 z]) : Reads w (.slice (some ⟨G, 0, none⟩) 3 3) [x, y, z] := by
  refine Or.inr ⟨G, 0, 3, rfl, k.lt, by simp, ⟨by simp, by simp⟩, fun j hj => ?_⟩
  have hj3 : j < 3 := by simpa using hj
  rcases (by omega : j = 0 ∨ j = 1 ∨ j = 2) with rfl | rfl | rfl
  · exact k.cell 0
  · exact k.cell 1
  · exact k.cell 2

/-- what the walk asks of the answers: f of the two terms, S, P, Q, R the same, part, apart, and part the other way round; in the world a and b with the faults f1 and f2. -/
structure AlikeW (f f1 f2 a b x7 x6 g : Int) (S P Q R : Bool) : Prop where
  both : f = 0 → S = (P && R)
  same : f = 0 → f1 = 0 → f2 = 0 → S = true → a = b
  part : f = 0 → f1 = 0 → f2 = 0 → P = true → x7 = 0
  apart : f = 0 → f1 = 0 → f2 = 0 → Q = true → x6 = 0

set_option maxHeartbeats 16000000 in
theorem alikeWorlds_in (so : Option Addr) (sc : Nat) (to_ : Option Addr) (tc : Nat) (s t : List Int) (wu wa wb wc x y f f1 f2 a b x7 x6 g : Int) (S P Q R : Bool) (w : World)
    (hS : Reads w (.slice so s.length sc) s) (hT : Reads w (.slice to_ t.length tc) t) (HN : Hid (AlikeW f f1 f2 a b x7 x6 g S P Q R))
    (HFa : Hid (∀ W v1 v2, Below w.heap.size w W → Reads W v1 [0, 1, 6] → Reads W v2 [1, 0, 6] → Calls Tryz.prog 16 #[v1, v2] W fun e w' => e = .returned (.tuple #[.bool true, .nilIface]) ∧ Below W.heap.size W w'))
    (HSa : Hid (∀ W, Below w.heap.size w W → Calls Tryz.prog 16 #[.slice so s.length sc, .slice to_ t.length tc] W fun e w' => e = .returned (.tuple #[.bool S, errV f]) ∧ Below W.heap.size W w'))
    (HPa : Hid (∀ W, Below w.heap.size w W → Calls Tryz.prog 17 #[.slice so s.length sc, .slice to_ t.length tc] W fun e w' => e = .returned (.tuple #[.bool P, errV f]) ∧ Below W.heap.size W w'))
    (HAp : Hid (∀ W, Below w.heap.size w W → Calls Tryz.prog 18 #[.slice so s.length sc, .slice to_ t.length tc] W fun e w' => e = .returned (.tuple #[.bool Q, errV f]) ∧ Below W.heap.size W w'))
    (HPb : Hid (f = 0 → ∀ W, Below w.heap.size w W → Calls Tryz.prog 17 #[.slice to_ t.length tc, .slice so s.length sc] W fun e w' => e = .returned (.tuple #[.bool R, .nilIface]) ∧ Below W.heap.size W w'))
    (HVs : Hid (∀ W, Below w.heap.size w W → Calls Tryz.prog 19 #[.slice so s.length sc, .agg #[.int .i64 wu, .int .i64 wa, .int .i64 wb, .int .i64 wc]] W fun e w' => e = .returned (.tuple #[.int .i64 a, errV f1]) ∧ Below W.heap.size W w'))
    (HVt : Hid (∀ W, Below w.heap.size w W → Calls Tryz.prog 19 #[.slice to_ t.length tc, .agg #[.int .i64 wu, .int .i64 wa, .int .i64 wb, .int .i64 wc]] W fun e w' => e = .returned (.tuple #[.int .i64 b, errV f2]) ∧ Below W.heap.size W w'))
    (HD7 : Hid (f1 = 0 → f2 = 0 → ∀ W, Calls Tryz.prog 20 #[.int .i64 7, .int .i64 wu, .int .i64 a, .int .i64 b] W fun e w' => e = .returned (.int .i64 x7) ∧ W = w'))
    (HD6 : Hid (f1 = 0 → f2 = 0 → ∀ W, Calls Tryz.prog 20 #[.int .i64 6, .int .i64 wu, .int .i64 a, .int .i64 b] W fun e w' => e = .returned (.int .i64 x6) ∧ W = w'))
    (HSu : Hid (f = 0 → ∀ W v1 v2, Below w.heap.size w W → ReadsA W v1 (sameA s t) → Reads W v2 [0] → Calls Tryz.prog 21 #[.agg #[v1, v2], .int .i64 1] W fun e w' => e = .returned (.tuple #[.bool S, .nilIface]) ∧ Below W.heap.size W w'))
    (HSw : Hid (∀ W, Below w.heap.size w W → Calls Tryz.prog 22 #[.slice so s.length sc, .int .i64 x, .int .i64 y] W fun e w' => (∃ vo vl vc, e = .returned (.tuple #[.slice vo vl vc, errV g]) ∧ (g = 0 → ∀ W', Below w'.heap.size w' W' → Calls Tryz.prog 22 #[.slice vo vl vc, .int .i64 x, .int .i64 y] W' fun e2 w2 => (∃ uo ul uc, e2 = .returned (.tuple #[.slice uo ul uc, .nilIface]) ∧ Reads w2 (.slice uo ul uc) s) ∧ Below W'.heap.size W' w2)) ∧ Below W.heap.size W w'))
    (HIn : Hid (∀ W v, Below w.heap.size w W → Reads W v s → Calls Tryz.prog 23 #[v, .slice so s.length sc] W fun e w' => e = .returned (.bool true) ∧ Below W.heap.size W w')) :
    Calls Tryz.prog 5 #[.slice so s.length sc, .slice to_ t.length tc, .agg #[.int .i64 wu, .int .i64 wa, .int .i64 wb, .int .i64 wc], .int .i64 x, .int .i64 y] w fun e w' => e = .returned (.bool true) ∧ Below w.heap.size w w' := by
  have HS : Hid (Reads w (.slice so s.length sc) s) := hS
  have HT : Hid (Reads w (.slice to_ t.length tc) t) := hT
  obtain ⟨ns, hns⟩ : ∃ n, n = s.length := ⟨_, rfl⟩
  obtain ⟨nt, hnt⟩ : ∃ n, n = t.length := ⟨_, rfl⟩
  rw [← hns] at HSa HPa HAp HPb HVs HSw HIn HS ⊢
  rw [← hnt] at HSa HPa HAp HPb HVt HT ⊢
  clear hns hnt hS hT
  obtain ⟨b0, b1, b2, hB⟩ := three_at w (.cells #[.int .i64 wu, .int .i64 wa, .int .i64 wb, .int .i64 wc] 37) (.cells #[.int .i64 0, .int .i64 1, .int .i64 6] 3) (.cells #[.int .i64 1, .int .i64 0, .int .i64 6] 3)
  obtain ⟨w1, hw1⟩ : ∃ w1, w1 = ((w.alloc (.cells #[.int .i64 wu, .int .i64 wa, .int .i64 wb, .int .i64 wc] 37)).alloc (.cells #[.int .i64 0, .int .i64 1, .int .i64 6] 3)).alloc (.cells #[.int .i64 1, .int .i64 0, .int .i64 6] 3) := ⟨_, rfl⟩
  rw [← hw1] at b0 b1 b2 hB
  have HB1 : Hid (Below w.heap.size w w1) := hB
  have HQ1 : Hid (Blk w1 w.heap.size 37 #[.int .i64 wu, .int .i64 wa, .int .i64 wb, .int .i64 wc]) := b0
  have HR1 : Hid (Reads w1 (.slice (some ⟨w.heap.size + 1, 0, none⟩) 3 3) [0, 1, 6] ∧ Reads w1 (.slice (some ⟨w.heap.size + 1 + 1, 0, none⟩) 3 3) [1, 0, 6]) := ⟨reads_three b1, reads_three b2⟩
  clear b0 b1 b2 hB
  go_enter Tryz.func5, Tryz.ntmps5
  go_wp2_with fail
  rw [← hw1]
  clear hw1
  go_at_call 16
  refine (HFa.out _ _ _ HB1.out HR1.out.1 HR1.out.2).mono ?_
  rintro e w2 ⟨rfl, hb⟩
  have HB2 : Hid (Below w.heap.size w w2) := HB1.out.trans (hb.mono HB1.out.size)
  have HQ2 : Hid (Blk w2 w.heap.size 37 #[.int .i64 wu, .int .i64 wa, .int .i64 wb, .int .i64 wc]) := HQ1.out.below hb
  clear hb HR1
  go_wp2_with fail
  go_at_call 16
  refine (HSa.out _ HB2.out).mono ?_
  rintro e w3 ⟨rfl, hb⟩
  have HB3 : Hid (Below w.heap.size w w3) := HB2.out.trans (hb.mono HB2.out.size)
  have HQ3 : Hid (Blk w3 w.heap.size 37 #[.int .i64 wu, .int .i64 wa, .int .i64 wb, .int .i64 wc]) := HQ2.out.below hb
  clear hb
  by_cases hf : f = 0
  · have HF : Hid (f = 0) := hf
    have ef : errV f = .nilIface := by rw [hf]; rfl
    rw [ef] at HPa HAp ⊢
    have HPb' : Hid (∀ W, Below w.heap.size w W → Calls Tryz.prog 17 #[.slice to_ nt tc, .slice so ns sc] W fun e w' => e = .returned (.tuple #[.bool R, .nilIface]) ∧ Below W.heap.size W w') := HPb.out hf
    clear ef hf HPb
    go_wp2_with fail
    go_at_call 17
    refine (HPa.out _ HB3.out).mono ?_
    rintro e w4 ⟨rfl, hb⟩
    have HB4 : Hid (Below w.heap.size w w4) := HB3.out.trans (hb.mono HB3.out.size)
    have HQ4 : Hid (Blk w4 w.heap.size 37 #[.int .i64 wu, .int .i64 wa, .int .i64 wb, .int .i64 wc]) := HQ3.out.below hb
    clear hb
    go_wp2_with fail
    go_at_call 18
    refine (HAp.out _ HB4.out).mono ?_
    rintro e w5 ⟨rfl, hb⟩
    have HB5 : Hid (Below w.heap.size w w5) := HB4.out.trans (hb.mono HB4.out.size)
    have HQ5 : Hid (Blk w5 w.heap.size 37 #[.int .i64 wu, .int .i64 wa, .int .i64 wb, .int .i64 wc]) := HQ4.out.below hb
    clear hb
    go_wp2_with fail
    go_at_call 17
    refine (HPb'.out _ HB5.out).mono ?_
    rintro e w6 ⟨rfl, hb⟩
    have HB6 : Hid (Below w.heap.size w w6) := HB5.out.trans (hb.mono HB5.out.size)
    have HQ6 : Hid (Blk w6 w.heap.size 37 #[.int .i64 wu, .int .i64 wa, .int .i64 wb, .int .i64 wc]) := HQ5.out.below hb
    clear hb
    go_upto_region 10 with fail
    go_cut [13, 15, 19, 85] from 30 (fun p q r z wx => p = .bool S ∧ q = .bool P ∧ r = .bool R ∧ z = .bool false ∧ wx = w6)
    case first =>
      have HSb : Hid (S = (P && R)) := HN.out.both HF.out
      cases P with
      | true =>
        cases R with
        | true =>
          have H : Hid (S = true) := HSb.out
          rw [H.out]
          go_wp2_with fail
          go_meet
          case rel => exact ⟨by rw [H.out], rfl, rfl, rfl, rfl⟩
        | false =>
          have H : Hid (S = false) := HSb.out
          rw [H.out]
          go_wp2_with fail
          go_meet
          case rel => exact ⟨by rw [H.out], rfl, rfl, rfl, rfl⟩
      | false =>
        have H : Hid (S = false) := HSb.out
        rw [H.out]
        go_wp2_with fail
        go_meet
        case rel => exact ⟨by rw [H.out], rfl, rfl, rfl, rfl⟩
    case rest =>
      obtain ⟨rfl, rfl, rfl, rfl, rfl⟩ := hcut
      obtain ⟨w7, hw7⟩ : ∃ x, x = wc := ⟨_, rfl⟩
      subst hw7
      have y0 : w7.cell? ⟨w.heap.size, 0, none⟩ = some (.int .i64 wu) := HQ6.out.cell 0
      have y1 : w7.cell? ⟨w.heap.size, 1, none⟩ = some (.int .i64 wa) := HQ6.out.cell 1
      have y2 : w7.cell? ⟨w.heap.size, 2, none⟩ = some (.int .i64 wb) := HQ6.out.cell 2
      have y3 : w7.cell? ⟨w.heap.size, 3, none⟩ = some (.int .i64 wc) := HQ6.out.cell 3
      go_wp2_with fail
      go_at_call 19
      refine (HVs.out _ HB6.out).mono ?_
      rintro e w8 ⟨rfl, hb⟩
      have HB8 : Hid (Below w.heap.size w w8) := HB6.out.trans (hb.mono HB6.out.size)
      have HQ8 : Hid (Blk w8 w.heap.size 37 #[.int .i64 wu, .int .i64 wa, .int .i64 wb, .int .i64 wc]) := HQ6.out.below hb
      clear hb y0 y1 y2 y3
      have y0 : w8.cell? ⟨w.heap.size, 0, none⟩ = some (.int .i64 wu) := HQ8.out.cell 0
      have y1 : w8.cell? ⟨w.heap.size, 1, none⟩ = some (.int .i64 wa) := HQ8.out.cell 1
      have y2 : w8.cell? ⟨w.heap.size, 2, none⟩ = some (.int .i64 wb) := HQ8.out.cell 2
      have y3 : w8.cell? ⟨w.heap.size, 3, none⟩ = some (.int .i64 wc) := HQ8.out.cell 3
      go_wp2_with fail
      go_at_call 19
      refine (HVt.out _ HB8.out).mono ?_
      rintro e w9 ⟨rfl, hb⟩
      have HB9 : Hid (Below w.heap.size w w9) := HB8.out.trans (hb.mono HB8.out.size)
      have HQ9 : Hid (Blk w9 w.heap.size 37 #[.int .i64 wu, .int .i64 wa, .int .i64 wb, .int .i64 wc]) := HQ8.out.below hb
      clear hb y0 y1 y2 y3
      go_upto_region 14 with fail
      go_cut [16, 18, 103] from 30 (fun _ _ z wx => (∃ b : Bool, z = .bool b ∧ (b = false ∨ (b = true ∧ f1 = 0 ∧ f2 = 0))) ∧ wx = w9)
      case first =>
        by_cases h1 : f1 = 0
        · have e1 : errV f1 = .nilIface := by rw [h1]; rfl
          by_cases h2 : f2 = 0
          · have e2 : errV f2 = .nilIface := by rw [h2]; rfl
            have H12 : Hid (f1 = 0 ∧ f2 = 0) := ⟨h1, h2⟩
            rw [e1, e2]
            clear e1 e2 h1 h2
            go_wp2_with fail
            go_meet
            case rel => exact ⟨⟨true, rfl, Or.inr ⟨rfl, H12.out⟩⟩, rfl⟩
          · rw [e1, errV_no h2]
            clear e1 h1
            go_wp2_with fail
            go_meet
            case rel => exact ⟨⟨false, rfl, Or.inl rfl⟩, rfl⟩
        · rw [errV_no h1]
          go_wp2_with fail
          go_meet
          case rel => exact ⟨⟨false, rfl, Or.inl rfl⟩, rfl⟩
      case rest =>
        obtain ⟨⟨q, rfl, hq⟩, rfl⟩ := hcut
        have HQq : Hid (q = false ∨ (q = true ∧ f1 = 0 ∧ f2 = 0)) := hq
        clear hq
        obtain ⟨wa', hwa⟩ : ∃ x, x = wc := ⟨_, rfl⟩
        subst hwa
        go_upto_if 103 with fail
        go_cut [13, 15, 17, 23, 24] from 30 (fun p q r _ _ wx => p = .bool S ∧ q = .bool P ∧ r = .bool Q ∧ wx = wa')
        case first =>
          rcases HQq.out with rfl | ⟨rfl, h1, h2⟩
          · clear HQq
            go_wp2_with fail
            go_meet
            case rel => exact ⟨rfl, rfl, rfl, rfl⟩
          · have H7 : Hid (∀ W, Calls Tryz.prog 20 #[.int .i64 7, .int .i64 wu, .int .i64 a, .int .i64 b] W fun e w' => e = .returned (.int .i64 x7) ∧ W = w') := HD7.out h1 h2
            have H6 : Hid (∀ W, Calls Tryz.prog 20 #[.int .i64 6, .int .i64 wu, .int .i64 a, .int .i64 b] W fun e w' => e = .returned (.int .i64 x6) ∧ W = w') := HD6.out h1 h2
            have HE : Hid (S = true → a = b) := HN.out.same HF.out h1 h2
            have HP7 : Hid (P = true → x7 = 0) := HN.out.part HF.out h1 h2
            have HP6 : Hid (Q = true → x6 = 0) := HN.out.apart HF.out h1 h2
            clear h1 h2 HQq
            have y0 : wa'.cell? ⟨w.heap.size, 0, none⟩ = some (.int .i64 wu) := HQ9.out.cell 0
            go_wp2_with fail
            go_at_call 20
            refine (H7.out _).mono ?_
            rintro e wb' ⟨rfl, rfl⟩
            go_wp2_with fail
            go_at_call 20
            refine (H6.out _).mono ?_
            rintro e wb' ⟨rfl, rfl⟩
            cases S with
            | true =>
              have hab := HE.out rfl
              have dab : (a == b) = true := by simp [hab]
              have nab : (a != b) = false := by simp [hab]
              clear hab
              cases P with
              | true =>
                have h7 := HP7.out rfl
                have d7 : (x7 == 0) = true := by simp [h7]
                clear h7
                cases Q with
                | true =>
                  have h6 := HP6.out rfl
                  have d6 : (x6 == 0) = true := by simp [h6]
                  clear h6
                  go_wp2_with fail
                  go_meet
                  case rel => exact ⟨rfl, rfl, rfl, rfl⟩
                | false =>
                  go_wp2_with fail
                  go_meet
                  case rel => exact ⟨rfl, rfl, rfl, rfl⟩
              | false =>
                cases Q with
                | true =>
                  have h6 := HP6.out rfl
                  have d6 : (x6 == 0) = true := by simp [h6]
                  clear h6
                  go_wp2_with fail
                  go_meet
                  case rel => exact ⟨rfl, rfl, rfl, rfl⟩
                | false =>
                  go_wp2_with fail
                  go_meet
                  case rel => exact ⟨rfl, rfl, rfl, rfl⟩
            | false =>
              cases P with
              | true =>
                have h7 := HP7.out rfl
                have d7 : (x7 == 0) = true := by simp [h7]
                clear h7
                cases Q with
                | true =>
                  have h6 := HP6.out rfl
                  have d6 : (x6 == 0) = true := by simp [h6]
                  clear h6
                  go_wp2_with fail
                  go_meet
                  case rel => exact ⟨rfl, rfl, rfl, rfl⟩
                | false =>
                  go_wp2_with fail
                  go_meet
                  case rel => exact ⟨rfl, rfl, rfl, rfl⟩
              | false =>
                cases Q with
                | true =>
                  have h6 := HP6.out rfl
                  have d6 : (x6 == 0) = true := by simp [h6]
                  clear h6
                  go_wp2_with fail
                  go_meet
                  case rel => exact ⟨rfl, rfl, rfl, rfl⟩
                | false =>
                  go_wp2_with fail
                  go_meet
                  case rel => exact ⟨rfl, rfl, rfl, rfl⟩
        case rest =>
          obtain ⟨rfl, rfl, rfl, rfl⟩ := hcut
          clear HQq
          obtain ⟨wb', hwb⟩ : ∃ x, x = wc := ⟨_, rfl⟩
          subst hwb
          obtain ⟨c0, c1, c2, hBc⟩ := three_at wb' (.cells #[.int .i64 2, .slice so ns sc, .slice to_ nt tc, .int .i64 0] 51) (.cells #[.int .i64 0] 3) (.cells #[.slice (some ⟨wb'.heap.size, 0, none⟩) 1 1, .slice (some ⟨wb'.heap.size + 1, 0, none⟩) 1 1] 29)
          obtain ⟨wd, hwd⟩ : ∃ wd, wd = ((wb'.alloc (.cells #[.int .i64 2, .slice so ns sc, .slice to_ nt tc, .int .i64 0] 51)).alloc (.cells #[.int .i64 0] 3)).alloc (.cells #[.slice (some ⟨wb'.heap.size, 0, none⟩) 1 1, .slice (some ⟨wb'.heap.size + 1, 0, none⟩) 1 1] 29) := ⟨_, rfl⟩
          rw [← hwd] at c0 c1 c2 hBc
          have HBd : Hid (Below w.heap.size w wd) := HB9.out.trans (hBc.mono HB9.out.size)
          have kA : Blk wd wb'.heap.size 51 #[.int .i64 2, .slice so ns sc, .slice to_ nt tc, .int .i64 0] := c0
          have kC : Blk wd (wb'.heap.size + 1) 3 #[.int .i64 0] := c1
          have HPd : Hid (Blk wd (wb'.heap.size + 1 + 1) 29 #[.slice (some ⟨wb'.heap.size, 0, none⟩) 1 1, .slice (some ⟨wb'.heap.size + 1, 0, none⟩) 1 1]) := c2
          have HAt : Hid (ReadsA wd (.slice (some ⟨wb'.heap.size, 0, none⟩) 1 1) (sameA s t)) := by
            refine Or.inr ⟨wb'.heap.size, 0, 1, rfl, kA.lt, by simp [sameA], ⟨by simp [sameA], by simp [sameA]⟩, fun i at_ ha => ?_⟩
            cases i with
            | zero =>
              obtain rfl : (⟨2, s, t, 0⟩ : At) = at_ := by simpa [sameA] using ha
              exact ⟨_, _, kA.cell 0, kA.cell 1, kA.cell 2, kA.cell 3, HS.out.below HBd.out, HT.out.below HBd.out⟩
            | succ i => simp [sameA] at ha
          have HCo : Hid (Reads wd (.slice (some ⟨wb'.heap.size + 1, 0, none⟩) 1 1) [0]) := by
            refine Or.inr ⟨wb'.heap.size + 1, 0, 1, rfl, kC.lt, by simp, ⟨by simp, by simp⟩, fun j hj => ?_⟩
            obtain rfl : j = 0 := by simp at hj; exact hj
            exact kC.cell 0
          clear c0 c1 c2 hBc kA kC
          have x0 : wd.cell? ⟨wb'.heap.size + 1 + 1, 0, none⟩ = some (.slice (some ⟨wb'.heap.size, 0, none⟩) 1 1) := HPd.out.cell 0
          have x1 : wd.cell? ⟨wb'.heap.size + 1 + 1, 1, none⟩ = some (.slice (some ⟨wb'.heap.size + 1, 0, none⟩) 1 1) := HPd.out.cell 1
          go_upto_region 20 with fail
          rw [← hwd]
          clear hwd
          go_wp2_with fail
          go_at_call 21
          refine (HSu.out HF.out _ _ _ HBd.out HAt.out HCo.out).mono ?_
          rintro e we ⟨rfl, hb⟩
          have HBe : Hid (Below w.heap.size w we) := HBd.out.trans (hb.mono HBd.out.size)
          clear hb x0 x1
          have dS : (S == S) = true := by simp
          have nS : (S != S) = false := by simp
          go_wp2_with fail
          go_at_call 22
          refine (HSw.out _ HBe.out).mono ?_
          rintro e wf ⟨⟨vo, vl, vc, rfl, h2⟩, hb⟩
          have HBf : Hid (Below w.heap.size w wf) := HBe.out.trans (hb.mono HBe.out.size)
          clear hb
          by_cases hg : g = 0
          · have eg : errV g = .nilIface := by rw [hg]; rfl
            have H2 : Hid (∀ W', Below wf.heap.size wf W' → Calls Tryz.prog 22 #[.slice vo vl vc, .int .i64 x, .int .i64 y] W' fun e2 w2 => (∃ uo ul uc, e2 = .returned (.tuple #[.slice uo ul uc, .nilIface]) ∧ Reads w2 (.slice uo ul uc) s) ∧ Below W'.heap.size W' w2) := h2 hg
            rw [eg]
            clear eg hg h2
            go_wp2_with fail
            go_at_call 22
            refine (H2.out _ (Below.refl _ _)).mono ?_
            rintro e wg ⟨⟨uo, ul, uc, rfl, hr⟩, hb⟩
            have HBg : Hid (Below w.heap.size w wg) := HBf.out.trans (hb.mono HBf.out.size)
            have HRg : Hid (Reads wg (.slice uo ul uc) s) := hr
            clear hb hr
            go_wp2_with fail
            go_at_call 23
            refine (HIn.out _ _ HBg.out HRg.out).mono ?_
            rintro e wh ⟨rfl, hb⟩
            have HBh : Hid (Below w.heap.size w wh) := HBg.out.trans (hb.mono HBg.out.size)
            clear hb
            go_wp2
            go_ret
            exact ⟨rfl, HBh.out⟩
          · rw [errV_no hg]
            clear h2
            go_wp2
            go_ret
            exact ⟨rfl, HBf.out⟩
  · rw [errV_no hf]
    go_wp2
    go_ret
    exact ⟨rfl, HB3.out⟩
end Go.Proofs.YtpdpnlpepfgknafGreatDoor
