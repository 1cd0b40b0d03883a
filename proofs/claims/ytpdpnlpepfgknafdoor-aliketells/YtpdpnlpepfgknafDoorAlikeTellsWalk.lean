/-
  Proved: vennlaw2.AlikeTells returns true where what it calls answers as chapters 2, 6 and 12 say; what was in memory is as it was (the walk that the statement leans on).
-/
import Derived.Test.YtpdpnlpepfgknafDoorAlikeMath
import Derived.Test.YtpdpnlpepfgknafDoorModelHead
import Derived.Test.YtpdpnlpepfgknafDoorAlikeOwn
import Derived.Deep.CutRange
import Derived.Deep.CutBlock
namespace Go.Proofs.YtpdpnlpepfgknafDoor
open Go.ChangeShapes Go.WideShapes Go.ChangeAt Go.RowKit
set_option maxRecDepth 100000

/-- what the walk asks of the answers. -/
structure AlikeN (es et e : Int) (a b Sm Pt Ap : Nat → Bool) (S P Q : Bool) : Prop where
  form : e = if es = 0 then et else es
  bad : ¬ e = 0 → S = false ∧ P = false ∧ Q = false
  good : e = 0 → S = Sm 8 ∧ P = Pt 8 ∧ Q = Ap 8
  start : Sm 0 = true ∧ Pt 0 = true ∧ Ap 0 = true
  step : ∀ k, Sm (k + 1) = (Sm k && (a k == b k)) ∧ Pt (k + 1) = (Pt k && (!a k || b k)) ∧ Ap (k + 1) = (Ap k && !(a k && b k))

set_option maxHeartbeats 16000000 in
theorem alikeTells_in (so : Option Addr) (sc : Nat) (to_ : Option Addr) (tl tc : Nat) (s : List Int) (x y es et e g : Int) (a b Sm Pt Ap : Nat → Bool) (S P Q : Bool) (w : World)
    (hRs : Reads w (.slice so s.length sc) s) (HN : Hid (AlikeN es et e a b Sm Pt Ap S P Q))
    (HG : Hid ((¬ es = 0 ∧ g = es) ∨ (es = 0 ∧ g = 1 ∧ ¬ ((0 ≤ x ∧ x ≤ 2) ∧ 0 ≤ y ∧ y ≤ 2)) ∨ (es = 0 ∧ g = 0 ∧ (0 ≤ x ∧ x ≤ 2) ∧ 0 ≤ y ∧ y ≤ 2)))
    (HLen : Hid (es = 0 → s.length ≤ 12))
    (HTs : Hid (∀ W, Below w.heap.size w W → Calls Tryd.prog 18 #[.slice so s.length sc] W fun r w' => r = .returned (.int .i64 es) ∧ W = w'))
    (HTt : Hid (∀ W, Below w.heap.size w W → Calls Tryd.prog 18 #[.slice to_ tl tc] W fun r w' => r = .returned (.int .i64 et) ∧ W = w'))
    (HLs : Hid (e = 0 → ∀ k : Nat, k < 8 → ∀ W, Below w.heap.size w W → Calls Tryd.prog 19 #[.slice so s.length sc, .int .i64 k] W fun r w' => r = .returned (.bool (a k)) ∧ Below W.heap.size W w'))
    (HLt : Hid (e = 0 → ∀ k : Nat, k < 8 → ∀ W, Below w.heap.size w W → Calls Tryd.prog 19 #[.slice to_ tl tc, .int .i64 k] W fun r w' => r = .returned (.bool (b k)) ∧ Below W.heap.size W w'))
    (HEr : Hid (∀ n W, Below w.heap.size w W → Calls Tryd.prog 7 #[errV n, .int .i64 n] W fun r w' => r = .returned (.bool true) ∧ Below W.heap.size W w'))
    (HSa : Hid (∀ W, Below w.heap.size w W → Calls Tryd.prog 20 #[.slice so s.length sc, .slice to_ tl tc] W fun r w' => r = .returned (.tuple #[.bool S, errV e]) ∧ Below W.heap.size W w'))
    (HPa : Hid (∀ W, Below w.heap.size w W → Calls Tryd.prog 21 #[.slice so s.length sc, .slice to_ tl tc] W fun r w' => r = .returned (.tuple #[.bool P, errV e]) ∧ Below W.heap.size W w'))
    (HAp : Hid (∀ W, Below w.heap.size w W → Calls Tryd.prog 22 #[.slice so s.length sc, .slice to_ tl tc] W fun r w' => r = .returned (.tuple #[.bool Q, errV e]) ∧ Below W.heap.size W w'))
    (HSw : Hid (∀ W, Below w.heap.size w W → Calls Tryd.prog 23 #[.slice so s.length sc, .int .i64 x, .int .i64 y] W fun r w' => (∃ vo vl vc, r = .returned (.tuple #[.slice vo vl vc, errV g]) ∧ ∀ W' v, Below w'.heap.size w' W' → Reads W' v (if g = 0 then s.map (swapS x y) else []) → Calls Tryd.prog 24 #[.slice vo vl vc, v] W' fun r w'' => r = .returned (.bool true) ∧ Below W'.heap.size W' w'') ∧ Below W.heap.size W w')) :
    Calls Tryd.prog 5 #[.slice so s.length sc, .slice to_ tl tc, .int .i64 x, .int .i64 y] w fun r w' => r = .returned (.bool true) ∧ Below w.heap.size w w' := by
  have HRs : Hid (Reads w (.slice so s.length sc) s) := hRs
  obtain ⟨ns, hns⟩ : ∃ n, n = s.length := ⟨_, rfl⟩
  rw [← hns] at HTs HLs HSa HPa HAp HSw HRs HLen ⊢
  have HNs : Hid (ns = s.length) := hns
  have hn63 : ns ≤ 9223372036854775807 := by
    rw [hns]
    rcases hRs with ⟨_, _, _, h0⟩ | ⟨_, _, _, _, _, _, h, _⟩
    · rw [h0]; simp
    · exact h.1
  clear hns hRs
  go_enter Tryd.func5, Tryd.ntmps5
  go_wp2_with fail
  go_at_call 18
  refine (HTs.out _ (Below.refl _ _)).mono ?_
  rintro r w' ⟨rfl, rfl⟩
  go_upto_if 31 with fail
  go_cut [9, 10] from 27 (fun p q wx => p = .int .i64 e ∧ q = .int .i64 es ∧ wx = w)
  case first =>
    by_cases h0 : es = 0
    · have HE : Hid (e = et) := by unfold Hid; rw [HN.out.form, if_pos h0]
      have H0 : Hid (es = 0) := h0
      clear h0
      rw [H0.out]
      go_wp2_with fail
      go_at_call 18
      refine (HTt.out _ (Below.refl _ _)).mono ?_
      rintro r w' ⟨rfl, rfl⟩
      go_wp2_with fail
      go_meet
      case rel => exact ⟨by rw [HE.out], by rw [H0.out], rfl⟩
    · have HE : Hid (e = es) := by unfold Hid; rw [HN.out.form, if_neg h0]
      have d0 : (es == 0) = false := by simp [h0]
      clear h0
      go_wp2_with fail
      go_meet
      case rel => exact ⟨by rw [HE.out], rfl, rfl⟩
  case rest =>
    obtain ⟨rfl, rfl, rfl⟩ := hcut
    obtain ⟨w1, hw1⟩ : ∃ x, x = wc := ⟨_, rfl⟩
    subst hw1
    go_upto_block 0 with fail
    go_cut [9, 11, 12, 13, 14, 15, 16] from 27 (fun p q r t _ _ _ wx => p = .int .i64 e ∧ q = .bool S ∧ r = .bool P ∧ t = .bool Q ∧ Below w1.heap.size w1 wx)
    case first =>
      by_cases he : e = 0
      · have HE : Hid (e = 0) := he
        obtain ⟨g1, g2, g3⟩ := HN.out.good he
        have HS8 : Hid (S = Sm 8 ∧ P = Pt 8 ∧ Q = Ap 8) := ⟨g1, g2, g3⟩
        have z1 : ((0 : Int) == 0) = true := rfl
        clear he g1 g2 g3
        rw [HE.out, z1]
        clear z1
        go_wp2_with fail
        go_loopw [11, 12, 13, 14, 15, 16] (fun p q r i _ _ wr => ∃ k : Nat, k ≤ 8 ∧ i = .int .i64 k ∧ p = .bool (Sm k) ∧ q = .bool (Pt k) ∧ r = .bool (Ap k) ∧ Below w1.heap.size w1 wr) (fun _ _ _ i _ _ _ => 8 - (intOf i).toNat)
        case atStart =>
          obtain ⟨s1, s2, s3⟩ := HN.out.start
          exact ⟨0, by omega, rfl, by rw [s1], by rw [s2], by rw [s3], Below.refl _ _⟩
        case round =>
          obtain ⟨k, hk, rfl, rfl, rfl, rfl, hbr⟩ := hrel
          have HBr : Hid (Below w1.heap.size w1 wr) := hbr
          clear hbr
          by_cases hlt : k < 8
          · obtain ⟨t1, t2, t3⟩ := HN.out.step k
            have HT : Hid (Sm (k + 1) = (Sm k && (a k == b k)) ∧ Pt (k + 1) = (Pt k && (!a k || b k)) ∧ Ap (k + 1) = (Ap k && !(a k && b k))) := ⟨t1, t2, t3⟩
            have HLa : Hid (∀ W, Below w1.heap.size w1 W → Calls Tryd.prog 19 #[.slice so ns sc, .int .i64 k] W fun r w' => r = .returned (.bool (a k)) ∧ Below W.heap.size W w') := HLs.out HE.out k hlt
            have HLb : Hid (∀ W, Below w1.heap.size w1 W → Calls Tryd.prog 19 #[.slice to_ tl tc, .int .i64 k] W fun r w' => r = .returned (.bool (b k)) ∧ Below W.heap.size W w') := HLt.out HE.out k hlt
            obtain ⟨ak, hak⟩ : ∃ v, v = a k := ⟨_, rfl⟩
            obtain ⟨bk, hbk⟩ : ∃ v, v = b k := ⟨_, rfl⟩
            obtain ⟨p0, hp0⟩ : ∃ v, v = Sm k := ⟨_, rfl⟩
            obtain ⟨q0, hq0⟩ : ∃ v, v = Pt k := ⟨_, rfl⟩
            obtain ⟨r0, hr0⟩ : ∃ v, v = Ap k := ⟨_, rfl⟩
            rw [← hak, ← hbk, ← hp0, ← hq0, ← hr0] at HT
            rw [← hak] at HLa
            rw [← hbk] at HLb
            rw [← hp0, ← hq0, ← hr0]
            clear t1 t2 t3 hak hbk hp0 hq0 hr0
            go_wp2_with fail
            go_at_call 19
            refine (HLa.out _ HBr.out).mono ?_
            rintro r w2 ⟨rfl, hb⟩
            have HB2 : Hid (Below w1.heap.size w1 w2) := HBr.out.trans (hb.mono HBr.out.size)
            clear hb
            go_wp2_with fail
            go_at_call 19
            refine (HLb.out _ HB2.out).mono ?_
            rintro r w3 ⟨rfl, hb⟩
            have HB3 : Hid (Below w1.heap.size w1 w3) := HB2.out.trans (hb.mono HB2.out.size)
            clear hb
            obtain ⟨t1, t2, t3⟩ := HT.out
            have HT1 : Hid _ := t1
            have HT2 : Hid _ := t2
            have HT3 : Hid _ := t3
            clear t1 t2 t3 HT
            cases ak <;> cases bk <;> go_wp2 <;> go_roundw <;> first | exact ⟨k + 1, by omega, by go_num, by rw [HT1.out]; cases p0 <;> rfl, by rw [HT2.out]; cases q0 <;> rfl, by rw [HT3.out]; cases r0 <;> rfl, HB3.out⟩ | (simp [intOf]; omega)
          · obtain rfl : k = 8 := by omega
            go_wp2_with fail
            go_meet
            case rel => exact ⟨by rw [HE.out], by rw [HS8.out.1], by rw [HS8.out.2.1], by rw [HS8.out.2.2], HBr.out⟩
      · obtain ⟨g1, g2, g3⟩ := HN.out.bad he
        have HS8 : Hid (S = false ∧ P = false ∧ Q = false) := ⟨g1, g2, g3⟩
        have d0 : (e == 0) = false := by simp [he]
        clear g1 g2 g3
        go_wp2_with fail
        refine wp_loop_rounds 1 ?_
        rw [rounds_succ]
        go_wp2_with fail
        go_meet
        case rel => exact ⟨rfl, by rw [HS8.out.1]; simp [he], by rw [HS8.out.2.1]; simp [he], by rw [HS8.out.2.2]; simp [he], Below.refl _ _⟩
    case rest =>
      obtain ⟨rfl, rfl, rfl, rfl, hbc⟩ := hcut
      obtain ⟨w2, hw2⟩ : ∃ x, x = wc := ⟨_, rfl⟩
      subst hw2
      have HB2 : Hid (Below w1.heap.size w1 w2) := hbc
      clear hbc
      go_wp2_with fail
      go_at_call 20
      refine (HSa.out _ HB2.out).mono ?_
      rintro r w3 ⟨rfl, hb⟩
      have HB3 : Hid (Below w1.heap.size w1 w3) := HB2.out.trans (hb.mono HB2.out.size)
      clear hb
      go_wp2_with fail
      go_at_call 7
      refine (HEr.out e _ HB3.out).mono ?_
      rintro r w4 ⟨rfl, hb⟩
      have HB4 : Hid (Below w1.heap.size w1 w4) := HB3.out.trans (hb.mono HB3.out.size)
      clear hb
      go_wp2_with fail
      go_at_call 21
      refine (HPa.out _ HB4.out).mono ?_
      rintro r w5 ⟨rfl, hb⟩
      have HB5 : Hid (Below w1.heap.size w1 w5) := HB4.out.trans (hb.mono HB4.out.size)
      clear hb
      go_wp2_with fail
      go_at_call 7
      refine (HEr.out e _ HB5.out).mono ?_
      rintro r w6 ⟨rfl, hb⟩
      have HB6 : Hid (Below w1.heap.size w1 w6) := HB5.out.trans (hb.mono HB5.out.size)
      clear hb
      go_wp2_with fail
      go_at_call 22
      refine (HAp.out _ HB6.out).mono ?_
      rintro r w7 ⟨rfl, hb⟩
      have HB7 : Hid (Below w1.heap.size w1 w7) := HB6.out.trans (hb.mono HB6.out.size)
      clear hb
      go_wp2_with fail
      go_at_call 7
      refine (HEr.out e _ HB7.out).mono ?_
      rintro r w8 ⟨rfl, hb⟩
      have HB8 : Hid (Below w1.heap.size w1 w8) := HB7.out.trans (hb.mono HB7.out.size)
      clear hb
      go_upto_region 25 with fail
      go_cut [10, 125] from 27 (fun p q wx => p = .int .i64 es ∧ (∃ t : Bool, q = .bool t ∧ ((t = true ∧ g = 1) ∨ (t = false ∧ g = es))) ∧ wx = w8)
      case first =>
        rcases HG.out with ⟨h0, h1⟩ | ⟨h0, h1, h2⟩ | ⟨h0, h1, ⟨x0, x2⟩, y0, y2⟩
        · have HE : Hid (g = es) := h1
          have d0 : (es == 0) = false := by simp [h0]
          clear h0 h1
          go_wp2_with fail
          go_meet
          case rel => exact ⟨rfl, ⟨false, rfl, Or.inr ⟨rfl, HE.out⟩⟩, rfl⟩
        · have HE : Hid (g = 1) := h1
          have H0 : Hid (es = 0) := h0
          clear h0 h1
          rw [H0.out]
          by_cases c1 : x < 0
          · clear h2
            go_wp2_with fail
            go_meet
            case rel => exact ⟨by rw [H0.out], ⟨true, rfl, Or.inl ⟨rfl, HE.out⟩⟩, rfl⟩
          · by_cases c2 : 2 < x
            · clear h2
              go_wp2_with fail
              go_meet
              case rel => exact ⟨by rw [H0.out], ⟨true, rfl, Or.inl ⟨rfl, HE.out⟩⟩, rfl⟩
            · by_cases c3 : y < 0
              · clear h2
                go_wp2_with fail
                go_meet
                case rel => exact ⟨by rw [H0.out], ⟨true, rfl, Or.inl ⟨rfl, HE.out⟩⟩, rfl⟩
              · have c4 : 2 < y := by omega
                clear h2
                go_wp2_with fail
                go_meet
                case rel => exact ⟨by rw [H0.out], ⟨true, rfl, Or.inl ⟨rfl, HE.out⟩⟩, rfl⟩
        · have HE : Hid (g = es) := h1.trans h0.symm
          have H0 : Hid (es = 0) := h0
          clear h0 h1
          rw [H0.out]
          go_wp2_with fail
          go_meet
          case rel => exact ⟨by rw [H0.out], ⟨false, congrArg Value.bool (by simp; omega), Or.inr ⟨rfl, HE.out⟩⟩, rfl⟩
      case rest =>
        obtain ⟨rfl, ⟨t, rfl, ht⟩, rfl⟩ := hcut
        have HT : Hid ((t = true ∧ g = 1) ∨ (t = false ∧ g = es)) := ht
        clear ht
        obtain ⟨w9, hw9⟩ : ∃ x, x = wc := ⟨_, rfl⟩
        subst hw9
        go_upto_if 125 with fail
        go_cut [10] from 27 (fun p wx => p = .int .i64 g ∧ wx = w9)
        case first =>
          rcases HT.out with ⟨rfl, h1⟩ | ⟨rfl, h1⟩
          · have HE : Hid (g = 1) := h1
            clear h1 HT
            go_wp2_with fail
            go_meet
            case rel => exact ⟨by rw [HE.out], rfl⟩
          · have HE : Hid (g = es) := h1
            clear h1 HT
            go_wp2_with fail
            go_meet
            case rel => exact ⟨by rw [HE.out], rfl⟩
        case rest =>
          obtain ⟨rfl, rfl⟩ := hcut
          clear HT
          obtain ⟨wa, hwa⟩ : ∃ x, x = wc := ⟨_, rfl⟩
          subst hwa
          go_upto_block 2 with fail
          go_cut [10, 22, 23, 24] from 27 (fun p v _ _ wx => p = .int .i64 g ∧ Reads wx v (if g = 0 then s.map (swapS x y) else []) ∧ Below wa.heap.size wa wx)
          case first =>
            by_cases hg : g = 0
            · have HGz : Hid (g = 0) := hg
              have hes : es = 0 := by
                rcases HG.out with ⟨h0, h1⟩ | ⟨h0, _⟩ | ⟨h0, _⟩
                · exact absurd (h1.symm.trans hg) h0
                · exact h0
                · exact h0
              have hn12 : ns ≤ 12 := HLen.out hes
              clear hg hes
              rw [HGz.out]
              go_wp2_with fail
              go_loopw [22, 23, 24] (fun v i _ wr => ∃ j : Nat, j ≤ ns ∧ i = .int .i64 j ∧ wr.ownsRow wa.heap.size 3 1 v j (((s.take j).map (swapS x y)).map (Value.int .i64)) ∧ Below wa.heap.size wa wr) (fun _ i _ _ => ns - (intOf i).toNat)
              case atStart => exact ⟨0, Nat.zero_le _, rfl, World.ownsRow_nil _ _ _ _, Below.refl _ _⟩
              case round =>
                obtain ⟨j, hj, rfl, hown, hbr⟩ := hrel
                have HBr : Hid (Below wa.heap.size wa wr) := hbr
                have HOw : Hid (wr.ownsRow wa.heap.size 3 1 u22 j (((s.take j).map (swapS x y)).map (Value.int .i64))) := hown
                have HBw : Hid (Below w1.heap.size w1 wr) := HB8.out.trans (hbr.mono HB8.out.size)
                clear hbr hown
                by_cases hlt : j < ns
                · obtain ⟨bs, os, hso, z⟩ : ∃ bs os, so = some ⟨bs, os, none⟩ ∧ wr.cell? ⟨bs, os + j, none⟩ = some (.int .i64 (s.getD j 0)) := by
                    rcases HRs.out with ⟨ao, cap, hv, h0⟩ | ⟨b, off, cap, hv, hb, _, _, hcell⟩
                    · have := HNs.out; rw [h0] at this; simp at this; omega
                    · obtain ⟨h1, _, _⟩ := Value.slice.inj hv
                      exact ⟨b, off, h1, (HBw.out.cell hb).trans (hcell j (by rw [← HNs.out]; exact hlt))⟩
                  subst hso
                  have hjs : j < s.length := by rw [← HNs.out]; exact hlt
                  obtain ⟨l, hl⟩ : ∃ l, l = (s.take j).map (swapS x y) := ⟨_, rfl⟩
                  have HLl : Hid (l.length = j) := by unfold Hid; rw [hl, List.length_map, List.length_take]; omega
                  have HLs' : Hid ((s.take (j + 1)).map (swapS x y) = l ++ [swapS x y (s.getD j 0)]) := by
                    unfold Hid; rw [take_succ_getD s hjs, List.map_append, ← hl]; rfl
                  have HO5 : Hid (wr.ownsRow wa.heap.size 3 1 u22 l.length (l.map (Value.int .i64))) := by unfold Hid; rw [HLl.out, hl]; exact HOw.out
                  have HS5 : Hid (wa.heap.size ≤ wr.heap.size) := HBr.out.size
                  have hl12 : l.length ≤ 20 := by have := HLl.out; omega
                  obtain ⟨n, hn⟩ : ∃ n, n = s.getD j 0 := ⟨_, rfl⟩
                  rw [← hn] at z HLs'
                  have HSn : Hid ((n = x ∧ swapS x y n = y) ∨ (¬ n = x ∧ n = y ∧ swapS x y n = x) ∨ (¬ n = x ∧ ¬ n = y ∧ swapS x y n = n)) := by
                    unfold Hid swapS
                    by_cases c1 : n = x
                    · left; exact ⟨c1, by rw [if_pos c1]⟩
                    · right
                      by_cases c2 : n = y
                      · left; exact ⟨c1, c2, by rw [if_neg c1, if_pos c2]⟩
                      · right; exact ⟨c1, c2, by rw [if_neg c1, if_neg c2]⟩
                  obtain ⟨v, hv⟩ : ∃ v, v = swapS x y n := ⟨_, rfl⟩
                  rw [← hv] at HSn HLs'
                  clear hl hn hv hjs
                  go_upto_region 32 with fail
                  clear z
                  have hcj : (j : Int) < (ns : Int) := by omega
                  go_upto_if 142 with fail
                  go_cut [24] from 126 to 151 (fun q wx => q = .int .i64 v ∧ wx = wr)
                  case first =>
                    rcases HSn.out with ⟨c1, c2⟩ | ⟨c1, c2, c3⟩ | ⟨c1, c2, c3⟩
                    · have H : Hid (v = y) := c2
                      have d1 : (n == x) = true := by simp [c1]
                      clear c1 c2 HSn
                      go_wp2_with fail
                      go_meet
                      case rel => exact ⟨by rw [H.out], rfl⟩
                    · have H : Hid (v = x) := c3
                      have d1 : (n == x) = false := by simp [c1]
                      have d2 : (n == y) = true := by simp [c2]
                      clear c1 c2 c3 HSn
                      go_wp2_with fail
                      go_meet
                      case rel => exact ⟨by rw [H.out], rfl⟩
                    · have H : Hid (v = n) := c3
                      have d1 : (n == x) = false := by simp [c1]
                      have d2 : (n == y) = false := by simp [c2]
                      clear c1 c2 c3 HSn
                      go_wp2_with fail
                      go_meet
                      case rel => exact ⟨by rw [H.out], rfl⟩
                  case rest =>
                    obtain ⟨rfl, rfl⟩ := hcut
                    obtain ⟨wb, hwb⟩ : ∃ x, x = wc := ⟨_, rfl⟩
                    subst hwb
                    clear HSn
                    go_wp2_with (at_builtin; refine append_sign rfl _ _ rfl wa.heap.size u22 rfl l v wb.heap.size 1 rfl (HO5.out.alloc _) (heap_alloc_new wb _) (by have := HS5.out; simp; omega) hl12 ?_)
                    intro v9 wd hown hgrow
                    have HBa : Hid (Below wa.heap.size wa (wb.alloc (.cells #[.int .i64 v] 3))) := HBr.out.alloc HBr.out.size _
                    have HB9 : Hid (Below wa.heap.size wa wd) := HBa.out.grown hgrow HBa.out.size (fun x hx => (HO5.out.lt x hx).1)
                    have HO9 : Hid (wd.ownsRow wa.heap.size 3 1 v9 (j + 1) (((s.take (j + 1)).map (swapS x y)).map (Value.int .i64))) := by
                      unfold Hid
                      rw [HLs'.out]
                      have hll := HLl.out
                      rw [← hll]
                      simpa using hown
                    clear hown hgrow
                    go_wp2
                    go_roundw
                    case rel => exact ⟨j + 1, by omega, by go_num, HO9.out, HB9.out⟩
                    case measure => simp [intOf]; omega
                · obtain rfl : j = ns := by omega
                  have HRd : Hid (Reads wr u22 (s.map (swapS x y))) := by
                    have h : wr.ownsRow wa.heap.size 3 1 u22 j (((s.take j).map (swapS x y)).map (Value.int .i64)) := HOw.out
                    rw [HNs.out, List.take_length] at h
                    exact own_readsS (K := wa.heap.size) (by rw [List.length_map]; exact h) (by rw [List.length_map, ← HNs.out]; exact hn63)
                  go_wp2_with fail
                  go_meet
                  case rel => exact ⟨by rw [HGz.out], by rw [if_pos HGz.out]; exact HRd.out, HBr.out⟩
            · have d0 : (g == 0) = false := by simp [hg]
              have HGn : Hid (¬ g = 0) := hg
              clear hg
              go_wp2_with fail
              go_loopw [22, 23, 24] (fun v i _ wr => v = .slice none 0 0 ∧ i = .int .i64 0 ∧ wr = wa) (fun _ _ _ _ => 0)
              case atStart => exact ⟨rfl, rfl, rfl⟩
              case round =>
                obtain ⟨rfl, rfl, rfl⟩ := hrel
                by_cases h0 : 0 < ns
                · have h0' : (0 : Int) < (ns : Int) := by omega
                  go_wp2_with fail
                  go_meet
                  case rel => exact ⟨rfl, by rw [if_neg HGn.out]; exact Or.inl ⟨none, 0, rfl, rfl⟩, Below.refl _ _⟩
                · obtain rfl : ns = 0 := by omega
                  go_wp2_with fail
                  go_meet
                  case rel => exact ⟨rfl, by rw [if_neg HGn.out]; exact Or.inl ⟨none, 0, rfl, rfl⟩, Below.refl _ _⟩
          case rest =>
            obtain ⟨rfl, hrd, hbc⟩ := hcut
            obtain ⟨wb, hwb⟩ : ∃ x, x = wc := ⟨_, rfl⟩
            subst hwb
            have HBb : Hid (Below w1.heap.size w1 wb) := HB8.out.trans (hbc.mono HB8.out.size)
            have HRd : Hid (Reads wb u22 (if g = 0 then s.map (swapS x y) else [])) := hrd
            clear hrd hbc
            go_wp2_with fail
            go_at_call 23
            refine (HSw.out _ HBb.out).mono ?_
            rintro r wd ⟨⟨vo, vl, vc, rfl, hI⟩, hb⟩
            have HBd : Hid (Below w1.heap.size w1 wd) := HBb.out.trans (hb.mono HBb.out.size)
            have HRd2 : Hid (Reads wd u22 (if g = 0 then s.map (swapS x y) else [])) := HRd.out.below hb
            have HI : Hid (∀ W', Below wd.heap.size wd W' → Calls Tryd.prog 24 #[.slice vo vl vc, u22] W' fun r w'' => r = .returned (.bool true) ∧ Below W'.heap.size W' w'') := fun W' hW' => hI W' u22 hW' (HRd2.out.below hW')
            clear hb hI
            go_wp2_with fail
            go_at_call 7
            refine (HEr.out g _ HBd.out).mono ?_
            rintro r we ⟨rfl, hb⟩
            have HBe : Hid (Below w1.heap.size w1 we) := HBd.out.trans (hb.mono HBd.out.size)
            have HBde : Hid (Below wd.heap.size wd we) := hb
            clear hb
            go_wp2_with fail
            go_at_call 24
            refine (HI.out _ HBde.out).mono ?_
            rintro r wf ⟨rfl, hb⟩
            have HBf : Hid (Below w1.heap.size w1 wf) := HBe.out.trans (hb.mono HBe.out.size)
            clear hb
            go_wp2
            go_ret
            exact ⟨rfl, HBf.out⟩
end Go.Proofs.YtpdpnlpepfgknafDoor
