/-
  Proved: vennlaw2.SomeTells returns true where what it calls answers as chapters 4 and 15 say; what was in memory is as it was (the walk that the statement leans on).
-/
import Derived.Test.YtokpjcbifbmfiahDoorLibSM5
import Derived.Test.YtokpjcbifbmfiahDoorLibSM7
import Derived.Deep.CutRange
import Derived.Deep.CutBlock
namespace Go.Proofs.YtokpjcbifbmfiahDoor
open Go.ChangeShapes Go.WideShapes Go.ChangeAt Go.RowKit
set_option maxRecDepth 100000

theorem arrW_put (D : Wd) {k : Nat} (hk : k < 3) (s : Int) : (arrW D).setIfInBounds (1 + k) (.int .i64 s) = arrW (D.put k s) := by
  rcases (by omega : k = 0 ∨ k = 1 ∨ k = 2) with rfl | rfl | rfl <;> simp [arrW, Wd.put]

set_option maxHeartbeats 16000000 in
theorem someTells_in (ao : Option Addr) (al acap : Nat) (co : Option Addr) (cl ccap : Nat) (name : Int) (D : Wd) (e0 e1 E E2 F F2 : Int) (Ea : Bool) (p : Nat → Bool) (N : Nat) (w : World)
    (He1 : Hid (e1 = if e0 = 0 then (if 0 ≤ name ∧ name ≤ 2 then 0 else 1) else e0)) (HE : Hid (E = if e1 = 0 then (if D.ok = true then 0 else 1) else e1))
    (HF : Hid (F = if E = 0 then lowD p N N else -1)) (HEa : Hid (Ea = if E = 0 then allD p N N else false))
    (HE2 : Hid (E2 = if E = 0 then (if F < 0 then 5 else 0) else E)) (HF2 : Hid (F2 = if F < 0 then 0 else F)) (HN : Hid (E = 0 → 1 ≤ N ∧ N ≤ 64))
    (HFm : Hid (∀ W, Below w.heap.size w W → Calls Tryd.prog 10 #[.agg #[.slice ao al acap, .slice co cl ccap]] W fun e w' => e = .returned (.int .i64 e0) ∧ Below W.heap.size W w'))
    (HWo : Hid (∀ W, Below w.heap.size w W → Calls Tryd.prog 11 #[.agg #[.int .i64 D.u, .int .i64 D.a, .int .i64 D.b, .int .i64 D.c]] W fun e w' => e = .returned (.int .i64 (if D.ok = true then 0 else 1)) ∧ Below W.heap.size W w'))
    (HPw : Hid (E = 0 → ∀ W, Calls Tryd.prog 12 #[.int .i64 D.u] W fun e w' => e = .returned (.int .i64 N) ∧ w' = W))
    (HTr : Hid (E = 0 → ∀ (s : Nat), s < N → ∀ W, Below w.heap.size w W → Calls Tryd.prog 13 #[.agg #[.slice ao al acap, .slice co cl ccap], .agg #[.int .i64 (D.put name.toNat s).u, .int .i64 (D.put name.toNat s).a, .int .i64 (D.put name.toNat s).b, .int .i64 (D.put name.toNat s).c]] W fun e w' => e = .returned (.bool (p s)) ∧ Below W.heap.size W w'))
    (HIs : Hid (∀ W, Below w.heap.size w W → Calls Tryd.prog 14 #[.agg #[.slice ao al acap, .slice co cl ccap], .int .i64 name, .agg #[.int .i64 D.u, .int .i64 D.a, .int .i64 D.b, .int .i64 D.c]] W fun e w' => e = .returned (.tuple #[.bool (decide (0 ≤ F)), errV E]) ∧ Below W.heap.size W w'))
    (HEc : Hid (∀ W, Below w.heap.size w W → Calls Tryd.prog 16 #[.agg #[.slice ao al acap, .slice co cl ccap], .int .i64 name, .agg #[.int .i64 D.u, .int .i64 D.a, .int .i64 D.b, .int .i64 D.c]] W fun e w' => e = .returned (.tuple #[.bool Ea, errV E]) ∧ Below W.heap.size W w'))
    (HFi : Hid (∀ W, Below w.heap.size w W → Calls Tryd.prog 17 #[.agg #[.slice ao al acap, .slice co cl ccap], .int .i64 name, .agg #[.int .i64 D.u, .int .i64 D.a, .int .i64 D.b, .int .i64 D.c]] W fun e w' => e = .returned (.tuple #[.int .i64 F2, errV E2]) ∧ Below W.heap.size W w'))
    (HEr : Hid (∀ n W, Below w.heap.size w W → Calls Tryd.prog 15 #[errV n, .int .i64 n] W fun e w' => e = .returned (.bool true) ∧ Below W.heap.size W w')) :
    Calls Tryd.prog 4 #[.agg #[.slice ao al acap, .slice co cl ccap], .int .i64 name, .agg #[.int .i64 D.u, .int .i64 D.a, .int .i64 D.b, .int .i64 D.c]] w fun e w' => e = .returned (.bool true) ∧ Below w.heap.size w w' := by
  obtain ⟨w1, hw1⟩ : ∃ w1, w1 = (w.alloc (.cells #[.slice ao al acap, .slice co cl ccap] 25)).alloc (.cells #[.int .i64 D.u, .int .i64 D.a, .int .i64 D.b, .int .i64 D.c] 38) := ⟨_, rfl⟩
  have B1 : Hid (Below w.heap.size w w1) := by unfold Hid; rw [hw1]; exact (below_alloc1 _ _).alloc (by simp) _
  have kF1 : Hid (Blk w1 w.heap.size 25 #[.slice ao al acap, .slice co cl ccap]) := by unfold Hid; rw [hw1]; exact (Blk.new _ _ _).old _
  have kW1 : Hid (Blk w1 (w.heap.size + 1) 38 (arrW D)) := by
    unfold Hid; rw [hw1]
    have := Blk.new (w.alloc (.cells #[.slice ao al acap, .slice co cl ccap] 25)) 38 (arrW D)
    simp only [World.size_alloc] at this
    exact this
  have x0 : w1.cell? ⟨w.heap.size, 0, none⟩ = some (.slice ao al acap) := kF1.out.cell 0
  have x1 : w1.cell? ⟨w.heap.size, 1, none⟩ = some (.slice co cl ccap) := kF1.out.cell 1
  go_enter Tryd.func4, Tryd.ntmps4
  go_wp2_with fail
  rw [← hw1]
  clear hw1
  go_wp2_with fail
  go_at_call 10
  refine (HFm.out _ B1.out).mono ?_
  rintro e w2 ⟨rfl, hb⟩
  have B2 : Hid (Below w.heap.size w w2) := B1.out.trans (hb.mono B1.out.size)
  have kF2 : Hid (Blk w2 w.heap.size 25 #[.slice ao al acap, .slice co cl ccap]) := kF1.out.below hb
  have kW2 : Hid (Blk w2 (w.heap.size + 1) 38 (arrW D)) := kW1.out.below hb
  clear hb x0 x1
  go_upto_region 2 with fail
  go_cut [30] from 21 (fun q wx => (∃ b : Bool, q = .bool b ∧ ((b = true ∧ e1 = 1) ∨ (b = false ∧ e1 = e0))) ∧ wx = w2)
  case first =>
    by_cases h0 : e0 = 0
    · have d0 : (e0 == 0) = true := by simp [h0]
      have h1 := He1.out
      rw [if_pos h0] at h1
      by_cases hn : 0 ≤ name ∧ name ≤ 2
      · rw [if_pos hn] at h1
        have H1 : Hid (e1 = e0) := h1.trans h0.symm
        have c1 : ¬ name < 0 := by omega
        have c2 : ¬ 2 < name := by omega
        clear h0 h1 hn
        go_wp2_with fail
        go_meet
        case rel => exact ⟨⟨false, rfl, Or.inr ⟨rfl, H1.out⟩⟩, rfl⟩
      · rw [if_neg hn] at h1
        have H1 : Hid (e1 = 1) := h1
        by_cases c1 : name < 0
        · clear h0 h1 hn
          go_wp2_with fail
          go_meet
          case rel => exact ⟨⟨true, rfl, Or.inl ⟨rfl, H1.out⟩⟩, rfl⟩
        · have c2 : 2 < name := by omega
          clear h0 h1 hn
          go_wp2_with fail
          go_meet
          case rel => exact ⟨⟨true, rfl, Or.inl ⟨rfl, H1.out⟩⟩, rfl⟩
    · have d0 : (e0 == 0) = false := by simp [h0]
      have H1 : Hid (e1 = e0) := by unfold Hid; rw [He1.out, if_neg h0]
      clear h0
      go_wp2_with fail
      go_meet
      case rel => exact ⟨⟨false, rfl, Or.inr ⟨rfl, H1.out⟩⟩, rfl⟩
  case rest =>
    obtain ⟨⟨b, rfl, hb⟩, hwx⟩ := hcut
    have HB : Hid ((b = true ∧ e1 = 1) ∨ (b = false ∧ e1 = e0)) := hb
    clear hb
    rw [hwx]
    clear hwx
    go_upto_if 30 with fail
    go_cut [7] from 31 (fun q wx => q = .int .i64 e1 ∧ wx = w2)
    case first =>
      rcases HB.out with ⟨rfl, h⟩ | ⟨rfl, h⟩
      · have H : Hid (e1 = 1) := h
        clear h HB
        go_wp2_with fail
        go_meet
        case rel => exact ⟨by rw [H.out], rfl⟩
      · have H : Hid (e1 = e0) := h
        clear h HB
        go_wp2_with fail
        go_meet
        case rel => exact ⟨by rw [H.out], rfl⟩
    case rest =>
      obtain ⟨rfl, hwx⟩ := hcut
      rw [hwx]
      clear hwx HB
      go_upto_if 32 with fail
      go_cut [7, 32] from 33 (fun q _ wx => q = .int .i64 E ∧ Below w2.heap.size w2 wx)
      case first =>
        by_cases h1 : e1 = 0
        · have d1 : (e1 == 0) = true := by simp [h1]
          have H : Hid (E = if D.ok = true then 0 else 1) := by unfold Hid; rw [HE.out, if_pos h1]
          clear h1
          obtain ⟨z0, z1, z2, z3⟩ := kW2.out.cells4
          go_wp2_with fail
          go_at_call 11
          refine (HWo.out _ B2.out).mono ?_
          rintro e w3 ⟨rfl, hb⟩
          have Hb : Hid (Below w2.heap.size w2 w3) := hb
          clear hb
          rw [← H.out]
          go_wp2_with fail
          go_meet
          case rel => exact ⟨rfl, Hb.out⟩
        · have d1 : (e1 == 0) = false := by simp [h1]
          have H : Hid (E = e1) := by unfold Hid; rw [HE.out, if_neg h1]
          clear h1
          go_wp2_with fail
          go_meet
          case rel => exact ⟨by rw [H.out], Below.refl _ _⟩
      case rest =>
        obtain ⟨rfl, hbc⟩ := hcut
        obtain ⟨w3, hw3⟩ : ∃ x, x = wc := ⟨_, rfl⟩
        subst hw3
        have B3 : Hid (Below w.heap.size w w3) := B2.out.trans (hbc.mono B2.out.size)
        have kF3 : Hid (Blk w3 w.heap.size 25 #[.slice ao al acap, .slice co cl ccap]) := kF2.out.below hbc
        have kW3 : Hid (Blk w3 (w.heap.size + 1) 38 (arrW D)) := kW2.out.below hbc
        clear hbc
        obtain ⟨z0, z1, z2, z3⟩ := kW3.out.cells4
        go_upto_if 38 with fail
        go_cut [8, 9, 10, 11, 12, 36, 38] from 39 (fun f a _ _ _ _ _ wx => f = .int .i64 F ∧ a = .bool Ea ∧ Below w3.heap.size w3 wx)
        case first =>
          by_cases h0 : E = 0
          · have d0 : (E == 0) = true := by simp [h0]
            have H0 : Hid (E = 0) := h0
            have hn : 0 ≤ name ∧ name ≤ 2 := by
              by_cases hn : 0 ≤ name ∧ name ≤ 2
              · exact hn
              · exfalso
                have h1 := He1.out
                have h2 := HE.out
                rw [h0] at h2
                by_cases g0 : e0 = 0
                · rw [if_pos g0, if_neg hn] at h1
                  rw [h1] at h2
                  simp at h2
                · rw [if_neg g0] at h1
                  rw [h1, if_neg g0] at h2
                  exact g0 h2.symm
            have HTr0 := HTr.out h0
            obtain ⟨n1, n64⟩ := HN.out h0
            have HFv : Hid (F = lowD p N N) := by unfold Hid; rw [HF.out, if_pos h0]
            have HAv : Hid (Ea = allD p N N) := by unfold Hid; rw [HEa.out, if_pos h0]
            have HPw0 : Hid _ := HPw.out h0
            clear h0
            obtain ⟨k, rfl⟩ := Int.eq_ofNat_of_zero_le hn.1
            rw [Int.toNat_natCast] at HTr0
            have HTk : Hid _ := HTr0
            have hk3 : k < 3 := by omega
            clear hn HTr0
            obtain ⟨w4, hw4⟩ : ∃ w4, w4 = w3.alloc (.cells #[.int .i64 D.u, .int .i64 D.a, .int .i64 D.b, .int .i64 D.c] 38) := ⟨_, rfl⟩
            obtain ⟨G, hG⟩ : ∃ G, G = w3.heap.size := ⟨_, rfl⟩
            have B34 : Hid (Below G w3 w4) := by unfold Hid; rw [hw4, hG]; exact below_alloc1 _ _
            have kX4 : Hid (Blk w4 G 38 (arrW D)) := by unfold Hid; rw [hw4, hG]; exact Blk.new _ _ _
            go_upto_region 10 with fail
            rw [← hw4, ← hG]
            clear hw4 z0 z1 z2 z3
            have HG : Hid (G = w3.heap.size) := hG
            clear hG
            have z0 : w4.cell? ⟨w.heap.size + 1, 0, none⟩ = some (.int .i64 D.u) := (B34.out.cell (show w.heap.size + 1 < G by rw [HG.out]; exact kW3.out.lt)).trans (kW3.out.cell 0)
            go_wp2_with fail
            go_at_call 12
            refine (HPw0.out _).mono ?_
            rintro e w5 ⟨rfl, hw5⟩
            obtain rfl := hw5
            clear z0
            go_wp2
            go_loopw [8, 9, 11, 12] (fun f a s _ wr => ∃ d : Nat, d ≤ N ∧ s = .int .i64 (((N - d : Nat) : Int) - 1) ∧ f = .int .i64 (lowD p N d) ∧ a = .bool (allD p N d) ∧ Below G w3 wr ∧ ∃ X : Wd, Blk wr G 38 (arrW X) ∧ ∀ s, X.put k s = D.put k s) (fun _ _ s _ _ => (intOf s + 1).toNat)
            case atStart => exact ⟨0, Nat.zero_le _, by go_num, rfl, rfl, B34.out, D, kX4.out, fun _ => rfl⟩
            case round =>
              obtain ⟨d, hd, rfl, rfl, rfl, hbr, X, hX, hXp⟩ := hrel
              have HBr : Hid (Below G w3 wr) := hbr
              have HX : Hid (Blk wr G 38 (arrW X)) := hX
              have HXp : Hid (∀ s, X.put k s = D.put k s) := hXp
              clear hbr hX hXp
              by_cases hlt : d < N
              · obtain ⟨s, hs⟩ : ∃ s, s = N - (d + 1) := ⟨_, rfl⟩
                have es : ((N - d : Nat) : Int) - 1 = (s : Int) := by omega
                rw [es]
                have hsN : s < N := by omega
                have HTs := HTk.out s hsN
                have HT : Hid _ := HTs
                have HL : Hid (lowD p N (d + 1) = if p s = true then (s : Int) else lowD p N d) := by unfold Hid; rw [hs]; rfl
                have HAl : Hid (allD p N (d + 1) = (p s && allD p N d)) := by unfold Hid; rw [hs]; rfl
                have Hs : Hid (s = N - (d + 1)) := hs
                clear hs es HTs
                obtain ⟨q, hq⟩ : ∃ q, q = p s := ⟨_, rfl⟩
                rw [← hq] at HT HL HAl
                clear hq
                have hs0 : (0 : Int) ≤ (s : Int) := by omega
                have i0 : wr.cell? ⟨G, 1 + k, none⟩ = (arrW X)[1 + k]? := HX.out.cell (1 + k)
                obtain ⟨xo, hxo⟩ : ∃ x, (arrW X)[1 + k]? = some x := by
                  rcases (by omega : k = 0 ∨ k = 1 ∨ k = 2) with rfl | rfl | rfl <;> exact ⟨_, rfl⟩
                rw [hxo] at i0
                have f0 : wr.frozen? ⟨G, 1 + k, none⟩ = false := HX.out.frozen (1 + k)
                obtain ⟨w6, hw6⟩ : ∃ x, x = wr.setCell ⟨G, 1 + k, none⟩ (.int .i64 s) := ⟨_, rfl⟩
                have kX6 : Hid (Blk w6 G 38 (arrW (D.put k s))) := by
                  unfold Hid; rw [hw6, ← HXp.out s, ← arrW_put X hk3]; exact HX.out.set (1 + k) _
                have B6 : Hid (Below G w3 w6) := by unfold Hid; rw [hw6]; exact HBr.out.setCell (Nat.le_refl _) _
                clear hxo
                go_upto_region 14 with fail
                rw [← hw6]
                clear hw6 i0 f0
                have B6w : Hid (Below w.heap.size w w6) := B3.out.trans (B6.out.mono (by rw [HG.out]; exact B3.out.size))
                obtain ⟨y0, y1, y2, y3⟩ := kX6.out.cells4
                have x0 : w6.cell? ⟨w.heap.size, 0, none⟩ = some (.slice ao al acap) := (B6.out.cell (show w.heap.size < G by rw [HG.out]; exact kF3.out.lt)).trans (kF3.out.cell 0)
                have x1 : w6.cell? ⟨w.heap.size, 1, none⟩ = some (.slice co cl ccap) := (B6.out.cell (show w.heap.size < G by rw [HG.out]; exact kF3.out.lt)).trans (kF3.out.cell 1)
                go_wp2_with fail
                go_at_call 13
                refine (HT.out _ B6w.out).mono ?_
                rintro e w7 ⟨rfl, hb⟩
                have B7 : Hid (Below G w3 w7) := B6.out.trans (hb.mono (by have := kX6.out.lt; omega))
                have kX7 : Hid (Blk w7 G 38 (arrW (D.put k s))) := kX6.out.below hb
                clear hb y0 y1 y2 y3 x0 x1
                have Hd : Hid (((N - (d + 1) : Nat) : Int) - 1 = (s : Int) - 1) := by unfold Hid; have := Hs.out; omega
                cases q with
                | true =>
                  have HL1 : Hid (lowD p N (d + 1) = (s : Int)) := by have h := HL.out; rw [if_pos rfl] at h; exact h
                  have HA1 : Hid (allD p N (d + 1) = allD p N d) := by have h := HAl.out; unfold Hid; simpa using h
                  clear HL HAl
                  go_wp2
                  go_roundw
                  case rel => exact ⟨d + 1, by omega, by rw [Hd.out], by rw [HL1.out], by rw [HA1.out], B7.out, D.put k s, kX7.out, fun r => put_put D k s r⟩
                  case measure => simp [intOf]
                | false =>
                  have HL1 : Hid (lowD p N (d + 1) = lowD p N d) := by have h := HL.out; rw [if_neg (by decide)] at h; exact h
                  have HA1 : Hid (allD p N (d + 1) = false) := by have h := HAl.out; unfold Hid; simpa using h
                  clear HL HAl
                  go_wp2
                  go_roundw
                  case rel => exact ⟨d + 1, by omega, by rw [Hd.out], by rw [HL1.out], by rw [HA1.out], B7.out, D.put k s, kX7.out, fun r => put_put D k s r⟩
                  case measure => simp [intOf]
              · obtain rfl : d = N := by omega
                have es : ((d - d : Nat) : Int) - 1 = -1 := by omega
                rw [es]
                go_wp2_with fail
                go_meet
                case rel => exact ⟨by rw [HFv.out], by rw [HAv.out], by rw [← HG.out]; exact HBr.out⟩
          · have d0 : (E == 0) = false := by simp [h0]
            have HFv : Hid (F = -1) := by unfold Hid; rw [HF.out, if_neg h0]
            have HAv : Hid (Ea = false) := by unfold Hid; rw [HEa.out, if_neg h0]
            clear h0
            go_wp2_with fail
            go_meet
            case rel => exact ⟨by rw [HFv.out], by first | (rw [HAv.out]; done) | (rw [HAv.out, d0]; done) | (rw [HAv.out, d0]), Below.refl _ _⟩
        case rest =>
          obtain ⟨rfl, rfl, hbc⟩ := hcut
          obtain ⟨w4, hw4⟩ : ∃ x, x = wc := ⟨_, rfl⟩
          subst hw4
          have B4 : Hid (Below w.heap.size w w4) := B3.out.trans (hbc.mono B3.out.size)
          have kF4 : Hid (Blk w4 w.heap.size 25 #[.slice ao al acap, .slice co cl ccap]) := kF3.out.below hbc
          have kW4 : Hid (Blk w4 (w.heap.size + 1) 38 (arrW D)) := kW3.out.below hbc
          clear hbc z0 z1 z2 z3
          obtain ⟨z0, z1, z2, z3⟩ := kW4.out.cells4
          have x0 : w4.cell? ⟨w.heap.size, 0, none⟩ = some (.slice ao al acap) := kF4.out.cell 0
          have x1 : w4.cell? ⟨w.heap.size, 1, none⟩ = some (.slice co cl ccap) := kF4.out.cell 1
          go_wp2_with fail
          go_at_call 14
          refine (HIs.out _ B4.out).mono ?_
          rintro e w5 ⟨rfl, hb⟩
          have B5 : Hid (Below w.heap.size w w5) := B4.out.trans (hb.mono B4.out.size)
          have kF5 : Hid (Blk w5 w.heap.size 25 #[.slice ao al acap, .slice co cl ccap]) := kF4.out.below hb
          have kW5 : Hid (Blk w5 (w.heap.size + 1) 38 (arrW D)) := kW4.out.below hb
          clear hb z0 z1 z2 z3 x0 x1
          go_wp2_with fail
          go_at_call 15
          refine (HEr.out E _ B5.out).mono ?_
          rintro e w6 ⟨rfl, hb⟩
          have B6 : Hid (Below w.heap.size w w6) := B5.out.trans (hb.mono B5.out.size)
          have kF6 : Hid (Blk w6 w.heap.size 25 #[.slice ao al acap, .slice co cl ccap]) := kF5.out.below hb
          have kW6 : Hid (Blk w6 (w.heap.size + 1) 38 (arrW D)) := kW5.out.below hb
          clear hb
          obtain ⟨z0, z1, z2, z3⟩ := kW6.out.cells4
          have x0 : w6.cell? ⟨w.heap.size, 0, none⟩ = some (.slice ao al acap) := kF6.out.cell 0
          have x1 : w6.cell? ⟨w.heap.size, 1, none⟩ = some (.slice co cl ccap) := kF6.out.cell 1
          go_wp2_with fail
          go_at_call 16
          refine (HEc.out _ B6.out).mono ?_
          rintro e w7 ⟨rfl, hb⟩
          have B7 : Hid (Below w.heap.size w w7) := B6.out.trans (hb.mono B6.out.size)
          have kF7 : Hid (Blk w7 w.heap.size 25 #[.slice ao al acap, .slice co cl ccap]) := kF6.out.below hb
          have kW7 : Hid (Blk w7 (w.heap.size + 1) 38 (arrW D)) := kW6.out.below hb
          clear hb z0 z1 z2 z3 x0 x1
          go_wp2_with fail
          go_at_call 15
          refine (HEr.out E _ B7.out).mono ?_
          rintro e w8 ⟨rfl, hb⟩
          have B8 : Hid (Below w.heap.size w w8) := B7.out.trans (hb.mono B7.out.size)
          have kF8 : Hid (Blk w8 w.heap.size 25 #[.slice ao al acap, .slice co cl ccap]) := kF7.out.below hb
          have kW8 : Hid (Blk w8 (w.heap.size + 1) 38 (arrW D)) := kW7.out.below hb
          clear hb
          go_upto_region 22 with fail
          go_cut [57, 61, 62, 68, 70, 93] from 88 (fun _ _ _ _ _ q wx => (∃ b : Bool, q = .bool b ∧ ((b = true ∧ E2 = 5) ∨ (b = false ∧ E2 = E))) ∧ wx = w8)
          case first =>
            by_cases h0 : E = 0
            · have d0 : (E == 0) = true := by simp [h0]
              have h2 := HE2.out
              rw [if_pos h0] at h2
              by_cases hf : F < 0
              · rw [if_pos hf] at h2
                have H2 : Hid (E2 = 5) := h2
                clear h0 h2
                go_wp2_with fail
                go_meet
                case rel => exact ⟨⟨true, rfl, Or.inl ⟨rfl, H2.out⟩⟩, rfl⟩
              · rw [if_neg hf] at h2
                have H2 : Hid (E2 = E) := h2.trans h0.symm
                clear h0 h2
                go_wp2_with fail
                go_meet
                case rel => exact ⟨⟨false, rfl, Or.inr ⟨rfl, H2.out⟩⟩, rfl⟩
            · have d0 : (E == 0) = false := by simp [h0]
              have H2 : Hid (E2 = E) := by unfold Hid; rw [HE2.out, if_neg h0]
              clear h0
              go_wp2_with fail
              go_meet
              case rel => exact ⟨⟨false, rfl, Or.inr ⟨rfl, H2.out⟩⟩, rfl⟩
          case rest =>
            obtain ⟨⟨b, rfl, hb⟩, hwx⟩ := hcut
            have HB : Hid ((b = true ∧ E2 = 5) ∨ (b = false ∧ E2 = E)) := hb
            clear hb
            rw [hwx]
            clear hwx
            go_upto_if 93 with fail
            go_cut [7] from 94 (fun q wx => q = .int .i64 E2 ∧ wx = w8)
            case first =>
              rcases HB.out with ⟨rfl, h⟩ | ⟨rfl, h⟩
              · have H : Hid (E2 = 5) := h
                clear h HB
                go_wp2_with fail
                go_meet
                case rel => exact ⟨by rw [H.out], rfl⟩
              · have H : Hid (E2 = E) := h
                clear h HB
                go_wp2_with fail
                go_meet
                case rel => exact ⟨by rw [H.out], rfl⟩
            case rest =>
              obtain ⟨rfl, hwx⟩ := hcut
              rw [hwx]
              clear hwx HB
              go_upto_if 95 with fail
              go_cut [8, 95] from 96 (fun q _ wx => q = .int .i64 F2 ∧ wx = w8)
              case first =>
                by_cases hf : F < 0
                · have H : Hid (F2 = 0) := by unfold Hid; rw [HF2.out, if_pos hf]
                  go_wp2_with fail
                  go_meet
                  case rel => exact ⟨by rw [H.out], rfl⟩
                · have H : Hid (F2 = F) := by unfold Hid; rw [HF2.out, if_neg hf]
                  go_wp2_with fail
                  go_meet
                  case rel => exact ⟨by rw [H.out], rfl⟩
              case rest =>
                obtain ⟨rfl, hwx⟩ := hcut
                rw [hwx]
                clear hwx
                obtain ⟨z0, z1, z2, z3⟩ := kW8.out.cells4
                have x0 : w8.cell? ⟨w.heap.size, 0, none⟩ = some (.slice ao al acap) := kF8.out.cell 0
                have x1 : w8.cell? ⟨w.heap.size, 1, none⟩ = some (.slice co cl ccap) := kF8.out.cell 1
                go_wp2_with fail
                go_at_call 17
                refine (HFi.out _ B8.out).mono ?_
                rintro e w9 ⟨rfl, hb⟩
                have B9 : Hid (Below w.heap.size w w9) := B8.out.trans (hb.mono B8.out.size)
                clear hb z0 z1 z2 z3 x0 x1
                go_wp2_with fail
                go_at_call 15
                refine (HEr.out E2 _ B9.out).mono ?_
                rintro e w10 ⟨rfl, hb⟩
                have B10 : Hid (Below w.heap.size w w10) := B9.out.trans (hb.mono B9.out.size)
                clear hb
                go_wp2
                go_ret
                exact ⟨rfl, B10.out⟩
end Go.Proofs.YtokpjcbifbmfiahDoor
