/-
  Proved: what the reference's Row returns, of the kinds 1, 2 and 5; what was in memory is as it was (contracts that the statements lean on). Written by program.
-/
import Derived.Test.YtenmheenieifpadDoorRowsOne
import Derived.Deep.Cut
namespace Go.Proofs.YtenmheenieifpadDoor
open Go.ChangeShapes Go.WideShapes Go.ChangeAt Go.RowKit
set_option maxRecDepth 100000

set_option maxHeartbeats 8000000 in
theorem refRow_1 (n : Int) (h : Bool) (X Y : Nat → Bool) (M : Nat → Int) (p : Int) (sao tao : Option Addr) (sl scap tl tcap : Nat) (w : World)
    (hM : ∀ f, f < 8 → M f = if h = true then timesK 1 (X f) (Y f) else - timesK 1 (X f) (Y f)) (hp : p = if h = true then 0 else -(0 + 1))
    (HS : Hid (∀ W (f : Nat), Below w.heap.size w W → f < 8 → Calls Tryd.prog 24 #[.slice sao sl scap, .int .i64 f] W fun e w' => e = .returned (.bool (X f)) ∧ Below W.heap.size W w'))
    (HT : Hid (∀ W (f : Nat), Below w.heap.size w W → f < 8 → Calls Tryd.prog 24 #[.slice tao tl tcap, .int .i64 f] W fun e w' => e = .returned (.bool (Y f)) ∧ Below W.heap.size W w'))
    : Calls Tryd.prog 9 #[.agg #[.int .i64 1, .slice sao sl scap, .slice tao tl tcap, .int .i64 n], .bool h] w fun e w' => e = .returned (.agg #[.int .i64 (M 0), .int .i64 (M 1), .int .i64 (M 2), .int .i64 (M 3), .int .i64 (M 4), .int .i64 (M 5), .int .i64 (M 6), .int .i64 (M 7), .int .i64 p]) ∧ Below w.heap.size w w' := by
  obtain ⟨Z, hZ⟩ : ∃ Z : Nat → Int, Z = fun _ => 0 := ⟨_, rfl⟩
  obtain ⟨w1, hw1⟩ : ∃ w1, w1 = ((w.alloc (.cells #[.int .i64 1, .slice sao sl scap, .slice tao tl tcap, .int .i64 n] 24)).alloc (.cells #[.int .i64 0, .int .i64 0, .int .i64 0, .int .i64 0, .int .i64 0, .int .i64 0, .int .i64 0, .int .i64 0, .int .i64 0] 29)).alloc (.cells #[.int .i64 0, .int .i64 0, .int .i64 0, .int .i64 0, .int .i64 0, .int .i64 0, .int .i64 0, .int .i64 0, .int .i64 0] 29) := ⟨_, rfl⟩
  have HW : Hid (Below w.heap.size w w1) := by unfold Hid; rw [hw1]; exact ((below_alloc1 _ _).alloc (by simp) _).alloc (by simp; omega) _
  have HK0 : Hid (Blk w1 w.heap.size 24 #[.int .i64 1, .slice sao sl scap, .slice tao tl tcap, .int .i64 n]) := by unfold Hid; rw [hw1]; exact ((Blk.new _ _ _).old _).old _
  have HK1 : Hid (Blk w1 (w.heap.size + 1) 29 (arrR Z 0)) := by
    unfold Hid; rw [hw1, hZ]
    have := Blk.new (w.alloc (.cells #[.int .i64 1, .slice sao sl scap, .slice tao tl tcap, .int .i64 n] 24)) 29 #[.int .i64 0, .int .i64 0, .int .i64 0, .int .i64 0, .int .i64 0, .int .i64 0, .int .i64 0, .int .i64 0, .int .i64 0]
    simp only [World.size_alloc] at this
    exact this.old _
  have HK2 : Hid (Blk w1 (w.heap.size + 1 + 1) 29 (arrR Z 0)) := by
    unfold Hid; rw [hw1, hZ]
    have := Blk.new ((w.alloc (.cells #[.int .i64 1, .slice sao sl scap, .slice tao tl tcap, .int .i64 n] 24)).alloc (.cells #[.int .i64 0, .int .i64 0, .int .i64 0, .int .i64 0, .int .i64 0, .int .i64 0, .int .i64 0, .int .i64 0, .int .i64 0] 29)) 29 #[.int .i64 0, .int .i64 0, .int .i64 0, .int .i64 0, .int .i64 0, .int .i64 0, .int .i64 0, .int .i64 0, .int .i64 0]
    simp only [World.size_alloc] at this
    exact this
  have HX : Hid (∀ W, Blk W w.heap.size 24 #[.int .i64 1, .slice sao sl scap, .slice tao tl tcap, .int .i64 n] → W.cell? ⟨w.heap.size, 0, none⟩ = some (.int .i64 1) ∧ W.cell? ⟨w.heap.size, 1, none⟩ = some (.slice sao sl scap) ∧ W.cell? ⟨w.heap.size, 2, none⟩ = some (.slice tao tl tcap) ∧ W.cell? ⟨w.heap.size, 3, none⟩ = some (.int .i64 n)) := fun W h => ⟨h.cell 0, h.cell 1, h.cell 2, h.cell 3⟩
  obtain ⟨D, hD⟩ : ∃ D : Nat → Int, D = fun f => timesK 1 (X f) (Y f) := ⟨_, rfl⟩
  have HDl : Hid (∀ f, f < 8 → -2 ≤ D f ∧ D f ≤ 2) := fun f _ => by
    have := timesK_le 1 (X f) (Y f)
    rw [hD]; show -2 ≤ timesK 1 (X f) (Y f) ∧ timesK 1 (X f) (Y f) ≤ 2; omega
  have HM : Hid (∀ f, f < 8 → M f = if h = true then D f else - D f) := fun f hf => by rw [hD]; exact hM f hf
  have HP : Hid (p = if h = true then 0 else -(0 + 1)) := hp
  have HD : Hid (∀ f, D f = timesK 1 (X f) (Y f)) := fun f => by rw [hD]
  have HZ : Hid (Z = fun _ => 0) := hZ
  clear hM hp hD hZ
  go_enter Tryd.func9, Tryd.ntmps9
  go_wp2
  rw [← hw1]
  clear hw1
  go_loopw [6] (fun i wr => ∃ f : Nat, f ≤ 8 ∧ i = .int .i64 f ∧ Below w.heap.size w wr ∧ Blk wr w.heap.size 24 #[.int .i64 1, .slice sao sl scap, .slice tao tl tcap, .int .i64 n] ∧ Blk wr (w.heap.size + 1) 29 (arrR Z 0) ∧ Blk wr (w.heap.size + 1 + 1) 29 (arrR (fun g => if g < f then D g else 0) 0)) (fun i _ => 8 - (intOf i).toNat)
  case atStart => exact ⟨0, Nat.zero_le _, rfl, HW.out, HK0.out, HK1.out, by have := HK2.out; rw [HZ.out] at this; exact this⟩
  case round =>
    obtain ⟨f, hf, rfl, hb, ha, hr, hq⟩ := hrel
    have HB1 : Hid (Below w.heap.size w wr) := hb
    have HA1 : Hid (Blk wr w.heap.size 24 #[.int .i64 1, .slice sao sl scap, .slice tao tl tcap, .int .i64 n]) := ha
    have HR1 : Hid (Blk wr (w.heap.size + 1) 29 (arrR Z 0)) := hr
    have HP1 : Hid (Blk wr (w.heap.size + 1 + 1) 29 (arrR (fun g => if g < f then D g else 0) 0)) := hq
    clear hb ha hr hq
    obtain ⟨x0, x1, x2, x3⟩ := HX.out _ HA1.out
    by_cases hlt : f < 8
    · have hDf : D f = timesK 1 (X f) (Y f) := HD.out f
      have HE : Hid (∀ W d, d = D f → Blk W (w.heap.size + 1 + 1) 29 (arrR (fun g => if g < f then D g else 0) 0) → Blk (W.setCell ⟨w.heap.size + 1 + 1, f, none⟩ (.int .i64 d)) (w.heap.size + 1 + 1) 29 (arrR (fun g => if g < f + 1 then D g else 0) 0)) := fun W d hd hW => by
        have := hW.set f (.int .i64 d)
        rw [arrR_set _ _ _ hlt] at this
        rw [arrR_same (M := fun g => if g = f then d else if g < f then D g else 0)]
        · exact this
        · intro g hg
          by_cases e : g = f
          · subst e; rw [if_pos (by omega), if_pos rfl, hd]
          · simp only [if_neg e]
            by_cases e' : g < f
            · rw [if_pos (by omega), if_pos e']
            · rw [if_neg (by omega), if_neg e']
      have HS1 : Hid (Calls Tryd.prog 24 #[.slice sao sl scap, .int .i64 f] wr fun e w' => e = .returned (.bool (X f)) ∧ Below wr.heap.size wr w') := HS.out wr f HB1.out hlt
      have HT1 : Hid (∀ W, Below w.heap.size w W → Calls Tryd.prog 24 #[.slice tao tl tcap, .int .i64 f] W fun e w' => e = .returned (.bool (Y f)) ∧ Below W.heap.size W w') := fun W hW => HT.out W f hW hlt
      obtain ⟨y, hy⟩ : ∃ y, y = Y f := ⟨_, rfl⟩
      rw [← hy] at HT1 hDf
      clear hy
      obtain ⟨x, hx⟩ : ∃ x, x = X f := ⟨_, rfl⟩
      rw [← hx] at HS1 hDf
      have HDf : Hid (D f = timesK 1 x y) := hDf
      clear hx hDf
      go_wp2_with fail
      go_at_call 24
      refine HS1.out.mono ?_
      rintro e w2 ⟨rfl, hb⟩
      have HB2 : Hid (Below w.heap.size w w2) := HB1.out.trans (hb.mono HB1.out.size)
      have HA2 : Hid (Blk w2 w.heap.size 24 #[.int .i64 1, .slice sao sl scap, .slice tao tl tcap, .int .i64 n]) := HA1.out.below hb
      have HR2 : Hid (Blk w2 (w.heap.size + 1) 29 (arrR Z 0)) := HR1.out.below hb
      have HP2 : Hid (Blk w2 (w.heap.size + 1 + 1) 29 (arrR (fun g => if g < f then D g else 0) 0)) := HP1.out.below hb
      clear hb x0 x1 x2 x3
      obtain ⟨x0, x1, x2, x3⟩ := HX.out _ HA2.out
      go_wp2_with fail
      go_at_call 24
      refine (HT1.out _ HB2.out).mono ?_
      rintro e w3 ⟨rfl, hb⟩
      have HB3 : Hid (Below w.heap.size w w3) := HB2.out.trans (hb.mono HB2.out.size)
      have HA3 : Hid (Blk w3 w.heap.size 24 #[.int .i64 1, .slice sao sl scap, .slice tao tl tcap, .int .i64 n]) := HA2.out.below hb
      have HR3 : Hid (Blk w3 (w.heap.size + 1) 29 (arrR Z 0)) := HR2.out.below hb
      have HP3 : Hid (Blk w3 (w.heap.size + 1 + 1) 29 (arrR (fun g => if g < f then D g else 0) 0)) := HP2.out.below hb
      clear hb x0 x1 x2 x3
      obtain ⟨x0, x1, x2, x3⟩ := HX.out _ HA3.out
      have c : w3.cell? ⟨w.heap.size + 1 + 1, f, none⟩ = some (.int .i64 0) := by rw [HP3.out.cell, arrR_get _ _ hlt]; simp
      have z := HP3.out.frozen f
      cases x <;> cases y
      · have HEE := HE.out w3 0 (by rw [HDf.out]; rfl) HP3.out
        have HEH : Hid _ := HEE
        clear HEE
        go_wp2
        go_roundw
        case rel => exact ⟨f + 1, by omega, by go_num, HB3.out.setCell (by show w.heap.size ≤ w.heap.size + 1 + 1; omega) _, HA3.out.far (by omega) _ _, HR3.out.far (by omega) _ _, HEH.out⟩
        case measure => simp [intOf]; omega
      · have HEE := HE.out w3 0 (by rw [HDf.out]; rfl) HP3.out
        have HEH : Hid _ := HEE
        clear HEE
        go_wp2
        go_roundw
        case rel => exact ⟨f + 1, by omega, by go_num, HB3.out.setCell (by show w.heap.size ≤ w.heap.size + 1 + 1; omega) _, HA3.out.far (by omega) _ _, HR3.out.far (by omega) _ _, HEH.out⟩
        case measure => simp [intOf]; omega
      · have HEE := HE.out w3 1 (by rw [HDf.out]; rfl) HP3.out
        have HEH : Hid _ := HEE
        clear HEE
        go_wp2
        go_roundw
        case rel => exact ⟨f + 1, by omega, by go_num, HB3.out.setCell (by show w.heap.size ≤ w.heap.size + 1 + 1; omega) _, HA3.out.far (by omega) _ _, HR3.out.far (by omega) _ _, HEH.out⟩
        case measure => simp [intOf]; omega
      · have HEE := HE.out w3 0 (by rw [HDf.out]; rfl) HP3.out
        have HEH : Hid _ := HEE
        clear HEE
        go_wp2
        go_roundw
        case rel => exact ⟨f + 1, by omega, by go_num, HB3.out.setCell (by show w.heap.size ≤ w.heap.size + 1 + 1; omega) _, HA3.out.far (by omega) _ _, HR3.out.far (by omega) _ _, HEH.out⟩
        case measure => simp [intOf]; omega
    · obtain rfl : f = 8 := by omega
      have HP8 : Hid (Blk wr (w.heap.size + 1 + 1) 29 (arrR D 0)) := by
        have := HP1.out
        unfold Hid
        rw [arrR_same (M := fun g => if g < 8 then D g else 0)]
        · exact this
        · intro g hg; rw [if_pos hg]
      clear HP1
      go_upto_region 35 with fail
      obtain ⟨w6, hw6⟩ : ∃ x, x = wr := ⟨_, rfl⟩
      rw [← hw6] at HB1 HR1 HP8 ⊢
      have HB6 : Hid (Below w.heap.size w w6) := HB1.out
      have HR6 : Hid (Blk w6 (w.heap.size + 1) 29 (arrR Z 0)) := HR1.out
      have HP6 : Hid (Blk w6 (w.heap.size + 1 + 1) 29 (arrR D 0)) := HP8.out
      clear hw6 x0 x1 x2 x3
      clear HB1 HA1 HR1 HP8 HS HT HX HW HK0 HK1 HK2
      cases h with
      | true =>
        have HMD : Hid (arrR D 0 = arrR M p) := by
          unfold Hid
          rw [HP.out]
          exact arrR_same (fun f hf => by rw [HM.out f hf]; rfl) _
        obtain ⟨n0', n1', n2', n3', n4', n5', n6', n7', n8'⟩ := HP6.out.cells9
        obtain ⟨r0, r1, r2, r3, r4, r5, r6, r7, r8⟩ := HR6.out.cells9
        obtain ⟨f0, f1, f2, f3, f4, f5, f6, f7, f8⟩ := HR6.out.frozen9
        go_wp2
        refine bodyPost_ret (v := .agg (arrR D 0)) ?_ rfl ⟨by rw [HMD.out]; rfl, ?_⟩
        · exact results_cell_row rfl _ _ (w.heap.size + 1) 29 (arrR D 0) (0, 0) _ rfl (putR_blk HR6.out D 0) Tryd.underlying29 rfl infoR
        · exact putR_below HB6.out (by omega) _ _
      | false =>
        go_wp2
        go_loopw [10] (fun i wr => ∃ f : Nat, f ≤ 8 ∧ i = .int .i64 f ∧ Below w.heap.size w wr ∧ Blk wr (w.heap.size + 1) 29 (arrR Z 0) ∧ Blk wr (w.heap.size + 1 + 1) 29 (arrR (fun g => if g < f then M g else D g) 0)) (fun i _ => 8 - (intOf i).toNat)
        case atStart => exact ⟨0, Nat.zero_le _, rfl, HB6.out, HR6.out, HP6.out⟩
        case round =>
          obtain ⟨f, hf, rfl, hb, hr, hq⟩ := hrel
          have HB7 : Hid (Below w.heap.size w wr) := hb
          have HR7 : Hid (Blk wr (w.heap.size + 1) 29 (arrR Z 0)) := hr
          have HP7 : Hid (Blk wr (w.heap.size + 1 + 1) 29 (arrR (fun g => if g < f then M g else D g) 0)) := hq
          clear hb hr hq
          by_cases hlt2 : f < 8
          · obtain ⟨x, hx⟩ : ∃ x, x = D f := ⟨_, rfl⟩
            have c : wr.cell? ⟨w.heap.size + 1 + 1, f, none⟩ = some (.int .i64 x) := by rw [HP7.out.cell, arrR_get _ _ hlt2, hx]; simp
            have z := HP7.out.frozen f
            have hxl := HDl.out f hlt2
            rw [← hx] at hxl
            obtain ⟨l0, l1⟩ := hxl
            have HE : Hid (Blk (wr.setCell ⟨w.heap.size + 1 + 1, f, none⟩ (.int .i64 (-x))) (w.heap.size + 1 + 1) 29 (arrR (fun g => if g < f + 1 then M g else D g) 0)) := by
              have := HP7.out.set f (.int .i64 (-x))
              rw [arrR_set _ _ _ hlt2] at this
              unfold Hid
              rw [arrR_same (M := fun g => if g = f then -x else if g < f then M g else D g)]
              · exact this
              · intro g hg
                by_cases e : g = f
                · subst e; rw [if_pos (by omega), if_pos rfl, HM.out g hg, hx]; rfl
                · simp only [if_neg e]
                  by_cases e' : g < f
                  · rw [if_pos (by omega), if_pos e']
                  · rw [if_neg (by omega), if_neg e']
            clear hx
            go_wp2
            go_roundw
            case rel => exact ⟨f + 1, by omega, by go_num, HB7.out.setCell (by show w.heap.size ≤ w.heap.size + 1 + 1; omega) _, HR7.out.far (by omega) _ _, HE.out⟩
            case measure => simp [intOf]; omega
          · obtain rfl : f = 8 := by omega
            have HP8 : Hid (Blk wr (w.heap.size + 1 + 1) 29 (arrR M 0)) := by
              have := HP7.out
              unfold Hid
              rw [arrR_same (M := fun g => if g < 8 then M g else D g)]
              · exact this
              · intro g hg; rw [if_pos hg]
            clear HP7
            have HPp : Hid (p = (-1)) := HP.out
            obtain ⟨n0', n1', n2', n3', n4', n5', n6', n7', n8'⟩ := HP8.out.cells9
            have nz := HP8.out.frozen 8
            obtain ⟨r0, r1, r2, r3, r4, r5, r6, r7, r8⟩ := HR7.out.cells9
            obtain ⟨f0, f1, f2, f3, f4, f5, f6, f7, f8⟩ := HR7.out.frozen9
            go_wp2
            refine bodyPost_ret (v := .agg (arrR M (-1))) ?_ rfl ⟨by rw [HPp.out]; rfl, ?_⟩
            · exact results_cell_row rfl _ _ (w.heap.size + 1) 29 (arrR M (-1)) (0, 0) _ rfl (putR_blk (HR7.out.far (by omega) 8 (.int .i64 (-1))) M (-1)) Tryd.underlying29 rfl infoR
            · exact putR_below (HB7.out.setCell (by show w.heap.size ≤ w.heap.size + 1 + 1; omega) _) (by omega) _ _

set_option maxHeartbeats 8000000 in
theorem refRow_2 (n : Int) (h : Bool) (X Y : Nat → Bool) (M : Nat → Int) (p : Int) (sao tao : Option Addr) (sl scap tl tcap : Nat) (w : World)
    (hM : ∀ f, f < 8 → M f = if h = true then timesK 2 (X f) (Y f) else - timesK 2 (X f) (Y f)) (hp : p = if h = true then 0 else -(0 + 1))
    (HS : Hid (∀ W (f : Nat), Below w.heap.size w W → f < 8 → Calls Tryd.prog 24 #[.slice sao sl scap, .int .i64 f] W fun e w' => e = .returned (.bool (X f)) ∧ Below W.heap.size W w'))
    (HT : Hid (∀ W (f : Nat), Below w.heap.size w W → f < 8 → Calls Tryd.prog 24 #[.slice tao tl tcap, .int .i64 f] W fun e w' => e = .returned (.bool (Y f)) ∧ Below W.heap.size W w'))
    : Calls Tryd.prog 9 #[.agg #[.int .i64 2, .slice sao sl scap, .slice tao tl tcap, .int .i64 n], .bool h] w fun e w' => e = .returned (.agg #[.int .i64 (M 0), .int .i64 (M 1), .int .i64 (M 2), .int .i64 (M 3), .int .i64 (M 4), .int .i64 (M 5), .int .i64 (M 6), .int .i64 (M 7), .int .i64 p]) ∧ Below w.heap.size w w' := by
  obtain ⟨Z, hZ⟩ : ∃ Z : Nat → Int, Z = fun _ => 0 := ⟨_, rfl⟩
  obtain ⟨w1, hw1⟩ : ∃ w1, w1 = ((w.alloc (.cells #[.int .i64 2, .slice sao sl scap, .slice tao tl tcap, .int .i64 n] 24)).alloc (.cells #[.int .i64 0, .int .i64 0, .int .i64 0, .int .i64 0, .int .i64 0, .int .i64 0, .int .i64 0, .int .i64 0, .int .i64 0] 29)).alloc (.cells #[.int .i64 0, .int .i64 0, .int .i64 0, .int .i64 0, .int .i64 0, .int .i64 0, .int .i64 0, .int .i64 0, .int .i64 0] 29) := ⟨_, rfl⟩
  have HW : Hid (Below w.heap.size w w1) := by unfold Hid; rw [hw1]; exact ((below_alloc1 _ _).alloc (by simp) _).alloc (by simp; omega) _
  have HK0 : Hid (Blk w1 w.heap.size 24 #[.int .i64 2, .slice sao sl scap, .slice tao tl tcap, .int .i64 n]) := by unfold Hid; rw [hw1]; exact ((Blk.new _ _ _).old _).old _
  have HK1 : Hid (Blk w1 (w.heap.size + 1) 29 (arrR Z 0)) := by
    unfold Hid; rw [hw1, hZ]
    have := Blk.new (w.alloc (.cells #[.int .i64 2, .slice sao sl scap, .slice tao tl tcap, .int .i64 n] 24)) 29 #[.int .i64 0, .int .i64 0, .int .i64 0, .int .i64 0, .int .i64 0, .int .i64 0, .int .i64 0, .int .i64 0, .int .i64 0]
    simp only [World.size_alloc] at this
    exact this.old _
  have HK2 : Hid (Blk w1 (w.heap.size + 1 + 1) 29 (arrR Z 0)) := by
    unfold Hid; rw [hw1, hZ]
    have := Blk.new ((w.alloc (.cells #[.int .i64 2, .slice sao sl scap, .slice tao tl tcap, .int .i64 n] 24)).alloc (.cells #[.int .i64 0, .int .i64 0, .int .i64 0, .int .i64 0, .int .i64 0, .int .i64 0, .int .i64 0, .int .i64 0, .int .i64 0] 29)) 29 #[.int .i64 0, .int .i64 0, .int .i64 0, .int .i64 0, .int .i64 0, .int .i64 0, .int .i64 0, .int .i64 0, .int .i64 0]
    simp only [World.size_alloc] at this
    exact this
  have HX : Hid (∀ W, Blk W w.heap.size 24 #[.int .i64 2, .slice sao sl scap, .slice tao tl tcap, .int .i64 n] → W.cell? ⟨w.heap.size, 0, none⟩ = some (.int .i64 2) ∧ W.cell? ⟨w.heap.size, 1, none⟩ = some (.slice sao sl scap) ∧ W.cell? ⟨w.heap.size, 2, none⟩ = some (.slice tao tl tcap) ∧ W.cell? ⟨w.heap.size, 3, none⟩ = some (.int .i64 n)) := fun W h => ⟨h.cell 0, h.cell 1, h.cell 2, h.cell 3⟩
  obtain ⟨D, hD⟩ : ∃ D : Nat → Int, D = fun f => timesK 2 (X f) (Y f) := ⟨_, rfl⟩
  have HDl : Hid (∀ f, f < 8 → -2 ≤ D f ∧ D f ≤ 2) := fun f _ => by
    have := timesK_le 2 (X f) (Y f)
    rw [hD]; show -2 ≤ timesK 2 (X f) (Y f) ∧ timesK 2 (X f) (Y f) ≤ 2; omega
  have HM : Hid (∀ f, f < 8 → M f = if h = true then D f else - D f) := fun f hf => by rw [hD]; exact hM f hf
  have HP : Hid (p = if h = true then 0 else -(0 + 1)) := hp
  have HD : Hid (∀ f, D f = timesK 2 (X f) (Y f)) := fun f => by rw [hD]
  have HZ : Hid (Z = fun _ => 0) := hZ
  clear hM hp hD hZ
  go_enter Tryd.func9, Tryd.ntmps9
  go_wp2
  rw [← hw1]
  clear hw1
  go_loopw [6] (fun i wr => ∃ f : Nat, f ≤ 8 ∧ i = .int .i64 f ∧ Below w.heap.size w wr ∧ Blk wr w.heap.size 24 #[.int .i64 2, .slice sao sl scap, .slice tao tl tcap, .int .i64 n] ∧ Blk wr (w.heap.size + 1) 29 (arrR Z 0) ∧ Blk wr (w.heap.size + 1 + 1) 29 (arrR (fun g => if g < f then D g else 0) 0)) (fun i _ => 8 - (intOf i).toNat)
  case atStart => exact ⟨0, Nat.zero_le _, rfl, HW.out, HK0.out, HK1.out, by have := HK2.out; rw [HZ.out] at this; exact this⟩
  case round =>
    obtain ⟨f, hf, rfl, hb, ha, hr, hq⟩ := hrel
    have HB1 : Hid (Below w.heap.size w wr) := hb
    have HA1 : Hid (Blk wr w.heap.size 24 #[.int .i64 2, .slice sao sl scap, .slice tao tl tcap, .int .i64 n]) := ha
    have HR1 : Hid (Blk wr (w.heap.size + 1) 29 (arrR Z 0)) := hr
    have HP1 : Hid (Blk wr (w.heap.size + 1 + 1) 29 (arrR (fun g => if g < f then D g else 0) 0)) := hq
    clear hb ha hr hq
    obtain ⟨x0, x1, x2, x3⟩ := HX.out _ HA1.out
    by_cases hlt : f < 8
    · have hDf : D f = timesK 2 (X f) (Y f) := HD.out f
      have HE : Hid (∀ W d, d = D f → Blk W (w.heap.size + 1 + 1) 29 (arrR (fun g => if g < f then D g else 0) 0) → Blk (W.setCell ⟨w.heap.size + 1 + 1, f, none⟩ (.int .i64 d)) (w.heap.size + 1 + 1) 29 (arrR (fun g => if g < f + 1 then D g else 0) 0)) := fun W d hd hW => by
        have := hW.set f (.int .i64 d)
        rw [arrR_set _ _ _ hlt] at this
        rw [arrR_same (M := fun g => if g = f then d else if g < f then D g else 0)]
        · exact this
        · intro g hg
          by_cases e : g = f
          · subst e; rw [if_pos (by omega), if_pos rfl, hd]
          · simp only [if_neg e]
            by_cases e' : g < f
            · rw [if_pos (by omega), if_pos e']
            · rw [if_neg (by omega), if_neg e']
      have HS1 : Hid (Calls Tryd.prog 24 #[.slice sao sl scap, .int .i64 f] wr fun e w' => e = .returned (.bool (X f)) ∧ Below wr.heap.size wr w') := HS.out wr f HB1.out hlt
      have HT1 : Hid (∀ W, Below w.heap.size w W → Calls Tryd.prog 24 #[.slice tao tl tcap, .int .i64 f] W fun e w' => e = .returned (.bool (Y f)) ∧ Below W.heap.size W w') := fun W hW => HT.out W f hW hlt
      obtain ⟨y, hy⟩ : ∃ y, y = Y f := ⟨_, rfl⟩
      rw [← hy] at HT1 hDf
      clear hy
      obtain ⟨x, hx⟩ : ∃ x, x = X f := ⟨_, rfl⟩
      rw [← hx] at HS1 hDf
      have HDf : Hid (D f = timesK 2 x y) := hDf
      clear hx hDf
      go_wp2_with fail
      go_at_call 24
      refine HS1.out.mono ?_
      rintro e w2 ⟨rfl, hb⟩
      have HB2 : Hid (Below w.heap.size w w2) := HB1.out.trans (hb.mono HB1.out.size)
      have HA2 : Hid (Blk w2 w.heap.size 24 #[.int .i64 2, .slice sao sl scap, .slice tao tl tcap, .int .i64 n]) := HA1.out.below hb
      have HR2 : Hid (Blk w2 (w.heap.size + 1) 29 (arrR Z 0)) := HR1.out.below hb
      have HP2 : Hid (Blk w2 (w.heap.size + 1 + 1) 29 (arrR (fun g => if g < f then D g else 0) 0)) := HP1.out.below hb
      clear hb x0 x1 x2 x3
      obtain ⟨x0, x1, x2, x3⟩ := HX.out _ HA2.out
      go_wp2_with fail
      go_at_call 24
      refine (HT1.out _ HB2.out).mono ?_
      rintro e w3 ⟨rfl, hb⟩
      have HB3 : Hid (Below w.heap.size w w3) := HB2.out.trans (hb.mono HB2.out.size)
      have HA3 : Hid (Blk w3 w.heap.size 24 #[.int .i64 2, .slice sao sl scap, .slice tao tl tcap, .int .i64 n]) := HA2.out.below hb
      have HR3 : Hid (Blk w3 (w.heap.size + 1) 29 (arrR Z 0)) := HR2.out.below hb
      have HP3 : Hid (Blk w3 (w.heap.size + 1 + 1) 29 (arrR (fun g => if g < f then D g else 0) 0)) := HP2.out.below hb
      clear hb x0 x1 x2 x3
      obtain ⟨x0, x1, x2, x3⟩ := HX.out _ HA3.out
      have c : w3.cell? ⟨w.heap.size + 1 + 1, f, none⟩ = some (.int .i64 0) := by rw [HP3.out.cell, arrR_get _ _ hlt]; simp
      have z := HP3.out.frozen f
      cases x <;> cases y
      · have HEE := HE.out w3 0 (by rw [HDf.out]; rfl) HP3.out
        have HEH : Hid _ := HEE
        clear HEE
        go_wp2
        go_roundw
        case rel => exact ⟨f + 1, by omega, by go_num, HB3.out.setCell (by show w.heap.size ≤ w.heap.size + 1 + 1; omega) _, HA3.out.far (by omega) _ _, HR3.out.far (by omega) _ _, HEH.out⟩
        case measure => simp [intOf]; omega
      · have HEE := HE.out w3 1 (by rw [HDf.out]; rfl) HP3.out
        have HEH : Hid _ := HEE
        clear HEE
        go_wp2
        go_roundw
        case rel => exact ⟨f + 1, by omega, by go_num, HB3.out.setCell (by show w.heap.size ≤ w.heap.size + 1 + 1; omega) _, HA3.out.far (by omega) _ _, HR3.out.far (by omega) _ _, HEH.out⟩
        case measure => simp [intOf]; omega
      · have HEE := HE.out w3 1 (by rw [HDf.out]; rfl) HP3.out
        have HEH : Hid _ := HEE
        clear HEE
        go_wp2
        go_roundw
        case rel => exact ⟨f + 1, by omega, by go_num, HB3.out.setCell (by show w.heap.size ≤ w.heap.size + 1 + 1; omega) _, HA3.out.far (by omega) _ _, HR3.out.far (by omega) _ _, HEH.out⟩
        case measure => simp [intOf]; omega
      · have HEE := HE.out w3 0 (by rw [HDf.out]; rfl) HP3.out
        have HEH : Hid _ := HEE
        clear HEE
        go_wp2
        go_roundw
        case rel => exact ⟨f + 1, by omega, by go_num, HB3.out.setCell (by show w.heap.size ≤ w.heap.size + 1 + 1; omega) _, HA3.out.far (by omega) _ _, HR3.out.far (by omega) _ _, HEH.out⟩
        case measure => simp [intOf]; omega
    · obtain rfl : f = 8 := by omega
      have HP8 : Hid (Blk wr (w.heap.size + 1 + 1) 29 (arrR D 0)) := by
        have := HP1.out
        unfold Hid
        rw [arrR_same (M := fun g => if g < 8 then D g else 0)]
        · exact this
        · intro g hg; rw [if_pos hg]
      clear HP1
      go_upto_region 35 with fail
      obtain ⟨w6, hw6⟩ : ∃ x, x = wr := ⟨_, rfl⟩
      rw [← hw6] at HB1 HR1 HP8 ⊢
      have HB6 : Hid (Below w.heap.size w w6) := HB1.out
      have HR6 : Hid (Blk w6 (w.heap.size + 1) 29 (arrR Z 0)) := HR1.out
      have HP6 : Hid (Blk w6 (w.heap.size + 1 + 1) 29 (arrR D 0)) := HP8.out
      clear hw6 x0 x1 x2 x3
      clear HB1 HA1 HR1 HP8 HS HT HX HW HK0 HK1 HK2
      cases h with
      | true =>
        have HMD : Hid (arrR D 0 = arrR M p) := by
          unfold Hid
          rw [HP.out]
          exact arrR_same (fun f hf => by rw [HM.out f hf]; rfl) _
        obtain ⟨n0', n1', n2', n3', n4', n5', n6', n7', n8'⟩ := HP6.out.cells9
        obtain ⟨r0, r1, r2, r3, r4, r5, r6, r7, r8⟩ := HR6.out.cells9
        obtain ⟨f0, f1, f2, f3, f4, f5, f6, f7, f8⟩ := HR6.out.frozen9
        go_wp2
        refine bodyPost_ret (v := .agg (arrR D 0)) ?_ rfl ⟨by rw [HMD.out]; rfl, ?_⟩
        · exact results_cell_row rfl _ _ (w.heap.size + 1) 29 (arrR D 0) (0, 0) _ rfl (putR_blk HR6.out D 0) Tryd.underlying29 rfl infoR
        · exact putR_below HB6.out (by omega) _ _
      | false =>
        go_wp2
        go_loopw [10] (fun i wr => ∃ f : Nat, f ≤ 8 ∧ i = .int .i64 f ∧ Below w.heap.size w wr ∧ Blk wr (w.heap.size + 1) 29 (arrR Z 0) ∧ Blk wr (w.heap.size + 1 + 1) 29 (arrR (fun g => if g < f then M g else D g) 0)) (fun i _ => 8 - (intOf i).toNat)
        case atStart => exact ⟨0, Nat.zero_le _, rfl, HB6.out, HR6.out, HP6.out⟩
        case round =>
          obtain ⟨f, hf, rfl, hb, hr, hq⟩ := hrel
          have HB7 : Hid (Below w.heap.size w wr) := hb
          have HR7 : Hid (Blk wr (w.heap.size + 1) 29 (arrR Z 0)) := hr
          have HP7 : Hid (Blk wr (w.heap.size + 1 + 1) 29 (arrR (fun g => if g < f then M g else D g) 0)) := hq
          clear hb hr hq
          by_cases hlt2 : f < 8
          · obtain ⟨x, hx⟩ : ∃ x, x = D f := ⟨_, rfl⟩
            have c : wr.cell? ⟨w.heap.size + 1 + 1, f, none⟩ = some (.int .i64 x) := by rw [HP7.out.cell, arrR_get _ _ hlt2, hx]; simp
            have z := HP7.out.frozen f
            have hxl := HDl.out f hlt2
            rw [← hx] at hxl
            obtain ⟨l0, l1⟩ := hxl
            have HE : Hid (Blk (wr.setCell ⟨w.heap.size + 1 + 1, f, none⟩ (.int .i64 (-x))) (w.heap.size + 1 + 1) 29 (arrR (fun g => if g < f + 1 then M g else D g) 0)) := by
              have := HP7.out.set f (.int .i64 (-x))
              rw [arrR_set _ _ _ hlt2] at this
              unfold Hid
              rw [arrR_same (M := fun g => if g = f then -x else if g < f then M g else D g)]
              · exact this
              · intro g hg
                by_cases e : g = f
                · subst e; rw [if_pos (by omega), if_pos rfl, HM.out g hg, hx]; rfl
                · simp only [if_neg e]
                  by_cases e' : g < f
                  · rw [if_pos (by omega), if_pos e']
                  · rw [if_neg (by omega), if_neg e']
            clear hx
            go_wp2
            go_roundw
            case rel => exact ⟨f + 1, by omega, by go_num, HB7.out.setCell (by show w.heap.size ≤ w.heap.size + 1 + 1; omega) _, HR7.out.far (by omega) _ _, HE.out⟩
            case measure => simp [intOf]; omega
          · obtain rfl : f = 8 := by omega
            have HP8 : Hid (Blk wr (w.heap.size + 1 + 1) 29 (arrR M 0)) := by
              have := HP7.out
              unfold Hid
              rw [arrR_same (M := fun g => if g < 8 then M g else D g)]
              · exact this
              · intro g hg; rw [if_pos hg]
            clear HP7
            have HPp : Hid (p = (-1)) := HP.out
            obtain ⟨n0', n1', n2', n3', n4', n5', n6', n7', n8'⟩ := HP8.out.cells9
            have nz := HP8.out.frozen 8
            obtain ⟨r0, r1, r2, r3, r4, r5, r6, r7, r8⟩ := HR7.out.cells9
            obtain ⟨f0, f1, f2, f3, f4, f5, f6, f7, f8⟩ := HR7.out.frozen9
            go_wp2
            refine bodyPost_ret (v := .agg (arrR M (-1))) ?_ rfl ⟨by rw [HPp.out]; rfl, ?_⟩
            · exact results_cell_row rfl _ _ (w.heap.size + 1) 29 (arrR M (-1)) (0, 0) _ rfl (putR_blk (HR7.out.far (by omega) 8 (.int .i64 (-1))) M (-1)) Tryd.underlying29 rfl infoR
            · exact putR_below (HB7.out.setCell (by show w.heap.size ≤ w.heap.size + 1 + 1; omega) _) (by omega) _ _

set_option maxHeartbeats 8000000 in
theorem refRow_5 (n : Int) (h : Bool) (X Y : Nat → Bool) (M : Nat → Int) (p : Int) (n0 : -20 ≤ n) (n1 : n ≤ 20) (sao tao : Option Addr) (sl scap tl tcap : Nat) (w : World)
    (hM : ∀ f, f < 8 → M f = if h = true then timesK 5 (X f) (Y f) else - timesK 5 (X f) (Y f)) (hp : p = if h = true then n else -(n + 1))
    (HS : Hid (∀ W (f : Nat), Below w.heap.size w W → f < 8 → Calls Tryd.prog 24 #[.slice sao sl scap, .int .i64 f] W fun e w' => e = .returned (.bool (X f)) ∧ Below W.heap.size W w'))
    (HT : Hid (∀ W (f : Nat), Below w.heap.size w W → f < 8 → Calls Tryd.prog 24 #[.slice tao tl tcap, .int .i64 f] W fun e w' => e = .returned (.bool (Y f)) ∧ Below W.heap.size W w'))
    : Calls Tryd.prog 9 #[.agg #[.int .i64 5, .slice sao sl scap, .slice tao tl tcap, .int .i64 n], .bool h] w fun e w' => e = .returned (.agg #[.int .i64 (M 0), .int .i64 (M 1), .int .i64 (M 2), .int .i64 (M 3), .int .i64 (M 4), .int .i64 (M 5), .int .i64 (M 6), .int .i64 (M 7), .int .i64 p]) ∧ Below w.heap.size w w' := by
  obtain ⟨Z, hZ⟩ : ∃ Z : Nat → Int, Z = fun _ => 0 := ⟨_, rfl⟩
  obtain ⟨w1, hw1⟩ : ∃ w1, w1 = ((w.alloc (.cells #[.int .i64 5, .slice sao sl scap, .slice tao tl tcap, .int .i64 n] 24)).alloc (.cells #[.int .i64 0, .int .i64 0, .int .i64 0, .int .i64 0, .int .i64 0, .int .i64 0, .int .i64 0, .int .i64 0, .int .i64 0] 29)).alloc (.cells #[.int .i64 0, .int .i64 0, .int .i64 0, .int .i64 0, .int .i64 0, .int .i64 0, .int .i64 0, .int .i64 0, .int .i64 0] 29) := ⟨_, rfl⟩
  have HW : Hid (Below w.heap.size w w1) := by unfold Hid; rw [hw1]; exact ((below_alloc1 _ _).alloc (by simp) _).alloc (by simp; omega) _
  have HK0 : Hid (Blk w1 w.heap.size 24 #[.int .i64 5, .slice sao sl scap, .slice tao tl tcap, .int .i64 n]) := by unfold Hid; rw [hw1]; exact ((Blk.new _ _ _).old _).old _
  have HK1 : Hid (Blk w1 (w.heap.size + 1) 29 (arrR Z 0)) := by
    unfold Hid; rw [hw1, hZ]
    have := Blk.new (w.alloc (.cells #[.int .i64 5, .slice sao sl scap, .slice tao tl tcap, .int .i64 n] 24)) 29 #[.int .i64 0, .int .i64 0, .int .i64 0, .int .i64 0, .int .i64 0, .int .i64 0, .int .i64 0, .int .i64 0, .int .i64 0]
    simp only [World.size_alloc] at this
    exact this.old _
  have HK2 : Hid (Blk w1 (w.heap.size + 1 + 1) 29 (arrR Z 0)) := by
    unfold Hid; rw [hw1, hZ]
    have := Blk.new ((w.alloc (.cells #[.int .i64 5, .slice sao sl scap, .slice tao tl tcap, .int .i64 n] 24)).alloc (.cells #[.int .i64 0, .int .i64 0, .int .i64 0, .int .i64 0, .int .i64 0, .int .i64 0, .int .i64 0, .int .i64 0, .int .i64 0] 29)) 29 #[.int .i64 0, .int .i64 0, .int .i64 0, .int .i64 0, .int .i64 0, .int .i64 0, .int .i64 0, .int .i64 0, .int .i64 0]
    simp only [World.size_alloc] at this
    exact this
  have HX : Hid (∀ W, Blk W w.heap.size 24 #[.int .i64 5, .slice sao sl scap, .slice tao tl tcap, .int .i64 n] → W.cell? ⟨w.heap.size, 0, none⟩ = some (.int .i64 5) ∧ W.cell? ⟨w.heap.size, 1, none⟩ = some (.slice sao sl scap) ∧ W.cell? ⟨w.heap.size, 2, none⟩ = some (.slice tao tl tcap) ∧ W.cell? ⟨w.heap.size, 3, none⟩ = some (.int .i64 n)) := fun W h => ⟨h.cell 0, h.cell 1, h.cell 2, h.cell 3⟩
  obtain ⟨D, hD⟩ : ∃ D : Nat → Int, D = fun f => timesK 5 (X f) (Y f) := ⟨_, rfl⟩
  have HDl : Hid (∀ f, f < 8 → -2 ≤ D f ∧ D f ≤ 2) := fun f _ => by
    have := timesK_le 5 (X f) (Y f)
    rw [hD]; show -2 ≤ timesK 5 (X f) (Y f) ∧ timesK 5 (X f) (Y f) ≤ 2; omega
  have HM : Hid (∀ f, f < 8 → M f = if h = true then D f else - D f) := fun f hf => by rw [hD]; exact hM f hf
  have HP : Hid (p = if h = true then n else -(n + 1)) := hp
  have HD : Hid (∀ f, D f = timesK 5 (X f) (Y f)) := fun f => by rw [hD]
  have HZ : Hid (Z = fun _ => 0) := hZ
  clear hM hp hD hZ
  go_enter Tryd.func9, Tryd.ntmps9
  go_wp2
  rw [← hw1]
  clear hw1
  go_loopw [6] (fun i wr => ∃ f : Nat, f ≤ 8 ∧ i = .int .i64 f ∧ Below w.heap.size w wr ∧ Blk wr w.heap.size 24 #[.int .i64 5, .slice sao sl scap, .slice tao tl tcap, .int .i64 n] ∧ Blk wr (w.heap.size + 1) 29 (arrR Z 0) ∧ Blk wr (w.heap.size + 1 + 1) 29 (arrR (fun g => if g < f then D g else 0) 0)) (fun i _ => 8 - (intOf i).toNat)
  case atStart => exact ⟨0, Nat.zero_le _, rfl, HW.out, HK0.out, HK1.out, by have := HK2.out; rw [HZ.out] at this; exact this⟩
  case round =>
    obtain ⟨f, hf, rfl, hb, ha, hr, hq⟩ := hrel
    have HB1 : Hid (Below w.heap.size w wr) := hb
    have HA1 : Hid (Blk wr w.heap.size 24 #[.int .i64 5, .slice sao sl scap, .slice tao tl tcap, .int .i64 n]) := ha
    have HR1 : Hid (Blk wr (w.heap.size + 1) 29 (arrR Z 0)) := hr
    have HP1 : Hid (Blk wr (w.heap.size + 1 + 1) 29 (arrR (fun g => if g < f then D g else 0) 0)) := hq
    clear hb ha hr hq
    obtain ⟨x0, x1, x2, x3⟩ := HX.out _ HA1.out
    by_cases hlt : f < 8
    · have hDf : D f = timesK 5 (X f) (Y f) := HD.out f
      have HE : Hid (∀ W d, d = D f → Blk W (w.heap.size + 1 + 1) 29 (arrR (fun g => if g < f then D g else 0) 0) → Blk (W.setCell ⟨w.heap.size + 1 + 1, f, none⟩ (.int .i64 d)) (w.heap.size + 1 + 1) 29 (arrR (fun g => if g < f + 1 then D g else 0) 0)) := fun W d hd hW => by
        have := hW.set f (.int .i64 d)
        rw [arrR_set _ _ _ hlt] at this
        rw [arrR_same (M := fun g => if g = f then d else if g < f then D g else 0)]
        · exact this
        · intro g hg
          by_cases e : g = f
          · subst e; rw [if_pos (by omega), if_pos rfl, hd]
          · simp only [if_neg e]
            by_cases e' : g < f
            · rw [if_pos (by omega), if_pos e']
            · rw [if_neg (by omega), if_neg e']
      have HS1 : Hid (Calls Tryd.prog 24 #[.slice sao sl scap, .int .i64 f] wr fun e w' => e = .returned (.bool (X f)) ∧ Below wr.heap.size wr w') := HS.out wr f HB1.out hlt
      have HT1 : Hid (∀ W, Below w.heap.size w W → Calls Tryd.prog 24 #[.slice tao tl tcap, .int .i64 f] W fun e w' => e = .returned (.bool (Y f)) ∧ Below W.heap.size W w') := fun W hW => HT.out W f hW hlt
      obtain ⟨y, hy⟩ : ∃ y, y = Y f := ⟨_, rfl⟩
      rw [← hy] at HT1 hDf
      clear hy
      obtain ⟨x, hx⟩ : ∃ x, x = X f := ⟨_, rfl⟩
      rw [← hx] at HS1 hDf
      have HDf : Hid (D f = timesK 5 x y) := hDf
      clear hx hDf
      go_wp2_with fail
      go_at_call 24
      refine HS1.out.mono ?_
      rintro e w2 ⟨rfl, hb⟩
      have HB2 : Hid (Below w.heap.size w w2) := HB1.out.trans (hb.mono HB1.out.size)
      have HA2 : Hid (Blk w2 w.heap.size 24 #[.int .i64 5, .slice sao sl scap, .slice tao tl tcap, .int .i64 n]) := HA1.out.below hb
      have HR2 : Hid (Blk w2 (w.heap.size + 1) 29 (arrR Z 0)) := HR1.out.below hb
      have HP2 : Hid (Blk w2 (w.heap.size + 1 + 1) 29 (arrR (fun g => if g < f then D g else 0) 0)) := HP1.out.below hb
      clear hb x0 x1 x2 x3
      obtain ⟨x0, x1, x2, x3⟩ := HX.out _ HA2.out
      go_wp2_with fail
      go_at_call 24
      refine (HT1.out _ HB2.out).mono ?_
      rintro e w3 ⟨rfl, hb⟩
      have HB3 : Hid (Below w.heap.size w w3) := HB2.out.trans (hb.mono HB2.out.size)
      have HA3 : Hid (Blk w3 w.heap.size 24 #[.int .i64 5, .slice sao sl scap, .slice tao tl tcap, .int .i64 n]) := HA2.out.below hb
      have HR3 : Hid (Blk w3 (w.heap.size + 1) 29 (arrR Z 0)) := HR2.out.below hb
      have HP3 : Hid (Blk w3 (w.heap.size + 1 + 1) 29 (arrR (fun g => if g < f then D g else 0) 0)) := HP2.out.below hb
      clear hb x0 x1 x2 x3
      obtain ⟨x0, x1, x2, x3⟩ := HX.out _ HA3.out
      have c : w3.cell? ⟨w.heap.size + 1 + 1, f, none⟩ = some (.int .i64 0) := by rw [HP3.out.cell, arrR_get _ _ hlt]; simp
      have z := HP3.out.frozen f
      cases x <;> cases y
      · have HEE := HE.out w3 0 (by rw [HDf.out]; rfl) HP3.out
        have HEH : Hid _ := HEE
        clear HEE
        go_wp2
        go_roundw
        case rel => exact ⟨f + 1, by omega, by go_num, HB3.out.setCell (by show w.heap.size ≤ w.heap.size + 1 + 1; omega) _, HA3.out.far (by omega) _ _, HR3.out.far (by omega) _ _, HEH.out⟩
        case measure => simp [intOf]; omega
      · have HEE := HE.out w3 (-1) (by rw [HDf.out]; rfl) HP3.out
        have HEH : Hid _ := HEE
        clear HEE
        go_wp2
        go_roundw
        case rel => exact ⟨f + 1, by omega, by go_num, HB3.out.setCell (by show w.heap.size ≤ w.heap.size + 1 + 1; omega) _, HA3.out.far (by omega) _ _, HR3.out.far (by omega) _ _, HEH.out⟩
        case measure => simp [intOf]; omega
      · have HEE := HE.out w3 1 (by rw [HDf.out]; rfl) HP3.out
        have HEH : Hid _ := HEE
        clear HEE
        go_wp2
        go_roundw
        case rel => exact ⟨f + 1, by omega, by go_num, HB3.out.setCell (by show w.heap.size ≤ w.heap.size + 1 + 1; omega) _, HA3.out.far (by omega) _ _, HR3.out.far (by omega) _ _, HEH.out⟩
        case measure => simp [intOf]; omega
      · have HEE := HE.out w3 0 (by rw [HDf.out]; rfl) HP3.out
        have HEH : Hid _ := HEE
        clear HEE
        go_wp2
        go_roundw
        case rel => exact ⟨f + 1, by omega, by go_num, HB3.out.setCell (by show w.heap.size ≤ w.heap.size + 1 + 1; omega) _, HA3.out.far (by omega) _ _, HR3.out.far (by omega) _ _, HEH.out⟩
        case measure => simp [intOf]; omega
    · obtain rfl : f = 8 := by omega
      have HP8 : Hid (Blk wr (w.heap.size + 1 + 1) 29 (arrR D 0)) := by
        have := HP1.out
        unfold Hid
        rw [arrR_same (M := fun g => if g < 8 then D g else 0)]
        · exact this
        · intro g hg; rw [if_pos hg]
      clear HP1
      have q0 : wr.cell? ⟨w.heap.size + 1 + 1, 8, none⟩ = some (.int .i64 0) := HP8.out.cell 8
      have q1 := HP8.out.frozen 8
      obtain ⟨w6, hw6⟩ : ∃ x, x = wr.setCell ⟨w.heap.size + 1 + 1, 8, none⟩ (.int .i64 n) := ⟨_, rfl⟩
      have HB6 : Hid (Below w.heap.size w w6) := by unfold Hid; rw [hw6]; exact HB1.out.setCell (by show w.heap.size ≤ w.heap.size + 1 + 1; omega) _
      have HR6 : Hid (Blk w6 (w.heap.size + 1) 29 (arrR Z 0)) := by unfold Hid; rw [hw6]; exact HR1.out.far (by omega) _ _
      have HP6 : Hid (Blk w6 (w.heap.size + 1 + 1) 29 (arrR D n)) := by
        unfold Hid; rw [hw6]
        have := HP8.out.set 8 (.int .i64 n)
        rw [arrR_most] at this
        exact this
      go_upto_region 35 with fail
      rw [← hw6]
      clear hw6 q0 q1 x0 x1 x2 x3
      clear HB1 HA1 HR1 HP8 HS HT HX HW HK0 HK1 HK2
      cases h with
      | true =>
        have HMD : Hid (arrR D n = arrR M p) := by
          unfold Hid
          rw [HP.out]
          exact arrR_same (fun f hf => by rw [HM.out f hf]; rfl) _
        obtain ⟨n0', n1', n2', n3', n4', n5', n6', n7', n8'⟩ := HP6.out.cells9
        obtain ⟨r0, r1, r2, r3, r4, r5, r6, r7, r8⟩ := HR6.out.cells9
        obtain ⟨f0, f1, f2, f3, f4, f5, f6, f7, f8⟩ := HR6.out.frozen9
        go_wp2
        refine bodyPost_ret (v := .agg (arrR D n)) ?_ rfl ⟨by rw [HMD.out]; rfl, ?_⟩
        · exact results_cell_row rfl _ _ (w.heap.size + 1) 29 (arrR D n) (0, 0) _ rfl (putR_blk HR6.out D n) Tryd.underlying29 rfl infoR
        · exact putR_below HB6.out (by omega) _ _
      | false =>
        go_wp2
        go_loopw [10] (fun i wr => ∃ f : Nat, f ≤ 8 ∧ i = .int .i64 f ∧ Below w.heap.size w wr ∧ Blk wr (w.heap.size + 1) 29 (arrR Z 0) ∧ Blk wr (w.heap.size + 1 + 1) 29 (arrR (fun g => if g < f then M g else D g) n)) (fun i _ => 8 - (intOf i).toNat)
        case atStart => exact ⟨0, Nat.zero_le _, rfl, HB6.out, HR6.out, HP6.out⟩
        case round =>
          obtain ⟨f, hf, rfl, hb, hr, hq⟩ := hrel
          have HB7 : Hid (Below w.heap.size w wr) := hb
          have HR7 : Hid (Blk wr (w.heap.size + 1) 29 (arrR Z 0)) := hr
          have HP7 : Hid (Blk wr (w.heap.size + 1 + 1) 29 (arrR (fun g => if g < f then M g else D g) n)) := hq
          clear hb hr hq
          by_cases hlt2 : f < 8
          · obtain ⟨x, hx⟩ : ∃ x, x = D f := ⟨_, rfl⟩
            have c : wr.cell? ⟨w.heap.size + 1 + 1, f, none⟩ = some (.int .i64 x) := by rw [HP7.out.cell, arrR_get _ _ hlt2, hx]; simp
            have z := HP7.out.frozen f
            have hxl := HDl.out f hlt2
            rw [← hx] at hxl
            obtain ⟨l0, l1⟩ := hxl
            have HE : Hid (Blk (wr.setCell ⟨w.heap.size + 1 + 1, f, none⟩ (.int .i64 (-x))) (w.heap.size + 1 + 1) 29 (arrR (fun g => if g < f + 1 then M g else D g) n)) := by
              have := HP7.out.set f (.int .i64 (-x))
              rw [arrR_set _ _ _ hlt2] at this
              unfold Hid
              rw [arrR_same (M := fun g => if g = f then -x else if g < f then M g else D g)]
              · exact this
              · intro g hg
                by_cases e : g = f
                · subst e; rw [if_pos (by omega), if_pos rfl, HM.out g hg, hx]; rfl
                · simp only [if_neg e]
                  by_cases e' : g < f
                  · rw [if_pos (by omega), if_pos e']
                  · rw [if_neg (by omega), if_neg e']
            clear hx
            go_wp2
            go_roundw
            case rel => exact ⟨f + 1, by omega, by go_num, HB7.out.setCell (by show w.heap.size ≤ w.heap.size + 1 + 1; omega) _, HR7.out.far (by omega) _ _, HE.out⟩
            case measure => simp [intOf]; omega
          · obtain rfl : f = 8 := by omega
            have HP8 : Hid (Blk wr (w.heap.size + 1 + 1) 29 (arrR M n)) := by
              have := HP7.out
              unfold Hid
              rw [arrR_same (M := fun g => if g < 8 then M g else D g)]
              · exact this
              · intro g hg; rw [if_pos hg]
            clear HP7
            have HPp : Hid (p = (-(n + 1))) := HP.out
            obtain ⟨n0', n1', n2', n3', n4', n5', n6', n7', n8'⟩ := HP8.out.cells9
            have nz := HP8.out.frozen 8
            obtain ⟨r0, r1, r2, r3, r4, r5, r6, r7, r8⟩ := HR7.out.cells9
            obtain ⟨f0, f1, f2, f3, f4, f5, f6, f7, f8⟩ := HR7.out.frozen9
            go_wp2
            refine bodyPost_ret (v := .agg (arrR M (-(n + 1)))) ?_ rfl ⟨by rw [HPp.out]; rfl, ?_⟩
            · exact results_cell_row rfl _ _ (w.heap.size + 1) 29 (arrR M (-(n + 1))) (0, 0) _ rfl (putR_blk (HR7.out.far (by omega) 8 (.int .i64 (-(n + 1)))) M (-(n + 1))) Tryd.underlying29 rfl infoR
            · exact putR_below (HB7.out.setCell (by show w.heap.size ≤ w.heap.size + 1 + 1; omega) _) (by omega) _ _
end Go.Proofs.YtenmheenieifpadDoor
