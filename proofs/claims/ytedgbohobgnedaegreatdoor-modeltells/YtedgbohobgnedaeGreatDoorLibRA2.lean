/-
  Proved: what the reference's Row returns, of the kinds 3 and 4; what was in memory is as it was (contracts that the statements lean on). Written by program.
  Proved: what the reference's functions Power, Has and Set return, and that they leave memory as it was.
  Proved: what the reference's Counts and Fields return; what was in memory is as it was (contracts that the statements lean on).
  Proved: what the reference's Made returns, of right counts; what was in memory is as it was (a contract that the statements lean on).
  Proved: what the reference's Term and World return, of any row of signs and any world; what was in memory is as it was (contracts that the statements lean on).
  Proved: what the reference's in and In return, of a right term and a right world; what was in memory is as it was (contracts that the statements lean on).
  Proved: what the reference's Lies returns, of a right term and a field; what was in memory is as it was (a contract that the statements lean on).
  Proved: what the reference's Row returns, of any right atom; what was in memory is as it was (contracts that the statements lean on). Written by program.
  Proved: what the reference's Rows returns, of any rows, and its Fits, of right rows and right counts; what was in memory is as it was (contracts that the statements lean on).
  Proved: what the reference's All returns: all counts of so many things, one behind the other; what was in memory is as it was (contracts that the statements lean on). Proved: what the reference's All returns, of up to six things: a slice that reads as all counts, one behind the other; what was in memory is as it was (a contract that the statements lean on).
  Proved: what vennref1.Atom returns, of any atom; what was in memory is as it was (a contract that the statements lean on). Written by program.
  Proved: what vennref1.Form returns, of any formula; what was in memory is as it was (a contract that the statements lean on).
-/
import Derived.Test.YtedgbohobgnedaeGreatDoorLibPA3
import Derived.Deep.Cut
import Derived.Test.YtedgbohobgnedaeGreatDoorRows
import Derived.Test.YtedgbohobgnedaeGreatDoorLibPA1
import Derived.WalkKit
import Derived.ProofKit
import Derived.OpenShut
import Derived.Deep.RegionWith
import Derived.Test.YtedgbohobgnedaeGreatDoorLibPA2
import Derived.Test.YtedgbohobgnedaeGreatDoorLibRA1
import Derived.Test.YtedgbohobgnedaeGreatDoorLibPA4
import Derived.Deep.AppendLies
import Derived.Deep.RegionLaw
namespace Go.Proofs.YtedgbohobgnedaeGreatDoor
open Go.ChangeShapes Go.WideShapes Go.ChangeAt Go.RowKit
set_option maxRecDepth 100000

set_option maxHeartbeats 8000000 in
theorem refRow_3 (n : Int) (h : Bool) (X : Nat → Bool) (M : Nat → Int) (p : Int) (n0 : -20 ≤ n) (n1 : n ≤ 20) (sao tao : Option Addr) (sl scap tl tcap : Nat) (w : World)
    (hM : ∀ f, f < 8 → M f = if h = true then timesK 3 (X f) false else - timesK 3 (X f) false) (hp : p = if h = true then (-n) else -((-n) + 1))
    (HS : Hid (∀ W (f : Nat), Below w.heap.size w W → f < 8 → Calls Tryz.prog 48 #[.slice sao sl scap, .int .i64 f] W fun e w' => e = .returned (.bool (X f)) ∧ Below W.heap.size W w'))
    : Calls Tryz.prog 23 #[.agg #[.int .i64 3, .slice sao sl scap, .slice tao tl tcap, .int .i64 n], .bool h] w fun e w' => e = .returned (.agg #[.int .i64 (M 0), .int .i64 (M 1), .int .i64 (M 2), .int .i64 (M 3), .int .i64 (M 4), .int .i64 (M 5), .int .i64 (M 6), .int .i64 (M 7), .int .i64 p]) ∧ Below w.heap.size w w' := by
  obtain ⟨Z, hZ⟩ : ∃ Z : Nat → Int, Z = fun _ => 0 := ⟨_, rfl⟩
  obtain ⟨w1, hw1⟩ : ∃ w1, w1 = ((w.alloc (.cells #[.int .i64 3, .slice sao sl scap, .slice tao tl tcap, .int .i64 n] 43)).alloc (.cells #[.int .i64 0, .int .i64 0, .int .i64 0, .int .i64 0, .int .i64 0, .int .i64 0, .int .i64 0, .int .i64 0, .int .i64 0] 65)).alloc (.cells #[.int .i64 0, .int .i64 0, .int .i64 0, .int .i64 0, .int .i64 0, .int .i64 0, .int .i64 0, .int .i64 0, .int .i64 0] 65) := ⟨_, rfl⟩
  have HW : Hid (Below w.heap.size w w1) := by unfold Hid; rw [hw1]; exact ((below_alloc1 _ _).alloc (by simp) _).alloc (by simp; omega) _
  have HK0 : Hid (Blk w1 w.heap.size 43 #[.int .i64 3, .slice sao sl scap, .slice tao tl tcap, .int .i64 n]) := by unfold Hid; rw [hw1]; exact ((Blk.new _ _ _).old _).old _
  have HK1 : Hid (Blk w1 (w.heap.size + 1) 65 (arrR Z 0)) := by
    unfold Hid; rw [hw1, hZ]
    have := Blk.new (w.alloc (.cells #[.int .i64 3, .slice sao sl scap, .slice tao tl tcap, .int .i64 n] 43)) 65 #[.int .i64 0, .int .i64 0, .int .i64 0, .int .i64 0, .int .i64 0, .int .i64 0, .int .i64 0, .int .i64 0, .int .i64 0]
    simp only [World.size_alloc] at this
    exact this.old _
  have HK2 : Hid (Blk w1 (w.heap.size + 1 + 1) 65 (arrR Z 0)) := by
    unfold Hid; rw [hw1, hZ]
    have := Blk.new ((w.alloc (.cells #[.int .i64 3, .slice sao sl scap, .slice tao tl tcap, .int .i64 n] 43)).alloc (.cells #[.int .i64 0, .int .i64 0, .int .i64 0, .int .i64 0, .int .i64 0, .int .i64 0, .int .i64 0, .int .i64 0, .int .i64 0] 65)) 65 #[.int .i64 0, .int .i64 0, .int .i64 0, .int .i64 0, .int .i64 0, .int .i64 0, .int .i64 0, .int .i64 0, .int .i64 0]
    simp only [World.size_alloc] at this
    exact this
  have HX : Hid (∀ W, Blk W w.heap.size 43 #[.int .i64 3, .slice sao sl scap, .slice tao tl tcap, .int .i64 n] → W.cell? ⟨w.heap.size, 0, none⟩ = some (.int .i64 3) ∧ W.cell? ⟨w.heap.size, 1, none⟩ = some (.slice sao sl scap) ∧ W.cell? ⟨w.heap.size, 2, none⟩ = some (.slice tao tl tcap) ∧ W.cell? ⟨w.heap.size, 3, none⟩ = some (.int .i64 n)) := fun W h => ⟨h.cell 0, h.cell 1, h.cell 2, h.cell 3⟩
  obtain ⟨D, hD⟩ : ∃ D : Nat → Int, D = fun f => timesK 3 (X f) false := ⟨_, rfl⟩
  have HDl : Hid (∀ f, f < 8 → -2 ≤ D f ∧ D f ≤ 2) := fun f _ => by
    have := timesK_le 3 (X f) false
    rw [hD]; show -2 ≤ timesK 3 (X f) false ∧ timesK 3 (X f) false ≤ 2; omega
  have HM : Hid (∀ f, f < 8 → M f = if h = true then D f else - D f) := fun f hf => by rw [hD]; exact hM f hf
  have HP : Hid (p = if h = true then (-n) else -((-n) + 1)) := hp
  have HD : Hid (∀ f, D f = timesK 3 (X f) false) := fun f => by rw [hD]
  have HZ : Hid (Z = fun _ => 0) := hZ
  clear hM hp hD hZ
  go_enter Tryz.func23, Tryz.ntmps23
  go_wp2
  rw [← hw1]
  clear hw1
  go_loopw [6] (fun i wr => ∃ f : Nat, f ≤ 8 ∧ i = .int .i64 f ∧ Below w.heap.size w wr ∧ Blk wr w.heap.size 43 #[.int .i64 3, .slice sao sl scap, .slice tao tl tcap, .int .i64 n] ∧ Blk wr (w.heap.size + 1) 65 (arrR Z 0) ∧ Blk wr (w.heap.size + 1 + 1) 65 (arrR (fun g => if g < f then D g else 0) 0)) (fun i _ => 8 - (intOf i).toNat)
  case atStart => exact ⟨0, Nat.zero_le _, rfl, HW.out, HK0.out, HK1.out, by have := HK2.out; rw [HZ.out] at this; exact this⟩
  case round =>
    obtain ⟨f, hf, rfl, hb, ha, hr, hq⟩ := hrel
    have HB1 : Hid (Below w.heap.size w wr) := hb
    have HA1 : Hid (Blk wr w.heap.size 43 #[.int .i64 3, .slice sao sl scap, .slice tao tl tcap, .int .i64 n]) := ha
    have HR1 : Hid (Blk wr (w.heap.size + 1) 65 (arrR Z 0)) := hr
    have HP1 : Hid (Blk wr (w.heap.size + 1 + 1) 65 (arrR (fun g => if g < f then D g else 0) 0)) := hq
    clear hb ha hr hq
    obtain ⟨x0, x1, x2, x3⟩ := HX.out _ HA1.out
    by_cases hlt : f < 8
    · have hDf : D f = timesK 3 (X f) false := HD.out f
      have HE : Hid (∀ W d, d = D f → Blk W (w.heap.size + 1 + 1) 65 (arrR (fun g => if g < f then D g else 0) 0) → Blk (W.setCell ⟨w.heap.size + 1 + 1, f, none⟩ (.int .i64 d)) (w.heap.size + 1 + 1) 65 (arrR (fun g => if g < f + 1 then D g else 0) 0)) := fun W d hd hW => by
        have := hW.set f (.int .i64 d)
        rw [arrR_set _ _ _ hlt] at this
        rw [arrR_same (M := fun g => if g = f then d else if g < f then D g else 0)]
        · exact this
        · intro g hg
          by_cases e : g = f
          · subst e; rw [if_pos (by omega), if_pos rfl, hd]
          · simp only [if_neg e]
            by_cases e' : g < f
            · rw [if_pos (by omega), if_pos e']
            · rw [if_neg (by omega), if_neg e']
      have HS1 : Hid (Calls Tryz.prog 48 #[.slice sao sl scap, .int .i64 f] wr fun e w' => e = .returned (.bool (X f)) ∧ Below wr.heap.size wr w') := HS.out wr f HB1.out hlt
      obtain ⟨x, hx⟩ : ∃ x, x = X f := ⟨_, rfl⟩
      rw [← hx] at HS1 hDf
      have HDf : Hid (D f = timesK 3 x false) := hDf
      clear hx hDf
      go_wp2_with fail
      go_at_call 48
      refine HS1.out.mono ?_
      rintro e w2 ⟨rfl, hb⟩
      have HB2 : Hid (Below w.heap.size w w2) := HB1.out.trans (hb.mono HB1.out.size)
      have HA2 : Hid (Blk w2 w.heap.size 43 #[.int .i64 3, .slice sao sl scap, .slice tao tl tcap, .int .i64 n]) := HA1.out.below hb
      have HR2 : Hid (Blk w2 (w.heap.size + 1) 65 (arrR Z 0)) := HR1.out.below hb
      have HP2 : Hid (Blk w2 (w.heap.size + 1 + 1) 65 (arrR (fun g => if g < f then D g else 0) 0)) := HP1.out.below hb
      clear hb x0 x1 x2 x3
      obtain ⟨x0, x1, x2, x3⟩ := HX.out _ HA2.out
      have c : w2.cell? ⟨w.heap.size + 1 + 1, f, none⟩ = some (.int .i64 0) := by rw [HP2.out.cell, arrR_get _ _ hlt]; simp
      have z := HP2.out.frozen f
      cases x
      · have HEE := HE.out w2 0 (by rw [HDf.out]; rfl) HP2.out
        have HEH : Hid _ := HEE
        clear HEE
        go_wp2
        go_roundw
        case rel => exact ⟨f + 1, by omega, by go_num, HB2.out.setCell (by show w.heap.size ≤ w.heap.size + 1 + 1; omega) _, HA2.out.far (by omega) _ _, HR2.out.far (by omega) _ _, HEH.out⟩
        case measure => simp [intOf]; omega
      · have HEE := HE.out w2 (-1) (by rw [HDf.out]; rfl) HP2.out
        have HEH : Hid _ := HEE
        clear HEE
        go_wp2
        go_roundw
        case rel => exact ⟨f + 1, by omega, by go_num, HB2.out.setCell (by show w.heap.size ≤ w.heap.size + 1 + 1; omega) _, HA2.out.far (by omega) _ _, HR2.out.far (by omega) _ _, HEH.out⟩
        case measure => simp [intOf]; omega
    · obtain rfl : f = 8 := by omega
      have HP8 : Hid (Blk wr (w.heap.size + 1 + 1) 65 (arrR D 0)) := by
        have := HP1.out
        unfold Hid
        rw [arrR_same (M := fun g => if g < 8 then D g else 0)]
        · exact this
        · intro g hg; rw [if_pos hg]
      clear HP1
      have q0 : wr.cell? ⟨w.heap.size + 1 + 1, 8, none⟩ = some (.int .i64 0) := HP8.out.cell 8
      have q1 := HP8.out.frozen 8
      obtain ⟨w6, hw6⟩ : ∃ x, x = wr.setCell ⟨w.heap.size + 1 + 1, 8, none⟩ (.int .i64 (-n)) := ⟨_, rfl⟩
      have HB6 : Hid (Below w.heap.size w w6) := by unfold Hid; rw [hw6]; exact HB1.out.setCell (by show w.heap.size ≤ w.heap.size + 1 + 1; omega) _
      have HR6 : Hid (Blk w6 (w.heap.size + 1) 65 (arrR Z 0)) := by unfold Hid; rw [hw6]; exact HR1.out.far (by omega) _ _
      have HP6 : Hid (Blk w6 (w.heap.size + 1 + 1) 65 (arrR D (-n))) := by
        unfold Hid; rw [hw6]
        have := HP8.out.set 8 (.int .i64 (-n))
        rw [arrR_most] at this
        exact this
      go_upto_region 35 with fail
      rw [← hw6]
      clear hw6 q0 q1 x0 x1 x2 x3
      clear HB1 HA1 HR1 HP8 HS HX HW HK0 HK1 HK2
      cases h with
      | true =>
        have HMD : Hid (arrR D (-n) = arrR M p) := by
          unfold Hid
          rw [HP.out]
          exact arrR_same (fun f hf => by rw [HM.out f hf]; rfl) _
        obtain ⟨n0', n1', n2', n3', n4', n5', n6', n7', n8'⟩ := HP6.out.cells9
        obtain ⟨r0, r1, r2, r3, r4, r5, r6, r7, r8⟩ := HR6.out.cells9
        obtain ⟨f0, f1, f2, f3, f4, f5, f6, f7, f8⟩ := HR6.out.frozen9
        go_wp2
        refine bodyPost_ret (v := .agg (arrR D (-n))) ?_ rfl ⟨by rw [HMD.out]; rfl, ?_⟩
        · exact results_cell_row rfl _ _ (w.heap.size + 1) 65 (arrR D (-n)) (0, 0) _ rfl (putR_blk HR6.out D (-n)) Tryz.underlying65 rfl infoR
        · exact putR_below HB6.out (by omega) _ _
      | false =>
        go_wp2
        go_loopw [10] (fun i wr => ∃ f : Nat, f ≤ 8 ∧ i = .int .i64 f ∧ Below w.heap.size w wr ∧ Blk wr (w.heap.size + 1) 65 (arrR Z 0) ∧ Blk wr (w.heap.size + 1 + 1) 65 (arrR (fun g => if g < f then M g else D g) (-n))) (fun i _ => 8 - (intOf i).toNat)
        case atStart => exact ⟨0, Nat.zero_le _, rfl, HB6.out, HR6.out, HP6.out⟩
        case round =>
          obtain ⟨f, hf, rfl, hb, hr, hq⟩ := hrel
          have HB7 : Hid (Below w.heap.size w wr) := hb
          have HR7 : Hid (Blk wr (w.heap.size + 1) 65 (arrR Z 0)) := hr
          have HP7 : Hid (Blk wr (w.heap.size + 1 + 1) 65 (arrR (fun g => if g < f then M g else D g) (-n))) := hq
          clear hb hr hq
          by_cases hlt2 : f < 8
          · obtain ⟨x, hx⟩ : ∃ x, x = D f := ⟨_, rfl⟩
            have c : wr.cell? ⟨w.heap.size + 1 + 1, f, none⟩ = some (.int .i64 x) := by rw [HP7.out.cell, arrR_get _ _ hlt2, hx]; simp
            have z := HP7.out.frozen f
            have hxl := HDl.out f hlt2
            rw [← hx] at hxl
            obtain ⟨l0, l1⟩ := hxl
            have HE : Hid (Blk (wr.setCell ⟨w.heap.size + 1 + 1, f, none⟩ (.int .i64 (-x))) (w.heap.size + 1 + 1) 65 (arrR (fun g => if g < f + 1 then M g else D g) (-n))) := by
              have := HP7.out.set f (.int .i64 (-x))
              rw [arrR_set _ _ _ hlt2] at this
              unfold Hid
              rw [arrR_same (M := fun g => if g = f then -x else if g < f then M g else D g)]
              · exact this
              · intro g hg
                by_cases e : g = f
                · subst e; rw [if_pos (by omega), if_pos rfl, HM.out g hg, hx]; rfl
                · simp only [if_neg e]
                  by_cases e' : g < f
                  · rw [if_pos (by omega), if_pos e']
                  · rw [if_neg (by omega), if_neg e']
            clear hx
            go_wp2
            go_roundw
            case rel => exact ⟨f + 1, by omega, by go_num, HB7.out.setCell (by show w.heap.size ≤ w.heap.size + 1 + 1; omega) _, HR7.out.far (by omega) _ _, HE.out⟩
            case measure => simp [intOf]; omega
          · obtain rfl : f = 8 := by omega
            have HP8 : Hid (Blk wr (w.heap.size + 1 + 1) 65 (arrR M (-n))) := by
              have := HP7.out
              unfold Hid
              rw [arrR_same (M := fun g => if g < 8 then M g else D g)]
              · exact this
              · intro g hg; rw [if_pos hg]
            clear HP7
            have HPp : Hid (p = (-((-n) + 1))) := HP.out
            obtain ⟨n0', n1', n2', n3', n4', n5', n6', n7', n8'⟩ := HP8.out.cells9
            have nz := HP8.out.frozen 8
            obtain ⟨r0, r1, r2, r3, r4, r5, r6, r7, r8⟩ := HR7.out.cells9
            obtain ⟨f0, f1, f2, f3, f4, f5, f6, f7, f8⟩ := HR7.out.frozen9
            go_wp2
            refine bodyPost_ret (v := .agg (arrR M (-((-n) + 1)))) ?_ rfl ⟨by rw [HPp.out]; rfl, ?_⟩
            · exact results_cell_row rfl _ _ (w.heap.size + 1) 65 (arrR M (-((-n) + 1))) (0, 0) _ rfl (putR_blk (HR7.out.far (by omega) 8 (.int .i64 (-((-n) + 1)))) M (-((-n) + 1))) Tryz.underlying65 rfl infoR
            · exact putR_below (HB7.out.setCell (by show w.heap.size ≤ w.heap.size + 1 + 1; omega) _) (by omega) _ _

set_option maxHeartbeats 8000000 in
theorem refRow_4 (n : Int) (h : Bool) (X : Nat → Bool) (M : Nat → Int) (p : Int) (n0 : -20 ≤ n) (n1 : n ≤ 20) (sao tao : Option Addr) (sl scap tl tcap : Nat) (w : World)
    (hM : ∀ f, f < 8 → M f = if h = true then timesK 4 (X f) false else - timesK 4 (X f) false) (hp : p = if h = true then n else -(n + 1))
    (HS : Hid (∀ W (f : Nat), Below w.heap.size w W → f < 8 → Calls Tryz.prog 48 #[.slice sao sl scap, .int .i64 f] W fun e w' => e = .returned (.bool (X f)) ∧ Below W.heap.size W w'))
    : Calls Tryz.prog 23 #[.agg #[.int .i64 4, .slice sao sl scap, .slice tao tl tcap, .int .i64 n], .bool h] w fun e w' => e = .returned (.agg #[.int .i64 (M 0), .int .i64 (M 1), .int .i64 (M 2), .int .i64 (M 3), .int .i64 (M 4), .int .i64 (M 5), .int .i64 (M 6), .int .i64 (M 7), .int .i64 p]) ∧ Below w.heap.size w w' := by
  obtain ⟨Z, hZ⟩ : ∃ Z : Nat → Int, Z = fun _ => 0 := ⟨_, rfl⟩
  obtain ⟨w1, hw1⟩ : ∃ w1, w1 = ((w.alloc (.cells #[.int .i64 4, .slice sao sl scap, .slice tao tl tcap, .int .i64 n] 43)).alloc (.cells #[.int .i64 0, .int .i64 0, .int .i64 0, .int .i64 0, .int .i64 0, .int .i64 0, .int .i64 0, .int .i64 0, .int .i64 0] 65)).alloc (.cells #[.int .i64 0, .int .i64 0, .int .i64 0, .int .i64 0, .int .i64 0, .int .i64 0, .int .i64 0, .int .i64 0, .int .i64 0] 65) := ⟨_, rfl⟩
  have HW : Hid (Below w.heap.size w w1) := by unfold Hid; rw [hw1]; exact ((below_alloc1 _ _).alloc (by simp) _).alloc (by simp; omega) _
  have HK0 : Hid (Blk w1 w.heap.size 43 #[.int .i64 4, .slice sao sl scap, .slice tao tl tcap, .int .i64 n]) := by unfold Hid; rw [hw1]; exact ((Blk.new _ _ _).old _).old _
  have HK1 : Hid (Blk w1 (w.heap.size + 1) 65 (arrR Z 0)) := by
    unfold Hid; rw [hw1, hZ]
    have := Blk.new (w.alloc (.cells #[.int .i64 4, .slice sao sl scap, .slice tao tl tcap, .int .i64 n] 43)) 65 #[.int .i64 0, .int .i64 0, .int .i64 0, .int .i64 0, .int .i64 0, .int .i64 0, .int .i64 0, .int .i64 0, .int .i64 0]
    simp only [World.size_alloc] at this
    exact this.old _
  have HK2 : Hid (Blk w1 (w.heap.size + 1 + 1) 65 (arrR Z 0)) := by
    unfold Hid; rw [hw1, hZ]
    have := Blk.new ((w.alloc (.cells #[.int .i64 4, .slice sao sl scap, .slice tao tl tcap, .int .i64 n] 43)).alloc (.cells #[.int .i64 0, .int .i64 0, .int .i64 0, .int .i64 0, .int .i64 0, .int .i64 0, .int .i64 0, .int .i64 0, .int .i64 0] 65)) 65 #[.int .i64 0, .int .i64 0, .int .i64 0, .int .i64 0, .int .i64 0, .int .i64 0, .int .i64 0, .int .i64 0, .int .i64 0]
    simp only [World.size_alloc] at this
    exact this
  have HX : Hid (∀ W, Blk W w.heap.size 43 #[.int .i64 4, .slice sao sl scap, .slice tao tl tcap, .int .i64 n] → W.cell? ⟨w.heap.size, 0, none⟩ = some (.int .i64 4) ∧ W.cell? ⟨w.heap.size, 1, none⟩ = some (.slice sao sl scap) ∧ W.cell? ⟨w.heap.size, 2, none⟩ = some (.slice tao tl tcap) ∧ W.cell? ⟨w.heap.size, 3, none⟩ = some (.int .i64 n)) := fun W h => ⟨h.cell 0, h.cell 1, h.cell 2, h.cell 3⟩
  obtain ⟨D, hD⟩ : ∃ D : Nat → Int, D = fun f => timesK 4 (X f) false := ⟨_, rfl⟩
  have HDl : Hid (∀ f, f < 8 → -2 ≤ D f ∧ D f ≤ 2) := fun f _ => by
    have := timesK_le 4 (X f) false
    rw [hD]; show -2 ≤ timesK 4 (X f) false ∧ timesK 4 (X f) false ≤ 2; omega
  have HM : Hid (∀ f, f < 8 → M f = if h = true then D f else - D f) := fun f hf => by rw [hD]; exact hM f hf
  have HP : Hid (p = if h = true then n else -(n + 1)) := hp
  have HD : Hid (∀ f, D f = timesK 4 (X f) false) := fun f => by rw [hD]
  have HZ : Hid (Z = fun _ => 0) := hZ
  clear hM hp hD hZ
  go_enter Tryz.func23, Tryz.ntmps23
  go_wp2
  rw [← hw1]
  clear hw1
  go_loopw [6] (fun i wr => ∃ f : Nat, f ≤ 8 ∧ i = .int .i64 f ∧ Below w.heap.size w wr ∧ Blk wr w.heap.size 43 #[.int .i64 4, .slice sao sl scap, .slice tao tl tcap, .int .i64 n] ∧ Blk wr (w.heap.size + 1) 65 (arrR Z 0) ∧ Blk wr (w.heap.size + 1 + 1) 65 (arrR (fun g => if g < f then D g else 0) 0)) (fun i _ => 8 - (intOf i).toNat)
  case atStart => exact ⟨0, Nat.zero_le _, rfl, HW.out, HK0.out, HK1.out, by have := HK2.out; rw [HZ.out] at this; exact this⟩
  case round =>
    obtain ⟨f, hf, rfl, hb, ha, hr, hq⟩ := hrel
    have HB1 : Hid (Below w.heap.size w wr) := hb
    have HA1 : Hid (Blk wr w.heap.size 43 #[.int .i64 4, .slice sao sl scap, .slice tao tl tcap, .int .i64 n]) := ha
    have HR1 : Hid (Blk wr (w.heap.size + 1) 65 (arrR Z 0)) := hr
    have HP1 : Hid (Blk wr (w.heap.size + 1 + 1) 65 (arrR (fun g => if g < f then D g else 0) 0)) := hq
    clear hb ha hr hq
    obtain ⟨x0, x1, x2, x3⟩ := HX.out _ HA1.out
    by_cases hlt : f < 8
    · have hDf : D f = timesK 4 (X f) false := HD.out f
      have HE : Hid (∀ W d, d = D f → Blk W (w.heap.size + 1 + 1) 65 (arrR (fun g => if g < f then D g else 0) 0) → Blk (W.setCell ⟨w.heap.size + 1 + 1, f, none⟩ (.int .i64 d)) (w.heap.size + 1 + 1) 65 (arrR (fun g => if g < f + 1 then D g else 0) 0)) := fun W d hd hW => by
        have := hW.set f (.int .i64 d)
        rw [arrR_set _ _ _ hlt] at this
        rw [arrR_same (M := fun g => if g = f then d else if g < f then D g else 0)]
        · exact this
        · intro g hg
          by_cases e : g = f
          · subst e; rw [if_pos (by omega), if_pos rfl, hd]
          · simp only [if_neg e]
            by_cases e' : g < f
            · rw [if_pos (by omega), if_pos e']
            · rw [if_neg (by omega), if_neg e']
      have HS1 : Hid (Calls Tryz.prog 48 #[.slice sao sl scap, .int .i64 f] wr fun e w' => e = .returned (.bool (X f)) ∧ Below wr.heap.size wr w') := HS.out wr f HB1.out hlt
      obtain ⟨x, hx⟩ : ∃ x, x = X f := ⟨_, rfl⟩
      rw [← hx] at HS1 hDf
      have HDf : Hid (D f = timesK 4 x false) := hDf
      clear hx hDf
      go_wp2_with fail
      go_at_call 48
      refine HS1.out.mono ?_
      rintro e w2 ⟨rfl, hb⟩
      have HB2 : Hid (Below w.heap.size w w2) := HB1.out.trans (hb.mono HB1.out.size)
      have HA2 : Hid (Blk w2 w.heap.size 43 #[.int .i64 4, .slice sao sl scap, .slice tao tl tcap, .int .i64 n]) := HA1.out.below hb
      have HR2 : Hid (Blk w2 (w.heap.size + 1) 65 (arrR Z 0)) := HR1.out.below hb
      have HP2 : Hid (Blk w2 (w.heap.size + 1 + 1) 65 (arrR (fun g => if g < f then D g else 0) 0)) := HP1.out.below hb
      clear hb x0 x1 x2 x3
      obtain ⟨x0, x1, x2, x3⟩ := HX.out _ HA2.out
      have c : w2.cell? ⟨w.heap.size + 1 + 1, f, none⟩ = some (.int .i64 0) := by rw [HP2.out.cell, arrR_get _ _ hlt]; simp
      have z := HP2.out.frozen f
      cases x
      · have HEE := HE.out w2 0 (by rw [HDf.out]; rfl) HP2.out
        have HEH : Hid _ := HEE
        clear HEE
        go_wp2
        go_roundw
        case rel => exact ⟨f + 1, by omega, by go_num, HB2.out.setCell (by show w.heap.size ≤ w.heap.size + 1 + 1; omega) _, HA2.out.far (by omega) _ _, HR2.out.far (by omega) _ _, HEH.out⟩
        case measure => simp [intOf]; omega
      · have HEE := HE.out w2 1 (by rw [HDf.out]; rfl) HP2.out
        have HEH : Hid _ := HEE
        clear HEE
        go_wp2
        go_roundw
        case rel => exact ⟨f + 1, by omega, by go_num, HB2.out.setCell (by show w.heap.size ≤ w.heap.size + 1 + 1; omega) _, HA2.out.far (by omega) _ _, HR2.out.far (by omega) _ _, HEH.out⟩
        case measure => simp [intOf]; omega
    · obtain rfl : f = 8 := by omega
      have HP8 : Hid (Blk wr (w.heap.size + 1 + 1) 65 (arrR D 0)) := by
        have := HP1.out
        unfold Hid
        rw [arrR_same (M := fun g => if g < 8 then D g else 0)]
        · exact this
        · intro g hg; rw [if_pos hg]
      clear HP1
      have q0 : wr.cell? ⟨w.heap.size + 1 + 1, 8, none⟩ = some (.int .i64 0) := HP8.out.cell 8
      have q1 := HP8.out.frozen 8
      obtain ⟨w6, hw6⟩ : ∃ x, x = wr.setCell ⟨w.heap.size + 1 + 1, 8, none⟩ (.int .i64 n) := ⟨_, rfl⟩
      have HB6 : Hid (Below w.heap.size w w6) := by unfold Hid; rw [hw6]; exact HB1.out.setCell (by show w.heap.size ≤ w.heap.size + 1 + 1; omega) _
      have HR6 : Hid (Blk w6 (w.heap.size + 1) 65 (arrR Z 0)) := by unfold Hid; rw [hw6]; exact HR1.out.far (by omega) _ _
      have HP6 : Hid (Blk w6 (w.heap.size + 1 + 1) 65 (arrR D n)) := by
        unfold Hid; rw [hw6]
        have := HP8.out.set 8 (.int .i64 n)
        rw [arrR_most] at this
        exact this
      go_upto_region 35 with fail
      rw [← hw6]
      clear hw6 q0 q1 x0 x1 x2 x3
      clear HB1 HA1 HR1 HP8 HS HX HW HK0 HK1 HK2
      cases h with
      | true =>
        have HMD : Hid (arrR D n = arrR M p) := by
          unfold Hid
          rw [HP.out]
          exact arrR_same (fun f hf => by rw [HM.out f hf]; rfl) _
        obtain ⟨n0', n1', n2', n3', n4', n5', n6', n7', n8'⟩ := HP6.out.cells9
        obtain ⟨r0, r1, r2, r3, r4, r5, r6, r7, r8⟩ := HR6.out.cells9
        obtain ⟨f0, f1, f2, f3, f4, f5, f6, f7, f8⟩ := HR6.out.frozen9
        go_wp2
        refine bodyPost_ret (v := .agg (arrR D n)) ?_ rfl ⟨by rw [HMD.out]; rfl, ?_⟩
        · exact results_cell_row rfl _ _ (w.heap.size + 1) 65 (arrR D n) (0, 0) _ rfl (putR_blk HR6.out D n) Tryz.underlying65 rfl infoR
        · exact putR_below HB6.out (by omega) _ _
      | false =>
        go_wp2
        go_loopw [10] (fun i wr => ∃ f : Nat, f ≤ 8 ∧ i = .int .i64 f ∧ Below w.heap.size w wr ∧ Blk wr (w.heap.size + 1) 65 (arrR Z 0) ∧ Blk wr (w.heap.size + 1 + 1) 65 (arrR (fun g => if g < f then M g else D g) n)) (fun i _ => 8 - (intOf i).toNat)
        case atStart => exact ⟨0, Nat.zero_le _, rfl, HB6.out, HR6.out, HP6.out⟩
        case round =>
          obtain ⟨f, hf, rfl, hb, hr, hq⟩ := hrel
          have HB7 : Hid (Below w.heap.size w wr) := hb
          have HR7 : Hid (Blk wr (w.heap.size + 1) 65 (arrR Z 0)) := hr
          have HP7 : Hid (Blk wr (w.heap.size + 1 + 1) 65 (arrR (fun g => if g < f then M g else D g) n)) := hq
          clear hb hr hq
          by_cases hlt2 : f < 8
          · obtain ⟨x, hx⟩ : ∃ x, x = D f := ⟨_, rfl⟩
            have c : wr.cell? ⟨w.heap.size + 1 + 1, f, none⟩ = some (.int .i64 x) := by rw [HP7.out.cell, arrR_get _ _ hlt2, hx]; simp
            have z := HP7.out.frozen f
            have hxl := HDl.out f hlt2
            rw [← hx] at hxl
            obtain ⟨l0, l1⟩ := hxl
            have HE : Hid (Blk (wr.setCell ⟨w.heap.size + 1 + 1, f, none⟩ (.int .i64 (-x))) (w.heap.size + 1 + 1) 65 (arrR (fun g => if g < f + 1 then M g else D g) n)) := by
              have := HP7.out.set f (.int .i64 (-x))
              rw [arrR_set _ _ _ hlt2] at this
              unfold Hid
              rw [arrR_same (M := fun g => if g = f then -x else if g < f then M g else D g)]
              · exact this
              · intro g hg
                by_cases e : g = f
                · subst e; rw [if_pos (by omega), if_pos rfl, HM.out g hg, hx]; rfl
                · simp only [if_neg e]
                  by_cases e' : g < f
                  · rw [if_pos (by omega), if_pos e']
                  · rw [if_neg (by omega), if_neg e']
            clear hx
            go_wp2
            go_roundw
            case rel => exact ⟨f + 1, by omega, by go_num, HB7.out.setCell (by show w.heap.size ≤ w.heap.size + 1 + 1; omega) _, HR7.out.far (by omega) _ _, HE.out⟩
            case measure => simp [intOf]; omega
          · obtain rfl : f = 8 := by omega
            have HP8 : Hid (Blk wr (w.heap.size + 1 + 1) 65 (arrR M n)) := by
              have := HP7.out
              unfold Hid
              rw [arrR_same (M := fun g => if g < 8 then M g else D g)]
              · exact this
              · intro g hg; rw [if_pos hg]
            clear HP7
            have HPp : Hid (p = (-(n + 1))) := HP.out
            obtain ⟨n0', n1', n2', n3', n4', n5', n6', n7', n8'⟩ := HP8.out.cells9
            have nz := HP8.out.frozen 8
            obtain ⟨r0, r1, r2, r3, r4, r5, r6, r7, r8⟩ := HR7.out.cells9
            obtain ⟨f0, f1, f2, f3, f4, f5, f6, f7, f8⟩ := HR7.out.frozen9
            go_wp2
            refine bodyPost_ret (v := .agg (arrR M (-(n + 1)))) ?_ rfl ⟨by rw [HPp.out]; rfl, ?_⟩
            · exact results_cell_row rfl _ _ (w.heap.size + 1) 65 (arrR M (-(n + 1))) (0, 0) _ rfl (putR_blk (HR7.out.far (by omega) 8 (.int .i64 (-(n + 1)))) M (-(n + 1))) Tryz.underlying65 rfl infoR
            · exact putR_below (HB7.out.setCell (by show w.heap.size ≤ w.heap.size + 1 + 1; omega) _) (by omega) _ _
end Go.Proofs.YtedgbohobgnedaeGreatDoor

namespace Go.Proofs.YtedgbohobgnedaeGreatDoor
open Go.ChangeShapes Go.WideShapes Go.ChangeAt Go.RowKit
set_option maxRecDepth 100000

theorem ret_i {k : IntKind} {a b : Int} (h : a = b) : Ending.returned (.int k a) = .returned (.int k b) := by rw [h]
theorem ret_b {a b : Bool} (h : a = b) : Ending.returned (.bool a) = .returned (.bool b) := by rw [h]

theorem refPower_any (n : Nat) (hn : n ≤ 62) (w : World) :
    Calls Tryz.prog 50 #[.int .i64 n] w fun e w' => e = .returned (.int .i64 (pw n)) ∧ w = w' := by
  go_enter Tryz.func50, Tryz.ntmps50
  go_wp2
  go_loop [3, 4] (fun p i => ∃ k : Nat, k ≤ n ∧ i = .int .i64 k ∧ p = .int .i64 (pw k)) (fun _ i => n - (intOf i).toNat)
  case atStart => exact ⟨0, Nat.zero_le _, rfl, rfl⟩
  case round =>
    obtain ⟨k, hk, rfl, rfl⟩ := hrel
    by_cases hlt : k < n
    · have p1 := pw_pos k
      have p2 := pw_le61 (k := k) (by omega)
      have HS : Hid (pw (k + 1) = 2 * pw k) := pw_succ k
      go_wp2
      go_round
      case rel => exact ⟨k + 1, by omega, by go_num, by rw [HS.out]⟩
      case measure => simp [intOf]; omega
    · obtain rfl : k = n := by omega
      go_wp2
      go_ret
      exact ⟨rfl, rfl⟩

theorem refHas_any (s : Int) (i : Nat) (hs : 0 ≤ s) (hm : s ≤ 9223372036854775807) (hi : i ≤ 62) (w : World) :
    Calls Tryz.prog 49 #[.int .i64 s, .int .i64 i] w fun e w' => e = .returned (.bool (hasB s i)) ∧ w = w' := by
  have p1 := pw_pos i
  go_enter Tryz.func49, Tryz.ntmps49
  go_wp2_with (go_at_call 50; refine (refPower_any _ hi _).mono ?_; rintro e w' ⟨rfl, rfl⟩)
  go_ret
  exact ⟨ret_b (has_spell2 s i hs), rfl⟩

end Go.Proofs.YtedgbohobgnedaeGreatDoor

namespace Go.Proofs.YtedgbohobgnedaeGreatDoor
open Go.ChangeShapes Go.WideShapes Go.ChangeAt Go.RowKit

theorem field_int (w : Wd) (i : Nat) : (w.field i : Int) = oneB (hasB w.a i) + 2 * oneB (hasB w.b i) + 4 * oneB (hasB w.c i) := by
  unfold Wd.field
  cases hasB w.a i <;> cases hasB w.b i <;> cases hasB w.c i <;> decide
theorem info8 : (Tryz.prog.info? 63).map (·.size) = some 8 := by kernel_rfl
theorem infoW : (Tryz.prog.info? 28).map (·.size) = some 4 := by kernel_rfl
theorem sum_three {x y z : Bool} : oneB x + 2 * oneB y + 4 * oneB z = oneB x + oneB y * 2 + oneB z * 4 := by omega

end Go.Proofs.YtedgbohobgnedaeGreatDoor

namespace Go.Proofs.YtedgbohobgnedaeGreatDoor
open Go.ChangeShapes Go.WideShapes Go.ChangeAt Go.RowKit

theorem has_bit : ∀ f : Nat, f < 8 → hasB (f : Int) ((0 : Nat) : Int) = bitB f 0 ∧ hasB (f : Int) ((1 : Nat) : Int) = bitB f 1 ∧ hasB (f : Int) ((2 : Nat) : Int) = bitB f 2 := by decide +kernel
theorem arrW_set0 (u a b c x : Int) : (arrW ⟨u, a, b, c⟩).setIfInBounds 0 (.int .i64 x) = arrW ⟨x, a, b, c⟩ := by simp [arrW]
theorem arrW_set1 (u a b c x : Int) : (arrW ⟨u, a, b, c⟩).setIfInBounds 1 (.int .i64 x) = arrW ⟨u, x, b, c⟩ := by simp [arrW]
theorem arrW_set2 (u a b c x : Int) : (arrW ⟨u, a, b, c⟩).setIfInBounds 2 (.int .i64 x) = arrW ⟨u, a, x, c⟩ := by simp [arrW]
theorem arrW_set3 (u a b c x : Int) : (arrW ⟨u, a, b, c⟩).setIfInBounds 3 (.int .i64 x) = arrW ⟨u, a, b, x⟩ := by simp [arrW]

set_option maxRecDepth 100000 in
set_option maxHeartbeats 4000000 in
theorem refMade_right (N : Nat → Int) (w : World) (hf : countsFault N = 0) :
    Calls Tryz.prog 26 #[.agg #[.int .i64 (N 0), .int .i64 (N 1), .int .i64 (N 2), .int .i64 (N 3), .int .i64 (N 4), .int .i64 (N 5), .int .i64 (N 6), .int .i64 (N 7)]] w fun e w' => e = .returned (.agg (arrW (madeN N 8))) ∧ Below w.heap.size w w' := by
  obtain ⟨Z, hZ⟩ : ∃ Z : Wd, Z = ⟨0, 0, 0, 0⟩ := ⟨_, rfl⟩
  obtain ⟨w1, hw1⟩ : ∃ w1, w1 = ((w.alloc (.cells #[.int .i64 (N 0), .int .i64 (N 1), .int .i64 (N 2), .int .i64 (N 3), .int .i64 (N 4), .int .i64 (N 5), .int .i64 (N 6), .int .i64 (N 7)] 63)).alloc (.cells #[.int .i64 0, .int .i64 0, .int .i64 0, .int .i64 0] 28)).alloc (.cells #[.int .i64 0, .int .i64 0, .int .i64 0, .int .i64 0] 28) := ⟨_, rfl⟩
  have HW : Hid (Below w.heap.size w w1) := by unfold Hid; rw [hw1]; exact ((below_alloc1 _ _).alloc (by simp) _).alloc (by simp; omega) _
  have HK0 : Hid (Blk w1 w.heap.size 63 (arr8 N)) := by unfold Hid; rw [hw1]; exact ((Blk.new _ _ _).old _).old _
  have HK1 : Hid (Blk w1 (w.heap.size + 1) 28 (arrW Z)) := by
    unfold Hid; rw [hw1, hZ]
    have := Blk.new (w.alloc (.cells (arr8 N) 63)) 28 (arrW ⟨0, 0, 0, 0⟩)
    simp only [World.size_alloc] at this
    exact this.old _
  have HK2 : Hid (Blk w1 (w.heap.size + 1 + 1) 28 (arrW (madeN N 0))) := by
    unfold Hid; rw [hw1]
    have := Blk.new ((w.alloc (.cells (arr8 N) 63)).alloc (.cells (arrW ⟨0, 0, 0, 0⟩) 28)) 28 (arrW ⟨0, 0, 0, 0⟩)
    simp only [World.size_alloc] at this
    exact this
  obtain ⟨hall, hsum⟩ := counts_zero.1 hf
  have HN : Hid (∀ k, k < 8 → 0 ≤ N k ∧ N k ≤ 6) := hall
  have HX : Hid (∀ W k, k < 8 → Blk W w.heap.size 63 (arr8 N) → W.cell? ⟨w.heap.size, k, none⟩ = some (.int .i64 (N k))) := fun W k hk h => by rw [h.cell, arr8_get _ hk]
  have HD : Hid (∀ (k j : Nat), k < 8 → (j : Int) < N k → ((madeN N k).mores k j).ok = true ∧ ((madeN N k).mores k j).u ≤ 5) := fun k j hk hj => by
    obtain ⟨i1, i2, _⟩ := made_all hall hsum (k := k) (by omega)
    have hm := sumN_mono (N := N) (k := k + 1) (l := 8) (by omega) hall
    have es : sumN N (k + 1) = sumN N k + N k := rfl
    have e := mores_u (madeN N k) k j
    exact ⟨mores_ok i1 k (by rw [i2]; omega), by rw [e, i2]; omega⟩
  have HE : Hid (∀ k, k < 8 → (madeN N k).mores k (N k).toNat = madeN N (k + 1)) := fun k _ => rfl
  have HHs : Hid (∀ (f : Nat) W, f < 8 → Calls Tryz.prog 49 #[.int .i64 f, .int .i64 0] W (fun e w' => e = .returned (.bool (bitB f 0)) ∧ W = w') ∧ Calls Tryz.prog 49 #[.int .i64 f, .int .i64 1] W (fun e w' => e = .returned (.bool (bitB f 1)) ∧ W = w') ∧ Calls Tryz.prog 49 #[.int .i64 f, .int .i64 2] W (fun e w' => e = .returned (.bool (bitB f 2)) ∧ W = w')) := fun f W hf8 => by
    obtain ⟨b0, b1, b2⟩ := has_bit f hf8
    rw [← b0, ← b1, ← b2]
    exact ⟨refHas_any f 0 (by omega) (by omega) (by omega) W, refHas_any f 1 (by omega) (by omega) (by omega) W, refHas_any f 2 (by omega) (by omega) (by omega) W⟩
  clear hf hall hsum hZ
  go_enter Tryz.func26, Tryz.ntmps26
  go_wp2
  rw [← hw1]
  clear hw1
  obtain ⟨G, hG⟩ : ∃ G, G = w.heap.size + 1 + 1 := ⟨_, rfl⟩
  rw [← hG] at HK2 ⊢
  have HG : Hid (w.heap.size + 1 < G) := by unfold Hid; omega
  clear hG
  go_loopw [4] (fun i wr => ∃ k : Nat, k ≤ 8 ∧ i = .int .i64 k ∧ Below w.heap.size w wr ∧ Blk wr w.heap.size 63 (arr8 N) ∧ Blk wr (w.heap.size + 1) 28 (arrW Z) ∧ Blk wr G 28 (arrW (madeN N k))) (fun i _ => 8 - (intOf i).toNat)
  case atStart => exact ⟨0, Nat.zero_le _, rfl, HW.out, HK0.out, HK1.out, HK2.out⟩
  case round =>
    obtain ⟨k, hk, rfl, hb, hp, hr, hm⟩ := hrel
    have HB4 : Hid (Below w.heap.size w wr) := hb
    have HP4 : Hid (Blk wr w.heap.size 63 (arr8 N)) := hp
    have HR4 : Hid (Blk wr (w.heap.size + 1) 28 (arrW Z)) := hr
    have HM4 : Hid (Blk wr G 28 (arrW (madeN N k))) := hm
    clear hb hp hr hm
    by_cases hlt : k < 8
    · have p := HN.out k hlt
      obtain ⟨x, hx⟩ : ∃ x : Nat, (x : Int) = N k := ⟨(N k).toNat, by omega⟩
      have HXk : Hid ((x : Int) = N k) := hx
      have HEk : Hid ((madeN N k).mores k x = madeN N (k + 1)) := by
        have := HE.out k hlt
        rw [show (N k).toNat = x by omega] at this
        exact this
      have hx6 : x ≤ 6 := by omega
      clear hx p
      have HCk : Hid (∀ W, Blk W w.heap.size 63 (arr8 N) → W.cell? ⟨w.heap.size, k, none⟩ = some (.int .i64 (x : Int))) := fun W h => by rw [HXk.out]; exact HX.out W k hlt h
      go_wp2
      rw [show decide ((k : Int) < 8) = true by simp; omega]
      go_loopw [5] (fun i wr => ∃ j : Nat, j ≤ x ∧ i = .int .i64 j ∧ Below w.heap.size w wr ∧ Blk wr w.heap.size 63 (arr8 N) ∧ Blk wr (w.heap.size + 1) 28 (arrW Z) ∧ Blk wr G 28 (arrW ((madeN N k).mores k j))) (fun i _ => x - (intOf i).toNat)
      case atStart => exact ⟨0, Nat.zero_le _, rfl, HB4.out, HP4.out, HR4.out, HM4.out⟩
      case round =>
        obtain ⟨j, hj, rfl, hb, hp, hr, hm⟩ := hrel
        have HB5 : Hid (Below w.heap.size w wr) := hb
        have HP5 : Hid (Blk wr w.heap.size 63 (arr8 N)) := hp
        have HR5 : Hid (Blk wr (w.heap.size + 1) 28 (arrW Z)) := hr
        have HM5 : Hid (Blk wr G 28 (arrW ((madeN N k).mores k j))) := hm
        clear hb hp hr hm
        have yk := HCk.out _ HP5.out
        by_cases hlj : j < x
        · obtain ⟨dok, d5⟩ := HD.out k j hlt (by rw [← HXk.out]; omega)
          obtain ⟨D, hD⟩ : ∃ D, D = (madeN N k).mores k j := ⟨_, rfl⟩
          rw [← hD] at dok d5 HM5
          have HEj : Hid (D.more k = (madeN N k).mores k (j + 1)) := by unfold Hid; rw [hD]; rfl
          clear hD
          obtain ⟨u, a, b, c⟩ := D
          obtain ⟨o1, o2, o3⟩ := Wd.ok_iff.1 dok
          obtain ⟨u0, _, a0, a6⟩ := okB_lt o1
          obtain ⟨_, _, b0, b6⟩ := okB_lt o2
          obtain ⟨_, _, c0, c6⟩ := okB_lt o3
          simp only at u0 a0 a6 b0 b6 c0 c6 d5
          obtain ⟨n, rfl⟩ := Int.eq_ofNat_of_zero_le u0
          have HPw : Hid (∀ W, Calls Tryz.prog 50 #[.int .i64 n] W (fun e w' => e = .returned (.int .i64 (pw n)) ∧ W = w')) := fun W => refPower_any n (by omega) W
          have q1 := pw_pos n
          have q2 := pw_le6 (k := n) (by omega)
          obtain ⟨P, hP⟩ : ∃ P, P = pw n := ⟨_, rfl⟩
          rw [← hP] at HPw q1 q2
          have HMo : Hid ((Wd.mk n a b c).more k = Wd.mk (n + 1) (a + oneB (bitB k 0) * P) (b + oneB (bitB k 1) * P) (c + oneB (bitB k 2) * P)) := by unfold Hid; rw [hP]; rfl
          obtain ⟨x0, hx0⟩ : ∃ x, x = bitB k 0 := ⟨_, rfl⟩
          obtain ⟨x1, hx1⟩ : ∃ x, x = bitB k 1 := ⟨_, rfl⟩
          obtain ⟨x2, hx2⟩ : ∃ x, x = bitB k 2 := ⟨_, rfl⟩
          have HHk : Hid (∀ W, Calls Tryz.prog 49 #[.int .i64 k, .int .i64 0] W (fun e w' => e = .returned (.bool x0) ∧ W = w') ∧ Calls Tryz.prog 49 #[.int .i64 k, .int .i64 1] W (fun e w' => e = .returned (.bool x1) ∧ W = w') ∧ Calls Tryz.prog 49 #[.int .i64 k, .int .i64 2] W (fun e w' => e = .returned (.bool x2) ∧ W = w')) := fun W => by
            rw [hx0, hx1, hx2]; exact HHs.out k W hlt
          rw [← hx0, ← hx1, ← hx2] at HMo
          clear hx0 hx1 hx2 hP dok o1 o2 o3
          have s0 := oneB_le x0
          have s1 := oneB_le x1
          have s2 := oneB_le x2
          go_wp2
          go_loopw [6] (fun i wr => Below w.heap.size w wr ∧ Blk wr w.heap.size 63 (arr8 N) ∧ Blk wr (w.heap.size + 1) 28 (arrW Z) ∧ ((i = .int .i64 0 ∧ Blk wr G 28 (arrW ⟨n, a, b, c⟩)) ∨ (i = .int .i64 1 ∧ Blk wr G 28 (arrW ⟨n, a + oneB x0 * P, b, c⟩)) ∨ (i = .int .i64 2 ∧ Blk wr G 28 (arrW ⟨n, a + oneB x0 * P, b + oneB x1 * P, c⟩)) ∨ (i = .int .i64 3 ∧ Blk wr G 28 (arrW ⟨n, a + oneB x0 * P, b + oneB x1 * P, c + oneB x2 * P⟩)))) (fun i _ => 3 - (intOf i).toNat)
          case atStart => exact ⟨HB5.out, HP5.out, HR5.out, Or.inl ⟨rfl, HM5.out⟩⟩
          case round =>
            clear yk
            obtain ⟨hb, hp, hr, hm⟩ := hrel
            have HB7 : Hid (Below w.heap.size w wr) := hb
            have HP7 : Hid (Blk wr w.heap.size 63 (arr8 N)) := hp
            have HR7 : Hid (Blk wr (w.heap.size + 1) 28 (arrW Z)) := hr
            clear hb hp hr
            rcases hm with ⟨rfl, hm⟩ | ⟨rfl, hm⟩ | ⟨rfl, hm⟩ | ⟨rfl, hm⟩
            · have HM7 : Hid (Blk wr G 28 (arrW ⟨n, a, b, c⟩)) := hm
              clear hm
              obtain ⟨y0, y1, y2, y3⟩ := HM7.out.cells4
              simp only at y0 y1 y2 y3
              have z := HM7.out.frozen 1
              go_wp2_with fail
              go_at_call 49
              refine (HHk.out _).1.mono ?_
              rintro e w' ⟨rfl, rfl⟩
              rcases (Bool.eq_false_or_eq_true x0).symm with hx | hx
              · have HQ : Hid (Blk wr G 28 (arrW ⟨n, a + oneB x0 * P, b, c⟩)) := by
                  have e : a + oneB x0 * P = a := by rw [hx]; simp [oneB]
                  unfold Hid; rw [e]; exact HM7.out
                rw [hx]
                clear hx
                go_wp2
                go_roundw
                case rel => exact ⟨HB7.out, HP7.out, HR7.out, Or.inr (Or.inl ⟨rfl, HQ.out⟩)⟩
                case measure => simp [intOf]
              · have HQ : Hid (∀ W, Blk W G 28 (arrW ⟨n, a, b, c⟩) → Blk (W.setCell ⟨G, 1, none⟩ (.int .i64 (a + P))) G 28 (arrW ⟨n, a + oneB x0 * P, b, c⟩)) := fun W h => by
                  have e : a + oneB x0 * P = a + P := by rw [hx]; simp [oneB]
                  have := h.set 1 (.int .i64 (a + P))
                  rw [arrW_set1] at this
                  rw [e]; exact this
                rw [hx]
                clear hx
                go_wp2_with fail
                go_region_with (go_at_call 50; refine (HPw.out _).mono ?_; rintro e w' ⟨rfl, rfl⟩)
                all_goals
                  go_wp2
                  go_roundw
                  case rel =>
                    have hg := HG.out
                    exact ⟨HB7.out.drew.setCell (by simp; omega) _, HP7.out.drew.far (by omega) _ _, HR7.out.drew.far (by omega) _ _, Or.inr (Or.inl ⟨rfl, HQ.out _ HM7.out.drew⟩)⟩
                  case measure => simp [intOf]
            · have HM7 : Hid (Blk wr G 28 (arrW ⟨n, a + oneB x0 * P, b, c⟩)) := hm
              clear hm
              obtain ⟨y0, y1, y2, y3⟩ := HM7.out.cells4
              simp only at y0 y1 y2 y3
              have z := HM7.out.frozen 2
              go_wp2_with fail
              go_at_call 49
              refine (HHk.out _).2.1.mono ?_
              rintro e w' ⟨rfl, rfl⟩
              rcases (Bool.eq_false_or_eq_true x1).symm with hx | hx
              · have HQ : Hid (Blk wr G 28 (arrW ⟨n, a + oneB x0 * P, b + oneB x1 * P, c⟩)) := by
                  have e : b + oneB x1 * P = b := by rw [hx]; simp [oneB]
                  unfold Hid; rw [e]; exact HM7.out
                rw [hx]
                clear hx
                go_wp2
                go_roundw
                case rel => exact ⟨HB7.out, HP7.out, HR7.out, Or.inr (Or.inr (Or.inl ⟨rfl, HQ.out⟩))⟩
                case measure => simp [intOf]
              · have HQ : Hid (∀ W, Blk W G 28 (arrW ⟨n, a + oneB x0 * P, b, c⟩) → Blk (W.setCell ⟨G, 2, none⟩ (.int .i64 (b + P))) G 28 (arrW ⟨n, a + oneB x0 * P, b + oneB x1 * P, c⟩)) := fun W h => by
                  have e : b + oneB x1 * P = b + P := by rw [hx]; simp [oneB]
                  have := h.set 2 (.int .i64 (b + P))
                  rw [arrW_set2] at this
                  rw [e]; exact this
                rw [hx]
                clear hx
                go_wp2_with fail
                go_region_with (go_at_call 50; refine (HPw.out _).mono ?_; rintro e w' ⟨rfl, rfl⟩)
                all_goals
                  go_wp2
                  go_roundw
                  case rel =>
                    have hg := HG.out
                    exact ⟨HB7.out.drew.setCell (by simp; omega) _, HP7.out.drew.far (by omega) _ _, HR7.out.drew.far (by omega) _ _, Or.inr (Or.inr (Or.inl ⟨rfl, HQ.out _ HM7.out.drew⟩))⟩
                  case measure => simp [intOf]
            · have HM7 : Hid (Blk wr G 28 (arrW ⟨n, a + oneB x0 * P, b + oneB x1 * P, c⟩)) := hm
              clear hm
              obtain ⟨y0, y1, y2, y3⟩ := HM7.out.cells4
              simp only at y0 y1 y2 y3
              have z := HM7.out.frozen 3
              go_wp2_with fail
              go_at_call 49
              refine (HHk.out _).2.2.mono ?_
              rintro e w' ⟨rfl, rfl⟩
              rcases (Bool.eq_false_or_eq_true x2).symm with hx | hx
              · have HQ : Hid (Blk wr G 28 (arrW ⟨n, a + oneB x0 * P, b + oneB x1 * P, c + oneB x2 * P⟩)) := by
                  have e : c + oneB x2 * P = c := by rw [hx]; simp [oneB]
                  unfold Hid; rw [e]; exact HM7.out
                rw [hx]
                clear hx
                go_wp2
                go_roundw
                case rel => exact ⟨HB7.out, HP7.out, HR7.out, Or.inr (Or.inr (Or.inr ⟨rfl, HQ.out⟩))⟩
                case measure => simp [intOf]
              · have HQ : Hid (∀ W, Blk W G 28 (arrW ⟨n, a + oneB x0 * P, b + oneB x1 * P, c⟩) → Blk (W.setCell ⟨G, 3, none⟩ (.int .i64 (c + P))) G 28 (arrW ⟨n, a + oneB x0 * P, b + oneB x1 * P, c + oneB x2 * P⟩)) := fun W h => by
                  have e : c + oneB x2 * P = c + P := by rw [hx]; simp [oneB]
                  have := h.set 3 (.int .i64 (c + P))
                  rw [arrW_set3] at this
                  rw [e]; exact this
                rw [hx]
                clear hx
                go_wp2_with fail
                go_region_with (go_at_call 50; refine (HPw.out _).mono ?_; rintro e w' ⟨rfl, rfl⟩)
                all_goals
                  go_wp2
                  go_roundw
                  case rel =>
                    have hg := HG.out
                    exact ⟨HB7.out.drew.setCell (by simp; omega) _, HP7.out.drew.far (by omega) _ _, HR7.out.drew.far (by omega) _ _, Or.inr (Or.inr (Or.inr ⟨rfl, HQ.out _ HM7.out.drew⟩))⟩
                  case measure => simp [intOf]
            · have HM7 : Hid (Blk wr G 28 (arrW ⟨n, a + oneB x0 * P, b + oneB x1 * P, c + oneB x2 * P⟩)) := hm
              clear hm
              obtain ⟨y0, y1, y2, y3⟩ := HM7.out.cells4
              simp only at y0 y1 y2 y3
              have z := HM7.out.frozen 0
              have HQ : Hid (Blk (wr.setCell ⟨G, 0, none⟩ (.int .i64 ((n : Int) + 1))) G 28 (arrW ((madeN N k).mores k (j + 1)))) := by
                have := HM7.out.set 0 (.int .i64 ((n : Int) + 1))
                rw [arrW_set0, ← HMo.out, HEj.out] at this
                exact this
              go_wp2
              go_roundw
              case rel =>
                have hg := HG.out
                exact ⟨j + 1, by omega, by go_num, HB7.out.setCell (by simp; omega) _, HP7.out.far (by omega) _ _, HR7.out.far (by omega) _ _, HQ.out⟩
              case measure => simp [intOf]; omega
        · obtain rfl : j = x := by omega
          go_wp2
          go_roundw
          case rel => exact ⟨k + 1, by omega, by go_num, HB5.out, HP5.out, HR5.out, by rw [← HEk.out]; exact HM5.out⟩
          case measure => simp [intOf]; omega
    · obtain rfl : k = 8 := by omega
      obtain ⟨D, hD⟩ : ∃ D, D = madeN N 8 := ⟨_, rfl⟩
      rw [← hD] at HM4
      have HDD : Hid (D = madeN N 8) := hD
      clear hD
      obtain ⟨y0, y1, y2, y3⟩ := HM4.out.cells4
      obtain ⟨r0, r1, r2, r3⟩ := HR4.out.cells4
      obtain ⟨f0, f1, f2, f3⟩ := HR4.out.frozen4
      go_wp2
      refine bodyPost_ret (v := .agg (arrW D)) ?_ rfl ⟨by rw [HDD.out], ?_⟩
      · exact results_cell_row rfl _ _ (w.heap.size + 1) 28 (arrW D) (0, 0) _ rfl (putW_blk HR4.out D) Tryz.underlying28 rfl infoW
      · exact putW_below HB4.out (by omega) D
end Go.Proofs.YtedgbohobgnedaeGreatDoor

namespace Go.Proofs.YtedgbohobgnedaeGreatDoor
open Go.ChangeShapes Go.WideShapes Go.ChangeAt Go.RowKit
set_option maxRecDepth 100000

theorem all_take_succ (t : List Int) {k : Nat} (h : k < t.length) : (t.take (k + 1)).all signB = ((t.take k).all signB && signB (t.getD k 0)) := by
  rw [take_succ_getD t h]; simp
theorem all_false_of {t : List Int} {k : Nat} (h : k < t.length) (hs : signB (t.getD k 0) = false) : ¬ t.all signB = true := by
  intro ha
  have := List.all_eq_true.1 ha (t.getD k 0) (by rw [List.getD_eq_getElem?_getD, List.getElem?_eq_getElem h]; exact List.getElem_mem h)
  rw [hs] at this; cases this

set_option maxRecDepth 100000 in
set_option maxHeartbeats 4000000 in
theorem refTerm_mid (b off cap : Nat) (t : List Int) (w : World) (h0 : 0 < t.length) (hl : t.length ≤ 12) (hc : ∀ k, k < t.length → w.cell? ⟨b, off + k, none⟩ = some (.int .i64 (t.getD k 0))) :
    Calls Tryz.prog 59 #[.slice (some ⟨b, off, none⟩) t.length cap] w fun e w' => e = .returned (.int .i64 (faultN t)) ∧ w = w' := by
  have HC : Hid (∀ k, k < t.length → w.cell? ⟨b, off + k, none⟩ = some (.int .i64 (t.getD k 0))) := hc
  clear hc
  obtain ⟨n, hn⟩ : ∃ n, n = t.length := ⟨_, rfl⟩
  rw [← hn] at h0 hl ⊢
  have HN : Hid (n = t.length) := hn
  obtain ⟨F, hF⟩ : ∃ F, F = faultN t := ⟨_, rfl⟩
  rw [← hF]
  have HF : Hid (F = if t.all signB = true then (if cnt t 0 = some 1 then 0 else 3) else 1) := by
    unfold Hid; rw [hF]; unfold faultN; rw [if_neg (by omega), if_neg (by omega)]
  clear hn hF
  go_enter Tryz.func59, Tryz.ntmps59
  go_wp2
  go_loop [3] (fun i => ∃ k : Nat, k ≤ n ∧ i = .int .i64 k ∧ (t.take k).all signB = true) (fun i => n - (intOf i).toNat)
  case atStart => exact ⟨0, Nat.zero_le _, rfl, by simp⟩
  case round =>
    obtain ⟨k, hk, rfl, hall⟩ := hrel
    have HA : Hid ((t.take k).all signB = true) := hall
    clear hall
    by_cases hlt : k < n
    · obtain ⟨s, hs⟩ : ∃ s, s = t.getD k 0 := ⟨_, rfl⟩
      have hkt : k < t.length := by rw [← HN.out]; exact hlt
      have hc := HC.out k hkt
      rw [← hs] at hc
      by_cases hlo : s < 0
      · have HE : Hid (1 = F) := by
          have := all_false_of hkt (by rw [← hs]; simp [signB]; omega)
          unfold Hid; rw [HF.out, if_neg this]
        clear hs hkt
        go_wp2
        go_ret
        exact ⟨back_i HE.out, rfl⟩
      by_cases hhi : 8 < s
      · have HE : Hid (1 = F) := by
          have := all_false_of hkt (by rw [← hs]; simp [signB]; omega)
          unfold Hid; rw [HF.out, if_neg this]
        clear hs hkt
        go_wp2
        go_ret
        exact ⟨back_i HE.out, rfl⟩
      have HA2 : Hid ((t.take (k + 1)).all signB = true) := by
        have : signB s = true := by simp [signB]; omega
        unfold Hid; rw [all_take_succ t hkt, HA.out, ← hs, this]; rfl
      clear hs hkt
      go_wp2
      go_round
      case rel => exact ⟨k + 1, by omega, by go_num, HA2.out⟩
      case measure => simp [intOf]; omega
    · have HAll : Hid (t.all signB = true) := by
        have := HA.out
        rw [List.take_of_length_le (by have := HN.out; omega)] at this
        exact this
      clear HA
      go_wp2
      go_loop [4, 5] (fun c i => ∃ (k : Nat) (m : Int), k ≤ n ∧ i = .int .i64 k ∧ c = .int .i64 m ∧ cnt (t.take k) 0 = some m) (fun _ i => n - (intOf i).toNat)
      case atStart => exact ⟨0, 0, Nat.zero_le _, rfl, rfl, rfl⟩
      case round =>
        clear hlt hk
        obtain ⟨k, m, hk, rfl, rfl, hm⟩ := hrel
        have HM : Hid (cnt (t.take k) 0 = some m) := hm
        have hm0 : 0 ≤ m ∧ m ≤ 12 := by
          have := cnt_nonneg (Int.le_refl 0) hm
          simp at this
          omega
        clear hm
        by_cases hlt : k < n
        · obtain ⟨s, hs⟩ : ∃ s, s = t.getD k 0 := ⟨_, rfl⟩
          have hkt : k < t.length := by rw [← HN.out]; exact hlt
          have hc := HC.out k hkt
          rw [← hs] at hc
          have hsg : 0 ≤ s ∧ s ≤ 8 := by
            refine signB_iff.1 (List.all_eq_true.1 HAll.out s ?_)
            rw [hs, List.getD_eq_getElem?_getD, List.getElem?_eq_getElem hkt]; exact List.getElem_mem hkt
          have HD : Hid (cnt (t.take (k + 1)) 0 = if m < takesN s then none else some (m + 1 - takesN s)) := by
            have := cnt_take_succ t hkt HM.out
            rw [← hs] at this; exact this
          have HNo : Hid (m < takesN s → 3 = F) := fun hb => by
            have h1 := HD.out
            rw [if_pos hb] at h1
            have h2 := cnt_take_none t (k + 1) h1
            rw [HF.out, if_pos HAll.out, if_neg (by rw [h2]; simp)]
          have HYes : Hid (¬ m < takesN s → cnt (t.take (k + 1)) 0 = some (m + 1 - takesN s)) := fun hb => by
            have h1 := HD.out
            rw [if_neg hb] at h1; exact h1
          clear hs hkt HD
          by_cases h5 : s < 5
          · have HE : Hid (cnt (t.take (k + 1)) 0 = some (m + 1)) := by
              have := HYes.out (by rw [takes5 s h5]; omega)
              rw [takes5 s h5] at this; rw [show m + 1 = m + 1 - 0 by omega]; exact this
            go_wp2
            go_round
            case rel => exact ⟨k + 1, _, by omega, by go_num, rfl, HE.out⟩
            case measure => simp [intOf]; omega
          by_cases h8 : s < 8
          · have ht := takes2 s (by omega) (by omega)
            by_cases hb : m < 2
            · have HE : Hid (3 = F) := HNo.out (by rw [ht]; exact hb)
              clear ht
              by_cases hb1 : m < 1
              · go_wp2
                go_ret
                exact ⟨back_i HE.out, rfl⟩
              · go_wp2
                go_ret
                exact ⟨back_i HE.out, rfl⟩
            · have HE : Hid (cnt (t.take (k + 1)) 0 = some (m - 1)) := by
                have := HYes.out (by rw [ht]; omega)
                rw [ht] at this; rw [show m - 1 = m + 1 - 2 by omega]; exact this
              have hb1 : ¬ m < 1 := by omega
              clear ht
              go_wp2
              go_round
              case rel => exact ⟨k + 1, _, by omega, by go_num, rfl, HE.out⟩
              case measure => simp [intOf]; omega
          · obtain rfl : s = 8 := by omega
            by_cases hb : m < 1
            · have HE : Hid (3 = F) := HNo.out (by rw [takes1]; exact hb)
              go_wp2
              go_ret
              exact ⟨back_i HE.out, rfl⟩
            · have HE : Hid (cnt (t.take (k + 1)) 0 = some m) := by
                have := HYes.out (by rw [takes1]; exact hb)
                rw [takes1] at this; rw [show m = m + 1 - 1 by omega]; exact this
              go_wp2
              go_round
              case rel => exact ⟨k + 1, _, by omega, by go_num, rfl, HE.out⟩
              case measure => simp [intOf]; omega
        · have HE : Hid (cnt t 0 = some m) := by
            have h1 := HM.out
            rw [List.take_of_length_le (by have := HN.out; omega)] at h1; exact h1
          by_cases h1 : m = 1
          · have HG : Hid (0 = F) := by unfold Hid; rw [HF.out, if_pos HAll.out, HE.out, if_pos (by rw [h1])]
            subst h1
            go_wp2
            go_ret
            exact ⟨back_i HG.out, rfl⟩
          · have HG : Hid (3 = F) := by unfold Hid; rw [HF.out, if_pos HAll.out, HE.out, if_neg (by simpa using h1)]
            have h1' : (m != 1) = true := by simpa using h1
            clear h1
            go_wp2
            go_ret
            exact ⟨back_i HG.out, rfl⟩

theorem refTerm_any (t : List Int) (v : Value) (w : World) (h : Reads w v t) :
    Calls Tryz.prog 59 #[v] w fun e w' => e = .returned (.int .i64 (faultN t)) ∧ w = w' := by
  rcases h with ⟨ao, cap, rfl, rfl⟩ | ⟨b, off, cap, rfl, -, h0, ⟨hl, _⟩, hc⟩
  · go_enter Tryz.func59, Tryz.ntmps59
    go_wp2
    go_ret
    exact ⟨rfl, rfl⟩
  · by_cases h12 : 12 < t.length
    · have e : faultN t = 4 := by unfold faultN; rw [if_neg (by omega), if_pos h12]
      rw [e]
      clear e hc
      obtain ⟨n, hn⟩ : ∃ n, n = t.length := ⟨_, rfl⟩
      rw [← hn] at h0 hl h12 ⊢
      clear hn
      go_enter Tryz.func59, Tryz.ntmps59
      go_wp2
      go_ret
      exact ⟨rfl, rfl⟩
    · exact refTerm_mid b off cap t w h0 (by omega) hc

end Go.Proofs.YtedgbohobgnedaeGreatDoor

namespace Go.Proofs.YtedgbohobgnedaeGreatDoor
open Go.ChangeShapes Go.WideShapes Go.ChangeAt Go.RowKit
set_option maxRecDepth 100000

/-- the row q lies in w at a place. -/
def Lies (w : World) (B off : Nat) (q : List Int) : Prop := B < w.heap.size ∧ ∀ k, k < q.length → w.cell? ⟨B, off + k, none⟩ = some (.int .i64 (q.getD k 0))
theorem Lies.below {w w' : World} {B off : Nat} {q : List Int} (h : Lies w B off q) (hb : Below w.heap.size w w') : Lies w' B off q :=
  ⟨Nat.lt_of_lt_of_le h.1 hb.size, fun k hk => by rw [hb.cell h.1]; exact h.2 k hk⟩
theorem Lies.front {w : World} {B off : Nat} {q l : List Int} (h : Lies w B off (q ++ l)) : Lies w B off q :=
  ⟨h.1, fun k hk => by
    rw [h.2 k (by rw [List.length_append]; omega)]
    simp [List.getElem?_append_left hk]⟩
theorem Lies.last {w : World} {B off : Nat} {q : List Int} {s : Int} (h : Lies w B off (q ++ [s])) : w.cell? ⟨B, off + q.length, none⟩ = some (.int .i64 s) := by
  rw [h.2 q.length (by simp)]; simp
theorem name_le {w : Wd} (h : w.ok = true) (s : Int) : 0 ≤ w.name s ∧ w.name s < 64 := by
  obtain ⟨_, _, h1, h2⟩ := okB_lt (ok_name h s); exact ⟨h1, h2⟩
theorem back_bs {a b : Bool} {v : Value} (h : a = b) : Ending.returned (.tuple #[.bool a, v]) = .returned (.tuple #[.bool b, v]) := by rw [h]

set_option maxRecDepth 100000 in
set_option maxHeartbeats 4000000 in
theorem in_leaf (s : Int) (h0 : 0 ≤ s) (h4 : s ≤ 4) (m B off cap i : Nat) (u a b c : Int) (w : World) (hok : (Wd.mk u a b c).ok = true) (hi : (i : Int) < u) (hm : m ≤ 12) (hcap : m + 1 ≤ cap) (hB : B < w.heap.size) (hc : w.cell? ⟨B, off + m, none⟩ = some (.int .i64 s)) :
    Calls Tryz.prog 91 #[.slice (some ⟨B, off, none⟩) (m + 1) cap, .agg #[.int .i64 u, .int .i64 a, .int .i64 b, .int .i64 c], .int .i64 i] w fun e w' => e = .returned (.tuple #[.bool (hasB ((Wd.mk u a b c).val [s]) i), .slice (some ⟨B, off, none⟩) m cap]) ∧ Below w.heap.size w w' := by
  have HL : Hid (hasB ((Wd.mk u a b c).val [s]) i = if s < 3 then hasB ((Wd.mk u a b c).name s) i else s == 4) := has_leaf hok s h0 h4 i hi
  have hu := ok_u hok
  simp only at hu
  have hi6 : i ≤ 6 := by omega
  have HH : Hid (∀ s W, Calls Tryz.prog 49 #[.int .i64 ((Wd.mk u a b c).name s), .int .i64 i] W fun e w' => e = .returned (.bool (hasB ((Wd.mk u a b c).name s) i)) ∧ W = w') := fun s W => refHas_any _ i (name_le hok s).1 (by have := (name_le hok s).2; omega) (by omega) W
  have d0 : (w.alloc (.cells #[.int .i64 u, .int .i64 a, .int .i64 b, .int .i64 c] 28)).cell? ⟨B, off + m, none⟩ = some (.int .i64 s) := by
    rw [World.cell?_alloc_lt _ _ ⟨B, off + m, none⟩ hB]; exact hc
  have hle : (m : Int) ≤ (cap : Int) := by omega
  obtain ⟨V, hV⟩ : ∃ V, V = hasB ((Wd.mk u a b c).val [s]) i := ⟨_, rfl⟩
  rw [← hV] at HL ⊢
  clear hV hc hB hok hu hi
  have hd : s = 0 ∨ s = 1 ∨ s = 2 ∨ s = 3 ∨ s = 4 := by omega
  clear h0 h4
  rcases hd with rfl | rfl | rfl | rfl | rfl
  · have HA : Hid (∀ W, Calls Tryz.prog 49 #[.int .i64 a, .int .i64 i] W fun e w' => e = .returned (.bool V) ∧ W = w') := fun W => by rw [HL.out]; exact HH.out 0 W
    go_enter Tryz.func91, Tryz.ntmps91
    go_wp2_with (go_at_call 49; refine (HA.out _).mono ?_; rintro e w' ⟨rfl, rfl⟩)
    go_ret2
    exact ⟨rfl, below_alloc1 _ _⟩
  · have HA : Hid (∀ W, Calls Tryz.prog 49 #[.int .i64 b, .int .i64 i] W fun e w' => e = .returned (.bool V) ∧ W = w') := fun W => by rw [HL.out]; exact HH.out 1 W
    go_enter Tryz.func91, Tryz.ntmps91
    go_wp2_with (go_at_call 49; refine (HA.out _).mono ?_; rintro e w' ⟨rfl, rfl⟩)
    go_ret2
    exact ⟨rfl, below_alloc1 _ _⟩
  · have HA : Hid (∀ W, Calls Tryz.prog 49 #[.int .i64 c, .int .i64 i] W fun e w' => e = .returned (.bool V) ∧ W = w') := fun W => by rw [HL.out]; exact HH.out 2 W
    go_enter Tryz.func91, Tryz.ntmps91
    go_wp2_with (go_at_call 49; refine (HA.out _).mono ?_; rintro e w' ⟨rfl, rfl⟩)
    go_ret2
    exact ⟨rfl, below_alloc1 _ _⟩
  · go_enter Tryz.func91, Tryz.ntmps91
    go_wp2_with fail
    go_ret2
    exact ⟨back_bs HL.out.symm, below_alloc1 _ _⟩
  · go_enter Tryz.func91, Tryz.ntmps91
    go_wp2_with fail
    go_ret2
    exact ⟨back_bs HL.out.symm, below_alloc1 _ _⟩

set_option maxRecDepth 100000 in
set_option maxHeartbeats 4000000 in
/-- behind one call of itself. -/
theorem in_opp (m p B off cap i : Nat) (u a b c : Int) (x : Bool) (w : World) (hm : m ≤ 12) (hcap : m + 1 ≤ cap) (hB : B < w.heap.size) (hc : w.cell? ⟨B, off + m, none⟩ = some (.int .i64 8))
    (ih : ∀ W, Below w.heap.size w W → Calls Tryz.prog 91 #[.slice (some ⟨B, off, none⟩) m cap, .agg #[.int .i64 u, .int .i64 a, .int .i64 b, .int .i64 c], .int .i64 i] W fun e w' => e = .returned (.tuple #[.bool x, .slice (some ⟨B, off, none⟩) p cap]) ∧ Below W.heap.size W w') :
    Calls Tryz.prog 91 #[.slice (some ⟨B, off, none⟩) (m + 1) cap, .agg #[.int .i64 u, .int .i64 a, .int .i64 b, .int .i64 c], .int .i64 i] w fun e w' => e = .returned (.tuple #[.bool (!x), .slice (some ⟨B, off, none⟩) p cap]) ∧ Below w.heap.size w w' := by
  have HI : Hid (Calls Tryz.prog 91 #[.slice (some ⟨B, off, none⟩) m cap, .agg #[.int .i64 u, .int .i64 a, .int .i64 b, .int .i64 c], .int .i64 i] (w.alloc (.cells #[.int .i64 u, .int .i64 a, .int .i64 b, .int .i64 c] 28)) fun e w' => e = .returned (.tuple #[.bool x, .slice (some ⟨B, off, none⟩) p cap]) ∧ Below (w.alloc (.cells #[.int .i64 u, .int .i64 a, .int .i64 b, .int .i64 c] 28)).heap.size (w.alloc (.cells #[.int .i64 u, .int .i64 a, .int .i64 b, .int .i64 c] 28)) w') := ih _ (below_alloc1 _ _)
  have HA : Hid (Below w.heap.size w (w.alloc (.cells #[.int .i64 u, .int .i64 a, .int .i64 b, .int .i64 c] 28))) := below_alloc1 _ _
  have d0 : (w.alloc (.cells #[.int .i64 u, .int .i64 a, .int .i64 b, .int .i64 c] 28)).cell? ⟨B, off + m, none⟩ = some (.int .i64 8) := by
    rw [World.cell?_alloc_lt _ _ ⟨B, off + m, none⟩ hB]; exact hc
  have hle : (m : Int) ≤ (cap : Int) := by omega
  clear hc hB ih
  go_enter Tryz.func91, Tryz.ntmps91
  go_wp2_with (go_at_call 91; refine HI.out.mono ?_; rintro e w2 ⟨rfl, hb⟩)
  go_ret2
  exact ⟨rfl, HA.out.trans (hb.mono HA.out.size)⟩

set_option maxRecDepth 100000 in
set_option maxHeartbeats 4000000 in
/-- behind two calls of itself. -/
theorem in_two (s : Int) (h5 : 5 ≤ s) (h7 : s ≤ 7) (m p q B off cap i : Nat) (u a b c : Int) (x y : Bool) (w : World) (hm : m ≤ 12) (hcap : m + 1 ≤ cap) (hB : B < w.heap.size) (hc : w.cell? ⟨B, off + m, none⟩ = some (.int .i64 s))
    (ihy : ∀ W, Below w.heap.size w W → Calls Tryz.prog 91 #[.slice (some ⟨B, off, none⟩) m cap, .agg #[.int .i64 u, .int .i64 a, .int .i64 b, .int .i64 c], .int .i64 i] W fun e w' => e = .returned (.tuple #[.bool y, .slice (some ⟨B, off, none⟩) q cap]) ∧ Below W.heap.size W w')
    (ihx : ∀ W, Below w.heap.size w W → Calls Tryz.prog 91 #[.slice (some ⟨B, off, none⟩) q cap, .agg #[.int .i64 u, .int .i64 a, .int .i64 b, .int .i64 c], .int .i64 i] W fun e w' => e = .returned (.tuple #[.bool x, .slice (some ⟨B, off, none⟩) p cap]) ∧ Below W.heap.size W w') :
    Calls Tryz.prog 91 #[.slice (some ⟨B, off, none⟩) (m + 1) cap, .agg #[.int .i64 u, .int .i64 a, .int .i64 b, .int .i64 c], .int .i64 i] w fun e w' => e = .returned (.tuple #[.bool (inB s x y), .slice (some ⟨B, off, none⟩) p cap]) ∧ Below w.heap.size w w' := by
  obtain ⟨w1, hw1⟩ : ∃ w1, w1 = w.alloc (.cells #[.int .i64 u, .int .i64 a, .int .i64 b, .int .i64 c] 28) := ⟨_, rfl⟩
  have HA : Hid (Below w.heap.size w w1) := by unfold Hid; rw [hw1]; exact below_alloc1 _ _
  have HI : Hid (Calls Tryz.prog 91 #[.slice (some ⟨B, off, none⟩) m cap, .agg #[.int .i64 u, .int .i64 a, .int .i64 b, .int .i64 c], .int .i64 i] w1 fun e w' => e = .returned (.tuple #[.bool y, .slice (some ⟨B, off, none⟩) q cap]) ∧ Below w1.heap.size w1 w') := ihy _ HA.out
  have HX : Hid (∀ W, Below w.heap.size w W → Calls Tryz.prog 91 #[.slice (some ⟨B, off, none⟩) q cap, .agg #[.int .i64 u, .int .i64 a, .int .i64 b, .int .i64 c], .int .i64 i] W fun e w' => e = .returned (.tuple #[.bool x, .slice (some ⟨B, off, none⟩) p cap]) ∧ Below W.heap.size W w') := ihx
  have HC : Hid (∀ W, Below w1.heap.size w1 W → W.cell? ⟨w.heap.size, 0, none⟩ = some (.int .i64 u) ∧ W.cell? ⟨w.heap.size, 1, none⟩ = some (.int .i64 a) ∧ W.cell? ⟨w.heap.size, 2, none⟩ = some (.int .i64 b) ∧ W.cell? ⟨w.heap.size, 3, none⟩ = some (.int .i64 c)) := fun W hc => by
    have hlt : w.heap.size < w1.heap.size := by rw [hw1]; simp
    rw [hc.cell (p := ⟨w.heap.size, 0, none⟩) hlt, hc.cell (p := ⟨w.heap.size, 1, none⟩) hlt, hc.cell (p := ⟨w.heap.size, 2, none⟩) hlt, hc.cell (p := ⟨w.heap.size, 3, none⟩) hlt, hw1]
    simp
  have d0 : w1.cell? ⟨B, off + m, none⟩ = some (.int .i64 s) := by
    rw [hw1, World.cell?_alloc_lt _ _ ⟨B, off + m, none⟩ hB]; exact hc
  have hle : (m : Int) ≤ (cap : Int) := by omega
  clear hc hB ihx ihy
  have hd : s = 5 ∨ s = 6 ∨ s = 7 := by omega
  clear h5 h7
  rcases hd with rfl | rfl | rfl
  all_goals
    rw [hw1] at d0
    go_enter Tryz.func91, Tryz.ntmps91
    go_wp2_with fail
    rw [← hw1]
    rw [← hw1] at d0
    clear hw1
    go_at_call 91
    refine HI.out.mono ?_
    rintro e w2 ⟨rfl, hb⟩
    have HB2 : Hid (Below w.heap.size w w2) := HA.out.trans (hb.mono HA.out.size)
    obtain ⟨x0, x1, x2, x3⟩ := HC.out _ hb
    clear hb
    go_wp2_with fail
    go_at_call 91
    refine (HX.out _ HB2.out).mono ?_
    rintro e w3 ⟨rfl, hb3⟩
    have HB3 : Hid (Below w.heap.size w w3) := HB2.out.trans (hb3.mono HB2.out.size)
    clear hb3 x0 x1 x2 x3
    cases x <;> cases y
    all_goals
      go_wp2
      go_ret2
      exact ⟨rfl, HB3.out⟩

theorem in_any (i : Nat) (u a b c : Int) (hok : (Wd.mk u a b c).ok = true) (hi : (i : Int) < u) (B off cap : Nat) (n : Nat) :
    ∀ (q : List Int), isTm n q → ∀ (pre : List Int) (w : World), (pre ++ q).length ≤ 12 → (pre ++ q).length ≤ cap → Lies w B off (pre ++ q) →
    Calls Tryz.prog 91 #[.slice (some ⟨B, off, none⟩) (pre ++ q).length cap, .agg #[.int .i64 u, .int .i64 a, .int .i64 b, .int .i64 c], .int .i64 i] w fun e w' => e = .returned (.tuple #[.bool (hasB ((Wd.mk u a b c).val q) i), .slice (some ⟨B, off, none⟩) pre.length cap]) ∧ Below w.heap.size w w' := by
  induction n with
  | zero => intro q h; exact h.elim
  | succ n ih =>
    intro q h pre w h12 hcap hL
    rcases h with ⟨s, h0, h4, rfl⟩ | ⟨t, ht, rfl⟩ | ⟨s, A, C, h5, h7, hA, hC, rfl⟩
    · have e : (pre ++ [s]).length = pre.length + 1 := by simp
      rw [e] at h12 hcap ⊢
      exact in_leaf s h0 h4 pre.length B off cap i u a b c w hok hi (by omega) hcap hL.1 hL.last
    · have e0 : pre ++ (t ++ [8]) = (pre ++ t) ++ [8] := by simp
      have e : (pre ++ (t ++ [8])).length = (pre ++ t).length + 1 := by rw [e0, List.length_append]; rfl
      rw [e] at h12 hcap ⊢
      rw [e0] at hL
      rw [has_opp hok ht i hi]
      exact in_opp (pre ++ t).length pre.length B off cap i u a b c _ w (by omega) hcap hL.1 hL.last (fun W hb => ih t ht pre W (by omega) (by omega) (hL.front.below hb))
    · have e0 : pre ++ (A ++ (C ++ [s])) = ((pre ++ A) ++ C) ++ [s] := by simp
      have e : (pre ++ (A ++ (C ++ [s]))).length = ((pre ++ A) ++ C).length + 1 := by rw [e0, List.length_append]; rfl
      have e2 : ((pre ++ A) ++ C).length = (pre ++ A).length + C.length := by rw [List.length_append]
      rw [e] at h12 hcap ⊢
      rw [e0] at hL
      rw [has_two hok h5 h7 hA hC i hi]
      exact in_two s h5 h7 ((pre ++ A) ++ C).length pre.length (pre ++ A).length B off cap i u a b c _ _ w (by omega) hcap hL.1 hL.last
        (fun W hb => ih C hC (pre ++ A) W (by omega) (by omega) (hL.front.below hb)) (fun W hb => ih A hA pre W (by omega) (by omega) (hL.front.front.below hb))

theorem In_any (t : List Int) (hf : faultN t = 0) (i : Nat) (u a b c : Int) (hok : (Wd.mk u a b c).ok = true) (hi : (i : Int) < u) (B off cap : Nat) (hcap : t.length ≤ cap) (w : World) (hL : Lies w B off t) :
    Calls Tryz.prog 70 #[.slice (some ⟨B, off, none⟩) t.length cap, .agg #[.int .i64 u, .int .i64 a, .int .i64 b, .int .i64 c], .int .i64 i] w fun e w' => e = .returned (.bool (hasB ((Wd.mk u a b c).val t) i)) ∧ Below w.heap.size w w' := by
  obtain ⟨_, h12, hs, h1⟩ := fault_zero.1 hf
  obtain ⟨k, hk⟩ := tree t hs h1
  have HI : Hid (Calls Tryz.prog 91 #[.slice (some ⟨B, off, none⟩) t.length cap, .agg #[.int .i64 u, .int .i64 a, .int .i64 b, .int .i64 c], .int .i64 i] (w.alloc (.cells #[.int .i64 u, .int .i64 a, .int .i64 b, .int .i64 c] 28)) fun e w' => e = .returned (.tuple #[.bool (hasB ((Wd.mk u a b c).val t) i), .slice (some ⟨B, off, none⟩) 0 cap]) ∧ Below (w.alloc (.cells #[.int .i64 u, .int .i64 a, .int .i64 b, .int .i64 c] 28)).heap.size (w.alloc (.cells #[.int .i64 u, .int .i64 a, .int .i64 b, .int .i64 c] 28)) w') := by
    have hL' := hL.below (below_alloc1 w (.cells #[.int .i64 u, .int .i64 a, .int .i64 b, .int .i64 c] 28))
    exact in_any i u a b c hok hi B off cap k t hk [] _ h12 hcap hL'
  have HA : Hid (Below w.heap.size w (w.alloc (.cells #[.int .i64 u, .int .i64 a, .int .i64 b, .int .i64 c] 28))) := below_alloc1 _ _
  obtain ⟨V, hV⟩ : ∃ V, V = hasB ((Wd.mk u a b c).val t) i := ⟨_, rfl⟩
  rw [← hV] at HI ⊢
  obtain ⟨n, hn⟩ : ∃ n, n = t.length := ⟨_, rfl⟩
  rw [← hn] at HI ⊢
  clear hV hn hk hL hcap hi hok h1 hs h12 hf
  go_enter Tryz.func70, Tryz.ntmps70
  go_wp2_with (go_at_call 91; refine HI.out.mono ?_; rintro e w2 ⟨rfl, hb⟩)
  go_ret
  exact ⟨rfl, HA.out.trans (hb.mono HA.out.size)⟩
end Go.Proofs.YtedgbohobgnedaeGreatDoor

namespace Go.Proofs.YtedgbohobgnedaeGreatDoor
open Go.ChangeShapes Go.WideShapes Go.ChangeAt Go.RowKit

/-- one thing, which lies in field f. -/
def oneN (f : Nat) : Nat → Int := fun g => if g = f then 1 else 0
theorem oneN_right : ∀ f : Nat, f < 8 → countsFault (oneN f) = 0 := by decide +kernel
theorem oneN_made : ∀ f : Nat, f < 8 → (madeN (oneN f) 8).u = 1 ∧ (madeN (oneN f) 8).a = (oneW f).a ∧ (madeN (oneN f) 8).b = (oneW f).b ∧ (madeN (oneN f) 8).c = (oneW f).c := by decide +kernel
theorem made_one (f : Nat) (hf : f < 8) (w : World) :
    Calls Tryz.prog 26 #[.agg #[.int .i64 (oneN f 0), .int .i64 (oneN f 1), .int .i64 (oneN f 2), .int .i64 (oneN f 3), .int .i64 (oneN f 4), .int .i64 (oneN f 5), .int .i64 (oneN f 6), .int .i64 (oneN f 7)]] w fun e w' => e = .returned (.agg #[.int .i64 1, .int .i64 (oneW f).a, .int .i64 (oneW f).b, .int .i64 (oneW f).c]) ∧ Below w.heap.size w w' := by
  have := refMade_right (oneN f) w (oneN_right f hf)
  obtain ⟨e0, e1, e2, e3⟩ := oneN_made f hf
  have e : arrW (madeN (oneN f) 8) = #[.int .i64 1, .int .i64 (oneW f).a, .int .i64 (oneW f).b, .int .i64 (oneW f).c] := by
    unfold arrW; rw [e0, e1, e2, e3]
  rw [e] at this
  exact this

set_option maxRecDepth 100000 in
set_option maxHeartbeats 4000000 in
theorem refLies_any (t : List Int) (hft : faultN t = 0) (v : Value) (f : Nat) (hf : f < 8) (w : World) (h : Reads w v t) :
    Calls Tryz.prog 48 #[v, .int .i64 f] w fun e w' => e = .returned (.bool (liesB t f)) ∧ Below w.heap.size w w' := by
  rcases h with ⟨ao, cap, rfl, rfl⟩ | ⟨B, off, cap, rfl, hB, h0, ⟨_, hcap⟩, hc⟩
  · exact absurd hft (by decide)
  have HI : Hid (∀ W, Below w.heap.size w W → Calls Tryz.prog 70 #[.slice (some ⟨B, off, none⟩) t.length cap, .agg #[.int .i64 1, .int .i64 (oneW f).a, .int .i64 (oneW f).b, .int .i64 (oneW f).c], .int .i64 0] W fun e w' => e = .returned (.bool (liesB t f)) ∧ Below W.heap.size W w') := fun W hb =>
    In_any t hft 0 1 (oneW f).a (oneW f).b (oneW f).c (oneW_ok f) (by decide) B off cap hcap W (Lies.below ⟨hB, hc⟩ hb)
  have HM : Hid (∀ W, Calls Tryz.prog 26 #[.agg #[.int .i64 (oneN f 0), .int .i64 (oneN f 1), .int .i64 (oneN f 2), .int .i64 (oneN f 3), .int .i64 (oneN f 4), .int .i64 (oneN f 5), .int .i64 (oneN f 6), .int .i64 (oneN f 7)]] W fun e w' => e = .returned (.agg #[.int .i64 1, .int .i64 (oneW f).a, .int .i64 (oneW f).b, .int .i64 (oneW f).c]) ∧ Below W.heap.size W w') := fun W => made_one f hf W
  obtain ⟨L, hL⟩ : ∃ L, L = liesB t f := ⟨_, rfl⟩
  rw [← hL] at HI ⊢
  obtain ⟨n, hn⟩ : ∃ n, n = t.length := ⟨_, rfl⟩
  rw [← hn] at HI ⊢
  obtain ⟨oa, ha⟩ : ∃ x, x = (oneW f).a := ⟨_, rfl⟩
  obtain ⟨ob, hb⟩ : ∃ x, x = (oneW f).b := ⟨_, rfl⟩
  obtain ⟨oc, hcc⟩ : ∃ x, x = (oneW f).c := ⟨_, rfl⟩
  rw [← ha, ← hb, ← hcc] at HI HM
  clear hL hn hc hcap hB h0 hft ha hb hcc
  rcases eight hf with rfl | rfl | rfl | rfl | rfl | rfl | rfl | rfl
  all_goals
    clear hf
    simp only [oneN] at HM
    simp at HM
    go_enter Tryz.func48, Tryz.ntmps48
    go_wp2_with fail
    go_at_call 26
    refine (HM.out _).mono ?_
    rintro e w2 ⟨rfl, hb⟩
    have HB2 : Hid (Below w.heap.size w w2) := (below_alloc1 _ _).trans (hb.mono (by simp))
    clear hb
    go_wp2_with fail
    go_at_call 70
    refine (HI.out _ HB2.out).mono ?_
    rintro e w3 ⟨rfl, hb⟩
    have HB3 : Hid (Below w.heap.size w w3) := HB2.out.trans (hb.mono HB2.out.size)
    clear hb
    go_wp2
    go_ret
    exact ⟨rfl, HB3.out⟩
end Go.Proofs.YtedgbohobgnedaeGreatDoor

namespace Go.Proofs.YtedgbohobgnedaeGreatDoor
open Go.ChangeShapes Go.WideShapes Go.ChangeAt Go.RowKit
set_option maxRecDepth 100000

/-- the reference's Row, of a right atom. -/
theorem refRow_any (k n : Int) (h : Bool) (vs vt : Value) (s t : List Int) (w : World) (hS : Reads w vs s) (hT : Reads w vt t) (hf : atomFault k s t n = 0) :
    Calls Tryz.prog 23 #[.agg #[.int .i64 k, vs, vt, .int .i64 n], .bool h] w fun e w' => e = .returned (.agg (arrR (rowT k s t h) (rowM k n h))) ∧ Below w.heap.size w w' := by
  obtain ⟨hk, hs, ht, n0, n1⟩ := atomFault_zero.1 hf
  obtain ⟨sao, scap, rfl, _⟩ := hS.slice
  obtain ⟨tao, tcap, rfl, _⟩ := hT.slice
  have hm := mostN_le k
  have hls : ∀ W (f : Nat), Below w.heap.size w W → f < 8 → Calls Tryz.prog 48 #[.slice sao s.length scap, .int .i64 f] W fun e w' => e = .returned (.bool (liesB s f)) ∧ Below W.heap.size W w' := fun W f hW hf => refLies_any s hs _ f hf W (hS.below hW)
  have hlt : secondB k = true → ∀ W (f : Nat), Below w.heap.size w W → f < 8 → Calls Tryz.prog 48 #[.slice tao t.length tcap, .int .i64 f] W fun e w' => e = .returned (.bool (liesB t f)) ∧ Below W.heap.size W w' := fun h2 W f hW hf => refLies_any t (second_reads ht h2) _ f hf W (hT.below hW)
  rcases five hk.1 hk.2 with rfl | rfl | rfl | rfl | rfl
  · have en : n = 0 := by
      have : mostN 1 = 0 := by decide
      omega
    subst en
    exact refRow_1 0 h (liesB s) (liesB t) (rowT _ s t h) _ sao tao _ scap _ tcap w (fun f _ => rfl) rfl hls (hlt (by decide))
  · have en : n = 0 := by
      have : mostN 2 = 0 := by decide
      omega
    subst en
    exact refRow_2 0 h (liesB s) (liesB t) (rowT _ s t h) _ sao tao _ scap _ tcap w (fun f _ => rfl) rfl hls (hlt (by decide))
  · have et := second_none ht (by decide)
    exact refRow_3 n h (liesB s) (rowT _ s t h) _ (by omega) (by omega) sao tao _ scap _ tcap w (fun f _ => by unfold rowT baseT; rw [et, lies_none]) rfl hls
  · have et := second_none ht (by decide)
    exact refRow_4 n h (liesB s) (rowT _ s t h) _ (by omega) (by omega) sao tao _ scap _ tcap w (fun f _ => by unfold rowT baseT; rw [et, lies_none]) rfl hls
  · exact refRow_5 n h (liesB s) (liesB t) (rowT _ s t h) _ (by omega) (by omega) sao tao _ scap _ tcap w (fun f _ => rfl) rfl hls (hlt (by decide))
end Go.Proofs.YtedgbohobgnedaeGreatDoor

namespace Go.Proofs.YtedgbohobgnedaeGreatDoor
open Go.ChangeShapes Go.WideShapes Go.ChangeAt Go.RowKit
set_option maxRecDepth 100000

/-- a cell of a row's times. -/
theorem RowAt.time {w : World} {b off : Nat} {r : Rw} (h : RowAt w b off r) {f : Nat} (hf : f < 8) : w.cell? ⟨b, off + f, none⟩ = some (.int .i64 (r.t f)) := by
  obtain ⟨h0, h1, h2, h3, h4, h5, h6, h7, _⟩ := h
  rcases eight hf with rfl | rfl | rfl | rfl | rfl | rfl | rfl | rfl <;> assumption
theorem RowAt.most {w : World} {b off : Nat} {r : Rw} (h : RowAt w b off r) : w.cell? ⟨b, off + 8, none⟩ = some (.int .i64 r.m) := by
  obtain ⟨_, _, _, _, _, _, _, _, h8⟩ := h
  exact h8

set_option maxHeartbeats 4000000 in
theorem refFits_mid (n b off cap : Nat) (us : Nat → Rw) (N : Nat → Int) (R : Bool) (w : World) (h12 : n ≤ 12) (hB : b < w.heap.size) (hc : ∀ k, k < n → RowAt w b (off + k * 9) (us k)) (hr : ∀ k, k < n → ∀ f, f < 8 → -2 ≤ (us k).t f ∧ (us k).t f ≤ 2) (hN : ∀ f, f < 8 → 0 ≤ N f ∧ N f ≤ 6)
    (hR0 : ∀ k, k < n → (us k).so N = false → R = false) (hR1 : (∀ k, k < n → (us k).so N = true) → R = true) :
    Calls Tryz.prog 25 #[.slice (some ⟨b, off, none⟩) n cap, .agg #[.int .i64 (N 0), .int .i64 (N 1), .int .i64 (N 2), .int .i64 (N 3), .int .i64 (N 4), .int .i64 (N 5), .int .i64 (N 6), .int .i64 (N 7)]] w fun e w' => e = .returned (.bool R) ∧ Below w.heap.size w w' := by
  obtain ⟨w1, hw1⟩ : ∃ w1, w1 = w.alloc (.cells #[.int .i64 (N 0), .int .i64 (N 1), .int .i64 (N 2), .int .i64 (N 3), .int .i64 (N 4), .int .i64 (N 5), .int .i64 (N 6), .int .i64 (N 7)] 63) := ⟨_, rfl⟩
  have HW : Hid (Below w.heap.size w w1) := by unfold Hid; rw [hw1]; exact below_alloc1 _ _
  have HK : Hid (Blk w1 w.heap.size 63 (arr8 N)) := by unfold Hid; rw [hw1]; exact Blk.new _ _ _
  have HC : Hid (∀ W k, Below w1.heap.size w1 W → k < n → RowAt W b (off + k * 9) (us k)) := fun W k hW hk => (hc k hk).below hB (HW.out.trans (hW.mono HW.out.size))
  have HKW : Hid (∀ W f, Below w1.heap.size w1 W → f < 8 → W.cell? ⟨w.heap.size, f, none⟩ = some (.int .i64 (N f))) := fun W f hW hf => by rw [(HK.out.below hW).cell, arr8_get _ hf]
  have HT : Hid (∀ k, k < n → ∀ f, f < 8 → -2 ≤ (us k).t f ∧ (us k).t f ≤ 2) := hr
  have HN : Hid (∀ f, f < 8 → 0 ≤ N f ∧ N f ≤ 6) := hN
  have HR0 : Hid (∀ k, k < n → (us k).so N = false → R = false) := hR0
  have HR1 : Hid ((∀ k, k < n → (us k).so N = true) → R = true) := hR1
  clear hc hr hN hR0 hR1 hB
  go_enter Tryz.func25, Tryz.ntmps25
  go_wp2
  rw [← hw1]
  clear hw1
  go_loopw [5] (fun i wr => ∃ k : Nat, k ≤ n ∧ i = .int .i64 k ∧ Below w1.heap.size w1 wr ∧ Hid (∀ j, j < k → (us j).so N = true)) (fun i _ => n - (intOf i).toNat)
  case atStart => exact ⟨0, Nat.zero_le _, rfl, Below.refl _ _, fun j hj => by omega⟩
  case round =>
    obtain ⟨k, hk, rfl, hb, HA⟩ := hrel
    have HB1 : Hid (Below w1.heap.size w1 wr) := hb
    clear hb
    by_cases hlt : k < n
    · have HX1 : Hid ((us k).so N = false → R = false) := HR0.out k hlt
      have HCk : Hid (∀ W, Below w1.heap.size w1 W → RowAt W b (off + k * 9) (us k)) := fun W hW => HC.out W k hW hlt
      have HTk : Hid (∀ f, f < 8 → -2 ≤ (us k).t f ∧ (us k).t f ≤ 2) := HT.out k hlt
      have HX2 : Hid ((us k).so N = true → ∀ j, j < k + 1 → (us j).so N = true) := fun h j hj => by
        rcases Nat.lt_or_ge j k with h' | h'
        · exact HA.out j h'
        · obtain rfl : j = k := by omega
          exact h
      obtain ⟨r, hr⟩ : ∃ r, r = us k := ⟨_, rfl⟩
      rw [← hr] at HX1 HCk HTk HX2
      clear hr
      go_wp2
      go_loopw [6, 7] (fun s i wr => ∃ f : Nat, f ≤ 8 ∧ i = .int .i64 f ∧ s = .int .i64 (sumT r.t N f) ∧ Below w1.heap.size w1 wr) (fun _ i _ => 8 - (intOf i).toNat)
      case atStart => exact ⟨0, Nat.zero_le _, rfl, rfl, HB1.out⟩
      case round =>
        obtain ⟨f, hf, rfl, rfl, hb⟩ := hrel
        have HB2 : Hid (Below w1.heap.size w1 wr) := hb
        clear hb
        by_cases hlt2 : f < 8
        · have c := (HCk.out _ HB2.out).time hlt2
          have d := HKW.out _ _ HB2.out hlt2
          have p1 := sumT_le (T := r.t) (N := N) (k := f) (fun g hg => HTk.out g (by omega)) fun g hg => HN.out g (by omega)
          have p2 := mul_le (HTk.out f hlt2) (HN.out f hlt2)
          have HS : Hid (sumT r.t N (f + 1) = sumT r.t N f + r.t f * N f) := rfl
          obtain ⟨x, hx⟩ : ∃ x, x = r.t f := ⟨_, rfl⟩
          obtain ⟨y, hy⟩ : ∃ y, y = N f := ⟨_, rfl⟩
          rw [← hx] at c p2 HS
          rw [← hy] at d p2 HS
          clear hx hy
          go_wp2
          go_region
          go_wp2
          go_roundw
          case rel => exact ⟨f + 1, by omega, by go_num, by rw [HS.out], HB2.out.drew⟩
          case measure => simp [intOf]; omega
        · obtain rfl : f = 8 := by omega
          have c := (HCk.out _ HB2.out).most
          have HY1 : Hid (¬ sumT r.t N 8 ≤ r.m → R = false) := fun h => HX1.out (by unfold Rw.so; exact decide_eq_false h)
          have HY2 : Hid (sumT r.t N 8 ≤ r.m → ∀ j, j < k + 1 → (us j).so N = true) := fun h => HX2.out (by unfold Rw.so; exact decide_eq_true h)
          obtain ⟨x, hx⟩ : ∃ x, x = r.m := ⟨_, rfl⟩
          obtain ⟨y, hy⟩ : ∃ y, y = sumT r.t N 8 := ⟨_, rfl⟩
          rw [← hx] at c HY1 HY2
          rw [← hy] at HY1 HY2 ⊢
          clear hx hy
          by_cases h0 : y ≤ x
          · have HE : Hid (∀ j, j < k + 1 → (us j).so N = true) := HY2.out h0
            have h0' : ¬ (x < y) := by omega
            go_wp2
            go_roundw
            case rel => exact ⟨k + 1, by omega, by go_num, HB2.out, HE⟩
            case measure => simp [intOf]; omega
          · have HE : Hid (R = false) := HY1.out h0
            have h0' : x < y := by omega
            go_wp2
            go_ret
            exact ⟨back_b HE.out.symm, HW.out.trans (HB2.out.mono HW.out.size)⟩
    · obtain rfl : k = n := by omega
      have HE : Hid (R = true) := HR1.out HA.out
      go_wp2
      go_ret
      exact ⟨back_b HE.out.symm, HW.out.trans (HB1.out.mono HW.out.size)⟩
theorem refFits_none (ao : Option Addr) (cap : Nat) (N : Nat → Int) (w : World) : Calls Tryz.prog 25 #[.slice ao 0 cap, .agg #[.int .i64 (N 0), .int .i64 (N 1), .int .i64 (N 2), .int .i64 (N 3), .int .i64 (N 4), .int .i64 (N 5), .int .i64 (N 6), .int .i64 (N 7)]] w fun e w' => e = .returned (.bool true) ∧ Below w.heap.size w w' := by
  have HW : Hid (Below w.heap.size w (w.alloc (.cells #[.int .i64 (N 0), .int .i64 (N 1), .int .i64 (N 2), .int .i64 (N 3), .int .i64 (N 4), .int .i64 (N 5), .int .i64 (N 6), .int .i64 (N 7)] 63))) := below_alloc1 _ _
  go_enter Tryz.func25, Tryz.ntmps25
  go_wp2
  go_loop [5] (fun i => i = .int .i64 0) (fun _ => 0)
  case atStart => rfl
  case round =>
    obtain rfl := hrel
    go_wp2
    go_ret
    exact ⟨rfl, HW.out⟩
/-- the reference's Fits, of right rows and right counts. -/
theorem refFits_right (l : List Rw) (v : Value) (N : Nat → Int) (w : World) (h : ReadsR w v l) (hf : fitsFault l N = 0) :
    Calls Tryz.prog 25 #[v, .agg #[.int .i64 (N 0), .int .i64 (N 1), .int .i64 (N 2), .int .i64 (N 3), .int .i64 (N 4), .int .i64 (N 5), .int .i64 (N 6), .int .i64 (N 7)]] w fun e w' => e = .returned (.bool (fitsIs l N)) ∧ Below w.heap.size w w' := by
  have e : fitsIs l N = l.all fun r => r.so N := by unfold fitsIs; rw [if_pos hf]
  rw [e]
  have hr : rowsFault l = 0 := by
    by_cases h0 : rowsFault l = 0
    · exact h0
    · unfold fitsFault at hf; rw [if_neg h0] at hf; exact hf
  have hn : countsFault N = 0 := by unfold fitsFault at hf; rw [if_pos hr] at hf; exact hf
  have h12 : ¬ 12 < l.length := fun h' => by unfold rowsFault at hr; rw [if_pos h'] at hr; cases hr
  have hw : l.any Rw.wrong = false := by
    rcases (Bool.eq_false_or_eq_true (l.any Rw.wrong)).symm with q | q
    · exact q
    · unfold rowsFault at hr; rw [if_neg h12, if_pos q] at hr; cases hr
  rcases h with ⟨ao, cap, rfl, rfl⟩ | ⟨b, off, cap, rfl, hB, h0, ⟨hl, _⟩, hc⟩
  · exact refFits_none ao cap N w
  · refine refFits_mid l.length b off cap (fun k => l.getD k ⟨fun _ => 0, 0⟩) N _ w (by omega) hB (fun k hk => ?_) (fun k hk => ?_) (counts_zero.1 hn).1 (fun k hk hso => ?_) fun hall => ?_
    · rw [getD_row hk]; exact hc k _ (List.getElem?_eq_getElem hk)
    · rw [getD_row hk]
      have := List.any_eq_false.1 hw l[k] (List.getElem_mem hk)
      exact (right_iff.1 (by simpa using this)).1
    · rw [getD_row hk] at hso
      rw [List.all_eq_false]
      exact ⟨l[k], List.getElem_mem hk, by rw [hso]; decide⟩
    · rw [List.all_eq_true]
      intro r hr
      obtain ⟨k, hk, rfl⟩ := List.getElem_of_mem hr
      have := hall k hk
      rw [getD_row hk] at this
      exact this
end Go.Proofs.YtedgbohobgnedaeGreatDoor

namespace Go.Proofs.YtedgbohobgnedaeGreatDoor
open Go.ChangeShapes Go.WideShapes Go.ChangeAt Go.RowKit
set_option maxRecDepth 100000

/-- the cells of a list of counts. -/
def cellsC (L : List (Nat → Int)) : List Value := L.flatMap fun N => (arr8 N).toList
theorem cellsC_append (L M : List (Nat → Int)) : cellsC (L ++ M) = cellsC L ++ cellsC M := by unfold cellsC; rw [List.flatMap_append]
theorem cellsC_one (N : Nat → Int) : cellsC [N] = (arr8 N).toList := by unfold cellsC; simp
/-- the slice that block O holds is a call's own, and reads as these counts. -/
structure PileC (w : World) (O K : Nat) (v : Value) (L : List (Nat → Int)) : Prop where
  box : Blk w O 60 #[v]
  own : w.ownsRow K 63 8 v L.length (cellsC L)
  lt : O < K
/-- all but block O and the slice's own row is as it was; the row is where it was, or new. -/
structure GrewC (O : Nat) (w w' : World) (v v' : Value) : Prop where
  os : w'.os = w.os
  tape : w'.tape = w.tape
  output : w'.output = w.output
  size : w.heap.size ≤ w'.heap.size
  rest : ∀ b, b < w.heap.size → b ≠ O → v.ownBlock ≠ some b → w'.heap[b]? = w.heap[b]?
  home : v'.ownBlock = v.ownBlock ∨ ∃ g, v'.ownBlock = some g ∧ w.heap.size ≤ g
theorem GrewC.refl (O : Nat) (w : World) (v : Value) : GrewC O w w v v := ⟨rfl, rfl, rfl, Nat.le_refl _, fun _ _ _ _ => rfl, Or.inl rfl⟩
theorem GrewC.trans {O : Nat} {a b c : World} {v v' v'' : Value} (h : GrewC O a b v v') (k : GrewC O b c v' v'') : GrewC O a c v v'' := by
  refine ⟨k.os.trans h.os, k.tape.trans h.tape, k.output.trans h.output, Nat.le_trans h.size k.size, fun i hi hO hv => ?_, ?_⟩
  · have hv' : v'.ownBlock ≠ some i := by
      rcases h.home with e | ⟨g, e, hg⟩
      · rw [e]; exact hv
      · rw [e]; intro e'; have := Option.some.inj e'; omega
    rw [k.rest i (Nat.lt_of_lt_of_le hi h.size) hO hv', h.rest i hi hO hv]
  · rcases k.home with e | ⟨g, e, hg⟩
    · rw [e]; exact h.home
    · exact Or.inr ⟨g, e, Nat.le_trans h.size hg⟩
theorem GrewC.alloc (O : Nat) (w : World) (o : Obj) (v : Value) : GrewC O w (w.alloc o) v v := ⟨rfl, rfl, rfl, by simp, fun i hi _ _ => heap_alloc_old w o hi, Or.inl rfl⟩
theorem GrewC.set {O : Nat} {w w' : World} {v v' : Value} (h : GrewC O w w' v v') {B : Nat} (hB : w.heap.size ≤ B) (j : Nat) (x : Value) : GrewC O w (w'.setCell ⟨B, j, none⟩ x) v v' := by
  refine ⟨h.os, h.tape, h.output, ?_, fun i hi hO hv => ?_, h.home⟩
  · have := h.size; simpa using this
  · rw [heap_setCell_other w' ⟨B, j, none⟩ i x (by show i ≠ B; omega)]; exact h.rest i hi hO hv
theorem GrewC.below {O : Nat} {w w' : World} {v v' : Value} (h : GrewC O w w' v v') {B : Nat} (hB : B ≤ w.heap.size) (hO : B ≤ O) (hv : ∀ g, v.ownBlock = some g → B ≤ g) : Below B w w' :=
  ⟨h.os, h.tape, h.output, h.size, fun i hi => h.rest i (by omega) (by omega) fun e => by have := hv i e; omega⟩
theorem PileC.far {w : World} {O K : Nat} {v : Value} {L : List (Nat → Int)} (h : PileC w O K v L) {B : Nat} (hB : B ≠ O) (hv : v.ownBlock ≠ some B) (j : Nat) (x : Value) : PileC (w.setCell ⟨B, j, none⟩ x) O K v L := by
  refine ⟨h.box.far (Ne.symm hB) j x, ⟨h.own.1, ?_⟩, h.lt⟩
  rcases h.own.2 with hn | ⟨g, cap, cur, rfl, hb, hg, rest⟩
  · exact Or.inl hn
  · refine Or.inr ⟨g, cap, cur, rfl, hb, ?_, rest⟩
    rw [heap_setCell_other w ⟨B, j, none⟩ g x (by intro e; apply hv; simp only at e; rw [← e]; rfl)]; exact hg
theorem PileC.alloc {w : World} {O K : Nat} {v : Value} {L : List (Nat → Int)} (h : PileC w O K v L) (o : Obj) : PileC (w.alloc o) O K v L := ⟨h.box.old o, h.own.alloc o, h.lt⟩
theorem infoI8 : (Tryz.prog.info? 63).isSome = true := by kernel_rfl
theorem zeroI8 : (Tryz.prog.info? 63).bind (·.zero) = some (.agg #[.int .i64 0, .int .i64 0, .int .i64 0, .int .i64 0, .int .i64 0, .int .i64 0, .int .i64 0, .int .i64 0]) := by kernel_rfl
theorem sizeI8 : (Tryz.prog.info? 63).map (·.size) = some 8 := by kernel_rfl
theorem bytesI8 : (Tryz.prog.info? 63).map (·.bytes) = some 64 := by kernel_rfl

theorem leaf_post {w w1 W0 w2 : World} {O K gg n cap1 : Nat} {v : Value} {L : List (Nat → Int)} {M : Nat → Int} (hg1 : GrewC O w w1 v v) (hb : Below w1.heap.size w1 W0) (hgrow : W0.grownBy w2 v.ownBlock) (bO : Blk w2 O 60 #[v])
    (hown1 : w2.ownsRow K 63 8 (.slice (some ⟨gg, 0, none⟩) (n + 1) cap1) (n + 1) (cellsC L ++ (arr8 M).toList)) (hat : v.ownBlock = some gg ∨ gg = w1.heap.size + 1) (hO : O < K) (hn : n = L.length) :
    PileC (w2.setCell ⟨O, 0, none⟩ (.slice (some ⟨gg, 0, none⟩) (n + 1) cap1)) O K (.slice (some ⟨gg, 0, none⟩) (n + 1) cap1) (L ++ [M]) ∧ GrewC O w (w2.setCell ⟨O, 0, none⟩ (.slice (some ⟨gg, 0, none⟩) (n + 1) cap1)) v (.slice (some ⟨gg, 0, none⟩) (n + 1) cap1) := by
  have hK : K ≤ gg := (hown1.lt gg rfl).1
  have e1 : (L ++ [M]).length = n + 1 := by simp [hn]
  have e2 : cellsC (L ++ [M]) = cellsC L ++ (arr8 M).toList := by rw [cellsC_append, cellsC_one]
  refine ⟨⟨?_, ?_, hO⟩, ?_⟩
  · have := bO.set 0 (.slice (some ⟨gg, 0, none⟩) (n + 1) cap1)
    simpa using this
  · rw [e1, e2]
    refine ⟨hown1.1, ?_⟩
    rcases hown1.2 with ⟨h, _⟩ | ⟨g, cap, cur, h, hb', hg, rest⟩
    · cases h
    · refine Or.inr ⟨g, cap, cur, h, hb', ?_, rest⟩
      rw [heap_setCell_other w2 ⟨O, 0, none⟩ g _ (by show g ≠ O; omega)]; exact hg
  · refine ⟨(hgrow.os.trans hb.os).trans hg1.os, (hgrow.tape.trans hb.tape).trans hg1.tape, (hgrow.output.trans hb.output).trans hg1.output, ?_, fun i hi hiO hv => ?_, ?_⟩
    · have := hg1.size
      have := hb.size
      have := hgrow.size
      simp
      omega
    · have h1 := hg1.size
      have h2 := hb.size
      rw [heap_setCell_other w2 ⟨O, 0, none⟩ i _ (by show i ≠ O; exact hiO), hgrow.block i (by omega) (fun e => hv e.symm), hb.block i (by omega)]
      exact hg1.rest i hi hiO hv
    · rcases hat with h | h
      · exact Or.inl h.symm
      · exact Or.inr ⟨gg, rfl, by have := hg1.size; omega⟩

set_option maxHeartbeats 4000000 in
theorem all_leaf (u : Nat) (N M : Nat → Int) (O K : Nat) (v : Value) (L : List (Nat → Int)) (w : World) (hM : M = putN N 7 u) (hp : PileC w O K v L) (hK : K ≤ w.heap.size) (hL : L.length + 1 ≤ 1716) :
    Calls Tryz.prog 47 #[.int .i64 u, .int .i64 7, .agg #[.int .i64 (N 0), .int .i64 (N 1), .int .i64 (N 2), .int .i64 (N 3), .int .i64 (N 4), .int .i64 (N 5), .int .i64 (N 6), .int .i64 (N 7)], .pointer (some ⟨O, 0, none⟩)] w fun e w' => e = .returned (.tuple #[]) ∧ ∃ v', PileC w' O K v' (L ++ [M]) ∧ GrewC O w w' v v' := by
  obtain ⟨w1, hw1⟩ : ∃ w1, w1 = w.alloc (.cells #[.int .i64 (N 0), .int .i64 (N 1), .int .i64 (N 2), .int .i64 (N 3), .int .i64 (N 4), .int .i64 (N 5), .int .i64 (N 6), .int .i64 u] 63) := ⟨_, rfl⟩
  have HS1 : Hid (w1.heap.size = w.heap.size + 1) := by unfold Hid; rw [hw1]; simp
  have HN1 : Hid (Blk w1 w.heap.size 63 (arr8 M)) := by
    unfold Hid; rw [hw1, hM]
    have e : arr8 (putN N 7 u) = #[.int .i64 (N 0), .int .i64 (N 1), .int .i64 (N 2), .int .i64 (N 3), .int .i64 (N 4), .int .i64 (N 5), .int .i64 (N 6), .int .i64 u] := by simp [arr8, putN]
    rw [e]
    exact Blk.new _ _ _
  have hvB : v.ownBlock ≠ some w.heap.size := fun e => by have := (hp.own.lt _ e).2; omega
  have hOl := hp.box.lt
  have HP1 : Hid (PileC w1 O K v L) := by unfold Hid; rw [hw1]; exact hp.alloc _
  have HG1 : Hid (GrewC O w w1 v v) := by unfold Hid; rw [hw1]; exact GrewC.alloc O w _ v
  obtain ⟨i8, hi⟩ : ∃ i, Tryz.prog.info? 63 = some i := Option.isSome_iff_exists.1 infoI8
  have hz0 : i8.zero = some (.agg #[.int .i64 0, .int .i64 0, .int .i64 0, .int .i64 0, .int .i64 0, .int .i64 0, .int .i64 0, .int .i64 0]) := by have := zeroI8; rw [hi] at this; simpa using this
  have hz1 : i8.size = 8 := by have := sizeI8; rw [hi] at this; simpa using this
  have hz2 : i8.bytes = 64 := by have := bytesI8; rw [hi] at this; simpa using this
  obtain ⟨q0, q1, q2, q3, q4, q5, q6, q7⟩ := HN1.out.cells8
  have qO : w1.cell? ⟨O, 0, none⟩ = some v := HP1.out.box.cell 0
  obtain ⟨n, hn⟩ : ∃ n, n = L.length := ⟨_, rfl⟩
  have HOW : Hid (w1.ownsRow K 63 8 v n (cellsC L)) := by unfold Hid; rw [hn]; exact HP1.out.own
  rw [← hn] at hL
  have HNL : Hid (n = L.length) := hn
  clear hn hM
  have HKeep : Hid (∀ W0 W2, Below w1.heap.size w1 W0 → W0.grownBy W2 v.ownBlock → Blk W2 O 60 #[v] ∧ W2.cell? ⟨O, 0, none⟩ = some v ∧ W2.cell? ⟨w.heap.size, 0, none⟩ = some (.int .i64 (M 0)) ∧ W2.cell? ⟨w.heap.size, 1, none⟩ = some (.int .i64 (M 1)) ∧ W2.cell? ⟨w.heap.size, 2, none⟩ = some (.int .i64 (M 2)) ∧ W2.cell? ⟨w.heap.size, 3, none⟩ = some (.int .i64 (M 3)) ∧ W2.cell? ⟨w.heap.size, 4, none⟩ = some (.int .i64 (M 4)) ∧ W2.cell? ⟨w.heap.size, 5, none⟩ = some (.int .i64 (M 5)) ∧ W2.cell? ⟨w.heap.size, 6, none⟩ = some (.int .i64 (M 6)) ∧ W2.cell? ⟨w.heap.size, 7, none⟩ = some (.int .i64 (M 7)) ∧ W2.frozen? ⟨O, 0, none⟩ = false) := fun W0 W2 hb hg => by
    have hvO : some O ≠ v.ownBlock := fun e => by have := (hp.own.lt _ e.symm).1; have := hp.lt; omega
    have hvB' : some w.heap.size ≠ v.ownBlock := fun e => hvB e.symm
    have hB1 := HN1.out.lt
    have hO1 := HP1.out.box.lt
    have bO : Blk W2 O 60 #[v] := by
      unfold Blk
      rw [hg.block O (Nat.lt_of_lt_of_le hO1 hb.size) hvO, hb.block O hO1]; exact HP1.out.box
    have bN : Blk W2 w.heap.size 63 (arr8 M) := by
      unfold Blk
      rw [hg.block _ (Nat.lt_of_lt_of_le hB1 hb.size) hvB', hb.block _ hB1]; exact HN1.out
    exact ⟨bO, bO.cell 0, bN.cell 0, bN.cell 1, bN.cell 2, bN.cell 3, bN.cell 4, bN.cell 5, bN.cell 6, bN.cell 7, bO.frozen 0⟩
  go_enter Tryz.func47, Tryz.ntmps47
  go_upto_region 3 with fail
  rw [← hw1]
  clear hw1
  have HKs : Hid (K ≤ w1.heap.size) := by unfold Hid; rw [HS1.out]; omega
  have HA1 : Hid (Blk (w1.alloc (.cells #[.int .i64 (M 0), .int .i64 (M 1), .int .i64 (M 2), .int .i64 (M 3), .int .i64 (M 4), .int .i64 (M 5), .int .i64 (M 6), .int .i64 (M 7)] 63)) O 60 #[v]) := HP1.out.box.old _
  have HA2 : Hid (Blk (w1.alloc (.cells #[.int .i64 (M 0), .int .i64 (M 1), .int .i64 (M 2), .int .i64 (M 3), .int .i64 (M 4), .int .i64 (M 5), .int .i64 (M 6), .int .i64 (M 7)] 63)) w.heap.size 63 (arr8 M)) := HN1.out.old _
  have rO : (w1.alloc (.cells #[.int .i64 (M 0), .int .i64 (M 1), .int .i64 (M 2), .int .i64 (M 3), .int .i64 (M 4), .int .i64 (M 5), .int .i64 (M 6), .int .i64 (M 7)] 63)).cell? ⟨O, 0, none⟩ = some v := HA1.out.cell 0
  obtain ⟨r0, r1, r2, r3, r4, r5, r6, r7⟩ := HA2.out.cells8
  go_region_law (refine step_append_lies _ (by rfl) _ _ _ (by rfl) K 63 i8 (.agg #[.int .i64 0, .int .i64 0, .int .i64 0, .int .i64 0, .int .i64 0, .int .i64 0, .int .i64 0, .int .i64 0]) 8 64 Tryz.underlying60 hi hz0 hz1 hz2 rfl (by decide) v n (cellsC L) (by rfl) (HOW.out.alloc _) ⟨w1.heap.size, 0, none⟩ 1 1 (arr8 M).toList (by rfl) (by rfl) (World.news_of_block (cs := arr8 M) (t := 63) (fr := (0, 0)) (heap_alloc_new w1 _)) (by simp [arr8, Value.oneCell']) (by omega) (by unfold maxLen; omega) (by omega) (by have := HKs.out; simp; omega) (w1.heap.size + 1) (by simp) ?_; intro gg cap1 w2 hown1 hgrow hat hlt1; obtain ⟨bO, z8, z0, z1, z2, z3, z4, z5, z6, z7, fz⟩ := HKeep.out _ w2 ((below_alloc1 w1 _).drew) hgrow)
  all_goals
    have HPo : Hid (PileC (w2.setCell ⟨O, 0, none⟩ (.slice (some ⟨gg, 0, none⟩) (n + 1) cap1)) O K (.slice (some ⟨gg, 0, none⟩) (n + 1) cap1) (L ++ [M]) ∧ GrewC O w (w2.setCell ⟨O, 0, none⟩ (.slice (some ⟨gg, 0, none⟩) (n + 1) cap1)) v (.slice (some ⟨gg, 0, none⟩) (n + 1) cap1)) := leaf_post HG1.out ((below_alloc1 w1 _).drew) hgrow bO hown1 hat hp.lt HNL.out
    clear hgrow bO hown1 hat hlt1 z8 z0 z1 z2 z3 z4 z5 z6 z7 fz
    go_wp2
    (try simp only [Exit.inBlock, Exit.then])
    refine bodyPost_ret (results_none rfl _ _ _) rfl ?_
    exact ⟨rfl, _, HPo.out.1, HPo.out.2⟩

set_option maxHeartbeats 8000000 in
theorem refAll_step (r : Nat) (hr : r ≤ 7) : ∀ (u : Nat) (N : Nat → Int) (O K : Nat) (v : Value) (L : List (Nat → Int)) (w : World), u ≤ 6 → PileC w O K v L → K ≤ w.heap.size → L.length + (allF r u N).length ≤ 1716 →
    Calls Tryz.prog 47 #[.int .i64 u, .int .i64 ((7 - r : Nat) : Int), .agg #[.int .i64 (N 0), .int .i64 (N 1), .int .i64 (N 2), .int .i64 (N 3), .int .i64 (N 4), .int .i64 (N 5), .int .i64 (N 6), .int .i64 (N 7)], .pointer (some ⟨O, 0, none⟩)] w fun e w' => e = .returned (.tuple #[]) ∧ ∃ v', PileC w' O K v' (L ++ allF r u N) ∧ GrewC O w w' v v' := by
  induction r with
  | zero =>
    intro u N O K v L w _ hp hK hL
    exact all_leaf u N _ O K v L w rfl hp hK hL
  | succ r ih =>
    intro u N O K v L w hu hp hK hL
    obtain ⟨f, hf⟩ : ∃ f, f = 7 - (r + 1) := ⟨_, rfl⟩
    have hf7 : f < 7 := by omega
    have HIH : Hid (∀ (k : Nat) (M : Nat → Int) (v' : Value) (L' : List (Nat → Int)) (W : World), k ≤ u → PileC W O K v' L' → K ≤ W.heap.size → L'.length + (allF r (u - k) M).length ≤ 1716 →
        Calls Tryz.prog 47 #[.int .i64 ((u : Int) - k), .int .i64 ((f : Int) + 1), .agg #[.int .i64 (M 0), .int .i64 (M 1), .int .i64 (M 2), .int .i64 (M 3), .int .i64 (M 4), .int .i64 (M 5), .int .i64 (M 6), .int .i64 (M 7)], .pointer (some ⟨O, 0, none⟩)] W fun e w' => e = .returned (.tuple #[]) ∧ ∃ v'', PileC w' O K v'' (L' ++ allF r (u - k) M) ∧ GrewC O W w' v' v'') := fun k M v' L' W hk h1 h2 h3 => by
      have h := ih (by omega) (u - k) M O K v' L' W (by omega) h1 h2 h3
      have e1 : ((u - k : Nat) : Int) = (u : Int) - k := by omega
      have e2 : ((7 - r : Nat) : Int) = (f : Int) + 1 := by omega
      rw [e1, e2] at h
      exact h
    have HLn : Hid (∀ k, k ≤ u + 1 → (L ++ allTo r u N k).length ≤ 1716) := fun k hk => by
      have := len_allTo_le r u N hk
      rw [List.length_append]; omega
    have HAS : Hid (∀ k, L ++ allTo r u N (k + 1) = (L ++ allTo r u N k) ++ allF r (u - k) (putN N f k)) := fun k => by
      rw [allTo_succ, List.append_assoc, show 6 - r = f by omega]
    have HAE : Hid (L ++ allTo r u N (u + 1) = L ++ allF (r + 1) u N) := by unfold Hid; rw [allTo_all]
    have HA0 : Hid (L ++ allTo r u N 0 = L) := by unfold Hid; rw [allTo_zero, List.append_nil]
    obtain ⟨w1, hw1⟩ : ∃ w1, w1 = w.alloc (.cells #[.int .i64 (N 0), .int .i64 (N 1), .int .i64 (N 2), .int .i64 (N 3), .int .i64 (N 4), .int .i64 (N 5), .int .i64 (N 6), .int .i64 (N 7)] 63) := ⟨_, rfl⟩
    have HP1 : Hid (PileC w1 O K v L) := by unfold Hid; rw [hw1]; exact hp.alloc _
    have HG1 : Hid (GrewC O w w1 v v) := by unfold Hid; rw [hw1]; exact GrewC.alloc O w _ v
    have HN1 : Hid (Blk w1 w.heap.size 63 (arr8 N)) := by unfold Hid; rw [hw1]; exact Blk.new _ _ _
    have HOl : Hid (O < w.heap.size) := hp.box.lt
    have HKs : Hid (K ≤ w.heap.size) := hK
    have HvB : Hid (∀ g, v.ownBlock = some g → g < w.heap.size) := fun g e => (hp.own.lt g e).2
    have hf' : ((7 - (r + 1) : Nat) : Int) = (f : Int) := by omega
    rw [hf']
    clear ih hf hf' hp hL hK hr
    have hne : ¬ ((f : Int) = 7) := by omega
    go_enter Tryz.func47, Tryz.ntmps47
    go_wp2
    rw [← hw1]
    clear hw1
    (first | rw [show ((f : Int) == 7) = false by simpa using hne] | rw [show decide ((f : Int) = 7) = false by simpa using hne])
    go_loopw [8] (fun i wr => ∃ (k : Nat) (v' : Value) (x : Int), k ≤ u + 1 ∧ i = .int .i64 k ∧ PileC wr O K v' (L ++ allTo r u N k) ∧ GrewC O w wr v v' ∧ (v'.ownBlock ≠ some w.heap.size) ∧ Blk wr w.heap.size 63 (arr8 (putN N f x))) (fun i _ => u + 1 - (intOf i).toNat)
    case atStart =>
      refine ⟨0, v, N f, by omega, rfl, ?_, HG1.out, fun e => by have := HvB.out _ e; omega, ?_⟩
      · rw [HA0.out]; exact HP1.out
      · have e : putN N f (N f) = N := by funext g; unfold putN; split <;> simp_all
        rw [e]; exact HN1.out
    case round =>
      obtain ⟨k, v', x, hk, rfl, hp1, hg1, hv1, hn1⟩ := hrel
      have HP2 : Hid (PileC wr O K v' (L ++ allTo r u N k)) := hp1
      have HG2 : Hid (GrewC O w wr v v') := hg1
      have HV2 : Hid (v'.ownBlock ≠ some w.heap.size) := hv1
      have HN2 : Hid (Blk wr w.heap.size 63 (arr8 (putN N f x))) := hn1
      clear hp1 hg1 hv1 hn1
      by_cases hlt : k ≤ u
      · have hltz : (k : Int) ≤ (u : Int) := by omega
        have c : wr.cell? ⟨w.heap.size, f, none⟩ = some (.int .i64 x) := by rw [HN2.out.cell, arr8_get _ (by omega), putN_same]
        have z := HN2.out.frozen f
        obtain ⟨M, hM⟩ : ∃ M, M = putN N f k := ⟨_, rfl⟩
        obtain ⟨w2, hw2⟩ : ∃ W, W = wr.setCell ⟨w.heap.size, f, none⟩ (.int .i64 k) := ⟨_, rfl⟩
        have HN3 : Hid (Blk w2 w.heap.size 63 (arr8 M)) := by
          unfold Hid; rw [hw2, hM]
          have := HN2.out.set f (.int .i64 k)
          have e : (arr8 (putN N f x)).setIfInBounds f (.int .i64 k) = arr8 (putN N f k) := by
            rcases eight (show f < 8 by omega) with rfl | rfl | rfl | rfl | rfl | rfl | rfl | rfl <;> simp [arr8, putN]
          rw [e] at this
          exact this
        have HP3 : Hid (PileC w2 O K v' (L ++ allTo r u N k)) := by unfold Hid; rw [hw2]; exact HP2.out.far (by have := HOl.out; omega) HV2.out _ _
        have HG3 : Hid (GrewC O w w2 v v') := by unfold Hid; rw [hw2]; exact HG2.out.set (Nat.le_refl _) _ _
        have HC : Hid (Calls Tryz.prog 47 #[.int .i64 ((u : Int) - k), .int .i64 ((f : Int) + 1), .agg #[.int .i64 (M 0), .int .i64 (M 1), .int .i64 (M 2), .int .i64 (M 3), .int .i64 (M 4), .int .i64 (M 5), .int .i64 (M 6), .int .i64 (M 7)], .pointer (some ⟨O, 0, none⟩)] w2 fun e w' => e = .returned (.tuple #[]) ∧ ∃ v'', PileC w' O K v'' (L ++ allTo r u N (k + 1)) ∧ GrewC O w w' v v'' ∧ v''.ownBlock ≠ some w.heap.size ∧ Blk w' w.heap.size 63 (arr8 (putN N f k))) := by
          refine (HIH.out k M v' (L ++ allTo r u N k) w2 hlt HP3.out (Nat.le_trans HKs.out HG3.out.size) ?_).mono fun e w' h => ?_
          · have h1 := HLn.out (k + 1) (by omega)
            rw [HAS.out k, List.length_append] at h1
            rw [hM]; exact h1
          · obtain ⟨he, v'', h1, h2⟩ := h
            have hl := HN3.out.lt
            refine ⟨he, v'', ?_, HG3.out.trans h2, ?_, ?_⟩
            · rw [HAS.out k, ← hM]; exact h1
            · rcases h2.home with e | ⟨g, e, hg⟩
              · rw [e]; exact HV2.out
              · rw [e]; intro e'; have := Option.some.inj e'; omega
            · unfold Blk
              rw [h2.rest _ hl (by have := HOl.out; omega) HV2.out, ← hM]; exact HN3.out
        clear hM
        obtain ⟨q0, q1, q2, q3, q4, q5, q6, q7⟩ := HN3.out.cells8
        go_upto_region 8 with fail
        rw [← hw2]
        clear hw2 c z
        go_wp2_with fail
        go_at_call 47
        refine HC.out.mono ?_
        rintro e w3 ⟨rfl, v3, h1, h2, h3, h4⟩
        have HR : Hid (PileC w3 O K v3 (L ++ allTo r u N (k + 1)) ∧ GrewC O w w3 v v3 ∧ v3.ownBlock ≠ some w.heap.size ∧ Blk w3 w.heap.size 63 (arr8 (putN N f k))) := ⟨h1, h2, h3, h4⟩
        clear h1 h2 h3 h4 q0 q1 q2 q3 q4 q5 q6 q7
        go_wp2
        go_roundw
        case rel => exact ⟨k + 1, v3, k, by omega, by go_num, HR.out.1, HR.out.2.1, HR.out.2.2.1, HR.out.2.2.2⟩
        case measure => simp [intOf]; omega
      · obtain rfl : k = u + 1 := by omega
        have hltz : ¬ (((u + 1 : Nat) : Int) ≤ (u : Int)) := by omega
        have HR : Hid (PileC wr O K v' (L ++ allF (r + 1) u N)) := by
          unfold Hid; rw [← HAE.out]; exact HP2.out
        go_wp2
        (try simp only [Exit.inBlock, Exit.then])
        refine bodyPost_end (results_none rfl _ _ _) rfl ?_
        exact ⟨rfl, v', HR.out, HG2.out⟩
end Go.Proofs.YtedgbohobgnedaeGreatDoor
namespace Go.Proofs.YtedgbohobgnedaeGreatDoor
open Go.ChangeShapes Go.WideShapes Go.ChangeAt Go.RowKit
set_option maxRecDepth 100000

/-- counts lie at a place. -/
def CntAt (w : World) (b off : Nat) (N : Nat → Int) : Prop := ∀ f, f < 8 → w.cell? ⟨b, off + f, none⟩ = some (.int .i64 (N f))
/-- the slice v reads, in the world w, as these counts. -/
def Reads8 (w : World) (v : Value) (L : List (Nat → Int)) : Prop :=
  (∃ ao cap, v = .slice ao 0 cap ∧ L = []) ∨ (∃ b off cap, v = .slice (some ⟨b, off, none⟩) L.length cap ∧ b < w.heap.size ∧ 0 < L.length ∧ (L.length ≤ 9223372036854775807 ∧ L.length ≤ cap) ∧ ∀ i N, L[i]? = some N → CntAt w b (off + i * 8) N)
theorem Reads8.below {w w' : World} {v : Value} {L : List (Nat → Int)} (h : Reads8 w v L) (hb : Below w.heap.size w w') : Reads8 w' v L := by
  rcases h with h | ⟨b, off, cap, h1, h2, h3, h4, h5⟩
  · exact Or.inl h
  · exact Or.inr ⟨b, off, cap, h1, Nat.lt_of_lt_of_le h2 hb.size, h3, h4, fun i N hN f hf => by rw [hb.cell h2]; exact h5 i N hN f hf⟩
theorem Reads8.slice {w : World} {v : Value} {L : List (Nat → Int)} (h : Reads8 w v L) : ∃ ao cap, v = .slice ao L.length cap ∧ L.length ≤ 9223372036854775807 := by
  rcases h with ⟨ao, cap, rfl, rfl⟩ | ⟨b, off, cap, rfl, _, _, h, _⟩
  · exact ⟨ao, cap, rfl, by decide⟩
  · exact ⟨_, cap, rfl, h.1⟩
theorem cellsC_at (L : List (Nat → Int)) : ∀ (i : Nat) (N : Nat → Int), L[i]? = some N → ∀ f, f < 8 → (cellsC L)[i * 8 + f]? = some (.int .i64 (N f)) := by
  induction L with
  | nil => intro i N h; simp at h
  | cons M L ih =>
    intro i N h f hf
    have e : cellsC (M :: L) = (arr8 M).toList ++ cellsC L := by unfold cellsC; rw [List.flatMap_cons]
    have hl : (arr8 M).toList.length = 8 := rfl
    rw [e]
    cases i with
    | zero =>
      obtain rfl : M = N := by simpa using h
      rw [List.getElem?_append_left (by omega), show 0 * 8 + f = f by omega]
      have := arr8_get M hf
      rw [← Array.getElem?_toList] at this
      exact this
    | succ i =>
      rw [List.getElem?_append_right (by omega), hl, show (i + 1) * 8 + f - 8 = i * 8 + f by omega]
      exact ih i N (by simpa using h) f hf
theorem PileC.reads {w : World} {O K : Nat} {v : Value} {L : List (Nat → Int)} (h : PileC w O K v L) (hL : L.length ≤ 1716) : Reads8 w v L := by
  rcases h.own.2 with ⟨rfl, h0⟩ | ⟨g, cap, cur, rfl, hb, hg, hc, hm, hs, ht⟩
  · exact Or.inl ⟨none, 0, rfl, List.eq_nil_of_length_eq_zero h0⟩
  · rcases Nat.eq_zero_or_pos L.length with h0 | h0
    · have e : L = [] := List.eq_nil_of_length_eq_zero h0
      subst e
      exact Or.inl ⟨_, _, rfl, rfl⟩
    · refine Or.inr ⟨g, 0, cap, rfl, (Array.getElem?_eq_some_iff.1 hg).1, h0, ⟨by omega, hc⟩, fun i N hN f hf => ?_⟩
      have hi : i < L.length := (List.getElem?_eq_some_iff.1 hN).1
      rw [cell_of_row w g _ cur _ (0, 0) hg]
      have hx := cellsC_at L i N hN f hf
      rw [← ht, List.getElem?_take_of_lt (by omega)] at hx
      rw [show 0 + i * 8 + f = i * 8 + f by omega, ← Array.getElem?_toList]
      exact hx

set_option maxHeartbeats 4000000 in
theorem refAll_any (u : Nat) (hu : u ≤ 6) (w : World) :
    Calls Tryz.prog 22 #[.int .i64 u] w fun e w' => ∃ v, e = .returned v ∧ Reads8 w' v (everyC u) ∧ (∀ g, v.ownBlock = some g → w.heap.size ≤ g) ∧ Below w.heap.size w w' := by
  obtain ⟨w1, hw1⟩ : ∃ w1, w1 = (w.alloc (.cells #[.slice none 0 0] 60)).alloc (.cells #[.int .i64 0, .int .i64 0, .int .i64 0, .int .i64 0, .int .i64 0, .int .i64 0, .int .i64 0, .int .i64 0] 63) := ⟨_, rfl⟩
  have HB1 : Hid (Below w.heap.size w w1) := by unfold Hid; rw [hw1]; exact (below_alloc1 _ _).alloc (by simp) _
  have HO1 : Hid (Blk w1 w.heap.size 60 #[.slice none 0 0]) := by unfold Hid; rw [hw1]; exact (Blk.new _ _ _).old _
  have HN1 : Hid (Blk w1 (w.heap.size + 1) 63 #[.int .i64 0, .int .i64 0, .int .i64 0, .int .i64 0, .int .i64 0, .int .i64 0, .int .i64 0, .int .i64 0]) := by
    unfold Hid; rw [hw1]
    have := Blk.new (w.alloc (.cells #[.slice none 0 0] 60)) 63 #[.int .i64 0, .int .i64 0, .int .i64 0, .int .i64 0, .int .i64 0, .int .i64 0, .int .i64 0, .int .i64 0]
    simp only [World.size_alloc] at this
    exact this
  have HS1 : Hid (w1.heap.size = w.heap.size + 2) := by unfold Hid; rw [hw1]; simp
  have HP : Hid (PileC w1 w.heap.size (w.heap.size + 1) (.slice none 0 0) []) := ⟨HO1.out, World.ownsRow_nil _ _ _ _, by omega⟩
  have HC : Hid (Calls Tryz.prog 47 #[.int .i64 u, .int .i64 0, .agg #[.int .i64 0, .int .i64 0, .int .i64 0, .int .i64 0, .int .i64 0, .int .i64 0, .int .i64 0, .int .i64 0], .pointer (some ⟨w.heap.size, 0, none⟩)] w1 fun e w' => e = .returned (.tuple #[]) ∧ ∃ v, w'.cell? ⟨w.heap.size, 0, none⟩ = some v ∧ Reads8 w' v (everyC u) ∧ (∀ g, v.ownBlock = some g → w.heap.size ≤ g) ∧ Below w.heap.size w w') := by
    have hl := length_everyC hu
    refine Calls.mono (refAll_step 7 (by omega) u (fun _ => 0) w.heap.size (w.heap.size + 1) (.slice none 0 0) [] w1 hu HP.out (by rw [HS1.out]; omega) (by simpa [everyC] using hl)) fun e w' h => ?_
    obtain ⟨he, v, h1, h2⟩ := h
    rw [List.nil_append] at h1
    refine ⟨he, v, h1.box.cell 0, h1.reads hl, fun g e => by have := (h1.own.lt g e).1; omega, HB1.out.trans (h2.below HB1.out.size (Nat.le_refl _) fun g e => by cases e)⟩
  clear HP
  have q0 : w1.cell? ⟨w.heap.size + 1, 0, none⟩ = some (.int .i64 0) := HN1.out.cell 0
  have q1 : w1.cell? ⟨w.heap.size + 1, 1, none⟩ = some (.int .i64 0) := HN1.out.cell 1
  have q2 : w1.cell? ⟨w.heap.size + 1, 2, none⟩ = some (.int .i64 0) := HN1.out.cell 2
  have q3 : w1.cell? ⟨w.heap.size + 1, 3, none⟩ = some (.int .i64 0) := HN1.out.cell 3
  have q4 : w1.cell? ⟨w.heap.size + 1, 4, none⟩ = some (.int .i64 0) := HN1.out.cell 4
  have q5 : w1.cell? ⟨w.heap.size + 1, 5, none⟩ = some (.int .i64 0) := HN1.out.cell 5
  have q6 : w1.cell? ⟨w.heap.size + 1, 6, none⟩ = some (.int .i64 0) := HN1.out.cell 6
  have q7 : w1.cell? ⟨w.heap.size + 1, 7, none⟩ = some (.int .i64 0) := HN1.out.cell 7
  go_enter Tryz.func22, Tryz.ntmps22
  go_upto_region 3 with fail
  rw [← hw1]
  clear hw1
  go_wp2_with fail
  go_at_call 47
  refine HC.out.mono ?_
  rintro e w2 ⟨rfl, v, hc, hr, hg, hb⟩
  have HR : Hid (Reads8 w2 v (everyC u) ∧ (∀ g, v.ownBlock = some g → w.heap.size ≤ g) ∧ Below w.heap.size w w2) := ⟨hr, hg, hb⟩
  clear hr hg hb q0 q1 q2 q3 q4 q5 q6 q7
  go_wp2
  go_ret
  exact ⟨_, rfl, HR.out.1, HR.out.2.1, HR.out.2.2⟩
end Go.Proofs.YtedgbohobgnedaeGreatDoor

namespace Go.Proofs.YtedgbohobgnedaeGreatDoor
open Go.ChangeShapes Go.WideShapes Go.ChangeAt Go.RowKit
set_option maxRecDepth 100000

set_option linter.unusedVariables false in
set_option maxHeartbeats 4000000 in
theorem refAtom_1 (n : Int) (sao tao : Option Addr) (sl scap tl tcap : Nat) (s t : List Int) (hl : tl = t.length) (w : World)
    (hS : ∀ W, Below w.heap.size w W → Calls Tryz.prog 59 #[.slice sao sl scap] W fun e w' => e = .returned (.int .i64 (faultN s)) ∧ W = w')
    (hT : ∀ W, Below w.heap.size w W → Calls Tryz.prog 59 #[.slice tao tl tcap] W fun e w' => e = .returned (.int .i64 (faultN t)) ∧ W = w') :
    Calls Tryz.prog 33 #[.agg #[.int .i64 1, .slice sao sl scap, .slice tao tl tcap, .int .i64 n]] w fun e w' => e = .returned (.int .i64 (atomFault 1 s t n)) ∧ Below w.heap.size w w' := by
  obtain ⟨w1, hw1⟩ : ∃ w1, w1 = w.alloc (.cells #[.int .i64 1, .slice sao sl scap, .slice tao tl tcap, .int .i64 n] 43) := ⟨_, rfl⟩
  have HB1 : Hid (Below w.heap.size w w1) := by unfold Hid; rw [hw1]; exact below_alloc1 w _
  obtain ⟨x0, x1, x2, x3⟩ : w1.cell? ⟨w.heap.size, 0, none⟩ = some (.int .i64 1) ∧ w1.cell? ⟨w.heap.size, 1, none⟩ = some (.slice sao sl scap) ∧ w1.cell? ⟨w.heap.size, 2, none⟩ = some (.slice tao tl tcap) ∧ w1.cell? ⟨w.heap.size, 3, none⟩ = some (.int .i64 n) := by rw [hw1]; simp
  have HS : Hid (Calls Tryz.prog 59 #[.slice sao sl scap] w1 fun e w' => e = .returned (.int .i64 (faultN s)) ∧ w1 = w') := hS w1 HB1.out
  have HT : Hid (Calls Tryz.prog 59 #[.slice tao tl tcap] w1 fun e w' => e = .returned (.int .i64 (faultN t)) ∧ w1 = w') := hT w1 HB1.out
  have HL : Hid (tl = t.length) := hl
  clear hS hT hl
  have hk : (1 : Int) ≤ 1 ∧ (1 : Int) ≤ 5 := by decide
  obtain ⟨F, hF⟩ : ∃ F, F = atomFault 1 s t n := ⟨_, rfl⟩
  rw [← hF]
  by_cases hs : faultN s = 0
  · rw [hs] at HS
    by_cases ht : faultN t = 0
    · rw [ht] at HT
      have hsf : secondFault 1 t = 0 := by unfold secondFault; rw [if_pos (by decide), ht]
      clear ht
      rw [atomFault_third hk hs hsf] at hF
      have hmo : mostN 1 = 0 := by decide
      rw [hmo] at hF
      clear hmo hs hsf
      by_cases h1 : n < -20
      · rw [if_neg (by omega)] at hF
        subst hF
        go_enter Tryz.func33, Tryz.ntmps33
        go_wp2_with fail
        rw [← hw1]
        clear hw1
        go_at_call 59
        refine HS.out.mono ?_
        rintro e w' ⟨rfl, rfl⟩
        go_wp2_with fail
        go_at_call 59
        refine HT.out.mono ?_
        rintro e w' ⟨rfl, rfl⟩
        go_wp2
        go_ret
        exact ⟨rfl, HB1.out⟩
      by_cases h2 : 20 < n
      · rw [if_neg (by omega)] at hF
        subst hF
        go_enter Tryz.func33, Tryz.ntmps33
        go_wp2_with fail
        rw [← hw1]
        clear hw1
        go_at_call 59
        refine HS.out.mono ?_
        rintro e w' ⟨rfl, rfl⟩
        go_wp2_with fail
        go_at_call 59
        refine HT.out.mono ?_
        rintro e w' ⟨rfl, rfl⟩
        go_wp2
        go_ret
        exact ⟨rfl, HB1.out⟩
      by_cases h3 : n = 0
      · rw [if_pos (by omega)] at hF
        subst hF h3
        go_enter Tryz.func33, Tryz.ntmps33
        go_wp2_with fail
        rw [← hw1]
        clear hw1
        go_at_call 59
        refine HS.out.mono ?_
        rintro e w' ⟨rfl, rfl⟩
        go_wp2_with fail
        go_at_call 59
        refine HT.out.mono ?_
        rintro e w' ⟨rfl, rfl⟩
        go_wp2
        go_ret
        exact ⟨rfl, HB1.out⟩
      · have h3' : (n != 0) = true := by simpa using h3
        rw [if_neg (by omega)] at hF
        subst hF
        go_enter Tryz.func33, Tryz.ntmps33
        go_wp2_with fail
        rw [← hw1]
        clear hw1
        go_at_call 59
        refine HS.out.mono ?_
        rintro e w' ⟨rfl, rfl⟩
        go_wp2_with fail
        go_at_call 59
        refine HT.out.mono ?_
        rintro e w' ⟨rfl, rfl⟩
        go_wp2
        go_ret
        exact ⟨rfl, HB1.out⟩
    · have hsf : secondFault 1 t = faultN t := by unfold secondFault; rw [if_pos (by decide)]
      rw [atomFault_second hk hs (by rw [hsf]; exact ht), hsf] at hF
      rw [← hF] at HT ht
      have ht' : (F != 0) = true := by simpa using ht
      clear hF ht hsf hs
      go_enter Tryz.func33, Tryz.ntmps33
      go_wp2_with fail
      rw [← hw1]
      clear hw1
      go_at_call 59
      refine HS.out.mono ?_
      rintro e w' ⟨rfl, rfl⟩
      go_wp2_with fail
      go_at_call 59
      refine HT.out.mono ?_
      rintro e w' ⟨rfl, rfl⟩
      go_wp2
      go_ret
      exact ⟨rfl, HB1.out⟩
  · rw [atomFault_first hk hs] at hF
    rw [← hF] at HS hs
    have hs' : (F != 0) = true := by simpa using hs
    clear hF hs
    go_enter Tryz.func33, Tryz.ntmps33
    go_wp2_with fail
    rw [← hw1]
    clear hw1
    go_at_call 59
    refine HS.out.mono ?_
    rintro e w' ⟨rfl, rfl⟩
    go_wp2
    go_ret
    exact ⟨rfl, HB1.out⟩

set_option linter.unusedVariables false in
set_option maxHeartbeats 4000000 in
theorem refAtom_2 (n : Int) (sao tao : Option Addr) (sl scap tl tcap : Nat) (s t : List Int) (hl : tl = t.length) (w : World)
    (hS : ∀ W, Below w.heap.size w W → Calls Tryz.prog 59 #[.slice sao sl scap] W fun e w' => e = .returned (.int .i64 (faultN s)) ∧ W = w')
    (hT : ∀ W, Below w.heap.size w W → Calls Tryz.prog 59 #[.slice tao tl tcap] W fun e w' => e = .returned (.int .i64 (faultN t)) ∧ W = w') :
    Calls Tryz.prog 33 #[.agg #[.int .i64 2, .slice sao sl scap, .slice tao tl tcap, .int .i64 n]] w fun e w' => e = .returned (.int .i64 (atomFault 2 s t n)) ∧ Below w.heap.size w w' := by
  obtain ⟨w1, hw1⟩ : ∃ w1, w1 = w.alloc (.cells #[.int .i64 2, .slice sao sl scap, .slice tao tl tcap, .int .i64 n] 43) := ⟨_, rfl⟩
  have HB1 : Hid (Below w.heap.size w w1) := by unfold Hid; rw [hw1]; exact below_alloc1 w _
  obtain ⟨x0, x1, x2, x3⟩ : w1.cell? ⟨w.heap.size, 0, none⟩ = some (.int .i64 2) ∧ w1.cell? ⟨w.heap.size, 1, none⟩ = some (.slice sao sl scap) ∧ w1.cell? ⟨w.heap.size, 2, none⟩ = some (.slice tao tl tcap) ∧ w1.cell? ⟨w.heap.size, 3, none⟩ = some (.int .i64 n) := by rw [hw1]; simp
  have HS : Hid (Calls Tryz.prog 59 #[.slice sao sl scap] w1 fun e w' => e = .returned (.int .i64 (faultN s)) ∧ w1 = w') := hS w1 HB1.out
  have HT : Hid (Calls Tryz.prog 59 #[.slice tao tl tcap] w1 fun e w' => e = .returned (.int .i64 (faultN t)) ∧ w1 = w') := hT w1 HB1.out
  have HL : Hid (tl = t.length) := hl
  clear hS hT hl
  have hk : (1 : Int) ≤ 2 ∧ (2 : Int) ≤ 5 := by decide
  obtain ⟨F, hF⟩ : ∃ F, F = atomFault 2 s t n := ⟨_, rfl⟩
  rw [← hF]
  by_cases hs : faultN s = 0
  · rw [hs] at HS
    by_cases ht : faultN t = 0
    · rw [ht] at HT
      have hsf : secondFault 2 t = 0 := by unfold secondFault; rw [if_pos (by decide), ht]
      clear ht
      rw [atomFault_third hk hs hsf] at hF
      have hmo : mostN 2 = 0 := by decide
      rw [hmo] at hF
      clear hmo hs hsf
      by_cases h1 : n < -20
      · rw [if_neg (by omega)] at hF
        subst hF
        go_enter Tryz.func33, Tryz.ntmps33
        go_wp2_with fail
        rw [← hw1]
        clear hw1
        go_at_call 59
        refine HS.out.mono ?_
        rintro e w' ⟨rfl, rfl⟩
        go_wp2_with fail
        go_at_call 59
        refine HT.out.mono ?_
        rintro e w' ⟨rfl, rfl⟩
        go_wp2
        go_ret
        exact ⟨rfl, HB1.out⟩
      by_cases h2 : 20 < n
      · rw [if_neg (by omega)] at hF
        subst hF
        go_enter Tryz.func33, Tryz.ntmps33
        go_wp2_with fail
        rw [← hw1]
        clear hw1
        go_at_call 59
        refine HS.out.mono ?_
        rintro e w' ⟨rfl, rfl⟩
        go_wp2_with fail
        go_at_call 59
        refine HT.out.mono ?_
        rintro e w' ⟨rfl, rfl⟩
        go_wp2
        go_ret
        exact ⟨rfl, HB1.out⟩
      by_cases h3 : n = 0
      · rw [if_pos (by omega)] at hF
        subst hF h3
        go_enter Tryz.func33, Tryz.ntmps33
        go_wp2_with fail
        rw [← hw1]
        clear hw1
        go_at_call 59
        refine HS.out.mono ?_
        rintro e w' ⟨rfl, rfl⟩
        go_wp2_with fail
        go_at_call 59
        refine HT.out.mono ?_
        rintro e w' ⟨rfl, rfl⟩
        go_wp2
        go_ret
        exact ⟨rfl, HB1.out⟩
      · have h3' : (n != 0) = true := by simpa using h3
        rw [if_neg (by omega)] at hF
        subst hF
        go_enter Tryz.func33, Tryz.ntmps33
        go_wp2_with fail
        rw [← hw1]
        clear hw1
        go_at_call 59
        refine HS.out.mono ?_
        rintro e w' ⟨rfl, rfl⟩
        go_wp2_with fail
        go_at_call 59
        refine HT.out.mono ?_
        rintro e w' ⟨rfl, rfl⟩
        go_wp2
        go_ret
        exact ⟨rfl, HB1.out⟩
    · have hsf : secondFault 2 t = faultN t := by unfold secondFault; rw [if_pos (by decide)]
      rw [atomFault_second hk hs (by rw [hsf]; exact ht), hsf] at hF
      rw [← hF] at HT ht
      have ht' : (F != 0) = true := by simpa using ht
      clear hF ht hsf hs
      go_enter Tryz.func33, Tryz.ntmps33
      go_wp2_with fail
      rw [← hw1]
      clear hw1
      go_at_call 59
      refine HS.out.mono ?_
      rintro e w' ⟨rfl, rfl⟩
      go_wp2_with fail
      go_at_call 59
      refine HT.out.mono ?_
      rintro e w' ⟨rfl, rfl⟩
      go_wp2
      go_ret
      exact ⟨rfl, HB1.out⟩
  · rw [atomFault_first hk hs] at hF
    rw [← hF] at HS hs
    have hs' : (F != 0) = true := by simpa using hs
    clear hF hs
    go_enter Tryz.func33, Tryz.ntmps33
    go_wp2_with fail
    rw [← hw1]
    clear hw1
    go_at_call 59
    refine HS.out.mono ?_
    rintro e w' ⟨rfl, rfl⟩
    go_wp2
    go_ret
    exact ⟨rfl, HB1.out⟩

set_option linter.unusedVariables false in
set_option maxHeartbeats 4000000 in
theorem refAtom_3 (n : Int) (sao tao : Option Addr) (sl scap tl tcap : Nat) (s t : List Int) (hl : tl = t.length) (w : World)
    (hS : ∀ W, Below w.heap.size w W → Calls Tryz.prog 59 #[.slice sao sl scap] W fun e w' => e = .returned (.int .i64 (faultN s)) ∧ W = w')
    (hT : ∀ W, Below w.heap.size w W → Calls Tryz.prog 59 #[.slice tao tl tcap] W fun e w' => e = .returned (.int .i64 (faultN t)) ∧ W = w') :
    Calls Tryz.prog 33 #[.agg #[.int .i64 3, .slice sao sl scap, .slice tao tl tcap, .int .i64 n]] w fun e w' => e = .returned (.int .i64 (atomFault 3 s t n)) ∧ Below w.heap.size w w' := by
  obtain ⟨w1, hw1⟩ : ∃ w1, w1 = w.alloc (.cells #[.int .i64 3, .slice sao sl scap, .slice tao tl tcap, .int .i64 n] 43) := ⟨_, rfl⟩
  have HB1 : Hid (Below w.heap.size w w1) := by unfold Hid; rw [hw1]; exact below_alloc1 w _
  obtain ⟨x0, x1, x2, x3⟩ : w1.cell? ⟨w.heap.size, 0, none⟩ = some (.int .i64 3) ∧ w1.cell? ⟨w.heap.size, 1, none⟩ = some (.slice sao sl scap) ∧ w1.cell? ⟨w.heap.size, 2, none⟩ = some (.slice tao tl tcap) ∧ w1.cell? ⟨w.heap.size, 3, none⟩ = some (.int .i64 n) := by rw [hw1]; simp
  have HS : Hid (Calls Tryz.prog 59 #[.slice sao sl scap] w1 fun e w' => e = .returned (.int .i64 (faultN s)) ∧ w1 = w') := hS w1 HB1.out
  have HT : Hid (Calls Tryz.prog 59 #[.slice tao tl tcap] w1 fun e w' => e = .returned (.int .i64 (faultN t)) ∧ w1 = w') := hT w1 HB1.out
  have HL : Hid (tl = t.length) := hl
  clear hS hT hl
  have hk : (1 : Int) ≤ 3 ∧ (3 : Int) ≤ 5 := by decide
  obtain ⟨F, hF⟩ : ∃ F, F = atomFault 3 s t n := ⟨_, rfl⟩
  rw [← hF]
  by_cases hs : faultN s = 0
  · rw [hs] at HS
    by_cases ht : 0 < t.length
    · have hsf : secondFault 3 t = 3 := by unfold secondFault; rw [if_neg (by decide), if_pos ht]
      rw [atomFault_second hk hs (by rw [hsf]; decide), hsf] at hF
      rw [← HL.out] at ht
      subst hF
      clear hsf hs
      go_enter Tryz.func33, Tryz.ntmps33
      go_wp2_with fail
      rw [← hw1]
      clear hw1
      go_at_call 59
      refine HS.out.mono ?_
      rintro e w' ⟨rfl, rfl⟩
      go_wp2
      go_ret
      exact ⟨rfl, HB1.out⟩
    · have hsf : secondFault 3 t = 0 := by unfold secondFault; rw [if_neg (by decide), if_neg ht]
      obtain rfl : tl = 0 := by have := HL.out; omega
      clear ht
      rw [atomFault_third hk hs hsf] at hF
      have hmo : mostN 3 = 20 := by decide
      rw [hmo] at hF
      clear hmo hs hsf
      by_cases h1 : n < -20
      · rw [if_neg (by omega)] at hF
        subst hF
        go_enter Tryz.func33, Tryz.ntmps33
        go_wp2_with fail
        rw [← hw1]
        clear hw1
        go_at_call 59
        refine HS.out.mono ?_
        rintro e w' ⟨rfl, rfl⟩
        go_wp2
        go_ret
        exact ⟨rfl, HB1.out⟩
      by_cases h2 : 20 < n
      · rw [if_neg (by omega)] at hF
        subst hF
        go_enter Tryz.func33, Tryz.ntmps33
        go_wp2_with fail
        rw [← hw1]
        clear hw1
        go_at_call 59
        refine HS.out.mono ?_
        rintro e w' ⟨rfl, rfl⟩
        go_wp2
        go_ret
        exact ⟨rfl, HB1.out⟩
      rw [if_pos (by omega)] at hF
      subst hF
      go_enter Tryz.func33, Tryz.ntmps33
      go_wp2_with fail
      rw [← hw1]
      clear hw1
      go_at_call 59
      refine HS.out.mono ?_
      rintro e w' ⟨rfl, rfl⟩
      go_wp2
      go_ret
      exact ⟨rfl, HB1.out⟩
  · rw [atomFault_first hk hs] at hF
    rw [← hF] at HS hs
    have hs' : (F != 0) = true := by simpa using hs
    clear hF hs
    go_enter Tryz.func33, Tryz.ntmps33
    go_wp2_with fail
    rw [← hw1]
    clear hw1
    go_at_call 59
    refine HS.out.mono ?_
    rintro e w' ⟨rfl, rfl⟩
    go_wp2
    go_ret
    exact ⟨rfl, HB1.out⟩

set_option linter.unusedVariables false in
set_option maxHeartbeats 4000000 in
theorem refAtom_4 (n : Int) (sao tao : Option Addr) (sl scap tl tcap : Nat) (s t : List Int) (hl : tl = t.length) (w : World)
    (hS : ∀ W, Below w.heap.size w W → Calls Tryz.prog 59 #[.slice sao sl scap] W fun e w' => e = .returned (.int .i64 (faultN s)) ∧ W = w')
    (hT : ∀ W, Below w.heap.size w W → Calls Tryz.prog 59 #[.slice tao tl tcap] W fun e w' => e = .returned (.int .i64 (faultN t)) ∧ W = w') :
    Calls Tryz.prog 33 #[.agg #[.int .i64 4, .slice sao sl scap, .slice tao tl tcap, .int .i64 n]] w fun e w' => e = .returned (.int .i64 (atomFault 4 s t n)) ∧ Below w.heap.size w w' := by
  obtain ⟨w1, hw1⟩ : ∃ w1, w1 = w.alloc (.cells #[.int .i64 4, .slice sao sl scap, .slice tao tl tcap, .int .i64 n] 43) := ⟨_, rfl⟩
  have HB1 : Hid (Below w.heap.size w w1) := by unfold Hid; rw [hw1]; exact below_alloc1 w _
  obtain ⟨x0, x1, x2, x3⟩ : w1.cell? ⟨w.heap.size, 0, none⟩ = some (.int .i64 4) ∧ w1.cell? ⟨w.heap.size, 1, none⟩ = some (.slice sao sl scap) ∧ w1.cell? ⟨w.heap.size, 2, none⟩ = some (.slice tao tl tcap) ∧ w1.cell? ⟨w.heap.size, 3, none⟩ = some (.int .i64 n) := by rw [hw1]; simp
  have HS : Hid (Calls Tryz.prog 59 #[.slice sao sl scap] w1 fun e w' => e = .returned (.int .i64 (faultN s)) ∧ w1 = w') := hS w1 HB1.out
  have HT : Hid (Calls Tryz.prog 59 #[.slice tao tl tcap] w1 fun e w' => e = .returned (.int .i64 (faultN t)) ∧ w1 = w') := hT w1 HB1.out
  have HL : Hid (tl = t.length) := hl
  clear hS hT hl
  have hk : (1 : Int) ≤ 4 ∧ (4 : Int) ≤ 5 := by decide
  obtain ⟨F, hF⟩ : ∃ F, F = atomFault 4 s t n := ⟨_, rfl⟩
  rw [← hF]
  by_cases hs : faultN s = 0
  · rw [hs] at HS
    by_cases ht : 0 < t.length
    · have hsf : secondFault 4 t = 3 := by unfold secondFault; rw [if_neg (by decide), if_pos ht]
      rw [atomFault_second hk hs (by rw [hsf]; decide), hsf] at hF
      rw [← HL.out] at ht
      subst hF
      clear hsf hs
      go_enter Tryz.func33, Tryz.ntmps33
      go_wp2_with fail
      rw [← hw1]
      clear hw1
      go_at_call 59
      refine HS.out.mono ?_
      rintro e w' ⟨rfl, rfl⟩
      go_wp2
      go_ret
      exact ⟨rfl, HB1.out⟩
    · have hsf : secondFault 4 t = 0 := by unfold secondFault; rw [if_neg (by decide), if_neg ht]
      obtain rfl : tl = 0 := by have := HL.out; omega
      clear ht
      rw [atomFault_third hk hs hsf] at hF
      have hmo : mostN 4 = 20 := by decide
      rw [hmo] at hF
      clear hmo hs hsf
      by_cases h1 : n < -20
      · rw [if_neg (by omega)] at hF
        subst hF
        go_enter Tryz.func33, Tryz.ntmps33
        go_wp2_with fail
        rw [← hw1]
        clear hw1
        go_at_call 59
        refine HS.out.mono ?_
        rintro e w' ⟨rfl, rfl⟩
        go_wp2
        go_ret
        exact ⟨rfl, HB1.out⟩
      by_cases h2 : 20 < n
      · rw [if_neg (by omega)] at hF
        subst hF
        go_enter Tryz.func33, Tryz.ntmps33
        go_wp2_with fail
        rw [← hw1]
        clear hw1
        go_at_call 59
        refine HS.out.mono ?_
        rintro e w' ⟨rfl, rfl⟩
        go_wp2
        go_ret
        exact ⟨rfl, HB1.out⟩
      rw [if_pos (by omega)] at hF
      subst hF
      go_enter Tryz.func33, Tryz.ntmps33
      go_wp2_with fail
      rw [← hw1]
      clear hw1
      go_at_call 59
      refine HS.out.mono ?_
      rintro e w' ⟨rfl, rfl⟩
      go_wp2
      go_ret
      exact ⟨rfl, HB1.out⟩
  · rw [atomFault_first hk hs] at hF
    rw [← hF] at HS hs
    have hs' : (F != 0) = true := by simpa using hs
    clear hF hs
    go_enter Tryz.func33, Tryz.ntmps33
    go_wp2_with fail
    rw [← hw1]
    clear hw1
    go_at_call 59
    refine HS.out.mono ?_
    rintro e w' ⟨rfl, rfl⟩
    go_wp2
    go_ret
    exact ⟨rfl, HB1.out⟩

set_option linter.unusedVariables false in
set_option maxHeartbeats 4000000 in
theorem refAtom_5 (n : Int) (sao tao : Option Addr) (sl scap tl tcap : Nat) (s t : List Int) (hl : tl = t.length) (w : World)
    (hS : ∀ W, Below w.heap.size w W → Calls Tryz.prog 59 #[.slice sao sl scap] W fun e w' => e = .returned (.int .i64 (faultN s)) ∧ W = w')
    (hT : ∀ W, Below w.heap.size w W → Calls Tryz.prog 59 #[.slice tao tl tcap] W fun e w' => e = .returned (.int .i64 (faultN t)) ∧ W = w') :
    Calls Tryz.prog 33 #[.agg #[.int .i64 5, .slice sao sl scap, .slice tao tl tcap, .int .i64 n]] w fun e w' => e = .returned (.int .i64 (atomFault 5 s t n)) ∧ Below w.heap.size w w' := by
  obtain ⟨w1, hw1⟩ : ∃ w1, w1 = w.alloc (.cells #[.int .i64 5, .slice sao sl scap, .slice tao tl tcap, .int .i64 n] 43) := ⟨_, rfl⟩
  have HB1 : Hid (Below w.heap.size w w1) := by unfold Hid; rw [hw1]; exact below_alloc1 w _
  obtain ⟨x0, x1, x2, x3⟩ : w1.cell? ⟨w.heap.size, 0, none⟩ = some (.int .i64 5) ∧ w1.cell? ⟨w.heap.size, 1, none⟩ = some (.slice sao sl scap) ∧ w1.cell? ⟨w.heap.size, 2, none⟩ = some (.slice tao tl tcap) ∧ w1.cell? ⟨w.heap.size, 3, none⟩ = some (.int .i64 n) := by rw [hw1]; simp
  have HS : Hid (Calls Tryz.prog 59 #[.slice sao sl scap] w1 fun e w' => e = .returned (.int .i64 (faultN s)) ∧ w1 = w') := hS w1 HB1.out
  have HT : Hid (Calls Tryz.prog 59 #[.slice tao tl tcap] w1 fun e w' => e = .returned (.int .i64 (faultN t)) ∧ w1 = w') := hT w1 HB1.out
  have HL : Hid (tl = t.length) := hl
  clear hS hT hl
  have hk : (1 : Int) ≤ 5 ∧ (5 : Int) ≤ 5 := by decide
  obtain ⟨F, hF⟩ : ∃ F, F = atomFault 5 s t n := ⟨_, rfl⟩
  rw [← hF]
  by_cases hs : faultN s = 0
  · rw [hs] at HS
    by_cases ht : faultN t = 0
    · rw [ht] at HT
      have hsf : secondFault 5 t = 0 := by unfold secondFault; rw [if_pos (by decide), ht]
      clear ht
      rw [atomFault_third hk hs hsf] at hF
      have hmo : mostN 5 = 20 := by decide
      rw [hmo] at hF
      clear hmo hs hsf
      by_cases h1 : n < -20
      · rw [if_neg (by omega)] at hF
        subst hF
        go_enter Tryz.func33, Tryz.ntmps33
        go_wp2_with fail
        rw [← hw1]
        clear hw1
        go_at_call 59
        refine HS.out.mono ?_
        rintro e w' ⟨rfl, rfl⟩
        go_wp2_with fail
        go_at_call 59
        refine HT.out.mono ?_
        rintro e w' ⟨rfl, rfl⟩
        go_wp2
        go_ret
        exact ⟨rfl, HB1.out⟩
      by_cases h2 : 20 < n
      · rw [if_neg (by omega)] at hF
        subst hF
        go_enter Tryz.func33, Tryz.ntmps33
        go_wp2_with fail
        rw [← hw1]
        clear hw1
        go_at_call 59
        refine HS.out.mono ?_
        rintro e w' ⟨rfl, rfl⟩
        go_wp2_with fail
        go_at_call 59
        refine HT.out.mono ?_
        rintro e w' ⟨rfl, rfl⟩
        go_wp2
        go_ret
        exact ⟨rfl, HB1.out⟩
      rw [if_pos (by omega)] at hF
      subst hF
      go_enter Tryz.func33, Tryz.ntmps33
      go_wp2_with fail
      rw [← hw1]
      clear hw1
      go_at_call 59
      refine HS.out.mono ?_
      rintro e w' ⟨rfl, rfl⟩
      go_wp2_with fail
      go_at_call 59
      refine HT.out.mono ?_
      rintro e w' ⟨rfl, rfl⟩
      go_wp2
      go_ret
      exact ⟨rfl, HB1.out⟩
    · have hsf : secondFault 5 t = faultN t := by unfold secondFault; rw [if_pos (by decide)]
      rw [atomFault_second hk hs (by rw [hsf]; exact ht), hsf] at hF
      rw [← hF] at HT ht
      have ht' : (F != 0) = true := by simpa using ht
      clear hF ht hsf hs
      go_enter Tryz.func33, Tryz.ntmps33
      go_wp2_with fail
      rw [← hw1]
      clear hw1
      go_at_call 59
      refine HS.out.mono ?_
      rintro e w' ⟨rfl, rfl⟩
      go_wp2_with fail
      go_at_call 59
      refine HT.out.mono ?_
      rintro e w' ⟨rfl, rfl⟩
      go_wp2
      go_ret
      exact ⟨rfl, HB1.out⟩
  · rw [atomFault_first hk hs] at hF
    rw [← hF] at HS hs
    have hs' : (F != 0) = true := by simpa using hs
    clear hF hs
    go_enter Tryz.func33, Tryz.ntmps33
    go_wp2_with fail
    rw [← hw1]
    clear hw1
    go_at_call 59
    refine HS.out.mono ?_
    rintro e w' ⟨rfl, rfl⟩
    go_wp2
    go_ret
    exact ⟨rfl, HB1.out⟩

/-- Atom, whatever the atom. -/
theorem refAtom_any (k n : Int) (vs vt : Value) (s t : List Int) (w : World) (hS : Reads w vs s) (hT : Reads w vt t) :
    Calls Tryz.prog 33 #[.agg #[.int .i64 k, vs, vt, .int .i64 n]] w fun e w' => e = .returned (.int .i64 (atomFault k s t n)) ∧ Below w.heap.size w w' := by
  have h1 := fun (W : World) (hW : Below w.heap.size w W) => refTerm_any s vs W (hS.below hW)
  have h2 := fun (W : World) (hW : Below w.heap.size w W) => refTerm_any t vt W (hT.below hW)
  obtain ⟨sao, scap, rfl, _⟩ := hS.slice
  obtain ⟨tao, tcap, rfl, _⟩ := hT.slice
  by_cases hk : 1 ≤ k ∧ k ≤ 5
  · rcases five hk.1 hk.2 with rfl | rfl | rfl | rfl | rfl
    · exact refAtom_1 n sao tao _ scap _ tcap s t rfl w h1 h2
    · exact refAtom_2 n sao tao _ scap _ tcap s t rfl w h1 h2
    · exact refAtom_3 n sao tao _ scap _ tcap s t rfl w h1 h2
    · exact refAtom_4 n sao tao _ scap _ tcap s t rfl w h1 h2
    · exact refAtom_5 n sao tao _ scap _ tcap s t rfl w h1 h2
  · rw [atomFault_kind hk]
    obtain ⟨sl, hsl⟩ : ∃ sl, sl = s.length := ⟨_, rfl⟩
    obtain ⟨tl, htl⟩ : ∃ tl, tl = t.length := ⟨_, rfl⟩
    rw [← hsl, ← htl]
    clear hS hT h1 h2 hsl htl
    by_cases h1 : k < 1
    · go_enter Tryz.func33, Tryz.ntmps33
      go_wp2
      go_ret
      exact ⟨rfl, below_alloc1 _ _⟩
    · have h2 : 5 < k := by omega
      go_enter Tryz.func33, Tryz.ntmps33
      go_wp2
      go_ret
      exact ⟨rfl, below_alloc1 _ _⟩
end Go.Proofs.YtedgbohobgnedaeGreatDoor

namespace Go.Proofs.YtedgbohobgnedaeGreatDoor
open Go.ChangeShapes Go.WideShapes Go.ChangeAt Go.RowKit
set_option maxRecDepth 100000

theorem signF_ref {m : Nat} (hm : m ≤ 6) {s : Int} : signF m s = true ↔ ¬ (s < 0 ∨ 13 < s ∨ (s < 10 ∧ (m : Int) ≤ s)) := by
  rw [signF_iff]
  unfold takesF
  constructor
  · rintro (h | h)
    · split at h
      · omega
      · split at h <;> omega
    · omega
  · intro h
    by_cases h1 : s < 10
    · right; omega
    · left
      split
      · omega
      · rw [if_pos (by omega)]; omega
theorem takesF_high {s : Int} (h0 : ¬ s < 10) (h1 : ¬ 13 < s) : takesF s = if s = 12 then 1 else 2 := by
  unfold takesF
  by_cases h : s = 12
  · rw [if_neg (by omega), if_pos h, if_pos h]
  · rw [if_pos (by omega), if_neg h]
theorem all_step {m : Nat} {t : List Int} {k : Nat} (h : k < t.length) (ha : (t.take k).all (signF m) = true) (hs : signF m (t.getD k 0) = true) : (t.take (k + 1)).all (signF m) = true := by
  rw [takeF_succ t h, List.all_append, ha]
  simp only [List.all_cons, List.all_nil, Bool.and_true, Bool.true_and]
  exact hs
theorem all_stop {m : Nat} {t : List Int} {k : Nat} (h : k < t.length) (hs : ¬ signF m (t.getD k 0) = true) : ¬ t.all (signF m) = true := by
  intro ha
  apply hs
  have := List.all_eq_true.1 ha (t.getD k 0) (by simp [List.getElem?_eq_getElem h])
  exact this
theorem refForm_none (ao co : Option Addr) (m n acap ccap : Nat) (w : World) (h0 : m = 0 ∨ n = 0) :
    Calls Tryz.prog 12 #[.agg #[.slice ao m acap, .slice co n ccap]] w fun e w' => e = .returned (.int .i64 5) ∧ Below w.heap.size w w' := by
  by_cases hm : m = 0
  · subst hm
    go_enter Tryz.func12, Tryz.ntmps12
    go_wp2
    go_ret
    exact ⟨rfl, below_alloc1 _ _⟩
  · obtain rfl : n = 0 := by omega
    have hm' : ((m : Int) == 0) = false := by simp; omega
    go_enter Tryz.func12, Tryz.ntmps12
    go_wp2
    go_ret
    exact ⟨rfl, below_alloc1 _ _⟩
theorem refForm_full (ao co : Option Addr) (m n acap ccap : Nat) (w : World) (h0 : ¬ (m = 0 ∨ n = 0)) (h1 : 6 < m ∨ 20 < n) :
    Calls Tryz.prog 12 #[.agg #[.slice ao m acap, .slice co n ccap]] w fun e w' => e = .returned (.int .i64 4) ∧ Below w.heap.size w w' := by
  have hm' : ((m : Int) == 0) = false := by simp; omega
  have hn' : ((n : Int) == 0) = false := by simp; omega
  by_cases hm : 6 < m
  · have h : 6 < (m : Int) := by omega
    go_enter Tryz.func12, Tryz.ntmps12
    go_wp2
    go_ret
    exact ⟨rfl, below_alloc1 _ _⟩
  · have h : ¬ 6 < (m : Int) := by omega
    have h2 : 20 < (n : Int) := by omega
    go_enter Tryz.func12, Tryz.ntmps12
    go_wp2
    go_ret
    exact ⟨rfl, below_alloc1 _ _⟩
theorem refForm_rest (ao co : Option Addr) (acap ccap : Nat) (ats : List At) (c : List Int) (w : World) (hA : ReadsA w (.slice ao ats.length acap) ats) (hC : Reads w (.slice co c.length ccap) c) (h0 : ¬ (ats.length = 0 ∨ c.length = 0)) (h1 : ¬ (6 < ats.length ∨ 20 < c.length)) :
    Calls Tryz.prog 12 #[.agg #[.slice ao ats.length acap, .slice co c.length ccap]] w fun e w' => e = .returned (.int .i64 (formFault ats c)) ∧ Below w.heap.size w w' := by
  obtain ⟨w1, hw1⟩ : ∃ w1, w1 = w.alloc (.cells #[.slice ao ats.length acap, .slice co c.length ccap] 25) := ⟨_, rfl⟩
  have HB1 : Hid (Below w.heap.size w w1) := by unfold Hid; rw [hw1]; exact below_alloc1 w _
  have HS1 : Hid (w1.heap.size = w.heap.size + 1) := by unfold Hid; rw [hw1]; simp
  have HX : Hid (w1.cell? ⟨w.heap.size, 0, none⟩ = some (.slice ao ats.length acap) ∧ w1.cell? ⟨w.heap.size, 1, none⟩ = some (.slice co c.length ccap)) := by
    unfold Hid; rw [hw1]; simp
  have HA : Hid (ReadsA w1 (.slice ao ats.length acap) ats) := hA.below HB1.out
  have HC : Hid (Reads w1 (.slice co c.length ccap) c) := hC.below HB1.out
  clear hA hC
  have HF : Hid (formFault ats c = if firstFault ats = 0 then (if c.all (signF ats.length) = true then (if cntF c 0 = some 1 then 0 else 3) else 1) else firstFault ats) := by
    unfold Hid formFault; rw [if_neg h0, if_neg h1]
  obtain ⟨m, hm⟩ : ∃ m, m = ats.length := ⟨_, rfl⟩
  obtain ⟨n, hn⟩ : ∃ n, n = c.length := ⟨_, rfl⟩
  rw [← hm] at h0 h1 hw1 HX HA HF ⊢
  rw [← hn] at h0 h1 hw1 HX HC ⊢
  have HM : Hid (m = ats.length) := hm
  have HN : Hid (n = c.length) := hn
  clear hm hn
  have hm' : ((m : Int) == 0) = false := by simp; omega
  have hn' : ((n : Int) == 0) = false := by simp; omega
  have hm6 : m ≤ 6 := by omega
  have hn20 : n ≤ 20 := by omega
  have hm6' : ¬ 6 < (m : Int) := by omega
  have hn20' : ¬ 20 < (n : Int) := by omega
  clear h0 h1
  go_enter Tryz.func12, Tryz.ntmps12
  go_wp2
  rw [← hw1]
  clear hw1
  go_loopw [3] (fun i wr => ∃ k : Nat, k ≤ m ∧ i = .int .i64 k ∧ Below w1.heap.size w1 wr ∧ firstFault (ats.drop k) = firstFault ats) (fun i _ => m - (intOf i).toNat)
  case atStart => exact ⟨0, Nat.zero_le _, rfl, Below.refl _ _, rfl⟩
  case round =>
    obtain ⟨k, hk, rfl, hbel, hff⟩ := hrel
    have HF0 : Hid (firstFault (ats.drop k) = firstFault ats) := hff
    have HB : Hid (Below w1.heap.size w1 wr) := hbel
    clear hff hbel
    have hlt0 : w.heap.size < w1.heap.size := by have := HS1.out; omega
    have y0 : wr.cell? ⟨w.heap.size, 0, none⟩ = some (.slice ao m acap) := by rw [HB.out.cell hlt0]; exact HX.out.1
    have y1 : wr.cell? ⟨w.heap.size, 1, none⟩ = some (.slice co n ccap) := by rw [HB.out.cell hlt0]; exact HX.out.2
    clear hlt0
    by_cases hlt : k < m
    · obtain ⟨a, ha⟩ : ∃ a, ats[k]? = some a := ⟨_, List.getElem?_eq_getElem (by have := HM.out; omega)⟩
      have HFF : Hid (firstFault ats = if a.fault = 0 then firstFault (ats.drop (k + 1)) else a.fault) := by
        unfold Hid; rw [← HF0.out, firstFault_drop ats ha]
      rcases HA.out.below HB.out with ⟨_, _, hv, hn⟩ | ⟨b, off, cap, hv, hb, _, _, hall⟩
      · have := HM.out; rw [hn] at this; simp at this; omega
      obtain rfl : ao = some ⟨b, off, none⟩ := by cases hv; rfl
      obtain ⟨vs, vt, c0, c1, c2, c3, r1, r2⟩ := hall k a ha
      obtain ⟨sao, scap, rfl, _⟩ := r1.slice
      obtain ⟨tao, tcap, rfl, _⟩ := r2.slice
      clear hv hall
      have HCk : Hid (Calls Tryz.prog 33 #[.agg #[.int .i64 a.k, .slice sao a.s.length scap, .slice tao a.t.length tcap, .int .i64 a.n]] wr fun e w' => e = .returned (.int .i64 a.fault) ∧ Below wr.heap.size wr w') :=
        refAtom_any a.k a.n _ _ a.s a.t wr r1 r2
      clear r1 r2
      go_wp2_with fail
      go_at_call 33
      refine HCk.out.mono ?_
      rintro e w3 ⟨rfl, hb3⟩
      have HB3 : Hid (Below w1.heap.size w1 w3) := HB.out.trans (hb3.mono HB.out.size)
      clear hb3 HCk
      by_cases hf : a.fault = 0
      · have HD : Hid (firstFault (ats.drop (k + 1)) = firstFault ats) := by
          have := HFF.out
          rw [if_pos hf] at this
          exact this.symm
        rw [hf]
        go_wp2
        go_roundw
        case rel => exact ⟨k + 1, by omega, by go_num, HB3.out, HD.out⟩
        case measure => simp [intOf]; omega
      · have HE : Hid (formFault ats c = a.fault) := by
          have := HFF.out
          rw [if_neg hf] at this
          unfold Hid; rw [HF.out, this, if_neg hf]
        have hf' : (a.fault != 0) = true := by simpa using hf
        go_wp2
        go_ret
        exact ⟨back_v (by rw [HE.out]; rfl), HB1.out.trans (HB3.out.mono HB1.out.size)⟩
    · have HE : Hid (firstFault ats = 0) := by
        have := HF0.out
        rw [List.drop_eq_nil_of_le (by have := HM.out; omega)] at this
        exact this.symm
      have HF2 : Hid (formFault ats c = if c.all (signF m) = true then (if cntF c 0 = some 1 then 0 else 3) else 1) := by
        unfold Hid; rw [HF.out, HE.out]; simp only [if_true]
      have HEnd : Hid (Below w.heap.size w wr) := HB1.out.trans (HB.out.mono HB1.out.size)
      rcases HC.out.below HB.out with ⟨_, _, hv, hcn⟩ | ⟨b, off, cap, hv, hb, _, ⟨hl63, _⟩, hc⟩
      · have := HN.out; rw [hcn] at this; simp at this; subst this; simp at hn'
      obtain rfl : co = some ⟨b, off, none⟩ := by cases hv; rfl
      have HCe : Hid (∀ j, j < c.length → wr.cell? ⟨b, off + j, none⟩ = some (.int .i64 (c.getD j 0))) := hc
      clear hv hc hl63 hb
      go_wp2
      go_loop [5] (fun i => ∃ k : Nat, k ≤ n ∧ i = .int .i64 k ∧ (c.take k).all (signF m) = true) (fun i => n - (intOf i).toNat)
      case atStart => exact ⟨0, Nat.zero_le _, rfl, rfl⟩
      case round =>
        obtain ⟨j, hj, rfl, hall⟩ := hrel
        have HAl : Hid ((c.take j).all (signF m) = true) := hall
        clear hall
        by_cases hjn : j < n
        · obtain ⟨s, hs⟩ : ∃ s, s = c.getD j 0 := ⟨_, rfl⟩
          have hjc : j < c.length := by have := HN.out; omega
          have hc := HCe.out j hjc
          rw [← hs] at hc
          by_cases hg : signF m s = true
          · have HD : Hid ((c.take (j + 1)).all (signF m) = true) := all_step hjc HAl.out (by rw [← hs]; exact hg)
            have hb := (signF_ref hm6).1 hg
            have b1 : ¬ s < 0 := by omega
            have b2 : ¬ 13 < s := by omega
            clear hs hg
            by_cases b3 : s < 10
            · have b4 : ¬ (m : Int) ≤ s := by omega
              clear hb
              go_wp2
              go_round
              case rel => exact ⟨j + 1, by omega, by go_num, HD.out⟩
              case measure => simp [intOf]; omega
            · clear hb
              go_wp2
              go_round
              case rel => exact ⟨j + 1, by omega, by go_num, HD.out⟩
              case measure => simp [intOf]; omega
          · have HD : Hid (formFault ats c = 1) := by
              have := all_stop (m := m) hjc (by rw [← hs]; exact hg)
              unfold Hid; rw [HF2.out, if_neg this]
            have hb : s < 0 ∨ 13 < s ∨ (s < 10 ∧ (m : Int) ≤ s) := by
              by_cases h : s < 0 ∨ 13 < s ∨ (s < 10 ∧ (m : Int) ≤ s)
              · exact h
              · exact absurd ((signF_ref hm6).2 h) hg
            clear hs hg
            by_cases b1 : s < 0
            · clear hb
              go_wp2
              go_ret
              exact ⟨back_v (by rw [HD.out]; rfl), HEnd.out⟩
            · by_cases b2 : 13 < s
              · clear hb
                go_wp2
                go_ret
                exact ⟨back_v (by rw [HD.out]; rfl), HEnd.out⟩
              · have b3 : s < 10 := by omega
                have b4 : (m : Int) ≤ s := by omega
                clear hb
                go_wp2
                go_ret
                exact ⟨back_v (by rw [HD.out]; rfl), HEnd.out⟩
        · have HD : Hid (c.all (signF m) = true) := by
            have := HAl.out
            rw [List.take_of_length_le (by have := HN.out; omega)] at this
            exact this
          have HF3 : Hid (formFault ats c = if cntF c 0 = some 1 then 0 else 3) := by
            unfold Hid; rw [HF2.out, if_pos HD.out]
          go_wp2
          go_loop [7, 8] (fun q i => ∃ (k : Nat) (z : Int), k ≤ n ∧ i = .int .i64 k ∧ q = .int .i64 z ∧ cntF (c.take k) 0 = some z) (fun _ i => n - (intOf i).toNat)
          case atStart => exact ⟨0, 0, Nat.zero_le _, rfl, rfl, rfl⟩
          case round =>
            obtain ⟨i, z, hi, rfl, rfl, hz⟩ := hrel
            have HZ : Hid (cntF (c.take i) 0 = some z) := hz
            have hz0 : 0 ≤ z ∧ z ≤ 20 := by
              have := cntF_nonneg (Int.le_refl 0) hz
              simp at this
              omega
            clear hz
            by_cases hin : i < n
            · obtain ⟨s, hs⟩ : ∃ s, s = c.getD i 0 := ⟨_, rfl⟩
              have hic : i < c.length := by have := HN.out; omega
              have hc := HCe.out i hic
              rw [← hs] at hc
              have HZ1 : Hid (cntF (c.take (i + 1)) 0 = if z < takesF s then none else some (z + 1 - takesF s)) := by
                have := cntF_take_succ c hic HZ.out
                rw [← hs] at this; exact this
              have hg : signF m s = true := by
                have := List.all_eq_true.1 HD.out (c.getD i 0) (by simp [List.getElem?_eq_getElem hic])
                rw [← hs] at this; exact this
              have hb := (signF_ref hm6).1 hg
              clear hs hg
              by_cases b3 : s < 10
              · have HE1 : Hid (cntF (c.take (i + 1)) 0 = some (z + 1)) := by
                  have := HZ1.out
                  rw [takesF_low b3, if_neg (by omega)] at this
                  unfold Hid; rw [this]; simp
                clear hb
                go_wp2
                go_round
                case rel => exact ⟨i + 1, _, by omega, by go_num, by go_num, HE1.out⟩
                case measure => simp [intOf]; omega
              · have hk := takesF_high b3 (show ¬ 13 < s by omega)
                by_cases b12 : s = 12
                · rw [if_pos b12] at hk
                  have hq : (s != 12) = false := by simpa using b12
                  by_cases hlow : z < 1
                  · have HE1 : Hid (formFault ats c = 3) := by
                      have := HZ1.out
                      rw [hk, if_pos hlow] at this
                      unfold Hid; rw [HF3.out, cntF_take_none c _ this]; simp
                    clear hb hk b12
                    go_wp2
                    go_ret
                    exact ⟨back_v (by rw [HE1.out]; rfl), HEnd.out⟩
                  · have HE1 : Hid (cntF (c.take (i + 1)) 0 = some z) := by
                      have := HZ1.out
                      rw [hk, if_neg hlow] at this
                      unfold Hid; rw [this]; simp
                    clear hb hk b12
                    go_wp2
                    go_round
                    case rel => exact ⟨i + 1, _, by omega, by go_num, rfl, HE1.out⟩
                    case measure => simp [intOf]; omega
                · rw [if_neg b12] at hk
                  have hq : (s != 12) = true := by simpa using b12
                  by_cases hlow : z < 2
                  · have HE1 : Hid (formFault ats c = 3) := by
                      have := HZ1.out
                      rw [hk, if_pos hlow] at this
                      unfold Hid; rw [HF3.out, cntF_take_none c _ this]; simp
                    clear hb hk b12
                    by_cases h1 : z < 1
                    · go_wp2
                      go_ret
                      exact ⟨back_v (by rw [HE1.out]; rfl), HEnd.out⟩
                    · go_wp2
                      go_ret
                      exact ⟨back_v (by rw [HE1.out]; rfl), HEnd.out⟩
                  · have HE1 : Hid (cntF (c.take (i + 1)) 0 = some (z - 1)) := by
                      have := HZ1.out
                      rw [hk, if_neg hlow] at this
                      unfold Hid; rw [this]; congr 1; omega
                    have h1 : ¬ z < 1 := by omega
                    clear hb hk b12
                    go_wp2
                    go_round
                    case rel => exact ⟨i + 1, _, by omega, by go_num, by go_num, HE1.out⟩
                    case measure => simp [intOf]; omega
            · have HZ2 : Hid (cntF c 0 = some z) := by
                have := HZ.out
                rw [List.take_of_length_le (by have := HN.out; omega)] at this
                exact this
              by_cases h1 : z = 1
              · have HE1 : Hid (formFault ats c = 0) := by unfold Hid; rw [HF3.out, HZ2.out, h1]; rfl
                subst h1
                go_wp2
                go_ret
                exact ⟨back_v (by rw [HE1.out]; rfl), HEnd.out⟩
              · have HE1 : Hid (formFault ats c = 3) := by
                  unfold Hid; rw [HF3.out, HZ2.out, if_neg (by simpa using h1)]
                have h1' : (z != 1) = true := by simpa using h1
                go_wp2
                go_ret
                exact ⟨back_v (by rw [HE1.out]; rfl), HEnd.out⟩
/-- vennref1.Form, of any formula. -/
theorem refForm_any (va vc : Value) (ats : List At) (c : List Int) (w : World) (hA : ReadsA w va ats) (hC : Reads w vc c) :
    Calls Tryz.prog 12 #[.agg #[va, vc]] w fun e w' => e = .returned (.int .i64 (formFault ats c)) ∧ Below w.heap.size w w' := by
  obtain ⟨ao, acap, rfl, _⟩ := hA.slice
  obtain ⟨co, ccap, rfl, _⟩ := hC.slice
  by_cases h0 : ats.length = 0 ∨ c.length = 0
  · have e : formFault ats c = 5 := by unfold formFault; rw [if_pos h0]
    rw [e]
    exact refForm_none ao co _ _ acap ccap w h0
  by_cases h1 : 6 < ats.length ∨ 20 < c.length
  · have e : formFault ats c = 4 := by unfold formFault; rw [if_neg h0, if_pos h1]
    rw [e]
    exact refForm_full ao co _ _ acap ccap w h0 h1
  exact refForm_rest ao co acap ccap ats c w hA hC h0 h1
end Go.Proofs.YtedgbohobgnedaeGreatDoor
