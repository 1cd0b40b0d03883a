/-
  Proved: what rows.Of returns, of any atom, that holds or does not; what was in memory is as it was (a contract that the statements lean on). Written by program.
-/
import Derived.Test.YtjaedfjfcghgcabGreatDoorLibT12
import Derived.Deep.Cut
namespace Go.Proofs.YtjaedfjfcghgcabGreatDoor
open Go.ChangeShapes Go.WideShapes Go.ChangeAt Go.RowKit
set_option maxRecDepth 100000

/-- the cells of the table of kinds. -/
def timeCells : List Int := [0, 0, 0, 0, 0, 0, 1, 0, 0, 1, 1, 0, 0, 0, -1, 0, 0, 0, 1, 0, 0, -1, 1, 0]
def TimesLaid (w : World) : Prop := ∀ j, j < 24 → w.cell? ⟨0, j, none⟩ = some (.int .i64 (timeCells.getD j 0))
theorem TimesLaid.lt {w : World} (h : TimesLaid w) : 0 < w.heap.size := World.block_lt_of_cell? w ⟨0, 0, none⟩ (h 0 (by decide))
theorem TimesLaid.at {K : Nat} {w w' : World} (h : TimesLaid w) (hb : Below K w w') (hK : w.heap.size ≤ K) : TimesLaid w' := fun j hj => by
  rw [hb.cell (show (⟨0, j, none⟩ : Addr).block < K from Nat.lt_of_lt_of_le h.lt hK)]; exact h j hj
theorem TimesLaid.below {w w' : World} (h : TimesLaid w) (hb : Below w.heap.size w w') : TimesLaid w' := h.at hb (Nat.le_refl _)
theorem times_cell : ∀ k : Nat, 1 ≤ k → k ≤ 5 → ∀ x y : Bool, timeCells.getD (k * 4 + x.toNat * 2 + y.toNat) 0 = timesK k x y := by
  intro k h1 h5
  have d : k = 1 ∨ k = 2 ∨ k = 3 ∨ k = 4 ∨ k = 5 := by omega
  rcases d with rfl | rfl | rfl | rfl | rfl <;> decide
theorem toNat_one (x : Bool) : ((x.toNat : Nat) : Int) = oneB x := by cases x <;> rfl
theorem mask_bit8 (L : Nat → Bool) {k : Nat} (hk : k < 8) : bits .and .i64 (maskTo L 8 / 2 ^ k) 1 = (((L k).toNat : Nat) : Int) := by
  obtain ⟨m0, m1⟩ := maskTo_le L 8
  have : maskTo L 8 < 256 := m1
  rw [bit_at _ k m0 this hk, has_mask L (Nat.le_refl _) hk, toNat_one]
/-- what the nine cells of no row are. -/
def noRow : Array Value := #[.int .i64 0, .int .i64 0, .int .i64 0, .int .i64 0, .int .i64 0, .int .i64 0, .int .i64 0, .int .i64 0, .int .i64 0]

set_option maxHeartbeats 4000000 in
theorem rowsOf_bad (k F : Int) (n : Int) (h : Bool) (sao tao : Option Addr) (sl scap tl tcap : Nat) (w : World)
    (HC : Hid (∀ W, Below w.heap.size w W → Calls Tryz.prog 35 #[.agg #[.int .i64 k, .slice sao sl scap, .slice tao tl tcap, .int .i64 n]] W fun e w' => e = .returned (.iface 75 (.int .i64 F)) ∧ Below W.heap.size W w')) :
    Calls Tryz.prog 11 #[.agg #[.int .i64 k, .slice sao sl scap, .slice tao tl tcap, .int .i64 n], .bool h] w fun e w' => e = .returned (.tuple #[.agg #[.int .i64 0, .int .i64 0, .int .i64 0, .int .i64 0, .int .i64 0, .int .i64 0, .int .i64 0, .int .i64 0, .int .i64 0], .iface 75 (.int .i64 F)]) ∧ Below w.heap.size w w' := by
  obtain ⟨Z, hZ⟩ : ∃ Z : Nat → Int, Z = fun _ => 0 := ⟨_, rfl⟩
  obtain ⟨w1, hw1⟩ : ∃ w1, w1 = (w.alloc (.cells #[.int .i64 k, .slice sao sl scap, .slice tao tl tcap, .int .i64 n] 50)).alloc (.cells #[.int .i64 0, .int .i64 0, .int .i64 0, .int .i64 0, .int .i64 0, .int .i64 0, .int .i64 0, .int .i64 0, .int .i64 0] 46) := ⟨_, rfl⟩
  have HW : Hid (Below w.heap.size w w1) := by unfold Hid; rw [hw1]; exact (below_alloc1 _ _).alloc (by simp) _
  have HK0 : Hid (Blk w1 w.heap.size 50 #[.int .i64 k, .slice sao sl scap, .slice tao tl tcap, .int .i64 n]) := by unfold Hid; rw [hw1]; exact (Blk.new _ _ _).old _
  have HK1 : Hid (Blk w1 (w.heap.size + 1) 46 #[.int .i64 0, .int .i64 0, .int .i64 0, .int .i64 0, .int .i64 0, .int .i64 0, .int .i64 0, .int .i64 0, .int .i64 0]) := by
    unfold Hid; rw [hw1]
    have := Blk.new (w.alloc (.cells #[.int .i64 k, .slice sao sl scap, .slice tao tl tcap, .int .i64 n] 50)) 46 #[.int .i64 0, .int .i64 0, .int .i64 0, .int .i64 0, .int .i64 0, .int .i64 0, .int .i64 0, .int .i64 0, .int .i64 0]
    simp only [World.size_alloc] at this
    exact this
  have x0 : w1.cell? ⟨w.heap.size, 0, none⟩ = some (.int .i64 k) := HK0.out.cell 0
  have x1 : w1.cell? ⟨w.heap.size, 1, none⟩ = some (.slice sao sl scap) := HK0.out.cell 1
  have x2 : w1.cell? ⟨w.heap.size, 2, none⟩ = some (.slice tao tl tcap) := HK0.out.cell 2
  have x3 : w1.cell? ⟨w.heap.size, 3, none⟩ = some (.int .i64 n) := HK0.out.cell 3
  go_enter Tryz.func11, Tryz.ntmps11
  go_wp2_with fail
  rw [← hw1]
  clear hw1
  go_wp2_with fail
  go_at_call 35
  refine (HC.out _ HW.out).mono ?_
  rintro e w2 ⟨rfl, hb⟩
  have HB : Hid (Below w.heap.size w w2) := HW.out.trans (hb.mono HW.out.size)
  have HR : Hid (Blk w2 (w.heap.size + 1) 46 #[.int .i64 0, .int .i64 0, .int .i64 0, .int .i64 0, .int .i64 0, .int .i64 0, .int .i64 0, .int .i64 0, .int .i64 0]) := HK1.out.below hb
  clear hb x0 x1 x2 x3
  have HRZ : Hid (Blk w2 (w.heap.size + 1) 46 (arrR Z 0)) := by unfold Hid; rw [hZ]; exact HR.out
  obtain ⟨f0, f1, f2, f3, f4, f5, f6, f7, f8⟩ := HR.out.frozen9
  have r0 : w2.cell? ⟨w.heap.size + 1, 0, none⟩ = some (.int .i64 0) := HR.out.cell 0
  have r1 : w2.cell? ⟨w.heap.size + 1, 1, none⟩ = some (.int .i64 0) := HR.out.cell 1
  have r2 : w2.cell? ⟨w.heap.size + 1, 2, none⟩ = some (.int .i64 0) := HR.out.cell 2
  have r3 : w2.cell? ⟨w.heap.size + 1, 3, none⟩ = some (.int .i64 0) := HR.out.cell 3
  have r4 : w2.cell? ⟨w.heap.size + 1, 4, none⟩ = some (.int .i64 0) := HR.out.cell 4
  have r5 : w2.cell? ⟨w.heap.size + 1, 5, none⟩ = some (.int .i64 0) := HR.out.cell 5
  have r6 : w2.cell? ⟨w.heap.size + 1, 6, none⟩ = some (.int .i64 0) := HR.out.cell 6
  have r7 : w2.cell? ⟨w.heap.size + 1, 7, none⟩ = some (.int .i64 0) := HR.out.cell 7
  have r8 : w2.cell? ⟨w.heap.size + 1, 8, none⟩ = some (.int .i64 0) := HR.out.cell 8
  go_wp2
  have hld := loadR (putR_blk HRZ.out Z 0)
  have hbl := putR_below HB.out (show w.heap.size ≤ w.heap.size + 1 by omega) Z 0
  rw [hZ] at hld hbl
  refine bodyPost_ret (v := .tuple #[.agg #[.int .i64 0, .int .i64 0, .int .i64 0, .int .i64 0, .int .i64 0, .int .i64 0, .int .i64 0, .int .i64 0, .int .i64 0], .iface 75 (.int .i64 F)]) ?_ rfl ⟨rfl, ?_⟩
  · rw [results_cell_tmp rfl]
    unfold putR arrR at hld
    simp only at hld
    simp [asAddr, Result.andThen, hld]
  · exact hbl

set_option maxHeartbeats 8000000 in
theorem rowsOf_3 (n : Int) (h : Bool) (X Y : Nat → Bool) (M : Nat → Int) (p : Int) (n0 : -20 ≤ n) (n1 : n ≤ 20) (sao tao : Option Addr) (sl scap tl tcap : Nat) (w : World) (hL : TimesLaid w)
    (hM : ∀ f, f < 8 → M f = if h = true then timesK 3 (X f) (Y f) else - timesK 3 (X f) (Y f)) (hp : p = if h = true then (-n) else -((-n) + 1))
    (HC : Hid (∀ W, Below w.heap.size w W → Calls Tryz.prog 35 #[.agg #[.int .i64 3, .slice sao sl scap, .slice tao tl tcap, .int .i64 n]] W fun e w' => e = .returned .nilIface ∧ Below W.heap.size W w'))
    (HS : Hid (∀ W, Below w.heap.size w W → Calls Tryz.prog 36 #[.slice sao sl scap] W fun e w' => e = .returned (.tuple #[.int .i64 (maskTo X 8), .nilIface]) ∧ Below W.heap.size W w'))
    (HT : Hid (∀ W, Below w.heap.size w W → Calls Tryz.prog 36 #[.slice tao tl tcap] W fun e w' => e = .returned (.tuple #[.int .i64 (maskTo Y 8), .nilIface]) ∧ Below W.heap.size W w')) :
    Calls Tryz.prog 11 #[.agg #[.int .i64 3, .slice sao sl scap, .slice tao tl tcap, .int .i64 n], .bool h] w fun e w' => e = .returned (.tuple #[.agg #[.int .i64 (M 0), .int .i64 (M 1), .int .i64 (M 2), .int .i64 (M 3), .int .i64 (M 4), .int .i64 (M 5), .int .i64 (M 6), .int .i64 (M 7), .int .i64 p], .nilIface]) ∧ Below w.heap.size w w' := by
  obtain ⟨Z, hZ⟩ : ∃ Z : Nat → Int, Z = fun _ => 0 := ⟨_, rfl⟩
  obtain ⟨w1, hw1⟩ : ∃ w1, w1 = (w.alloc (.cells #[.int .i64 3, .slice sao sl scap, .slice tao tl tcap, .int .i64 n] 50)).alloc (.cells #[.int .i64 0, .int .i64 0, .int .i64 0, .int .i64 0, .int .i64 0, .int .i64 0, .int .i64 0, .int .i64 0, .int .i64 0] 46) := ⟨_, rfl⟩
  have HW : Hid (Below w.heap.size w w1) := by unfold Hid; rw [hw1]; exact (below_alloc1 _ _).alloc (by simp) _
  have HK0 : Hid (Blk w1 w.heap.size 50 #[.int .i64 3, .slice sao sl scap, .slice tao tl tcap, .int .i64 n]) := by unfold Hid; rw [hw1]; exact (Blk.new _ _ _).old _
  have HK1 : Hid (Blk w1 (w.heap.size + 1) 46 (arrR Z 0)) := by
    unfold Hid; rw [hw1, hZ]
    have := Blk.new (w.alloc (.cells #[.int .i64 3, .slice sao sl scap, .slice tao tl tcap, .int .i64 n] 50)) 46 #[.int .i64 0, .int .i64 0, .int .i64 0, .int .i64 0, .int .i64 0, .int .i64 0, .int .i64 0, .int .i64 0, .int .i64 0]
    simp only [World.size_alloc] at this
    exact this
  have HX : Hid (∀ W, Blk W w.heap.size 50 #[.int .i64 3, .slice sao sl scap, .slice tao tl tcap, .int .i64 n] → W.cell? ⟨w.heap.size, 0, none⟩ = some (.int .i64 3) ∧ W.cell? ⟨w.heap.size, 1, none⟩ = some (.slice sao sl scap) ∧ W.cell? ⟨w.heap.size, 2, none⟩ = some (.slice tao tl tcap) ∧ W.cell? ⟨w.heap.size, 3, none⟩ = some (.int .i64 n)) := fun W h => ⟨h.cell 0, h.cell 1, h.cell 2, h.cell 3⟩
  have HLW : Hid (∀ W, Below w.heap.size w W → TimesLaid W) := fun W hW => hL.below hW
  have HBx : Hid (∀ f, f < 8 → bits .and .i64 (maskTo X 8 / 2 ^ f) 1 = (((X f).toNat : Nat) : Int)) := fun f hf => mask_bit8 X hf
  have HBy : Hid (∀ f, f < 8 → bits .and .i64 (maskTo Y 8 / 2 ^ f) 1 = (((Y f).toNat : Nat) : Int)) := fun f hf => mask_bit8 Y hf
  have mx : 0 ≤ maskTo X 8 ∧ maskTo X 8 < 256 := maskTo_le X 8
  have my : 0 ≤ maskTo Y 8 ∧ maskTo Y 8 < 256 := maskTo_le Y 8
  obtain ⟨MX, hMX⟩ : ∃ x, x = maskTo X 8 := ⟨_, rfl⟩
  obtain ⟨MY, hMY⟩ : ∃ x, x = maskTo Y 8 := ⟨_, rfl⟩
  rw [← hMX] at HBx mx HS
  rw [← hMY] at HBy my HT
  clear hMX hMY
  obtain ⟨mx0, mx1⟩ := mx
  obtain ⟨my0, my1⟩ := my
  obtain ⟨D, hD⟩ : ∃ D : Nat → Int, D = fun f => timesK 3 (X f) (Y f) := ⟨_, rfl⟩
  have HDl : Hid (∀ f, f < 8 → -2 ≤ D f ∧ D f ≤ 2) := fun f _ => by
    have := timesK_le 3 (X f) (Y f)
    rw [hD]; show -2 ≤ timesK 3 (X f) (Y f) ∧ timesK 3 (X f) (Y f) ≤ 2; omega
  have HM : Hid (∀ f, f < 8 → M f = if h = true then D f else - D f) := fun f hf => by rw [hD]; exact hM f hf
  have HP : Hid (p = if h = true then (-n) else -((-n) + 1)) := hp
  have HTC : Hid (∀ f, timeCells.getD (3 * 4 + (X f).toNat * 2 + (Y f).toNat) 0 = D f) := fun f => by rw [hD]; exact times_cell 3 (by omega) (by omega) _ _
  have HZ : Hid (Z = fun _ => 0) := hZ
  clear hM hp hD hL hZ
  obtain ⟨x0, x1, x2, x3⟩ := HX.out _ HK0.out
  go_enter Tryz.func11, Tryz.ntmps11
  go_wp2_with fail
  rw [← hw1]
  clear hw1
  go_wp2_with fail
  go_at_call 35
  refine (HC.out _ HW.out).mono ?_
  rintro e w2 ⟨rfl, hb⟩
  have HB2 : Hid (Below w.heap.size w w2) := HW.out.trans (hb.mono HW.out.size)
  have HA2 : Hid (Blk w2 w.heap.size 50 #[.int .i64 3, .slice sao sl scap, .slice tao tl tcap, .int .i64 n]) := HK0.out.below hb
  have HR2 : Hid (Blk w2 (w.heap.size + 1) 46 (arrR Z 0)) := HK1.out.below hb
  clear hb x0 x1 x2 x3
  obtain ⟨x0, x1, x2, x3⟩ := HX.out _ HA2.out
  go_wp2_with fail
  go_at_call 36
  refine (HS.out _ HB2.out).mono ?_
  rintro e w3 ⟨rfl, hb⟩
  have HB3 : Hid (Below w.heap.size w w3) := HB2.out.trans (hb.mono HB2.out.size)
  have HA3 : Hid (Blk w3 w.heap.size 50 #[.int .i64 3, .slice sao sl scap, .slice tao tl tcap, .int .i64 n]) := HA2.out.below hb
  have HR3 : Hid (Blk w3 (w.heap.size + 1) 46 (arrR Z 0)) := HR2.out.below hb
  clear hb x0 x1 x2 x3
  obtain ⟨x0, x1, x2, x3⟩ := HX.out _ HA3.out
  go_wp2_with fail
  go_at_call 36
  refine (HT.out _ HB3.out).mono ?_
  rintro e w4 ⟨rfl, hb⟩
  have HB4 : Hid (Below w.heap.size w w4) := HB3.out.trans (hb.mono HB3.out.size)
  have HA4 : Hid (Blk w4 w.heap.size 50 #[.int .i64 3, .slice sao sl scap, .slice tao tl tcap, .int .i64 n]) := HA3.out.below hb
  have HR4 : Hid (Blk w4 (w.heap.size + 1) 46 (arrR Z 0)) := HR3.out.below hb
  clear hb x0 x1 x2 x3
  obtain ⟨x0, x1, x2, x3⟩ := HX.out _ HA4.out
  obtain ⟨w5, hw5⟩ : ∃ x, x = w4.alloc (.cells #[.int .i64 0, .int .i64 0, .int .i64 0, .int .i64 0, .int .i64 0, .int .i64 0, .int .i64 0, .int .i64 0, .int .i64 n] 46) := ⟨_, rfl⟩
  have HB5 : Hid (Below w.heap.size w w5) := by unfold Hid; rw [hw5]; exact HB4.out.alloc HB4.out.size _
  have HA5 : Hid (Blk w5 w.heap.size 50 #[.int .i64 3, .slice sao sl scap, .slice tao tl tcap, .int .i64 n]) := by unfold Hid; rw [hw5]; exact HA4.out.old _
  have HR5 : Hid (Blk w5 (w.heap.size + 1) 46 (arrR Z 0)) := by unfold Hid; rw [hw5]; exact HR4.out.old _
  have HP5 : Hid (Blk w5 w4.heap.size 46 (arrR Z n)) := by unfold Hid; rw [hw5, HZ.out]; exact Blk.new _ _ _
  have HL4 : Hid (w.heap.size + 1 < w4.heap.size) := HR4.out.lt
  obtain ⟨P, hP⟩ : ∃ P, P = w4.heap.size := ⟨_, rfl⟩
  go_upto_region 11 with fail
  rw [← hw5, ← hP]
  rw [← hP] at HP5 HL4
  clear hw5 hP x0 x1 x2 x3
  obtain ⟨x0, x1, x2, x3⟩ := HX.out _ HA5.out
  have q0 : w5.cell? ⟨P, 8, none⟩ = some (.int .i64 n) := HP5.out.cell 8
  have q1 := HP5.out.frozen 8
  obtain ⟨w6, hw6⟩ : ∃ x, x = w5.setCell ⟨P, 8, none⟩ (.int .i64 (-n)) := ⟨_, rfl⟩
  have HB6 : Hid (Below w.heap.size w w6) := by unfold Hid; rw [hw6]; exact HB5.out.setCell (by show w.heap.size ≤ P; have := HL4.out; omega) _
  have HA6 : Hid (Blk w6 w.heap.size 50 #[.int .i64 3, .slice sao sl scap, .slice tao tl tcap, .int .i64 n]) := by unfold Hid; rw [hw6]; exact HA5.out.far (by have := HL4.out; omega) _ _
  have HR6 : Hid (Blk w6 (w.heap.size + 1) 46 (arrR Z 0)) := by unfold Hid; rw [hw6]; exact HR5.out.far (by have := HL4.out; omega) _ _
  have HP6 : Hid (Blk w6 P 46 (arrR Z (-n))) := by
    unfold Hid; rw [hw6]
    have := HP5.out.set 8 (.int .i64 (-n))
    rw [arrR_most] at this
    exact this
  go_wp2
  rw [← hw6]
  clear hw6 x0 x1 x2 x3 q0 q1
  clear HB5 HA5 HR5 HP5 HB4 HA4 HR4 HB3 HA3 HR3 HB2 HA2 HR2 HK0 HK1 HC HS HT HW
  go_loopw [48] (fun i wr => ∃ f : Nat, f ≤ 8 ∧ i = .int .i64 f ∧ Below w.heap.size w wr ∧ Blk wr w.heap.size 50 #[.int .i64 3, .slice sao sl scap, .slice tao tl tcap, .int .i64 n] ∧ Blk wr (w.heap.size + 1) 46 (arrR Z 0) ∧ Blk wr P 46 (arrR (fun g => if g < f then D g else 0) (-n))) (fun i _ => 8 - (intOf i).toNat)
  case atStart => exact ⟨0, Nat.zero_le _, rfl, HB6.out, HA6.out, HR6.out, by have := HP6.out; rw [HZ.out] at this; exact this⟩
  case round =>
    obtain ⟨f, hf, rfl, hb, ha, hr, hq⟩ := hrel
    have HB7 : Hid (Below w.heap.size w wr) := hb
    have HA7 : Hid (Blk wr w.heap.size 50 #[.int .i64 3, .slice sao sl scap, .slice tao tl tcap, .int .i64 n]) := ha
    have HR7 : Hid (Blk wr (w.heap.size + 1) 46 (arrR Z 0)) := hr
    have HP7 : Hid (Blk wr P 46 (arrR (fun g => if g < f then D g else 0) (-n))) := hq
    clear hb ha hr hq
    by_cases hlt : f < 8
    · have x0 := (HX.out _ HA7.out).1
      have bx := HBx.out f hlt
      have bY := HBy.out f hlt
      obtain ⟨x, hx⟩ : ∃ x, x = (X f).toNat := ⟨_, rfl⟩
      obtain ⟨y, hy⟩ : ∃ y, y = (Y f).toNat := ⟨_, rfl⟩
      have hx2 : x < 2 := by rw [hx]; cases X f <;> decide
      have hy2 : y < 2 := by rw [hy]; cases Y f <;> decide
      rw [← hx] at bx
      rw [← hy] at bY
      have g0 : wr.cell? ⟨0, 3 * 4 + x * 2 + y, none⟩ = some (.int .i64 (D f)) := by
        rw [HLW.out _ HB7.out _ (by omega), hx, hy, HTC.out]
      clear hx hy
      have c : wr.cell? ⟨P, f, none⟩ = some (.int .i64 0) := by rw [HP7.out.cell, arrR_get _ _ hlt]; simp
      have z := HP7.out.frozen f
      obtain ⟨d, hd⟩ : ∃ d, d = D f := ⟨_, rfl⟩
      rw [← hd] at g0
      have HE : Hid (∀ W, Blk W P 46 (arrR (fun g => if g < f then D g else 0) (-n)) → Blk (W.setCell ⟨P, f, none⟩ (.int .i64 d)) P 46 (arrR (fun g => if g < f + 1 then D g else 0) (-n))) := fun W hW => by
        have := hW.set f (.int .i64 d)
        rw [arrR_set _ _ _ hlt] at this
        rw [arrR_same (M := fun g => if g = f then d else if g < f then D g else 0)]
        · exact this
        · intro g hg
          by_cases e : g = f
          · subst e; rw [if_pos (by omega), if_pos rfl, hd]
          · simp only [if_neg e]
            by_cases e' : g < f
            · rw [if_pos (by omega), if_pos e']
            · rw [if_neg (by omega), if_neg e']
      clear hd
      go_wp2
      go_region
      go_wp2
      go_roundw
      case rel => exact ⟨f + 1, by omega, by go_num, HB7.out.drew.setCell (by show w.heap.size ≤ P; have := HL4.out; omega) _, HA7.out.drew.far (by have := HL4.out; omega) _ _, HR7.out.drew.far (by have := HL4.out; omega) _ _, HE.out _ HP7.out.drew⟩
      case measure => simp [intOf]; omega
    · obtain rfl : f = 8 := by omega
      have HP8 : Hid (Blk wr P 46 (arrR D (-n))) := by
        have := HP7.out
        unfold Hid
        rw [arrR_same (M := fun g => if g < 8 then D g else 0)]
        · exact this
        · intro g hg; rw [if_pos hg]
      clear HP7
      obtain ⟨n0', n1', n2', n3', n4', n5', n6', n7', n8'⟩ := HP8.out.cells9
      cases h with
      | true =>
        have HMD : Hid (arrR D (-n) = arrR M p) := by
          unfold Hid
          rw [HP.out]
          exact arrR_same (fun f hf => by rw [HM.out f hf]; rfl) _
        obtain ⟨r0, r1, r2, r3, r4, r5, r6, r7, r8⟩ := HR7.out.cells9
        obtain ⟨f0, f1, f2, f3, f4, f5, f6, f7, f8⟩ := HR7.out.frozen9
        go_wp2
        have hld := loadR (putR_blk HR7.out D (-n))
        refine bodyPost_ret (v := .tuple #[.agg (arrR D (-n)), .nilIface]) ?_ rfl ⟨by rw [HMD.out]; rfl, ?_⟩
        · rw [results_cell_tmp rfl]
          unfold putR at hld
          simp [asAddr, Result.andThen, hld]
        · exact putR_below HB7.out (by omega) _ _
      | false =>
        have HTu : Hid (∀ W, Calls Tryz.prog 37 #[.agg #[.int .i64 (D 0), .int .i64 (D 1), .int .i64 (D 2), .int .i64 (D 3), .int .i64 (D 4), .int .i64 (D 5), .int .i64 (D 6), .int .i64 (D 7), .int .i64 (-n)]] W fun e w' => e = .returned (.agg #[.int .i64 (M 0), .int .i64 (M 1), .int .i64 (M 2), .int .i64 (M 3), .int .i64 (M 4), .int .i64 (M 5), .int .i64 (M 6), .int .i64 (M 7), .int .i64 p]) ∧ Below W.heap.size W w') := fun W => rturned_any D M (-n) p HDl.out (by omega) (fun f hf => by rw [HM.out f hf]; rfl) HP.out W
        go_wp2_with fail
        go_at_call 37
        refine (HTu.out _).mono ?_
        rintro e w8 ⟨rfl, hb⟩
        have HB8 : Hid (Below w.heap.size w w8) := HB7.out.trans (hb.mono HB7.out.size)
        have HR8 : Hid (Blk w8 (w.heap.size + 1) 46 (arrR Z 0)) := HR7.out.below hb
        have HP9 : Hid (Blk w8 P 46 (arrR D (-n))) := HP8.out.below hb
        clear hb n0' n1' n2' n3' n4' n5' n6' n7' n8'
        obtain ⟨n0', n1', n2', n3', n4', n5', n6', n7', n8'⟩ := HP9.out.cells9
        obtain ⟨g0, g1, g2, g3, g4, g5, g6, g7, g8⟩ := HP9.out.frozen9
        obtain ⟨w9, hw9⟩ : ∃ x, x = putR w8 P M p := ⟨_, rfl⟩
        have HB9 : Hid (Below w.heap.size w w9) := by unfold Hid; rw [hw9]; exact putR_below HB8.out (by have := HL4.out; omega) _ _
        have HR9 : Hid (Blk w9 (w.heap.size + 1) 46 (arrR Z 0)) := by unfold Hid; rw [hw9]; exact putR_far HR8.out (by have := HL4.out; omega) _ _
        have HP10 : Hid (Blk w9 P 46 (arrR M p)) := by unfold Hid; rw [hw9]; exact putR_blk HP9.out _ _
        unfold putR at hw9
        go_upto_region 20 with fail
        rw [← hw9]
        clear hw9 n0' n1' n2' n3' n4' n5' n6' n7' n8' g0 g1 g2 g3 g4 g5 g6 g7 g8
        obtain ⟨n0', n1', n2', n3', n4', n5', n6', n7', n8'⟩ := HP10.out.cells9
        obtain ⟨r0, r1, r2, r3, r4, r5, r6, r7, r8⟩ := HR9.out.cells9
        obtain ⟨f0, f1, f2, f3, f4, f5, f6, f7, f8⟩ := HR9.out.frozen9
        go_wp2
        have hld := loadR (putR_blk HR9.out M p)
        refine bodyPost_ret (v := .tuple #[.agg (arrR M p), .nilIface]) ?_ rfl ⟨rfl, ?_⟩
        · rw [results_cell_tmp rfl]
          unfold putR at hld
          simp [asAddr, Result.andThen, hld]
        · exact putR_below HB9.out (by omega) _ _

set_option maxHeartbeats 8000000 in
theorem rowsOf_N (k : Nat) (hk1 : 1 ≤ k) (hk5 : k ≤ 5) (hk3 : k ≠ 3) (n : Int) (h : Bool) (X Y : Nat → Bool) (M : Nat → Int) (p : Int) (n0 : -20 ≤ n) (n1 : n ≤ 20) (sao tao : Option Addr) (sl scap tl tcap : Nat) (w : World) (hL : TimesLaid w)
    (hM : ∀ f, f < 8 → M f = if h = true then timesK (k : Int) (X f) (Y f) else - timesK (k : Int) (X f) (Y f)) (hp : p = if h = true then n else -(n + 1))
    (HC : Hid (∀ W, Below w.heap.size w W → Calls Tryz.prog 35 #[.agg #[.int .i64 (k : Int), .slice sao sl scap, .slice tao tl tcap, .int .i64 n]] W fun e w' => e = .returned .nilIface ∧ Below W.heap.size W w'))
    (HS : Hid (∀ W, Below w.heap.size w W → Calls Tryz.prog 36 #[.slice sao sl scap] W fun e w' => e = .returned (.tuple #[.int .i64 (maskTo X 8), .nilIface]) ∧ Below W.heap.size W w'))
    (HT : Hid (∀ W, Below w.heap.size w W → Calls Tryz.prog 36 #[.slice tao tl tcap] W fun e w' => e = .returned (.tuple #[.int .i64 (maskTo Y 8), .nilIface]) ∧ Below W.heap.size W w')) :
    Calls Tryz.prog 11 #[.agg #[.int .i64 (k : Int), .slice sao sl scap, .slice tao tl tcap, .int .i64 n], .bool h] w fun e w' => e = .returned (.tuple #[.agg #[.int .i64 (M 0), .int .i64 (M 1), .int .i64 (M 2), .int .i64 (M 3), .int .i64 (M 4), .int .i64 (M 5), .int .i64 (M 6), .int .i64 (M 7), .int .i64 p], .nilIface]) ∧ Below w.heap.size w w' := by
  obtain ⟨Z, hZ⟩ : ∃ Z : Nat → Int, Z = fun _ => 0 := ⟨_, rfl⟩
  obtain ⟨w1, hw1⟩ : ∃ w1, w1 = (w.alloc (.cells #[.int .i64 (k : Int), .slice sao sl scap, .slice tao tl tcap, .int .i64 n] 50)).alloc (.cells #[.int .i64 0, .int .i64 0, .int .i64 0, .int .i64 0, .int .i64 0, .int .i64 0, .int .i64 0, .int .i64 0, .int .i64 0] 46) := ⟨_, rfl⟩
  have HW : Hid (Below w.heap.size w w1) := by unfold Hid; rw [hw1]; exact (below_alloc1 _ _).alloc (by simp) _
  have HK0 : Hid (Blk w1 w.heap.size 50 #[.int .i64 (k : Int), .slice sao sl scap, .slice tao tl tcap, .int .i64 n]) := by unfold Hid; rw [hw1]; exact (Blk.new _ _ _).old _
  have HK1 : Hid (Blk w1 (w.heap.size + 1) 46 (arrR Z 0)) := by
    unfold Hid; rw [hw1, hZ]
    have := Blk.new (w.alloc (.cells #[.int .i64 (k : Int), .slice sao sl scap, .slice tao tl tcap, .int .i64 n] 50)) 46 #[.int .i64 0, .int .i64 0, .int .i64 0, .int .i64 0, .int .i64 0, .int .i64 0, .int .i64 0, .int .i64 0, .int .i64 0]
    simp only [World.size_alloc] at this
    exact this
  have HX : Hid (∀ W, Blk W w.heap.size 50 #[.int .i64 (k : Int), .slice sao sl scap, .slice tao tl tcap, .int .i64 n] → W.cell? ⟨w.heap.size, 0, none⟩ = some (.int .i64 (k : Int)) ∧ W.cell? ⟨w.heap.size, 1, none⟩ = some (.slice sao sl scap) ∧ W.cell? ⟨w.heap.size, 2, none⟩ = some (.slice tao tl tcap) ∧ W.cell? ⟨w.heap.size, 3, none⟩ = some (.int .i64 n)) := fun W h => ⟨h.cell 0, h.cell 1, h.cell 2, h.cell 3⟩
  have HLW : Hid (∀ W, Below w.heap.size w W → TimesLaid W) := fun W hW => hL.below hW
  have HBx : Hid (∀ f, f < 8 → bits .and .i64 (maskTo X 8 / 2 ^ f) 1 = (((X f).toNat : Nat) : Int)) := fun f hf => mask_bit8 X hf
  have HBy : Hid (∀ f, f < 8 → bits .and .i64 (maskTo Y 8 / 2 ^ f) 1 = (((Y f).toNat : Nat) : Int)) := fun f hf => mask_bit8 Y hf
  have mx : 0 ≤ maskTo X 8 ∧ maskTo X 8 < 256 := maskTo_le X 8
  have my : 0 ≤ maskTo Y 8 ∧ maskTo Y 8 < 256 := maskTo_le Y 8
  obtain ⟨MX, hMX⟩ : ∃ x, x = maskTo X 8 := ⟨_, rfl⟩
  obtain ⟨MY, hMY⟩ : ∃ x, x = maskTo Y 8 := ⟨_, rfl⟩
  rw [← hMX] at HBx mx HS
  rw [← hMY] at HBy my HT
  clear hMX hMY
  obtain ⟨mx0, mx1⟩ := mx
  obtain ⟨my0, my1⟩ := my
  obtain ⟨D, hD⟩ : ∃ D : Nat → Int, D = fun f => timesK (k : Int) (X f) (Y f) := ⟨_, rfl⟩
  have HDl : Hid (∀ f, f < 8 → -2 ≤ D f ∧ D f ≤ 2) := fun f _ => by
    have := timesK_le (k : Int) (X f) (Y f)
    rw [hD]; show -2 ≤ timesK (k : Int) (X f) (Y f) ∧ timesK (k : Int) (X f) (Y f) ≤ 2; omega
  have HM : Hid (∀ f, f < 8 → M f = if h = true then D f else - D f) := fun f hf => by rw [hD]; exact hM f hf
  have HP : Hid (p = if h = true then n else -(n + 1)) := hp
  have HTC : Hid (∀ f, timeCells.getD (k * 4 + (X f).toNat * 2 + (Y f).toNat) 0 = D f) := fun f => by rw [hD]; exact times_cell k (by omega) (by omega) _ _
  have HZ : Hid (Z = fun _ => 0) := hZ
  clear hM hp hD hL hZ
  obtain ⟨x0, x1, x2, x3⟩ := HX.out _ HK0.out
  go_enter Tryz.func11, Tryz.ntmps11
  go_wp2_with fail
  rw [← hw1]
  clear hw1
  go_wp2_with fail
  go_at_call 35
  refine (HC.out _ HW.out).mono ?_
  rintro e w2 ⟨rfl, hb⟩
  have HB2 : Hid (Below w.heap.size w w2) := HW.out.trans (hb.mono HW.out.size)
  have HA2 : Hid (Blk w2 w.heap.size 50 #[.int .i64 (k : Int), .slice sao sl scap, .slice tao tl tcap, .int .i64 n]) := HK0.out.below hb
  have HR2 : Hid (Blk w2 (w.heap.size + 1) 46 (arrR Z 0)) := HK1.out.below hb
  clear hb x0 x1 x2 x3
  obtain ⟨x0, x1, x2, x3⟩ := HX.out _ HA2.out
  go_wp2_with fail
  go_at_call 36
  refine (HS.out _ HB2.out).mono ?_
  rintro e w3 ⟨rfl, hb⟩
  have HB3 : Hid (Below w.heap.size w w3) := HB2.out.trans (hb.mono HB2.out.size)
  have HA3 : Hid (Blk w3 w.heap.size 50 #[.int .i64 (k : Int), .slice sao sl scap, .slice tao tl tcap, .int .i64 n]) := HA2.out.below hb
  have HR3 : Hid (Blk w3 (w.heap.size + 1) 46 (arrR Z 0)) := HR2.out.below hb
  clear hb x0 x1 x2 x3
  obtain ⟨x0, x1, x2, x3⟩ := HX.out _ HA3.out
  go_wp2_with fail
  go_at_call 36
  refine (HT.out _ HB3.out).mono ?_
  rintro e w4 ⟨rfl, hb⟩
  have HB4 : Hid (Below w.heap.size w w4) := HB3.out.trans (hb.mono HB3.out.size)
  have HA4 : Hid (Blk w4 w.heap.size 50 #[.int .i64 (k : Int), .slice sao sl scap, .slice tao tl tcap, .int .i64 n]) := HA3.out.below hb
  have HR4 : Hid (Blk w4 (w.heap.size + 1) 46 (arrR Z 0)) := HR3.out.below hb
  clear hb x0 x1 x2 x3
  obtain ⟨x0, x1, x2, x3⟩ := HX.out _ HA4.out
  obtain ⟨w5, hw5⟩ : ∃ x, x = w4.alloc (.cells #[.int .i64 0, .int .i64 0, .int .i64 0, .int .i64 0, .int .i64 0, .int .i64 0, .int .i64 0, .int .i64 0, .int .i64 n] 46) := ⟨_, rfl⟩
  have HB5 : Hid (Below w.heap.size w w5) := by unfold Hid; rw [hw5]; exact HB4.out.alloc HB4.out.size _
  have HA5 : Hid (Blk w5 w.heap.size 50 #[.int .i64 (k : Int), .slice sao sl scap, .slice tao tl tcap, .int .i64 n]) := by unfold Hid; rw [hw5]; exact HA4.out.old _
  have HR5 : Hid (Blk w5 (w.heap.size + 1) 46 (arrR Z 0)) := by unfold Hid; rw [hw5]; exact HR4.out.old _
  have HP5 : Hid (Blk w5 w4.heap.size 46 (arrR Z n)) := by unfold Hid; rw [hw5, HZ.out]; exact Blk.new _ _ _
  have HL4 : Hid (w.heap.size + 1 < w4.heap.size) := HR4.out.lt
  obtain ⟨P, hP⟩ : ∃ P, P = w4.heap.size := ⟨_, rfl⟩
  go_upto_region 11 with fail
  rw [← hw5, ← hP]
  rw [← hP] at HP5 HL4
  clear hw5 hP x0 x1 x2 x3
  obtain ⟨x0, x1, x2, x3⟩ := HX.out _ HA5.out
  have hk3' : ¬ ((k : Int) = 3) := by omega
  obtain ⟨w6, hw6⟩ : ∃ x, x = w5 := ⟨_, rfl⟩
  rw [← hw6] at HB5 HA5 HR5 HP5 x0 x1 x2 x3 ⊢
  have HB6 : Hid (Below w.heap.size w w6) := HB5.out
  have HA6 : Hid (Blk w6 w.heap.size 50 #[.int .i64 (k : Int), .slice sao sl scap, .slice tao tl tcap, .int .i64 n]) := HA5.out
  have HR6 : Hid (Blk w6 (w.heap.size + 1) 46 (arrR Z 0)) := HR5.out
  have HP6 : Hid (Blk w6 P 46 (arrR Z n)) := HP5.out
  clear hw6
  go_wp2
  clear x0 x1 x2 x3
  clear HB5 HA5 HR5 HP5 HB4 HA4 HR4 HB3 HA3 HR3 HB2 HA2 HR2 HK0 HK1 HC HS HT HW
  go_loopw [48] (fun i wr => ∃ f : Nat, f ≤ 8 ∧ i = .int .i64 f ∧ Below w.heap.size w wr ∧ Blk wr w.heap.size 50 #[.int .i64 (k : Int), .slice sao sl scap, .slice tao tl tcap, .int .i64 n] ∧ Blk wr (w.heap.size + 1) 46 (arrR Z 0) ∧ Blk wr P 46 (arrR (fun g => if g < f then D g else 0) n)) (fun i _ => 8 - (intOf i).toNat)
  case atStart => exact ⟨0, Nat.zero_le _, rfl, HB6.out, HA6.out, HR6.out, by have := HP6.out; rw [HZ.out] at this; exact this⟩
  case round =>
    obtain ⟨f, hf, rfl, hb, ha, hr, hq⟩ := hrel
    have HB7 : Hid (Below w.heap.size w wr) := hb
    have HA7 : Hid (Blk wr w.heap.size 50 #[.int .i64 (k : Int), .slice sao sl scap, .slice tao tl tcap, .int .i64 n]) := ha
    have HR7 : Hid (Blk wr (w.heap.size + 1) 46 (arrR Z 0)) := hr
    have HP7 : Hid (Blk wr P 46 (arrR (fun g => if g < f then D g else 0) n)) := hq
    clear hb ha hr hq
    by_cases hlt : f < 8
    · have x0 := (HX.out _ HA7.out).1
      have bx := HBx.out f hlt
      have bY := HBy.out f hlt
      obtain ⟨x, hx⟩ : ∃ x, x = (X f).toNat := ⟨_, rfl⟩
      obtain ⟨y, hy⟩ : ∃ y, y = (Y f).toNat := ⟨_, rfl⟩
      have hx2 : x < 2 := by rw [hx]; cases X f <;> decide
      have hy2 : y < 2 := by rw [hy]; cases Y f <;> decide
      rw [← hx] at bx
      rw [← hy] at bY
      have g0 : wr.cell? ⟨0, k * 4 + x * 2 + y, none⟩ = some (.int .i64 (D f)) := by
        rw [HLW.out _ HB7.out _ (by omega), hx, hy, HTC.out]
      clear hx hy
      have c : wr.cell? ⟨P, f, none⟩ = some (.int .i64 0) := by rw [HP7.out.cell, arrR_get _ _ hlt]; simp
      have z := HP7.out.frozen f
      obtain ⟨d, hd⟩ : ∃ d, d = D f := ⟨_, rfl⟩
      rw [← hd] at g0
      have HE : Hid (∀ W, Blk W P 46 (arrR (fun g => if g < f then D g else 0) n) → Blk (W.setCell ⟨P, f, none⟩ (.int .i64 d)) P 46 (arrR (fun g => if g < f + 1 then D g else 0) n)) := fun W hW => by
        have := hW.set f (.int .i64 d)
        rw [arrR_set _ _ _ hlt] at this
        rw [arrR_same (M := fun g => if g = f then d else if g < f then D g else 0)]
        · exact this
        · intro g hg
          by_cases e : g = f
          · subst e; rw [if_pos (by omega), if_pos rfl, hd]
          · simp only [if_neg e]
            by_cases e' : g < f
            · rw [if_pos (by omega), if_pos e']
            · rw [if_neg (by omega), if_neg e']
      clear hd
      go_wp2
      go_region
      go_wp2
      go_roundw
      case rel => exact ⟨f + 1, by omega, by go_num, HB7.out.drew.setCell (by show w.heap.size ≤ P; have := HL4.out; omega) _, HA7.out.drew.far (by have := HL4.out; omega) _ _, HR7.out.drew.far (by have := HL4.out; omega) _ _, HE.out _ HP7.out.drew⟩
      case measure => simp [intOf]; omega
    · obtain rfl : f = 8 := by omega
      have HP8 : Hid (Blk wr P 46 (arrR D n)) := by
        have := HP7.out
        unfold Hid
        rw [arrR_same (M := fun g => if g < 8 then D g else 0)]
        · exact this
        · intro g hg; rw [if_pos hg]
      clear HP7
      obtain ⟨n0', n1', n2', n3', n4', n5', n6', n7', n8'⟩ := HP8.out.cells9
      cases h with
      | true =>
        have HMD : Hid (arrR D n = arrR M p) := by
          unfold Hid
          rw [HP.out]
          exact arrR_same (fun f hf => by rw [HM.out f hf]; rfl) _
        obtain ⟨r0, r1, r2, r3, r4, r5, r6, r7, r8⟩ := HR7.out.cells9
        obtain ⟨f0, f1, f2, f3, f4, f5, f6, f7, f8⟩ := HR7.out.frozen9
        go_wp2
        have hld := loadR (putR_blk HR7.out D n)
        refine bodyPost_ret (v := .tuple #[.agg (arrR D n), .nilIface]) ?_ rfl ⟨by rw [HMD.out]; rfl, ?_⟩
        · rw [results_cell_tmp rfl]
          unfold putR at hld
          simp [asAddr, Result.andThen, hld]
        · exact putR_below HB7.out (by omega) _ _
      | false =>
        have HTu : Hid (∀ W, Calls Tryz.prog 37 #[.agg #[.int .i64 (D 0), .int .i64 (D 1), .int .i64 (D 2), .int .i64 (D 3), .int .i64 (D 4), .int .i64 (D 5), .int .i64 (D 6), .int .i64 (D 7), .int .i64 n]] W fun e w' => e = .returned (.agg #[.int .i64 (M 0), .int .i64 (M 1), .int .i64 (M 2), .int .i64 (M 3), .int .i64 (M 4), .int .i64 (M 5), .int .i64 (M 6), .int .i64 (M 7), .int .i64 p]) ∧ Below W.heap.size W w') := fun W => rturned_any D M n p HDl.out (by omega) (fun f hf => by rw [HM.out f hf]; rfl) HP.out W
        go_wp2_with fail
        go_at_call 37
        refine (HTu.out _).mono ?_
        rintro e w8 ⟨rfl, hb⟩
        have HB8 : Hid (Below w.heap.size w w8) := HB7.out.trans (hb.mono HB7.out.size)
        have HR8 : Hid (Blk w8 (w.heap.size + 1) 46 (arrR Z 0)) := HR7.out.below hb
        have HP9 : Hid (Blk w8 P 46 (arrR D n)) := HP8.out.below hb
        clear hb n0' n1' n2' n3' n4' n5' n6' n7' n8'
        obtain ⟨n0', n1', n2', n3', n4', n5', n6', n7', n8'⟩ := HP9.out.cells9
        obtain ⟨g0, g1, g2, g3, g4, g5, g6, g7, g8⟩ := HP9.out.frozen9
        obtain ⟨w9, hw9⟩ : ∃ x, x = putR w8 P M p := ⟨_, rfl⟩
        have HB9 : Hid (Below w.heap.size w w9) := by unfold Hid; rw [hw9]; exact putR_below HB8.out (by have := HL4.out; omega) _ _
        have HR9 : Hid (Blk w9 (w.heap.size + 1) 46 (arrR Z 0)) := by unfold Hid; rw [hw9]; exact putR_far HR8.out (by have := HL4.out; omega) _ _
        have HP10 : Hid (Blk w9 P 46 (arrR M p)) := by unfold Hid; rw [hw9]; exact putR_blk HP9.out _ _
        unfold putR at hw9
        go_upto_region 20 with fail
        rw [← hw9]
        clear hw9 n0' n1' n2' n3' n4' n5' n6' n7' n8' g0 g1 g2 g3 g4 g5 g6 g7 g8
        obtain ⟨n0', n1', n2', n3', n4', n5', n6', n7', n8'⟩ := HP10.out.cells9
        obtain ⟨r0, r1, r2, r3, r4, r5, r6, r7, r8⟩ := HR9.out.cells9
        obtain ⟨f0, f1, f2, f3, f4, f5, f6, f7, f8⟩ := HR9.out.frozen9
        go_wp2
        have hld := loadR (putR_blk HR9.out M p)
        refine bodyPost_ret (v := .tuple #[.agg (arrR M p), .nilIface]) ?_ rfl ⟨rfl, ?_⟩
        · rw [results_cell_tmp rfl]
          unfold putR at hld
          simp [asAddr, Result.andThen, hld]
        · exact putR_below HB9.out (by omega) _ _

/-- what Of tells of times and most; none, if the atom is wrong. -/
def ofT (k : Int) (s t : List Int) (n : Int) (h : Bool) : Nat → Int := if atomFault k s t n = 0 then rowT k s t h else fun _ => 0
def ofM (k : Int) (s t : List Int) (n : Int) (h : Bool) : Int := if atomFault k s t n = 0 then rowM k n h else 0
/-- Of, whatever the atom. -/
theorem rowsOf_any (k n : Int) (h : Bool) (vs vt : Value) (s t : List Int) (w : World) (hS : Reads w vs s) (hT : Reads w vt t) (hK : KindsLaid w) (hL : TimesLaid w) :
    Calls Tryz.prog 11 #[.agg #[.int .i64 k, vs, vt, .int .i64 n], .bool h] w fun e w' => e = .returned (.tuple #[.agg (arrR (ofT k s t n h) (ofM k s t n h)), errV (atomFault k s t n)]) ∧ Below w.heap.size w w' := by
  obtain ⟨sao, scap, rfl, _⟩ := hS.slice
  obtain ⟨tao, tcap, rfl, _⟩ := hT.slice
  have hc : ∀ W, Below w.heap.size w W → Calls Tryz.prog 35 #[.agg #[.int .i64 k, .slice sao s.length scap, .slice tao t.length tcap, .int .i64 n]] W fun e w' => e = .returned (errV (atomFault k s t n)) ∧ Below W.heap.size W w' := fun W hW => acheck_any k n _ _ s t W (hS.below hW) (hT.below hW) (hK.below hW)
  by_cases hf : atomFault k s t n = 0
  · have e1 : ofT k s t n h = rowT k s t h := by unfold ofT; rw [if_pos hf]
    have e2 : ofM k s t n h = rowM k n h := by unfold ofM; rw [if_pos hf]
    rw [e1, e2, hf]
    rw [hf] at hc
    obtain ⟨hk, hs, ht, n0, n1⟩ := atomFault_zero.1 hf
    have hm := mostN_le k
    have ht' : t = [] ∨ faultN t = 0 := by
      rcases (Bool.eq_false_or_eq_true (secondB k)).symm with q | q
      · exact Or.inl (second_none ht q)
      · exact Or.inr (second_reads ht q)
    obtain ⟨i, rfl⟩ := Int.eq_ofNat_of_zero_le (show 0 ≤ k by omega)
    by_cases h3 : i = 3
    · subst h3
      exact rowsOf_3 n h (liesB s) (liesB t) (rowT _ s t h) _ (by omega) (by omega) sao tao s.length scap t.length tcap w hL (fun f _ => rfl) (by rfl) hc (fun W hW => rmask_right s _ W (hS.below hW) (Or.inr hs)) (fun W hW => rmask_right t _ W (hT.below hW) ht')
    · refine rowsOf_N i (by omega) (by omega) h3 n h (liesB s) (liesB t) (rowT _ s t h) _ (by omega) (by omega) sao tao s.length scap t.length tcap w hL (fun f _ => rfl) ?_ hc (fun W hW => rmask_right s _ W (hS.below hW) (Or.inr hs)) (fun W hW => rmask_right t _ W (hT.below hW) ht')
      unfold rowM mostK
      rw [if_neg (show ¬ ((i : Int) = 3) by omega)]
  · have e1 : ofT k s t n h = fun _ => 0 := by unfold ofT; rw [if_neg hf]
    have e2 : ofM k s t n h = 0 := by unfold ofM; rw [if_neg hf]
    rw [e1, e2, errV_no hf]
    rw [errV_no hf] at hc
    exact rowsOf_bad k _ n h sao tao s.length scap t.length tcap w hc
end Go.Proofs.YtjaedfjfcghgcabGreatDoor

