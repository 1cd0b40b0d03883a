/-
  Proved: what turn.World and turn.Things return, of any world and any numbers; what was in memory is as it was (contracts that the statements of chapter 16 lean on).
-/
import Derived.Test.YteknlcachfhfkahDoorLibTU13
import Derived.Test.YteknlcachfhfkahDoorLibTU7
import Derived.Deep.Cut
import Derived.Laws.ResultCell
namespace Go.Proofs.YteknlcachfhfkahDoor
open Go.ChangeShapes Go.WideShapes Go.ChangeAt Go.RowKit
set_option maxRecDepth 100000

/-- a world in which name j has x. -/
def Wd.putJ (w : Wd) (j : Nat) (x : Int) : Wd := if j = 0 then ⟨w.u, x, w.b, w.c⟩ else if j = 1 then ⟨w.u, w.a, x, w.c⟩ else ⟨w.u, w.a, w.b, x⟩
theorem arrW_putJ (D : Wd) {j : Nat} (hj : j < 3) (x : Int) : (arrW D).setIfInBounds (1 + j) (.int .i64 x) = arrW (D.putJ j x) := by
  rcases (by omega : j = 0 ∨ j = 1 ∨ j = 2) with rfl | rfl | rfl <;> simp [arrW, Wd.putJ]
theorem arrW_name (D : Wd) {k : Nat} (hk : k < 3) : (arrW D)[1 + k]? = some (.int .i64 (D.name k)) := by
  rcases (by omega : k = 0 ∨ k = 1 ∨ k = 2) with rfl | rfl | rfl <;> rfl
theorem arr3_get (p : Nat → Int) {k : Nat} (hk : k < 3) : (arr3 p)[k]? = some (.int .i64 (p k)) := by
  rcases (by omega : k = 0 ∨ k = 1 ∨ k = 2) with rfl | rfl | rfl <;> rfl
/-- the world of other names, as far as it is made. -/
def turnK (p : Nat → Int) (D : Wd) : Nat → Wd
  | 0 => ⟨D.u, 0, 0, 0⟩
  | k + 1 => (turnK p D k).putJ (p k).toNat (D.name k)
theorem turnK_all {p : Nat → Int} (h : onceB (listP p) = true) (D : Wd) : turnK p D 3 = turnW p D := by
  rcases perm_six h with ⟨h0, h1, h2⟩ | ⟨h0, h1, h2⟩ | ⟨h0, h1, h2⟩ | ⟨h0, h1, h2⟩ | ⟨h0, h1, h2⟩ | ⟨h0, h1, h2⟩ <;> simp [turnK, Wd.putJ, turnW, pickN, Wd.name, h0, h1, h2]
/-- the world of other things, as far as it is made. -/
def thingsK (q : List Int) (D : Wd) : Nat → Wd
  | 0 => ⟨D.u, 0, 0, 0⟩
  | k + 1 => (thingsK q D k).putJ k (movedN q (D.name k) q.length)
theorem thingsK_all {q : List Int} {D : Wd} (h : (q.length : Int) = D.u) : thingsK q D 3 = thingsW q D := by
  have e : D.u.toNat = q.length := by omega
  unfold thingsW
  rw [e]
  simp [thingsK, Wd.putJ, Wd.name]
theorem listP_reads {w : World} {G : Nat} {p : Nat → Int} (h : Blk w G 36 (arr3 p)) : Reads w (.slice (some ⟨G, 0, none⟩) 3 3) (listP p) := by
  refine Or.inr ⟨G, 0, 3, rfl, h.lt, (by show 0 < 3; omega), ⟨(by show 3 ≤ _; omega), Nat.le_refl _⟩, fun k hk => ?_⟩
  have hk3 : k < 3 := hk
  rw [Nat.zero_add, h.cell k]
  rcases (by omega : k = 0 ∨ k = 1 ∨ k = 2) with rfl | rfl | rfl <;> rfl
theorem once_low {p : Nat → Int} (h : onceB (listP p) = true) {k : Nat} (hk : k < 3) : ∃ j : Nat, p k = (j : Int) ∧ j < 3 := by
  have hd : k = 0 ∨ k = 1 ∨ k = 2 := by omega
  rcases perm_six h with ⟨h0, h1, h2⟩ | ⟨h0, h1, h2⟩ | ⟨h0, h1, h2⟩ | ⟨h0, h1, h2⟩ | ⟨h0, h1, h2⟩ | ⟨h0, h1, h2⟩ <;> rcases hd with rfl | rfl | rfl <;> first | exact ⟨0, by assumption, by omega⟩ | exact ⟨1, by assumption, by omega⟩ | exact ⟨2, by assumption, by omega⟩

set_option maxHeartbeats 4000000 in
theorem tworld_no (D : Wd) (p : Nat → Int) (w : World) (hno : onceB (listP p) = false) :
    Calls Tryd.prog 26 #[.agg #[.int .i64 D.u, .int .i64 D.a, .int .i64 D.b, .int .i64 D.c], .agg #[.int .i64 (p 0), .int .i64 (p 1), .int .i64 (p 2)]] w fun e w' => e = .returned (.tuple #[.agg #[.int .i64 0, .int .i64 0, .int .i64 0, .int .i64 0], .iface 67 (.int .i64 1)]) ∧ Below w.heap.size w w' := by
  obtain ⟨w1, hw1⟩ : ∃ w1, w1 = ((w.alloc (.cells #[.int .i64 D.u, .int .i64 D.a, .int .i64 D.b, .int .i64 D.c] 38)).alloc (.cells #[.int .i64 (p 0), .int .i64 (p 1), .int .i64 (p 2)] 36)).alloc (.cells #[.int .i64 0, .int .i64 0, .int .i64 0, .int .i64 0] 38) := ⟨_, rfl⟩
  obtain ⟨k0, k1, k2, b1⟩ := three_blocks w (.cells #[.int .i64 D.u, .int .i64 D.a, .int .i64 D.b, .int .i64 D.c] 38) (.cells #[.int .i64 (p 0), .int .i64 (p 1), .int .i64 (p 2)] 36) (.cells #[.int .i64 0, .int .i64 0, .int .i64 0, .int .i64 0] 38)
  rw [← hw1] at k0 k1 k2 b1
  have HB1 : Hid (Below w.heap.size w w1) := b1
  have HK1 : Hid (Blk w1 (w.heap.size + 1) 36 (arr3 p)) := k1
  have HK2 : Hid (Blk w1 (w.heap.size + 1 + 1) 38 (arrW ⟨0, 0, 0, 0⟩)) := k2
  clear k0 k1 k2 b1
  have HE : Hid (Calls Tryd.prog 46 #[.slice (some ⟨w.heap.size + 1, 0, none⟩) 3 3] w1 fun e w' => e = .returned (.bool false) ∧ Below w1.heap.size w1 w') := by
    have := eachOnce_any (listP p) (by show 3 ≤ 6; omega) _ w1 (listP_reads HK1.out)
    rw [hno] at this
    exact this
  clear hno
  go_enter Tryd.func26, Tryd.ntmps26
  go_upto_region 1 with fail
  rw [← hw1]
  clear hw1
  go_wp2_with fail
  go_at_call 46
  refine HE.out.mono ?_
  rintro e w2 ⟨rfl, hb⟩
  have HB : Hid (Below w.heap.size w w2) := HB1.out.trans (hb.mono HB1.out.size)
  have HR : Hid (Blk w2 (w.heap.size + 1 + 1) 38 (arrW ⟨0, 0, 0, 0⟩)) := HK2.out.below hb
  clear hb
  obtain ⟨r0, r1, r2, r3⟩ := HR.out.cells4
  obtain ⟨f0, f1, f2, f3⟩ := HR.out.frozen4
  go_wp2
  have hld := loadW (putW_blk HR.out ⟨0, 0, 0, 0⟩)
  refine bodyPost_ret (v := .tuple #[.agg #[.int .i64 0, .int .i64 0, .int .i64 0, .int .i64 0], .iface 67 (.int .i64 1)]) ?_ rfl ⟨rfl, ?_⟩
  · rw [results_cell_tmp rfl]
    unfold putW arrW at hld
    simp only at hld
    simp [asAddr, Result.andThen, hld]
  · exact putW_below HB.out (by omega) ⟨0, 0, 0, 0⟩

set_option maxHeartbeats 4000000 in
theorem tworld_bad (D : Wd) (p : Nat → Int) (w : World) (hon : onceB (listP p) = true)
    (HW : Hid (∀ W, Calls Tryd.prog 51 #[.agg #[.int .i64 D.u, .int .i64 D.a, .int .i64 D.b, .int .i64 D.c]] W fun e w' => e = .returned (.iface 67 (.int .i64 1)) ∧ Below W.heap.size W w')) :
    Calls Tryd.prog 26 #[.agg #[.int .i64 D.u, .int .i64 D.a, .int .i64 D.b, .int .i64 D.c], .agg #[.int .i64 (p 0), .int .i64 (p 1), .int .i64 (p 2)]] w fun e w' => e = .returned (.tuple #[.agg #[.int .i64 0, .int .i64 0, .int .i64 0, .int .i64 0], .iface 67 (.int .i64 1)]) ∧ Below w.heap.size w w' := by
  obtain ⟨w1, hw1⟩ : ∃ w1, w1 = ((w.alloc (.cells #[.int .i64 D.u, .int .i64 D.a, .int .i64 D.b, .int .i64 D.c] 38)).alloc (.cells #[.int .i64 (p 0), .int .i64 (p 1), .int .i64 (p 2)] 36)).alloc (.cells #[.int .i64 0, .int .i64 0, .int .i64 0, .int .i64 0] 38) := ⟨_, rfl⟩
  obtain ⟨k0, k1, k2, b1⟩ := three_blocks w (.cells #[.int .i64 D.u, .int .i64 D.a, .int .i64 D.b, .int .i64 D.c] 38) (.cells #[.int .i64 (p 0), .int .i64 (p 1), .int .i64 (p 2)] 36) (.cells #[.int .i64 0, .int .i64 0, .int .i64 0, .int .i64 0] 38)
  rw [← hw1] at k0 k1 k2 b1
  have HB1 : Hid (Below w.heap.size w w1) := b1
  have HK0 : Hid (Blk w1 w.heap.size 38 (arrW D)) := k0
  have HK1 : Hid (Blk w1 (w.heap.size + 1) 36 (arr3 p)) := k1
  have HK2 : Hid (Blk w1 (w.heap.size + 1 + 1) 38 (arrW ⟨0, 0, 0, 0⟩)) := k2
  clear k0 k1 k2 b1
  have HE : Hid (Calls Tryd.prog 46 #[.slice (some ⟨w.heap.size + 1, 0, none⟩) 3 3] w1 fun e w' => e = .returned (.bool true) ∧ Below w1.heap.size w1 w') := by
    have := eachOnce_any (listP p) (by show 3 ≤ 6; omega) _ w1 (listP_reads HK1.out)
    rw [hon] at this
    exact this
  clear hon
  go_enter Tryd.func26, Tryd.ntmps26
  go_upto_region 1 with fail
  rw [← hw1]
  clear hw1
  go_wp2_with fail
  go_at_call 46
  refine HE.out.mono ?_
  rintro e w2 ⟨rfl, hb⟩
  have HB : Hid (Below w.heap.size w w2) := HB1.out.trans (hb.mono HB1.out.size)
  have HK : Hid (Blk w2 w.heap.size 38 (arrW D)) := HK0.out.below hb
  have HR : Hid (Blk w2 (w.heap.size + 1 + 1) 38 (arrW ⟨0, 0, 0, 0⟩)) := HK2.out.below hb
  clear hb
  obtain ⟨r0, r1, r2, r3⟩ := HK.out.cells4
  go_wp2_with fail
  go_at_call 51
  refine (HW.out _).mono ?_
  rintro e w3 ⟨rfl, hb⟩
  have HB3 : Hid (Below w.heap.size w w3) := HB.out.trans (hb.mono HB.out.size)
  have HR3 : Hid (Blk w3 (w.heap.size + 1 + 1) 38 (arrW ⟨0, 0, 0, 0⟩)) := HR.out.below hb
  clear hb r0 r1 r2 r3
  obtain ⟨r0, r1, r2, r3⟩ := HR3.out.cells4
  obtain ⟨f0, f1, f2, f3⟩ := HR3.out.frozen4
  go_wp2
  have hld := loadW (putW_blk HR3.out ⟨0, 0, 0, 0⟩)
  refine bodyPost_ret (v := .tuple #[.agg #[.int .i64 0, .int .i64 0, .int .i64 0, .int .i64 0], .iface 67 (.int .i64 1)]) ?_ rfl ⟨rfl, ?_⟩
  · rw [results_cell_tmp rfl]
    unfold putW arrW at hld
    simp only at hld
    simp [asAddr, Result.andThen, hld]
  · exact putW_below HB3.out (by omega) ⟨0, 0, 0, 0⟩

set_option maxHeartbeats 4000000 in
theorem tworld_good (D : Wd) (p : Nat → Int) (w : World) (hon : onceB (listP p) = true)
    (HW : Hid (∀ W, Calls Tryd.prog 51 #[.agg #[.int .i64 D.u, .int .i64 D.a, .int .i64 D.b, .int .i64 D.c]] W fun e w' => e = .returned .nilIface ∧ Below W.heap.size W w')) :
    Calls Tryd.prog 26 #[.agg #[.int .i64 D.u, .int .i64 D.a, .int .i64 D.b, .int .i64 D.c], .agg #[.int .i64 (p 0), .int .i64 (p 1), .int .i64 (p 2)]] w fun e w' => e = .returned (.tuple #[.agg (arrW (turnW p D)), .nilIface]) ∧ Below w.heap.size w w' := by
  obtain ⟨Z, hZ⟩ : ∃ Z : Wd, Z = ⟨0, 0, 0, 0⟩ := ⟨_, rfl⟩
  obtain ⟨w1, hw1⟩ : ∃ w1, w1 = ((w.alloc (.cells #[.int .i64 D.u, .int .i64 D.a, .int .i64 D.b, .int .i64 D.c] 38)).alloc (.cells #[.int .i64 (p 0), .int .i64 (p 1), .int .i64 (p 2)] 36)).alloc (.cells #[.int .i64 0, .int .i64 0, .int .i64 0, .int .i64 0] 38) := ⟨_, rfl⟩
  obtain ⟨k0, k1, k2, b1⟩ := three_blocks w (.cells #[.int .i64 D.u, .int .i64 D.a, .int .i64 D.b, .int .i64 D.c] 38) (.cells #[.int .i64 (p 0), .int .i64 (p 1), .int .i64 (p 2)] 36) (.cells #[.int .i64 0, .int .i64 0, .int .i64 0, .int .i64 0] 38)
  rw [← hw1] at k0 k1 k2 b1
  have HB1 : Hid (Below w.heap.size w w1) := b1
  have HK0 : Hid (Blk w1 w.heap.size 38 (arrW D)) := k0
  have HK1 : Hid (Blk w1 (w.heap.size + 1) 36 (arr3 p)) := k1
  have HK2 : Hid (Blk w1 (w.heap.size + 1 + 1) 38 (arrW Z)) := by unfold Hid; rw [hZ]; exact k2
  clear k0 k1 k2 b1
  have HE : Hid (Calls Tryd.prog 46 #[.slice (some ⟨w.heap.size + 1, 0, none⟩) 3 3] w1 fun e w' => e = .returned (.bool true) ∧ Below w1.heap.size w1 w') := by
    have := eachOnce_any (listP p) (by show 3 ≤ 6; omega) _ w1 (listP_reads HK1.out)
    rw [hon] at this
    exact this
  have HT : Hid (turnK p D 3 = turnW p D) := turnK_all hon D
  have HJ : Hid (∀ k, k < 3 → ∃ j : Nat, p k = (j : Int) ∧ j < 3) := fun k hk => once_low hon hk
  have HP : Hid (∀ W k, k < 3 → Blk W (w.heap.size + 1) 36 (arr3 p) → W.cell? ⟨w.heap.size + 1, k, none⟩ = some (.int .i64 (p k))) := fun W k hk h => by rw [h.cell, arr3_get _ hk]
  have HD : Hid (∀ W k, k < 3 → Blk W w.heap.size 38 (arrW D) → W.cell? ⟨w.heap.size, 1 + k, none⟩ = some (.int .i64 (D.name k))) := fun W k hk h => by rw [h.cell, arrW_name _ hk]
  clear hon hZ
  go_enter Tryd.func26, Tryd.ntmps26
  go_upto_region 1 with fail
  rw [← hw1]
  clear hw1
  go_wp2_with fail
  go_at_call 46
  refine HE.out.mono ?_
  rintro e w2 ⟨rfl, hb⟩
  have HB : Hid (Below w.heap.size w w2) := HB1.out.trans (hb.mono HB1.out.size)
  have HKa : Hid (Blk w2 w.heap.size 38 (arrW D)) := HK0.out.below hb
  have HPa : Hid (Blk w2 (w.heap.size + 1) 36 (arr3 p)) := HK1.out.below hb
  have HRa : Hid (Blk w2 (w.heap.size + 1 + 1) 38 (arrW Z)) := HK2.out.below hb
  clear hb
  obtain ⟨r0, r1, r2, r3⟩ := HKa.out.cells4
  go_wp2_with fail
  go_at_call 51
  refine (HW.out _).mono ?_
  rintro e w3 ⟨rfl, hb⟩
  have HB3 : Hid (Below w.heap.size w w3) := HB.out.trans (hb.mono HB.out.size)
  have HK3 : Hid (Blk w3 w.heap.size 38 (arrW D)) := HKa.out.below hb
  have HP3 : Hid (Blk w3 (w.heap.size + 1) 36 (arr3 p)) := HPa.out.below hb
  have HR3 : Hid (Blk w3 (w.heap.size + 1 + 1) 38 (arrW Z)) := HRa.out.below hb
  clear hb r0 r1 r2 r3
  obtain ⟨G, hG⟩ : ∃ G, G = w3.heap.size := ⟨_, rfl⟩
  have HG : Hid (w.heap.size + 1 + 1 < G) := by unfold Hid; rw [hG]; exact HR3.out.lt
  obtain ⟨w4, hw4⟩ : ∃ w4, w4 = w3.alloc (.cells #[.int .i64 D.u, .int .i64 0, .int .i64 0, .int .i64 0] 38) := ⟨_, rfl⟩
  have HB4 : Hid (Below w.heap.size w w4) := by unfold Hid; rw [hw4]; exact HB3.out.alloc HB3.out.size _
  have HK4 : Hid (Blk w4 w.heap.size 38 (arrW D)) := by unfold Hid; rw [hw4]; exact HK3.out.old _
  have HP4 : Hid (Blk w4 (w.heap.size + 1) 36 (arr3 p)) := by unfold Hid; rw [hw4]; exact HP3.out.old _
  have HR4 : Hid (Blk w4 (w.heap.size + 1 + 1) 38 (arrW Z)) := by unfold Hid; rw [hw4]; exact HR3.out.old _
  have HM4 : Hid (Blk w4 G 38 (arrW (turnK p D 0))) := by unfold Hid; rw [hw4, hG]; exact Blk.new _ _ _
  obtain ⟨r0, r1, r2, r3⟩ := HK3.out.cells4
  clear HB HKa HPa HRa
  go_wp2
  rw [← hw4, ← hG]
  clear hw4 hG r0 r1 r2 r3
  go_loopw [8, 23] (fun _ i wr => ∃ k : Nat, k ≤ 3 ∧ i = .int .i64 k ∧ Below w.heap.size w wr ∧ Blk wr w.heap.size 38 (arrW D) ∧ Blk wr (w.heap.size + 1) 36 (arr3 p) ∧ Blk wr (w.heap.size + 1 + 1) 38 (arrW Z) ∧ Blk wr G 38 (arrW (turnK p D k))) (fun _ i _ => 3 - (intOf i).toNat)
  case atStart => exact ⟨0, Nat.zero_le _, rfl, HB4.out, HK4.out, HP4.out, HR4.out, HM4.out⟩
  case round =>
    obtain ⟨k, hk, rfl, hb, hkd, hp, hr, hm⟩ := hrel
    have HB5 : Hid (Below w.heap.size w wr) := hb
    have HK5 : Hid (Blk wr w.heap.size 38 (arrW D)) := hkd
    have HP5 : Hid (Blk wr (w.heap.size + 1) 36 (arr3 p)) := hp
    have HR5 : Hid (Blk wr (w.heap.size + 1 + 1) 38 (arrW Z)) := hr
    have HM5 : Hid (Blk wr G 38 (arrW (turnK p D k))) := hm
    clear hb hkd hp hr hm
    by_cases hlt : k < 3
    · have y := HP.out wr k hlt HP5.out
      have z := HD.out wr k hlt HK5.out
      obtain ⟨j, hj, hj3⟩ := HJ.out k hlt
      obtain ⟨x, hx⟩ : ∃ x, x = D.name k := ⟨_, rfl⟩
      rw [hj] at y
      rw [← hx] at z
      have HN : Hid (Blk (wr.setCell ⟨G, 1 + j, none⟩ (.int .i64 x)) G 38 (arrW (turnK p D (k + 1)))) := by
        unfold Hid
        show Blk _ _ _ (arrW ((turnK p D k).putJ (p k).toNat (D.name k)))
        rw [hj, Int.toNat_natCast, ← hx, ← arrW_putJ _ hj3]
        exact HM5.out.set (1 + j) _
      clear hj hx
      obtain ⟨o, ho⟩ : ∃ o, wr.cell? ⟨G, 1 + j, none⟩ = some o := ⟨_, by rw [HM5.out.cell (1 + j), arrW_name _ hj3]⟩
      have fz : wr.frozen? ⟨G, 1 + j, none⟩ = false := HM5.out.frozen (1 + j)
      go_upto_region 10 with fail
      go_region
      go_wp2
      go_roundw
      case rel =>
        have hg := HG.out
        exact ⟨k + 1, by omega, by go_num, (HB5.out.setCell (by show _ ≤ G; omega) _).drew, (HK5.out.far (by omega) _ _).drew, (HP5.out.far (by omega) _ _).drew, (HR5.out.far (by omega) _ _).drew, HN.out.drew⟩
      case measure => simp [intOf]; omega
    · obtain rfl : k = 3 := by omega
      obtain ⟨E, hE⟩ : ∃ E, E = turnK p D 3 := ⟨_, rfl⟩
      rw [← hE] at HM5 HT
      have HD : Hid (E = turnW p D) := HT.out
      clear hE
      obtain ⟨y0, y1, y2, y3⟩ := HM5.out.cells4
      obtain ⟨r0, r1, r2, r3⟩ := HR5.out.cells4
      obtain ⟨f0, f1, f2, f3⟩ := HR5.out.frozen4
      go_wp2
      have hld := loadW (putW_blk HR5.out E)
      refine bodyPost_ret (v := .tuple #[.agg (arrW E), .nilIface]) ?_ rfl ⟨by rw [HD.out], ?_⟩
      · rw [results_cell_tmp rfl]
        unfold putW at hld
        simp [asAddr, Result.andThen, hld]
      · exact putW_below HB5.out (by omega) E
/-- World, whatever the world and the numbers. -/
theorem turnWorld_any (D : Wd) (p : Nat → Int) (w : World) :
    Calls Tryd.prog 26 #[.agg #[.int .i64 D.u, .int .i64 D.a, .int .i64 D.b, .int .i64 D.c], .agg #[.int .i64 (p 0), .int .i64 (p 1), .int .i64 (p 2)]] w fun e w' => e = .returned (.tuple #[.agg #[.int .i64 (turnA p D).u, .int .i64 (turnA p D).a, .int .i64 (turnA p D).b, .int .i64 (turnA p D).c], errV (turnFault p D)]) ∧ Below w.heap.size w w' := by
  have hW := fun W => checkWorld_any D.u D.a D.b D.c W
  have eD : Wd.mk D.u D.a D.b D.c = D := rfl
  rw [eD] at hW
  by_cases h1 : onceB (listP p) = true
  · by_cases ho : D.ok = true
    · rw [if_pos ho] at hW
      have hf : turnFault p D = 0 := turn_zero.2 ⟨h1, ho⟩
      have eA : turnA p D = turnW p D := by unfold turnA; rw [if_pos hf]
      rw [hf, eA]
      exact tworld_good D p w h1 hW
    · rw [if_neg ho] at hW
      have hf : turnFault p D = 1 := by unfold turnFault; rw [if_pos h1, if_neg ho]
      have eA : turnA p D = ⟨0, 0, 0, 0⟩ := by unfold turnA; rw [hf]; rfl
      rw [hf, eA]
      exact tworld_bad D p w h1 hW
  · have hf : turnFault p D = 1 := by unfold turnFault; rw [if_neg h1]
    have eA : turnA p D = ⟨0, 0, 0, 0⟩ := by unfold turnA; rw [hf]; rfl
    rw [hf, eA]
    exact tworld_no D p w (by simpa using h1)
set_option maxHeartbeats 4000000 in
theorem things_bad (D : Wd) (ao : Option Addr) (n cap : Nat) (w : World)
    (HW : Hid (∀ W, Calls Tryd.prog 51 #[.agg #[.int .i64 D.u, .int .i64 D.a, .int .i64 D.b, .int .i64 D.c]] W fun e w' => e = .returned (.iface 67 (.int .i64 1)) ∧ Below W.heap.size W w')) :
    Calls Tryd.prog 28 #[.agg #[.int .i64 D.u, .int .i64 D.a, .int .i64 D.b, .int .i64 D.c], .slice ao n cap] w fun e w' => e = .returned (.tuple #[.agg #[.int .i64 0, .int .i64 0, .int .i64 0, .int .i64 0], .iface 67 (.int .i64 1)]) ∧ Below w.heap.size w w' := by
  obtain ⟨Z, hZ⟩ : ∃ Z : Wd, Z = ⟨0, 0, 0, 0⟩ := ⟨_, rfl⟩
  obtain ⟨w1, hw1⟩ : ∃ w1, w1 = (w.alloc (.cells #[.int .i64 D.u, .int .i64 D.a, .int .i64 D.b, .int .i64 D.c] 38)).alloc (.cells #[.int .i64 0, .int .i64 0, .int .i64 0, .int .i64 0] 38) := ⟨_, rfl⟩
  have HB1 : Hid (Below w.heap.size w w1) := by unfold Hid; rw [hw1]; exact (below_alloc1 _ _).alloc (by simp) _
  have HK0 : Hid (Blk w1 w.heap.size 38 (arrW D)) := by unfold Hid; rw [hw1]; exact (Blk.new _ _ _).old _
  have HK2 : Hid (Blk w1 (w.heap.size + 1) 38 (arrW Z)) := by
    unfold Hid; rw [hw1, hZ]
    have := Blk.new (w.alloc (.cells (arrW D) 38)) 38 (arrW ⟨0, 0, 0, 0⟩)
    simp only [World.size_alloc] at this
    exact this
  have HZ : Hid (Z = ⟨0, 0, 0, 0⟩) := hZ
  clear hZ
  go_enter Tryd.func28, Tryd.ntmps28
  go_upto_region 1 with fail
  rw [← hw1]
  clear hw1
  obtain ⟨r0, r1, r2, r3⟩ := HK0.out.cells4
  go_wp2_with fail
  go_at_call 51
  refine (HW.out _).mono ?_
  rintro e w2 ⟨rfl, hb⟩
  have HB2 : Hid (Below w.heap.size w w2) := HB1.out.trans (hb.mono HB1.out.size)
  have HKa : Hid (Blk w2 w.heap.size 38 (arrW D)) := HK0.out.below hb
  have HRa : Hid (Blk w2 (w.heap.size + 1) 38 (arrW Z)) := HK2.out.below hb
  clear hb r0 r1 r2 r3
  have hZ0 : Hid (Z = ⟨0, 0, 0, 0⟩) := HZ.out
  obtain ⟨y0, y1, y2, y3⟩ := HRa.out.cells4
  obtain ⟨f0, f1, f2, f3⟩ := HRa.out.frozen4
  go_wp2
  have hld := loadW (putW_blk HRa.out ⟨0, 0, 0, 0⟩)
  refine bodyPost_ret (v := .tuple #[.agg #[.int .i64 0, .int .i64 0, .int .i64 0, .int .i64 0], .iface 67 (.int .i64 1)]) ?_ rfl ⟨rfl, ?_⟩
  · rw [results_cell_tmp rfl]
    unfold putW arrW at hld
    simp only at hld
    simp [asAddr, Result.andThen, hld]
  · exact putW_below HB2.out (by omega) ⟨0, 0, 0, 0⟩

set_option maxHeartbeats 4000000 in
theorem things_shape (D : Wd) (ao : Option Addr) (n cap : Nat) (w : World) (hne : ((n : Int) != D.u) = true)
    (HW : Hid (∀ W, Calls Tryd.prog 51 #[.agg #[.int .i64 D.u, .int .i64 D.a, .int .i64 D.b, .int .i64 D.c]] W fun e w' => e = .returned .nilIface ∧ Below W.heap.size W w')) :
    Calls Tryd.prog 28 #[.agg #[.int .i64 D.u, .int .i64 D.a, .int .i64 D.b, .int .i64 D.c], .slice ao n cap] w fun e w' => e = .returned (.tuple #[.agg #[.int .i64 0, .int .i64 0, .int .i64 0, .int .i64 0], .iface 67 (.int .i64 3)]) ∧ Below w.heap.size w w' := by
  obtain ⟨Z, hZ⟩ : ∃ Z : Wd, Z = ⟨0, 0, 0, 0⟩ := ⟨_, rfl⟩
  obtain ⟨w1, hw1⟩ : ∃ w1, w1 = (w.alloc (.cells #[.int .i64 D.u, .int .i64 D.a, .int .i64 D.b, .int .i64 D.c] 38)).alloc (.cells #[.int .i64 0, .int .i64 0, .int .i64 0, .int .i64 0] 38) := ⟨_, rfl⟩
  have HB1 : Hid (Below w.heap.size w w1) := by unfold Hid; rw [hw1]; exact (below_alloc1 _ _).alloc (by simp) _
  have HK0 : Hid (Blk w1 w.heap.size 38 (arrW D)) := by unfold Hid; rw [hw1]; exact (Blk.new _ _ _).old _
  have HK2 : Hid (Blk w1 (w.heap.size + 1) 38 (arrW Z)) := by
    unfold Hid; rw [hw1, hZ]
    have := Blk.new (w.alloc (.cells (arrW D) 38)) 38 (arrW ⟨0, 0, 0, 0⟩)
    simp only [World.size_alloc] at this
    exact this
  have HZ : Hid (Z = ⟨0, 0, 0, 0⟩) := hZ
  clear hZ
  go_enter Tryd.func28, Tryd.ntmps28
  go_upto_region 1 with fail
  rw [← hw1]
  clear hw1
  obtain ⟨r0, r1, r2, r3⟩ := HK0.out.cells4
  go_wp2_with fail
  go_at_call 51
  refine (HW.out _).mono ?_
  rintro e w2 ⟨rfl, hb⟩
  have HB2 : Hid (Below w.heap.size w w2) := HB1.out.trans (hb.mono HB1.out.size)
  have HKa : Hid (Blk w2 w.heap.size 38 (arrW D)) := HK0.out.below hb
  have HRa : Hid (Blk w2 (w.heap.size + 1) 38 (arrW Z)) := HK2.out.below hb
  clear hb r0 r1 r2 r3
  obtain ⟨r0, r1, r2, r3⟩ := HKa.out.cells4
  have hZ0 : Hid (Z = ⟨0, 0, 0, 0⟩) := HZ.out
  obtain ⟨y0, y1, y2, y3⟩ := HRa.out.cells4
  obtain ⟨f0, f1, f2, f3⟩ := HRa.out.frozen4
  go_wp2
  have hld := loadW (putW_blk HRa.out ⟨0, 0, 0, 0⟩)
  refine bodyPost_ret (v := .tuple #[.agg #[.int .i64 0, .int .i64 0, .int .i64 0, .int .i64 0], .iface 67 (.int .i64 3)]) ?_ rfl ⟨rfl, ?_⟩
  · rw [results_cell_tmp rfl]
    unfold putW arrW at hld
    simp only at hld
    simp [asAddr, Result.andThen, hld]
  · exact putW_below HB2.out (by omega) ⟨0, 0, 0, 0⟩

set_option maxHeartbeats 4000000 in
theorem things_no (D : Wd) (ao : Option Addr) (n cap : Nat) (w : World) (hne : ((n : Int) != D.u) = false)
    (HW : Hid (∀ W, Calls Tryd.prog 51 #[.agg #[.int .i64 D.u, .int .i64 D.a, .int .i64 D.b, .int .i64 D.c]] W fun e w' => e = .returned .nilIface ∧ Below W.heap.size W w'))
    (HE : Hid (∀ W, Below w.heap.size w W → Calls Tryd.prog 46 #[.slice ao n cap] W fun e w' => e = .returned (.bool false) ∧ Below W.heap.size W w')) :
    Calls Tryd.prog 28 #[.agg #[.int .i64 D.u, .int .i64 D.a, .int .i64 D.b, .int .i64 D.c], .slice ao n cap] w fun e w' => e = .returned (.tuple #[.agg #[.int .i64 0, .int .i64 0, .int .i64 0, .int .i64 0], .iface 67 (.int .i64 1)]) ∧ Below w.heap.size w w' := by
  obtain ⟨Z, hZ⟩ : ∃ Z : Wd, Z = ⟨0, 0, 0, 0⟩ := ⟨_, rfl⟩
  obtain ⟨w1, hw1⟩ : ∃ w1, w1 = (w.alloc (.cells #[.int .i64 D.u, .int .i64 D.a, .int .i64 D.b, .int .i64 D.c] 38)).alloc (.cells #[.int .i64 0, .int .i64 0, .int .i64 0, .int .i64 0] 38) := ⟨_, rfl⟩
  have HB1 : Hid (Below w.heap.size w w1) := by unfold Hid; rw [hw1]; exact (below_alloc1 _ _).alloc (by simp) _
  have HK0 : Hid (Blk w1 w.heap.size 38 (arrW D)) := by unfold Hid; rw [hw1]; exact (Blk.new _ _ _).old _
  have HK2 : Hid (Blk w1 (w.heap.size + 1) 38 (arrW Z)) := by
    unfold Hid; rw [hw1, hZ]
    have := Blk.new (w.alloc (.cells (arrW D) 38)) 38 (arrW ⟨0, 0, 0, 0⟩)
    simp only [World.size_alloc] at this
    exact this
  have HZ : Hid (Z = ⟨0, 0, 0, 0⟩) := hZ
  clear hZ
  go_enter Tryd.func28, Tryd.ntmps28
  go_upto_region 1 with fail
  rw [← hw1]
  clear hw1
  obtain ⟨r0, r1, r2, r3⟩ := HK0.out.cells4
  go_wp2_with fail
  go_at_call 51
  refine (HW.out _).mono ?_
  rintro e w2 ⟨rfl, hb⟩
  have HB2 : Hid (Below w.heap.size w w2) := HB1.out.trans (hb.mono HB1.out.size)
  have HKa : Hid (Blk w2 w.heap.size 38 (arrW D)) := HK0.out.below hb
  have HRa : Hid (Blk w2 (w.heap.size + 1) 38 (arrW Z)) := HK2.out.below hb
  clear hb r0 r1 r2 r3
  obtain ⟨r0, r1, r2, r3⟩ := HKa.out.cells4
  go_wp2_with fail
  go_at_call 46
  refine (HE.out _ HB2.out).mono ?_
  rintro e w3 ⟨rfl, hb⟩
  have HB3 : Hid (Below w.heap.size w w3) := HB2.out.trans (hb.mono HB2.out.size)
  have HR3 : Hid (Blk w3 (w.heap.size + 1) 38 (arrW Z)) := HRa.out.below hb
  clear hb r0 r1 r2 r3
  have hZ0 : Hid (Z = ⟨0, 0, 0, 0⟩) := HZ.out
  obtain ⟨y0, y1, y2, y3⟩ := HR3.out.cells4
  obtain ⟨f0, f1, f2, f3⟩ := HR3.out.frozen4
  go_wp2
  have hld := loadW (putW_blk HR3.out ⟨0, 0, 0, 0⟩)
  refine bodyPost_ret (v := .tuple #[.agg #[.int .i64 0, .int .i64 0, .int .i64 0, .int .i64 0], .iface 67 (.int .i64 1)]) ?_ rfl ⟨rfl, ?_⟩
  · rw [results_cell_tmp rfl]
    unfold putW arrW at hld
    simp only at hld
    simp [asAddr, Result.andThen, hld]
  · exact putW_below HB3.out (by omega) ⟨0, 0, 0, 0⟩

set_option maxHeartbeats 4000000 in
theorem things_good (D : Wd) (q : List Int) (ao : Option Addr) (n cap : Nat) (w : World) (hne : ((n : Int) != D.u) = false) (hT : thingsK q D 3 = thingsW q D)
    (HW : Hid (∀ W, Calls Tryd.prog 51 #[.agg #[.int .i64 D.u, .int .i64 D.a, .int .i64 D.b, .int .i64 D.c]] W fun e w' => e = .returned .nilIface ∧ Below W.heap.size W w'))
    (HE : Hid (∀ W, Below w.heap.size w W → Calls Tryd.prog 46 #[.slice ao n cap] W fun e w' => e = .returned (.bool true) ∧ Below W.heap.size W w'))
    (HM : Hid (∀ k : Nat, k < 3 → ∀ W, Below w.heap.size w W → Calls Tryd.prog 52 #[.int .i64 (D.name k), .slice ao n cap] W fun e w' => e = .returned (.int .i64 (movedN q (D.name k) q.length)) ∧ w' = W)) :
    Calls Tryd.prog 28 #[.agg #[.int .i64 D.u, .int .i64 D.a, .int .i64 D.b, .int .i64 D.c], .slice ao n cap] w fun e w' => e = .returned (.tuple #[.agg (arrW (thingsW q D)), .nilIface]) ∧ Below w.heap.size w w' := by
  obtain ⟨Z, hZ⟩ : ∃ Z : Wd, Z = ⟨0, 0, 0, 0⟩ := ⟨_, rfl⟩
  obtain ⟨w1, hw1⟩ : ∃ w1, w1 = (w.alloc (.cells #[.int .i64 D.u, .int .i64 D.a, .int .i64 D.b, .int .i64 D.c] 38)).alloc (.cells #[.int .i64 0, .int .i64 0, .int .i64 0, .int .i64 0] 38) := ⟨_, rfl⟩
  have HB1 : Hid (Below w.heap.size w w1) := by unfold Hid; rw [hw1]; exact (below_alloc1 _ _).alloc (by simp) _
  have HK0 : Hid (Blk w1 w.heap.size 38 (arrW D)) := by unfold Hid; rw [hw1]; exact (Blk.new _ _ _).old _
  have HK2 : Hid (Blk w1 (w.heap.size + 1) 38 (arrW Z)) := by
    unfold Hid; rw [hw1, hZ]
    have := Blk.new (w.alloc (.cells (arrW D) 38)) 38 (arrW ⟨0, 0, 0, 0⟩)
    simp only [World.size_alloc] at this
    exact this
  have HZ : Hid (Z = ⟨0, 0, 0, 0⟩) := hZ
  have HT : Hid (thingsK q D 3 = thingsW q D) := hT
  have HD : Hid (∀ W k, k < 3 → Blk W w.heap.size 38 (arrW D) → W.cell? ⟨w.heap.size, 1 + k, none⟩ = some (.int .i64 (D.name k))) := fun W k hk h => by rw [h.cell, arrW_name _ hk]
  clear hZ hT
  go_enter Tryd.func28, Tryd.ntmps28
  go_upto_region 1 with fail
  rw [← hw1]
  clear hw1
  obtain ⟨r0, r1, r2, r3⟩ := HK0.out.cells4
  go_wp2_with fail
  go_at_call 51
  refine (HW.out _).mono ?_
  rintro e w2 ⟨rfl, hb⟩
  have HB2 : Hid (Below w.heap.size w w2) := HB1.out.trans (hb.mono HB1.out.size)
  have HKa : Hid (Blk w2 w.heap.size 38 (arrW D)) := HK0.out.below hb
  have HRa : Hid (Blk w2 (w.heap.size + 1) 38 (arrW Z)) := HK2.out.below hb
  clear hb r0 r1 r2 r3
  obtain ⟨r0, r1, r2, r3⟩ := HKa.out.cells4
  go_wp2_with fail
  go_at_call 46
  refine (HE.out _ HB2.out).mono ?_
  rintro e w3 ⟨rfl, hb⟩
  have HB3 : Hid (Below w.heap.size w w3) := HB2.out.trans (hb.mono HB2.out.size)
  have HK3 : Hid (Blk w3 w.heap.size 38 (arrW D)) := HKa.out.below hb
  have HR3 : Hid (Blk w3 (w.heap.size + 1) 38 (arrW Z)) := HRa.out.below hb
  clear hb r0 r1 r2 r3
  obtain ⟨G, hG⟩ : ∃ G, G = w3.heap.size := ⟨_, rfl⟩
  have HG : Hid (w.heap.size + 1 < G) := by unfold Hid; rw [hG]; exact HR3.out.lt
  obtain ⟨w4, hw4⟩ : ∃ w4, w4 = w3.alloc (.cells #[.int .i64 D.u, .int .i64 0, .int .i64 0, .int .i64 0] 38) := ⟨_, rfl⟩
  have HB4 : Hid (Below w.heap.size w w4) := by unfold Hid; rw [hw4]; exact HB3.out.alloc HB3.out.size _
  have HK4 : Hid (Blk w4 w.heap.size 38 (arrW D)) := by unfold Hid; rw [hw4]; exact HK3.out.old _
  have HR4 : Hid (Blk w4 (w.heap.size + 1) 38 (arrW Z)) := by unfold Hid; rw [hw4]; exact HR3.out.old _
  have HM4 : Hid (Blk w4 G 38 (arrW (thingsK q D 0))) := by unfold Hid; rw [hw4, hG]; exact Blk.new _ _ _
  obtain ⟨r0, r1, r2, r3⟩ := HK3.out.cells4
  clear HB2 HKa HRa
  go_wp2
  rw [← hw4, ← hG]
  clear hw4 hG r0 r1 r2 r3
  go_loopw [8, 30] (fun _ i wr => ∃ k : Nat, k ≤ 3 ∧ i = .int .i64 k ∧ Below w.heap.size w wr ∧ Blk wr w.heap.size 38 (arrW D) ∧ Blk wr (w.heap.size + 1) 38 (arrW Z) ∧ Blk wr G 38 (arrW (thingsK q D k))) (fun _ i _ => 3 - (intOf i).toNat)
  case atStart => exact ⟨0, Nat.zero_le _, rfl, HB4.out, HK4.out, HR4.out, HM4.out⟩
  case round =>
    obtain ⟨k, hk, rfl, hb, hkd, hr, hm⟩ := hrel
    have HB5 : Hid (Below w.heap.size w wr) := hb
    have HK5 : Hid (Blk wr w.heap.size 38 (arrW D)) := hkd
    have HR5 : Hid (Blk wr (w.heap.size + 1) 38 (arrW Z)) := hr
    have HM5 : Hid (Blk wr G 38 (arrW (thingsK q D k))) := hm
    clear hb hkd hr hm
    by_cases hlt : k < 3
    · have z := HD.out wr k hlt HK5.out
      have HMk := HM.out k hlt
      have HMk' : Hid _ := HMk
      clear HMk
      obtain ⟨x, hx⟩ : ∃ x, x = D.name k := ⟨_, rfl⟩
      rw [← hx] at z HMk'
      obtain ⟨v, hv⟩ : ∃ v, v = movedN q x q.length := ⟨_, rfl⟩
      rw [← hv] at HMk'
      have HN : Hid (Blk (wr.setCell ⟨G, 1 + k, none⟩ (.int .i64 v)) G 38 (arrW (thingsK q D (k + 1)))) := by
        unfold Hid
        show Blk _ _ _ (arrW ((thingsK q D k).putJ k (movedN q (D.name k) q.length)))
        rw [← hx, ← hv, ← arrW_putJ _ hlt]
        exact HM5.out.set (1 + k) _
      clear hx hv
      obtain ⟨o, ho⟩ : ∃ o, wr.cell? ⟨G, 1 + k, none⟩ = some o := ⟨_, by rw [HM5.out.cell (1 + k), arrW_name _ hlt]⟩
      have fz : wr.frozen? ⟨G, 1 + k, none⟩ = false := HM5.out.frozen (1 + k)
      go_wp2_with fail
      go_at_call 52
      refine (HMk'.out _ HB5.out).mono ?_
      rintro e w' ⟨rfl, rfl⟩
      go_wp2
      go_roundw
      case rel =>
        have hg := HG.out
        exact ⟨k + 1, by omega, by go_num, HB5.out.setCell (by show _ ≤ G; omega) _, HK5.out.far (by omega) _ _, HR5.out.far (by omega) _ _, HN.out⟩
      case measure => simp [intOf]; omega
    · obtain rfl : k = 3 := by omega
      obtain ⟨E, hE⟩ : ∃ E, E = thingsK q D 3 := ⟨_, rfl⟩
      rw [← hE] at HM5 HT
      clear hE
      obtain ⟨y0, y1, y2, y3⟩ := HM5.out.cells4
      obtain ⟨r0, r1, r2, r3⟩ := HR5.out.cells4
      obtain ⟨f0, f1, f2, f3⟩ := HR5.out.frozen4
      go_wp2
      have hld := loadW (putW_blk HR5.out E)
      refine bodyPost_ret (v := .tuple #[.agg (arrW E), .nilIface]) ?_ rfl ⟨by rw [HT.out], ?_⟩
      · rw [results_cell_tmp rfl]
        unfold putW at hld
        simp [asAddr, Result.andThen, hld]
      · exact putW_below HB5.out (by omega) E

/-- Things, whatever the world and the numbers. -/
theorem turnThings_any (D : Wd) (v : Value) (q : List Int) (w : World) (hQ : Reads w v q) :
    Calls Tryd.prog 28 #[.agg #[.int .i64 D.u, .int .i64 D.a, .int .i64 D.b, .int .i64 D.c], v] w fun e w' => e = .returned (.tuple #[.agg #[.int .i64 (thingsA D q).u, .int .i64 (thingsA D q).a, .int .i64 (thingsA D q).b, .int .i64 (thingsA D q).c], errV (thingsFault D q)]) ∧ Below w.heap.size w w' := by
  have hW := fun W => checkWorld_any D.u D.a D.b D.c W
  obtain ⟨ao, cap, rfl⟩ : ∃ ao cap, v = .slice ao q.length cap := by
    rcases hQ with ⟨ao, cap, rfl, rfl⟩ | ⟨b, off, cap, rfl, _⟩
    · exact ⟨ao, cap, rfl⟩
    · exact ⟨_, cap, rfl⟩
  have eD : Wd.mk D.u D.a D.b D.c = D := rfl
  rw [eD] at hW
  by_cases ho : D.ok = true
  · rw [if_pos ho] at hW
    have hu := ok_u ho
    by_cases hl : (q.length : Int) = D.u
    · have hne : ((q.length : Int) != D.u) = false := by simp [hl]
      by_cases h1 : onceB q = true
      · have hf : thingsFault D q = 0 := things_zero.2 ⟨ho, hl, h1⟩
        have eA : thingsA D q = thingsW q D := by unfold thingsA; rw [if_pos hf]
        rw [hf, eA]
        refine things_good D q ao _ cap w hne (thingsK_all hl) hW (fun W hb => ?_) (fun k hk W hb => ?_)
        · have h := eachOnce_any q (by omega) _ W (hQ.below hb)
          rw [h1] at h
          exact h
        · have hn : okB D.u (D.name k) = true := by
            obtain ⟨n1, n2, n3⟩ := Wd.ok_iff.1 ho
            rcases (by omega : k = 0 ∨ k = 1 ∨ k = 2) with rfl | rfl | rfl
            · exact n1
            · exact n2
            · exact n3
          obtain ⟨_, _, n0, n64⟩ := okB_lt hn
          obtain ⟨x, hx⟩ := Int.eq_ofNat_of_zero_le n0
          rw [hx]
          exact movedT_any x q (by omega) (by omega) h1 _ W (hQ.below hb)
      · have hf : thingsFault D q = 1 := by unfold thingsFault; rw [if_pos ho, if_pos hl, if_neg h1]
        have eA : thingsA D q = ⟨0, 0, 0, 0⟩ := by unfold thingsA; rw [hf]; rfl
        rw [hf, eA]
        refine things_no D ao _ cap w hne hW fun W hb => ?_
        have h := eachOnce_any q (by omega) _ W (hQ.below hb)
        rw [show onceB q = false by simpa using h1] at h
        exact h
    · have hne : ((q.length : Int) != D.u) = true := by simp [hl]
      have hf : thingsFault D q = 3 := by unfold thingsFault; rw [if_pos ho, if_neg hl]
      have eA : thingsA D q = ⟨0, 0, 0, 0⟩ := by unfold thingsA; rw [hf]; rfl
      rw [hf, eA]
      exact things_shape D ao _ cap w hne hW
  · rw [if_neg ho] at hW
    have hf : thingsFault D q = 1 := by unfold thingsFault; rw [if_neg ho]
    have eA : thingsA D q = ⟨0, 0, 0, 0⟩ := by unfold thingsA; rw [hf]; rfl
    rw [hf, eA]
    exact things_bad D ao _ cap w hW
end Go.Proofs.YteknlcachfhfkahDoor
