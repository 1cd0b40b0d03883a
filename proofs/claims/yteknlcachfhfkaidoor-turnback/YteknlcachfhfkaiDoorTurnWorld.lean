/-
  Proved: what turn.World and turn.Things return, of any world and any numbers; what was in memory is as it was (contracts that the statements of chapter 16 lean on).
-/
import Derived.Test.YteknlcachfhfkaiDoorTurnDo
import Derived.Test.YteknlcachfhfkaiDoorTermValue
import Derived.Deep.Cut
import Derived.Laws.ResultCell
namespace Go.Proofs.YteknlcachfhfkaiDoor
open Go.ChangeShapes Go.WideShapes Go.ChangeAt Go.RowKit
set_option maxRecDepth 100000

/-- a world in which name j has x. -/
def Wd.putJ (w : Wd) (j : Nat) (x : Int) : Wd := if j = 0 then ⟨w.u, x, w.b, w.c⟩ else if j = 1 then ⟨w.u, w.a, x, w.c⟩ else ⟨w.u, w.a, w.b, x⟩
theorem arrW_putJ (D : Wd) {j : Nat} (hj : j < 3) (x : Int) : (arrW D).setIfInBounds (1 + j) (.int .i64 x) = arrW (D.putJ j x) := by
  rcases (by omega : j = 0 ∨ j = 1 ∨ j = 2) with rfl | rfl | rfl <;> simp [arrW, Wd.putJ]
theorem arrW_name (D : Wd) {k : Nat} (hk : k < 3) : (arrW D)[1 + k]? = some (.int .i64 (D.name k)) := by
  rcases (by omega : k = 0 ∨ k = 1 ∨ k = 2) with rfl | rfl | rfl <;> rfl
theorem arr3_get (p : Nat → Int) {k : Nat} (hk : k < 3) : (arr3 p)[k]? = some (.int .i64 (p k)) := by
  rcases (by omega : k = 0 ∨ k = 1 ∨ k = 2) with rfl | rfl | rfl <;> rfl
/-- the world of other names, as far as it is made. -/
def turnK (p : Nat → Int) (D : Wd) : Nat → Wd
  | 0 => ⟨D.u, 0, 0, 0⟩
  | k + 1 => (turnK p D k).putJ (p k).toNat (D.name k)
theorem turnK_all {p : Nat → Int} (h : onceB (listP p) = true) (D : Wd) : turnK p D 3 = turnW p D := by
  rcases perm_six h with ⟨h0, h1, h2⟩ | ⟨h0, h1, h2⟩ | ⟨h0, h1, h2⟩ | ⟨h0, h1, h2⟩ | ⟨h0, h1, h2⟩ | ⟨h0, h1, h2⟩ <;> simp [turnK, Wd.putJ, turnW, pickN, Wd.name, h0, h1, h2]
/-- the world of other things, as far as it is made. -/
def thingsK (q : List Int) (D : Wd) : Nat → Wd
  | 0 => ⟨D.u, 0, 0, 0⟩
  | k + 1 => (thingsK q D k).putJ k (movedN q (D.name k) q.length)
theorem thingsK_all {q : List Int} {D : Wd} (h : (q.length : Int) = D.u) : thingsK q D 3 = thingsW q D := by
  have e : D.u.toNat = q.length := by omega
  unfold thingsW
  rw [e]
  simp [thingsK, Wd.putJ, Wd.name]
theorem listP_reads {w : World} {G : Nat} {p : Nat → Int} (h : Blk w G 26 (arr3 p)) : Reads w (.slice (some ⟨G, 0, none⟩) 3 3) (listP p) := by
  refine Or.inr ⟨G, 0, 3, rfl, h.lt, (by show 0 < 3; omega), ⟨(by show 3 ≤ _; omega), Nat.le_refl _⟩, fun k hk => ?_⟩
  have hk3 : k < 3 := hk
  rw [Nat.zero_add, h.cell k]
  rcases (by omega : k = 0 ∨ k = 1 ∨ k = 2) with rfl | rfl | rfl <;> rfl
theorem once_low {p : Nat → Int} (h : onceB (listP p) = true) {k : Nat} (hk : k < 3) : ∃ j : Nat, p k = (j : Int) ∧ j < 3 := by
  have hd : k = 0 ∨ k = 1 ∨ k = 2 := by omega
  rcases perm_six h with ⟨h0, h1, h2⟩ | ⟨h0, h1, h2⟩ | ⟨h0, h1, h2⟩ | ⟨h0, h1, h2⟩ | ⟨h0, h1, h2⟩ | ⟨h0, h1, h2⟩ <;> rcases hd with rfl | rfl | rfl <;> first | exact ⟨0, by assumption, by omega⟩ | exact ⟨1, by assumption, by omega⟩ | exact ⟨2, by assumption, by omega⟩

theorem loadW {W : World} {R : Nat} {M : Wd} (h : Blk W R 28 (arrW M)) : (loadVar 28 ⟨R, 0, none⟩).run Tryd.prog W = .ok (.agg (arrW M)) W := by
  have hl := run_loadCells_list (P := Tryd.prog) W ⟨R, 0, none⟩ (arrW M).toList (fun j v hj => by
    have := h.cell j
    rw [← Array.getElem?_toList] at this
    rw [hj] at this
    have ha : (⟨R, 0, none⟩ : Addr).add j = ⟨R, j, none⟩ := by unfold Addr.add; split <;> simp_all
    rw [ha]; exact this)
  simp [loadVar, Tryd.isAgg28, Tryd.sizeOf28, Result.andThen, arrW] at hl ⊢
  simp [hl]
set_option maxHeartbeats 4000000 in
theorem things_bad (D : Wd) (ao : Option Addr) (n cap : Nat) (w : World)
    (HW : Hid (∀ W, Calls Tryd.prog 20 #[.agg #[.int .i64 D.u, .int .i64 D.a, .int .i64 D.b, .int .i64 D.c]] W fun e w' => e = .returned (.iface 42 (.int .i64 1)) ∧ Below W.heap.size W w')) :
    Calls Tryd.prog 8 #[.agg #[.int .i64 D.u, .int .i64 D.a, .int .i64 D.b, .int .i64 D.c], .slice ao n cap] w fun e w' => e = .returned (.tuple #[.agg #[.int .i64 0, .int .i64 0, .int .i64 0, .int .i64 0], .iface 42 (.int .i64 1)]) ∧ Below w.heap.size w w' := by
  obtain ⟨Z, hZ⟩ : ∃ Z : Wd, Z = ⟨0, 0, 0, 0⟩ := ⟨_, rfl⟩
  obtain ⟨w1, hw1⟩ : ∃ w1, w1 = (w.alloc (.cells #[.int .i64 D.u, .int .i64 D.a, .int .i64 D.b, .int .i64 D.c] 28)).alloc (.cells #[.int .i64 0, .int .i64 0, .int .i64 0, .int .i64 0] 28) := ⟨_, rfl⟩
  have HB1 : Hid (Below w.heap.size w w1) := by unfold Hid; rw [hw1]; exact (below_alloc1 _ _).alloc (by simp) _
  have HK0 : Hid (Blk w1 w.heap.size 28 (arrW D)) := by unfold Hid; rw [hw1]; exact (Blk.new _ _ _).old _
  have HK2 : Hid (Blk w1 (w.heap.size + 1) 28 (arrW Z)) := by
    unfold Hid; rw [hw1, hZ]
    have := Blk.new (w.alloc (.cells (arrW D) 28)) 28 (arrW ⟨0, 0, 0, 0⟩)
    simp only [World.size_alloc] at this
    exact this
  have HZ : Hid (Z = ⟨0, 0, 0, 0⟩) := hZ
  clear hZ
  go_enter Tryd.func8, Tryd.ntmps8
  go_upto_region 1 with fail
  rw [← hw1]
  clear hw1
  obtain ⟨r0, r1, r2, r3⟩ := HK0.out.cells4
  go_wp2_with fail
  go_at_call 20
  refine (HW.out _).mono ?_
  rintro e w2 ⟨rfl, hb⟩
  have HB2 : Hid (Below w.heap.size w w2) := HB1.out.trans (hb.mono HB1.out.size)
  have HKa : Hid (Blk w2 w.heap.size 28 (arrW D)) := HK0.out.below hb
  have HRa : Hid (Blk w2 (w.heap.size + 1) 28 (arrW Z)) := HK2.out.below hb
  clear hb r0 r1 r2 r3
  have hZ0 : Hid (Z = ⟨0, 0, 0, 0⟩) := HZ.out
  obtain ⟨y0, y1, y2, y3⟩ := HRa.out.cells4
  obtain ⟨f0, f1, f2, f3⟩ := HRa.out.frozen4
  go_wp2
  have hld := loadW (putW_blk HRa.out ⟨0, 0, 0, 0⟩)
  refine bodyPost_ret (v := .tuple #[.agg #[.int .i64 0, .int .i64 0, .int .i64 0, .int .i64 0], .iface 42 (.int .i64 1)]) ?_ rfl ⟨rfl, ?_⟩
  · rw [results_cell_tmp rfl]
    unfold putW arrW at hld
    simp only at hld
    simp [asAddr, Result.andThen, hld]
  · exact putW_below HB2.out (by omega) ⟨0, 0, 0, 0⟩

set_option maxHeartbeats 4000000 in
theorem things_shape (D : Wd) (ao : Option Addr) (n cap : Nat) (w : World) (hne : ((n : Int) != D.u) = true)
    (HW : Hid (∀ W, Calls Tryd.prog 20 #[.agg #[.int .i64 D.u, .int .i64 D.a, .int .i64 D.b, .int .i64 D.c]] W fun e w' => e = .returned .nilIface ∧ Below W.heap.size W w')) :
    Calls Tryd.prog 8 #[.agg #[.int .i64 D.u, .int .i64 D.a, .int .i64 D.b, .int .i64 D.c], .slice ao n cap] w fun e w' => e = .returned (.tuple #[.agg #[.int .i64 0, .int .i64 0, .int .i64 0, .int .i64 0], .iface 42 (.int .i64 3)]) ∧ Below w.heap.size w w' := by
  obtain ⟨Z, hZ⟩ : ∃ Z : Wd, Z = ⟨0, 0, 0, 0⟩ := ⟨_, rfl⟩
  obtain ⟨w1, hw1⟩ : ∃ w1, w1 = (w.alloc (.cells #[.int .i64 D.u, .int .i64 D.a, .int .i64 D.b, .int .i64 D.c] 28)).alloc (.cells #[.int .i64 0, .int .i64 0, .int .i64 0, .int .i64 0] 28) := ⟨_, rfl⟩
  have HB1 : Hid (Below w.heap.size w w1) := by unfold Hid; rw [hw1]; exact (below_alloc1 _ _).alloc (by simp) _
  have HK0 : Hid (Blk w1 w.heap.size 28 (arrW D)) := by unfold Hid; rw [hw1]; exact (Blk.new _ _ _).old _
  have HK2 : Hid (Blk w1 (w.heap.size + 1) 28 (arrW Z)) := by
    unfold Hid; rw [hw1, hZ]
    have := Blk.new (w.alloc (.cells (arrW D) 28)) 28 (arrW ⟨0, 0, 0, 0⟩)
    simp only [World.size_alloc] at this
    exact this
  have HZ : Hid (Z = ⟨0, 0, 0, 0⟩) := hZ
  clear hZ
  go_enter Tryd.func8, Tryd.ntmps8
  go_upto_region 1 with fail
  rw [← hw1]
  clear hw1
  obtain ⟨r0, r1, r2, r3⟩ := HK0.out.cells4
  go_wp2_with fail
  go_at_call 20
  refine (HW.out _).mono ?_
  rintro e w2 ⟨rfl, hb⟩
  have HB2 : Hid (Below w.heap.size w w2) := HB1.out.trans (hb.mono HB1.out.size)
  have HKa : Hid (Blk w2 w.heap.size 28 (arrW D)) := HK0.out.below hb
  have HRa : Hid (Blk w2 (w.heap.size + 1) 28 (arrW Z)) := HK2.out.below hb
  clear hb r0 r1 r2 r3
  obtain ⟨r0, r1, r2, r3⟩ := HKa.out.cells4
  have hZ0 : Hid (Z = ⟨0, 0, 0, 0⟩) := HZ.out
  obtain ⟨y0, y1, y2, y3⟩ := HRa.out.cells4
  obtain ⟨f0, f1, f2, f3⟩ := HRa.out.frozen4
  go_wp2
  have hld := loadW (putW_blk HRa.out ⟨0, 0, 0, 0⟩)
  refine bodyPost_ret (v := .tuple #[.agg #[.int .i64 0, .int .i64 0, .int .i64 0, .int .i64 0], .iface 42 (.int .i64 3)]) ?_ rfl ⟨rfl, ?_⟩
  · rw [results_cell_tmp rfl]
    unfold putW arrW at hld
    simp only at hld
    simp [asAddr, Result.andThen, hld]
  · exact putW_below HB2.out (by omega) ⟨0, 0, 0, 0⟩

set_option maxHeartbeats 4000000 in
theorem things_no (D : Wd) (ao : Option Addr) (n cap : Nat) (w : World) (hne : ((n : Int) != D.u) = false)
    (HW : Hid (∀ W, Calls Tryd.prog 20 #[.agg #[.int .i64 D.u, .int .i64 D.a, .int .i64 D.b, .int .i64 D.c]] W fun e w' => e = .returned .nilIface ∧ Below W.heap.size W w'))
    (HE : Hid (∀ W, Below w.heap.size w W → Calls Tryd.prog 9 #[.slice ao n cap] W fun e w' => e = .returned (.bool false) ∧ Below W.heap.size W w')) :
    Calls Tryd.prog 8 #[.agg #[.int .i64 D.u, .int .i64 D.a, .int .i64 D.b, .int .i64 D.c], .slice ao n cap] w fun e w' => e = .returned (.tuple #[.agg #[.int .i64 0, .int .i64 0, .int .i64 0, .int .i64 0], .iface 42 (.int .i64 1)]) ∧ Below w.heap.size w w' := by
  obtain ⟨Z, hZ⟩ : ∃ Z : Wd, Z = ⟨0, 0, 0, 0⟩ := ⟨_, rfl⟩
  obtain ⟨w1, hw1⟩ : ∃ w1, w1 = (w.alloc (.cells #[.int .i64 D.u, .int .i64 D.a, .int .i64 D.b, .int .i64 D.c] 28)).alloc (.cells #[.int .i64 0, .int .i64 0, .int .i64 0, .int .i64 0] 28) := ⟨_, rfl⟩
  have HB1 : Hid (Below w.heap.size w w1) := by unfold Hid; rw [hw1]; exact (below_alloc1 _ _).alloc (by simp) _
  have HK0 : Hid (Blk w1 w.heap.size 28 (arrW D)) := by unfold Hid; rw [hw1]; exact (Blk.new _ _ _).old _
  have HK2 : Hid (Blk w1 (w.heap.size + 1) 28 (arrW Z)) := by
    unfold Hid; rw [hw1, hZ]
    have := Blk.new (w.alloc (.cells (arrW D) 28)) 28 (arrW ⟨0, 0, 0, 0⟩)
    simp only [World.size_alloc] at this
    exact this
  have HZ : Hid (Z = ⟨0, 0, 0, 0⟩) := hZ
  clear hZ
  go_enter Tryd.func8, Tryd.ntmps8
  go_upto_region 1 with fail
  rw [← hw1]
  clear hw1
  obtain ⟨r0, r1, r2, r3⟩ := HK0.out.cells4
  go_wp2_with fail
  go_at_call 20
  refine (HW.out _).mono ?_
  rintro e w2 ⟨rfl, hb⟩
  have HB2 : Hid (Below w.heap.size w w2) := HB1.out.trans (hb.mono HB1.out.size)
  have HKa : Hid (Blk w2 w.heap.size 28 (arrW D)) := HK0.out.below hb
  have HRa : Hid (Blk w2 (w.heap.size + 1) 28 (arrW Z)) := HK2.out.below hb
  clear hb r0 r1 r2 r3
  obtain ⟨r0, r1, r2, r3⟩ := HKa.out.cells4
  go_wp2_with fail
  go_at_call 9
  refine (HE.out _ HB2.out).mono ?_
  rintro e w3 ⟨rfl, hb⟩
  have HB3 : Hid (Below w.heap.size w w3) := HB2.out.trans (hb.mono HB2.out.size)
  have HR3 : Hid (Blk w3 (w.heap.size + 1) 28 (arrW Z)) := HRa.out.below hb
  clear hb r0 r1 r2 r3
  have hZ0 : Hid (Z = ⟨0, 0, 0, 0⟩) := HZ.out
  obtain ⟨y0, y1, y2, y3⟩ := HR3.out.cells4
  obtain ⟨f0, f1, f2, f3⟩ := HR3.out.frozen4
  go_wp2
  have hld := loadW (putW_blk HR3.out ⟨0, 0, 0, 0⟩)
  refine bodyPost_ret (v := .tuple #[.agg #[.int .i64 0, .int .i64 0, .int .i64 0, .int .i64 0], .iface 42 (.int .i64 1)]) ?_ rfl ⟨rfl, ?_⟩
  · rw [results_cell_tmp rfl]
    unfold putW arrW at hld
    simp only at hld
    simp [asAddr, Result.andThen, hld]
  · exact putW_below HB3.out (by omega) ⟨0, 0, 0, 0⟩

set_option maxHeartbeats 4000000 in
theorem things_good (D : Wd) (q : List Int) (ao : Option Addr) (n cap : Nat) (w : World) (hne : ((n : Int) != D.u) = false) (hT : thingsK q D 3 = thingsW q D)
    (HW : Hid (∀ W, Calls Tryd.prog 20 #[.agg #[.int .i64 D.u, .int .i64 D.a, .int .i64 D.b, .int .i64 D.c]] W fun e w' => e = .returned .nilIface ∧ Below W.heap.size W w'))
    (HE : Hid (∀ W, Below w.heap.size w W → Calls Tryd.prog 9 #[.slice ao n cap] W fun e w' => e = .returned (.bool true) ∧ Below W.heap.size W w'))
    (HM : Hid (∀ k : Nat, k < 3 → ∀ W, Below w.heap.size w W → Calls Tryd.prog 22 #[.int .i64 (D.name k), .slice ao n cap] W fun e w' => e = .returned (.int .i64 (movedN q (D.name k) q.length)) ∧ w' = W)) :
    Calls Tryd.prog 8 #[.agg #[.int .i64 D.u, .int .i64 D.a, .int .i64 D.b, .int .i64 D.c], .slice ao n cap] w fun e w' => e = .returned (.tuple #[.agg (arrW (thingsW q D)), .nilIface]) ∧ Below w.heap.size w w' := by
  obtain ⟨Z, hZ⟩ : ∃ Z : Wd, Z = ⟨0, 0, 0, 0⟩ := ⟨_, rfl⟩
  obtain ⟨w1, hw1⟩ : ∃ w1, w1 = (w.alloc (.cells #[.int .i64 D.u, .int .i64 D.a, .int .i64 D.b, .int .i64 D.c] 28)).alloc (.cells #[.int .i64 0, .int .i64 0, .int .i64 0, .int .i64 0] 28) := ⟨_, rfl⟩
  have HB1 : Hid (Below w.heap.size w w1) := by unfold Hid; rw [hw1]; exact (below_alloc1 _ _).alloc (by simp) _
  have HK0 : Hid (Blk w1 w.heap.size 28 (arrW D)) := by unfold Hid; rw [hw1]; exact (Blk.new _ _ _).old _
  have HK2 : Hid (Blk w1 (w.heap.size + 1) 28 (arrW Z)) := by
    unfold Hid; rw [hw1, hZ]
    have := Blk.new (w.alloc (.cells (arrW D) 28)) 28 (arrW ⟨0, 0, 0, 0⟩)
    simp only [World.size_alloc] at this
    exact this
  have HZ : Hid (Z = ⟨0, 0, 0, 0⟩) := hZ
  have HT : Hid (thingsK q D 3 = thingsW q D) := hT
  have HD : Hid (∀ W k, k < 3 → Blk W w.heap.size 28 (arrW D) → W.cell? ⟨w.heap.size, 1 + k, none⟩ = some (.int .i64 (D.name k))) := fun W k hk h => by rw [h.cell, arrW_name _ hk]
  clear hZ hT
  go_enter Tryd.func8, Tryd.ntmps8
  go_upto_region 1 with fail
  rw [← hw1]
  clear hw1
  obtain ⟨r0, r1, r2, r3⟩ := HK0.out.cells4
  go_wp2_with fail
  go_at_call 20
  refine (HW.out _).mono ?_
  rintro e w2 ⟨rfl, hb⟩
  have HB2 : Hid (Below w.heap.size w w2) := HB1.out.trans (hb.mono HB1.out.size)
  have HKa : Hid (Blk w2 w.heap.size 28 (arrW D)) := HK0.out.below hb
  have HRa : Hid (Blk w2 (w.heap.size + 1) 28 (arrW Z)) := HK2.out.below hb
  clear hb r0 r1 r2 r3
  obtain ⟨r0, r1, r2, r3⟩ := HKa.out.cells4
  go_wp2_with fail
  go_at_call 9
  refine (HE.out _ HB2.out).mono ?_
  rintro e w3 ⟨rfl, hb⟩
  have HB3 : Hid (Below w.heap.size w w3) := HB2.out.trans (hb.mono HB2.out.size)
  have HK3 : Hid (Blk w3 w.heap.size 28 (arrW D)) := HKa.out.below hb
  have HR3 : Hid (Blk w3 (w.heap.size + 1) 28 (arrW Z)) := HRa.out.below hb
  clear hb r0 r1 r2 r3
  obtain ⟨G, hG⟩ : ∃ G, G = w3.heap.size := ⟨_, rfl⟩
  have HG : Hid (w.heap.size + 1 < G) := by unfold Hid; rw [hG]; exact HR3.out.lt
  obtain ⟨w4, hw4⟩ : ∃ w4, w4 = w3.alloc (.cells #[.int .i64 D.u, .int .i64 0, .int .i64 0, .int .i64 0] 28) := ⟨_, rfl⟩
  have HB4 : Hid (Below w.heap.size w w4) := by unfold Hid; rw [hw4]; exact HB3.out.alloc HB3.out.size _
  have HK4 : Hid (Blk w4 w.heap.size 28 (arrW D)) := by unfold Hid; rw [hw4]; exact HK3.out.old _
  have HR4 : Hid (Blk w4 (w.heap.size + 1) 28 (arrW Z)) := by unfold Hid; rw [hw4]; exact HR3.out.old _
  have HM4 : Hid (Blk w4 G 28 (arrW (thingsK q D 0))) := by unfold Hid; rw [hw4, hG]; exact Blk.new _ _ _
  obtain ⟨r0, r1, r2, r3⟩ := HK3.out.cells4
  clear HB2 HKa HRa
  go_wp2
  rw [← hw4, ← hG]
  clear hw4 hG r0 r1 r2 r3
  go_loopw [8, 30] (fun _ i wr => ∃ k : Nat, k ≤ 3 ∧ i = .int .i64 k ∧ Below w.heap.size w wr ∧ Blk wr w.heap.size 28 (arrW D) ∧ Blk wr (w.heap.size + 1) 28 (arrW Z) ∧ Blk wr G 28 (arrW (thingsK q D k))) (fun _ i _ => 3 - (intOf i).toNat)
  case atStart => exact ⟨0, Nat.zero_le _, rfl, HB4.out, HK4.out, HR4.out, HM4.out⟩
  case round =>
    obtain ⟨k, hk, rfl, hb, hkd, hr, hm⟩ := hrel
    have HB5 : Hid (Below w.heap.size w wr) := hb
    have HK5 : Hid (Blk wr w.heap.size 28 (arrW D)) := hkd
    have HR5 : Hid (Blk wr (w.heap.size + 1) 28 (arrW Z)) := hr
    have HM5 : Hid (Blk wr G 28 (arrW (thingsK q D k))) := hm
    clear hb hkd hr hm
    by_cases hlt : k < 3
    · have z := HD.out wr k hlt HK5.out
      have HMk := HM.out k hlt
      have HMk' : Hid _ := HMk
      clear HMk
      obtain ⟨x, hx⟩ : ∃ x, x = D.name k := ⟨_, rfl⟩
      rw [← hx] at z HMk'
      obtain ⟨v, hv⟩ : ∃ v, v = movedN q x q.length := ⟨_, rfl⟩
      rw [← hv] at HMk'
      have HN : Hid (Blk (wr.setCell ⟨G, 1 + k, none⟩ (.int .i64 v)) G 28 (arrW (thingsK q D (k + 1)))) := by
        unfold Hid
        show Blk _ _ _ (arrW ((thingsK q D k).putJ k (movedN q (D.name k) q.length)))
        rw [← hx, ← hv, ← arrW_putJ _ hlt]
        exact HM5.out.set (1 + k) _
      clear hx hv
      obtain ⟨o, ho⟩ : ∃ o, wr.cell? ⟨G, 1 + k, none⟩ = some o := ⟨_, by rw [HM5.out.cell (1 + k), arrW_name _ hlt]⟩
      have fz : wr.frozen? ⟨G, 1 + k, none⟩ = false := HM5.out.frozen (1 + k)
      go_wp2_with fail
      go_at_call 22
      refine (HMk'.out _ HB5.out).mono ?_
      rintro e w' ⟨rfl, rfl⟩
      go_wp2
      go_roundw
      case rel =>
        have hg := HG.out
        exact ⟨k + 1, by omega, by go_num, HB5.out.setCell (by show _ ≤ G; omega) _, HK5.out.far (by omega) _ _, HR5.out.far (by omega) _ _, HN.out⟩
      case measure => simp [intOf]; omega
    · obtain rfl : k = 3 := by omega
      obtain ⟨E, hE⟩ : ∃ E, E = thingsK q D 3 := ⟨_, rfl⟩
      rw [← hE] at HM5 HT
      clear hE
      obtain ⟨y0, y1, y2, y3⟩ := HM5.out.cells4
      obtain ⟨r0, r1, r2, r3⟩ := HR5.out.cells4
      obtain ⟨f0, f1, f2, f3⟩ := HR5.out.frozen4
      go_wp2
      have hld := loadW (putW_blk HR5.out E)
      refine bodyPost_ret (v := .tuple #[.agg (arrW E), .nilIface]) ?_ rfl ⟨by rw [HT.out], ?_⟩
      · rw [results_cell_tmp rfl]
        unfold putW at hld
        simp [asAddr, Result.andThen, hld]
      · exact putW_below HB5.out (by omega) E

/-- Things, whatever the world and the numbers. -/
theorem turnThings_any (D : Wd) (v : Value) (q : List Int) (w : World) (hQ : Reads w v q) :
    Calls Tryd.prog 8 #[.agg #[.int .i64 D.u, .int .i64 D.a, .int .i64 D.b, .int .i64 D.c], v] w fun e w' => e = .returned (.tuple #[.agg #[.int .i64 (thingsA D q).u, .int .i64 (thingsA D q).a, .int .i64 (thingsA D q).b, .int .i64 (thingsA D q).c], errV (thingsFault D q)]) ∧ Below w.heap.size w w' := by
  have hW := fun W => checkWorld_any D.u D.a D.b D.c W
  obtain ⟨ao, cap, rfl⟩ : ∃ ao cap, v = .slice ao q.length cap := by
    rcases hQ with ⟨ao, cap, rfl, rfl⟩ | ⟨b, off, cap, rfl, _⟩
    · exact ⟨ao, cap, rfl⟩
    · exact ⟨_, cap, rfl⟩
  have eD : Wd.mk D.u D.a D.b D.c = D := rfl
  rw [eD] at hW
  by_cases ho : D.ok = true
  · rw [if_pos ho] at hW
    have hu := ok_u ho
    by_cases hl : (q.length : Int) = D.u
    · have hne : ((q.length : Int) != D.u) = false := by simp [hl]
      by_cases h1 : onceB q = true
      · have hf : thingsFault D q = 0 := things_zero.2 ⟨ho, hl, h1⟩
        have eA : thingsA D q = thingsW q D := by unfold thingsA; rw [if_pos hf]
        rw [hf, eA]
        refine things_good D q ao _ cap w hne (thingsK_all hl) hW (fun W hb => ?_) (fun k hk W hb => ?_)
        · have h := eachOnce_any q (by omega) _ W (hQ.below hb)
          rw [h1] at h
          exact h
        · have hn : okB D.u (D.name k) = true := by
            obtain ⟨n1, n2, n3⟩ := Wd.ok_iff.1 ho
            rcases (by omega : k = 0 ∨ k = 1 ∨ k = 2) with rfl | rfl | rfl
            · exact n1
            · exact n2
            · exact n3
          obtain ⟨_, _, n0, n64⟩ := okB_lt hn
          obtain ⟨x, hx⟩ := Int.eq_ofNat_of_zero_le n0
          rw [hx]
          exact movedT_any x q (by omega) (by omega) h1 _ W (hQ.below hb)
      · have hf : thingsFault D q = 1 := by unfold thingsFault; rw [if_pos ho, if_pos hl, if_neg h1]
        have eA : thingsA D q = ⟨0, 0, 0, 0⟩ := by unfold thingsA; rw [hf]; rfl
        rw [hf, eA]
        refine things_no D ao _ cap w hne hW fun W hb => ?_
        have h := eachOnce_any q (by omega) _ W (hQ.below hb)
        rw [show onceB q = false by simpa using h1] at h
        exact h
    · have hne : ((q.length : Int) != D.u) = true := by simp [hl]
      have hf : thingsFault D q = 3 := by unfold thingsFault; rw [if_pos ho, if_neg hl]
      have eA : thingsA D q = ⟨0, 0, 0, 0⟩ := by unfold thingsA; rw [hf]; rfl
      rw [hf, eA]
      exact things_shape D ao _ cap w hne hW
  · rw [if_neg ho] at hW
    have hf : thingsFault D q = 1 := by unfold thingsFault; rw [if_neg ho]
    have eA : thingsA D q = ⟨0, 0, 0, 0⟩ := by unfold thingsA; rw [hf]; rfl
    rw [hf, eA]
    exact things_bad D ao _ cap w hW
end Go.Proofs.YteknlcachfhfkaiDoor
