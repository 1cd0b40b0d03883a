/-
  Proved: what fields.Of returns, of any world; what was in memory is as it was (a contract that the statements lean on).
-/
import Derived.Test.YteknlcachfhfkaiDoorFieldsBlk
import Derived.Test.YteknlcachfhfkaiDoorFieldsLies
namespace Go.Proofs.YteknlcachfhfkaiDoor
open Go.ChangeShapes Go.WideShapes Go.ChangeAt Go.RowKit

/-- how many lie in each field; none, if the world is wrong. -/
def Wd.cts (w : Wd) : Nat → Int := if w.ok = true then w.fc w.u.toNat else fun _ => 0
/-- what is wrong with a world. -/
def Wd.wrong (w : Wd) : Int := if w.ok = true then 0 else 1

set_option maxRecDepth 100000 in
set_option maxHeartbeats 4000000 in
theorem of_wrong (u a b c : Int) (w : World) (ho : (Wd.mk u a b c).ok = false) :
    Calls Tryd.prog 7 #[.agg #[.int .i64 u, .int .i64 a, .int .i64 b, .int .i64 c]] w fun e w' => e = .returned (.tuple #[.agg (arr8 fun _ => 0), .iface 42 (.int .i64 1)]) ∧ Below w.heap.size w w' := by
  obtain ⟨Z, hZ⟩ : ∃ Z : Nat → Int, Z = fun _ => 0 := ⟨_, rfl⟩
  rw [← hZ]
  obtain ⟨w1, hw1⟩ : ∃ w1, w1 = ((w.alloc (.cells #[.int .i64 u, .int .i64 a, .int .i64 b, .int .i64 c] 28)).alloc (.cells #[.int .i64 0, .int .i64 0, .int .i64 0, .int .i64 0, .int .i64 0, .int .i64 0, .int .i64 0, .int .i64 0] 35)).alloc (.cells #[.int .i64 0, .int .i64 0, .int .i64 0, .int .i64 0, .int .i64 0, .int .i64 0, .int .i64 0, .int .i64 0] 35) := ⟨_, rfl⟩
  have HW : Hid (Below w.heap.size w w1) := by unfold Hid; rw [hw1]; exact ((below_alloc1 _ _).alloc (by simp) _).alloc (by simp; omega) _
  have HK0 : Hid (Blk w1 w.heap.size 28 (arrW (Wd.mk u a b c))) := by unfold Hid; rw [hw1]; exact ((Blk.new _ _ _).old _).old _
  have HK1 : Hid (Blk w1 (w.heap.size + 1) 35 (arr8 Z)) := by
    unfold Hid; rw [hw1, hZ]
    have := Blk.new (w.alloc (.cells #[.int .i64 u, .int .i64 a, .int .i64 b, .int .i64 c] 28)) 35 (arr8 fun _ => 0)
    simp only [World.size_alloc] at this
    exact this.old _
  have HK2 : Hid (Blk w1 (w.heap.size + 1 + 1) 35 (arr8 Z)) := by
    unfold Hid; rw [hw1, hZ]
    have := Blk.new ((w.alloc (.cells #[.int .i64 u, .int .i64 a, .int .i64 b, .int .i64 c] 28)).alloc (.cells (arr8 fun _ => 0) 35)) 35 (arr8 fun _ => 0)
    simp only [World.size_alloc] at this
    exact this
  have HC : Hid (Calls Tryd.prog 20 #[.agg #[.int .i64 u, .int .i64 a, .int .i64 b, .int .i64 c]] w1 fun e w' => e = .returned (.iface 42 (.int .i64 1)) ∧ Below w1.heap.size w1 w') := by
    have := checkWorld_any u a b c w1
    rw [if_neg (by rw [ho]; decide)] at this
    exact this
  clear ho hZ
  obtain ⟨x0, x1, x2, x3⟩ := HK0.out.cells4
  go_enter Tryd.func7, Tryd.ntmps7
  go_wp2_with fail
  rw [← hw1]
  clear hw1
  go_wp2_with fail
  go_at_call 20
  refine HC.out.mono ?_
  rintro e w2 ⟨rfl, hb⟩
  have HB : Hid (Below w.heap.size w w2) := HW.out.trans (hb.mono HW.out.size)
  have HR : Hid (Blk w2 (w.heap.size + 1) 35 (arr8 Z)) := HK1.out.below hb
  have HN : Hid (Blk w2 (w.heap.size + 1 + 1) 35 (arr8 Z)) := HK2.out.below hb
  clear hb x0 x1 x2 x3
  obtain ⟨n0, n1, n2, n3, n4, n5, n6, n7⟩ := HN.out.cells8
  obtain ⟨r0, r1, r2, r3, r4, r5, r6, r7⟩ := HR.out.cells8
  obtain ⟨f0, f1, f2, f3, f4, f5, f6, f7⟩ := HR.out.frozen8
  go_wp2
  have hld := load8 (put8_blk HR.out Z)
  refine bodyPost_ret (v := .tuple #[.agg (arr8 Z), .iface 42 (.int .i64 1)]) ?_ rfl ⟨rfl, ?_⟩
  · rw [results_cell_tmp rfl]
    unfold put8 at hld
    simp [asAddr, Result.andThen, hld]
  · exact put8_below HB.out (by omega) _

set_option maxRecDepth 100000 in
set_option maxHeartbeats 4000000 in
theorem of_right (n : Nat) (a b c : Int) (w : World) (ho : (Wd.mk n a b c).ok = true) :
    Calls Tryd.prog 7 #[.agg #[.int .i64 n, .int .i64 a, .int .i64 b, .int .i64 c]] w fun e w' => e = .returned (.tuple #[.agg (arr8 ((Wd.mk n a b c).fc n)), .nilIface]) ∧ Below w.heap.size w w' := by
  obtain ⟨Z, hZ⟩ : ∃ Z : Nat → Int, Z = fun _ => 0 := ⟨_, rfl⟩
  obtain ⟨w1, hw1⟩ : ∃ w1, w1 = ((w.alloc (.cells #[.int .i64 n, .int .i64 a, .int .i64 b, .int .i64 c] 28)).alloc (.cells #[.int .i64 0, .int .i64 0, .int .i64 0, .int .i64 0, .int .i64 0, .int .i64 0, .int .i64 0, .int .i64 0] 35)).alloc (.cells #[.int .i64 0, .int .i64 0, .int .i64 0, .int .i64 0, .int .i64 0, .int .i64 0, .int .i64 0, .int .i64 0] 35) := ⟨_, rfl⟩
  have HW : Hid (Below w.heap.size w w1) := by unfold Hid; rw [hw1]; exact ((below_alloc1 _ _).alloc (by simp) _).alloc (by simp; omega) _
  have HK0 : Hid (Blk w1 w.heap.size 28 (arrW (Wd.mk n a b c))) := by unfold Hid; rw [hw1]; exact ((Blk.new _ _ _).old _).old _
  have HK1 : Hid (Blk w1 (w.heap.size + 1) 35 (arr8 Z)) := by
    unfold Hid; rw [hw1, hZ]
    have := Blk.new (w.alloc (.cells #[.int .i64 n, .int .i64 a, .int .i64 b, .int .i64 c] 28)) 35 (arr8 fun _ => 0)
    simp only [World.size_alloc] at this
    exact this.old _
  have HK2 : Hid (Blk w1 (w.heap.size + 1 + 1) 35 (arr8 Z)) := by
    unfold Hid; rw [hw1, hZ]
    have := Blk.new ((w.alloc (.cells #[.int .i64 n, .int .i64 a, .int .i64 b, .int .i64 c] 28)).alloc (.cells (arr8 fun _ => 0) 35)) 35 (arr8 fun _ => 0)
    simp only [World.size_alloc] at this
    exact this
  have HC : Hid (Calls Tryd.prog 20 #[.agg #[.int .i64 n, .int .i64 a, .int .i64 b, .int .i64 c]] w1 fun e w' => e = .returned .nilIface ∧ Below w1.heap.size w1 w') := by
    have := checkWorld_any n a b c w1
    rw [if_pos ho] at this
    exact this
  have hn6 : n ≤ 6 := by have := (ok_u ho).2; simp only at this; omega
  have HL : Hid (∀ (k : Nat) W, k < n → Calls Tryd.prog 21 #[.agg #[.int .i64 n, .int .i64 a, .int .i64 b, .int .i64 c], .int .i64 k] W fun e w' => e = .returned (.int .i64 ((Wd.mk n a b c).field k)) ∧ Below W.heap.size W w') := fun k W hk => lies_any n a b c k ho (by omega) W
  obtain ⟨D, hD⟩ : ∃ D, D = Wd.mk n a b c := ⟨_, rfl⟩
  rw [← hD] at HK0 HL ⊢
  have hDu : D.u = n := by rw [hD]
  have hDa : D.a = a := by rw [hD]
  have hDb : D.b = b := by rw [hD]
  have hDc : D.c = c := by rw [hD]
  have HDD : Hid (D.u = n ∧ D.a = a ∧ D.b = b ∧ D.c = c) := ⟨hDu, hDa, hDb, hDc⟩
  have HZ : Hid (arr8 Z = arr8 (D.fc 0)) := by unfold Hid; rw [hZ]; rfl
  clear ho hD hDu hDa hDb hDc hZ
  have HX : Hid (∀ W, Blk W w.heap.size 28 (arrW D) → W.cell? ⟨w.heap.size, 0, none⟩ = some (.int .i64 n) ∧ W.cell? ⟨w.heap.size, 1, none⟩ = some (.int .i64 a) ∧ W.cell? ⟨w.heap.size, 2, none⟩ = some (.int .i64 b) ∧ W.cell? ⟨w.heap.size, 3, none⟩ = some (.int .i64 c)) := fun W h => by
    have := h.cells4
    rw [HDD.out.1, HDD.out.2.1, HDD.out.2.2.1, HDD.out.2.2.2] at this
    exact this
  obtain ⟨x0, x1, x2, x3⟩ := HX.out _ HK0.out
  go_enter Tryd.func7, Tryd.ntmps7
  go_wp2_with fail
  rw [← hw1]
  clear hw1
  go_wp2_with fail
  go_at_call 20
  refine HC.out.mono ?_
  rintro e w2 ⟨rfl, hb⟩
  have HB : Hid (Below w.heap.size w w2) := HW.out.trans (hb.mono HW.out.size)
  have HP : Hid (Blk w2 w.heap.size 28 (arrW D)) := HK0.out.below hb
  have HR : Hid (Blk w2 (w.heap.size + 1) 35 (arr8 Z)) := HK1.out.below hb
  have HN : Hid (Blk w2 (w.heap.size + 1 + 1) 35 (arr8 Z)) := HK2.out.below hb
  clear hb x0 x1 x2 x3
  obtain ⟨x0, x1, x2, x3⟩ := HX.out _ HP.out
  go_wp2
  clear x0 x1 x2 x3
  go_loopw [15] (fun i wr => ∃ k : Nat, k ≤ n ∧ i = .int .i64 k ∧ Below w.heap.size w wr ∧ Blk wr w.heap.size 28 (arrW D) ∧ Blk wr (w.heap.size + 1) 35 (arr8 Z) ∧ Blk wr (w.heap.size + 1 + 1) 35 (arr8 (D.fc k))) (fun i _ => n - (intOf i).toNat)
  case atStart => exact ⟨0, Nat.zero_le _, rfl, HB.out, HP.out, HR.out, by rw [← HZ.out]; exact HN.out⟩
  case round =>
    obtain ⟨k, hk, rfl, hb, hp, hr, hn⟩ := hrel
    have HB1 : Hid (Below w.heap.size w wr) := hb
    have HP1 : Hid (Blk wr w.heap.size 28 (arrW D)) := hp
    have HR1 : Hid (Blk wr (w.heap.size + 1) 35 (arr8 Z)) := hr
    have HN1 : Hid (Blk wr (w.heap.size + 1 + 1) 35 (arr8 (D.fc k))) := hn
    clear hb hp hr hn
    by_cases hlt : k < n
    · obtain ⟨x0, x1, x2, x3⟩ := HX.out _ HP1.out
      have hf8 := field_lt D k
      have HLk : Hid (Calls Tryd.prog 21 #[.agg #[.int .i64 n, .int .i64 a, .int .i64 b, .int .i64 c], .int .i64 k] wr fun e w' => e = .returned (.int .i64 (D.field k)) ∧ Below wr.heap.size wr w') := HL.out k wr hlt
      obtain ⟨f, hf⟩ : ∃ f, f = D.field k := ⟨_, rfl⟩
      rw [← hf] at hf8 HLk
      have HF : Hid (f = D.field k) := hf
      clear hf
      go_wp2_with fail
      go_at_call 21
      refine HLk.out.mono ?_
      rintro e w3 ⟨rfl, hb⟩
      have HB3 : Hid (Below w.heap.size w w3) := HB1.out.trans (hb.mono HB1.out.size)
      have HP3 : Hid (Blk w3 w.heap.size 28 (arrW D)) := HP1.out.below hb
      have HR3 : Hid (Blk w3 (w.heap.size + 1) 35 (arr8 Z)) := HR1.out.below hb
      have hn3 : Blk w3 (w.heap.size + 1 + 1) 35 (arr8 (D.fc k)) := HN1.out.below hb
      clear hb x0 x1 x2 x3
      have c3 : w3.cell? ⟨w.heap.size + 1 + 1, f, none⟩ = some (.int .i64 (D.fc k f)) := by rw [hn3.cell, arr8_get _ hf8]
      have z3 := hn3.frozen f
      have p3 := fc_le D k f
      have HE : Hid (Blk (w3.setCell ⟨w.heap.size + 1 + 1, f, none⟩ (.int .i64 (D.fc k f + 1))) (w.heap.size + 1 + 1) 35 (arr8 (D.fc (k + 1)))) := by
        have := hn3.set f (.int .i64 (D.fc k f + 1))
        rw [arr8_one _ hf8] at this
        have e : (fun g => D.fc k g + if f = g then 1 else 0) = D.fc (k + 1) := by
          funext g; show _ = D.fc k g + _; rw [HF.out]
        rw [e] at this
        exact this
      clear hn3
      go_wp2
      go_roundw
      case rel => exact ⟨k + 1, by omega, by go_num, HB3.out.setCell (by simp; omega) _, HP3.out.far (by omega) _ _, HR3.out.far (by omega) _ _, HE.out⟩
      case measure => simp [intOf]; omega
    · obtain rfl : k = n := by omega
      obtain ⟨n0, n1, n2, n3, n4, n5, n6, n7⟩ := HN1.out.cells8
      obtain ⟨r0, r1, r2, r3, r4, r5, r6, r7⟩ := HR1.out.cells8
      obtain ⟨f0, f1, f2, f3, f4, f5, f6, f7⟩ := HR1.out.frozen8
      go_wp2
      have hld := load8 (put8_blk HR1.out (D.fc k))
      refine bodyPost_ret (v := .tuple #[.agg (arr8 (D.fc k)), .nilIface]) ?_ rfl ⟨rfl, ?_⟩
      · rw [results_cell_tmp rfl]
        unfold put8 at hld
        simp [asAddr, Result.andThen, hld]
      · exact put8_below HB1.out (by omega) _

/-- Of, whatever the world. -/
theorem fieldsOf_any (u a b c : Int) (w : World) :
    Calls Tryd.prog 7 #[.agg #[.int .i64 u, .int .i64 a, .int .i64 b, .int .i64 c]] w fun e w' => e = .returned (.tuple #[.agg (arr8 (Wd.mk u a b c).cts), errV (Wd.mk u a b c).wrong]) ∧ Below w.heap.size w w' := by
  rcases (Bool.eq_false_or_eq_true (Wd.mk u a b c).ok).symm with ho | ho
  · unfold Wd.cts Wd.wrong
    rw [if_neg (by rw [ho]; decide), if_neg (by rw [ho]; decide)]
    exact of_wrong u a b c w ho
  · unfold Wd.cts Wd.wrong
    rw [if_pos ho, if_pos ho]
    obtain ⟨n, rfl⟩ := Int.eq_ofNat_of_zero_le (ok_u ho).1
    exact of_right n a b c w ho
end Go.Proofs.YteknlcachfhfkaiDoor
