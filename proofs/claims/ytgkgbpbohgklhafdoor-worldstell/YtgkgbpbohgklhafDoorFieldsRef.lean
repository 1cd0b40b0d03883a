/-
  Proved: what the reference's Counts and Fields return; what was in memory is as it was (contracts that the statements lean on).
-/
import Derived.Test.YtgkgbpbohgklhafDoorFieldsBlk
import Derived.Test.YtgkgbpbohgklhafDoorFieldsLies
import Derived.Test.YtgkgbpbohgklhafDoorRefHas
namespace Go.Proofs.YtgkgbpbohgklhafDoor
open Go.ChangeShapes Go.WideShapes Go.ChangeAt Go.RowKit

theorem info8 : (Tryd.prog.info? 36).map (·.size) = some 8 := by kernel_rfl
theorem infoW : (Tryd.prog.info? 28).map (·.size) = some 4 := by kernel_rfl
theorem sum_three {x y z : Bool} : oneB x + 2 * oneB y + 4 * oneB z = oneB x + oneB y * 2 + oneB z * 4 := by omega

set_option maxRecDepth 100000 in
set_option maxHeartbeats 4000000 in
theorem refFields_right (n : Nat) (a b c : Int) (w : World) (ho : (Wd.mk n a b c).ok = true) :
    Calls Tryd.prog 10 #[.agg #[.int .i64 n, .int .i64 a, .int .i64 b, .int .i64 c]] w fun e w' => e = .returned (.agg (arr8 ((Wd.mk n a b c).fc n))) ∧ Below w.heap.size w w' := by
  obtain ⟨Z, hZ⟩ : ∃ Z : Nat → Int, Z = fun _ => 0 := ⟨_, rfl⟩
  obtain ⟨w1, hw1⟩ : ∃ w1, w1 = ((w.alloc (.cells #[.int .i64 n, .int .i64 a, .int .i64 b, .int .i64 c] 28)).alloc (.cells #[.int .i64 0, .int .i64 0, .int .i64 0, .int .i64 0, .int .i64 0, .int .i64 0, .int .i64 0, .int .i64 0] 36)).alloc (.cells #[.int .i64 0, .int .i64 0, .int .i64 0, .int .i64 0, .int .i64 0, .int .i64 0, .int .i64 0, .int .i64 0] 36) := ⟨_, rfl⟩
  have HW : Hid (Below w.heap.size w w1) := by unfold Hid; rw [hw1]; exact ((below_alloc1 _ _).alloc (by simp) _).alloc (by simp; omega) _
  have HK0 : Hid (Blk w1 w.heap.size 28 (arrW (Wd.mk n a b c))) := by unfold Hid; rw [hw1]; exact ((Blk.new _ _ _).old _).old _
  have HK1 : Hid (Blk w1 (w.heap.size + 1) 36 (arr8 Z)) := by
    unfold Hid; rw [hw1, hZ]
    have := Blk.new (w.alloc (.cells #[.int .i64 n, .int .i64 a, .int .i64 b, .int .i64 c] 28)) 36 (arr8 fun _ => 0)
    simp only [World.size_alloc] at this
    exact this.old _
  have HK2 : Hid (Blk w1 (w.heap.size + 1 + 1) 36 (arr8 Z)) := by
    unfold Hid; rw [hw1, hZ]
    have := Blk.new ((w.alloc (.cells #[.int .i64 n, .int .i64 a, .int .i64 b, .int .i64 c] 28)).alloc (.cells (arr8 fun _ => 0) 36)) 36 (arr8 fun _ => 0)
    simp only [World.size_alloc] at this
    exact this
  have hn6 : n ≤ 6 := by have := (ok_u ho).2; simp only at this; omega
  obtain ⟨o1, o2, o3⟩ := Wd.ok_iff.1 ho
  obtain ⟨_, _, a0, a6⟩ := okB_lt o1
  obtain ⟨_, _, b0, b6⟩ := okB_lt o2
  obtain ⟨_, _, c0, c6⟩ := okB_lt o3
  simp only at a0 a6 b0 b6 c0 c6
  have HH : Hid (∀ (k : Nat) W, k < n → Calls Tryd.prog 28 #[.int .i64 a, .int .i64 k] W (fun e w' => e = .returned (.bool (hasB a k)) ∧ W = w') ∧ Calls Tryd.prog 28 #[.int .i64 b, .int .i64 k] W (fun e w' => e = .returned (.bool (hasB b k)) ∧ W = w') ∧ Calls Tryd.prog 28 #[.int .i64 c, .int .i64 k] W (fun e w' => e = .returned (.bool (hasB c k)) ∧ W = w')) := fun k W hk =>
    ⟨refHas_any a k a0 (by omega) (by omega) W, refHas_any b k b0 (by omega) (by omega) W, refHas_any c k c0 (by omega) (by omega) W⟩
  have HPw : Hid (∀ W, Calls Tryd.prog 29 #[.int .i64 0] W (fun e w' => e = .returned (.int .i64 1) ∧ W = w') ∧ Calls Tryd.prog 29 #[.int .i64 1] W (fun e w' => e = .returned (.int .i64 2) ∧ W = w') ∧ Calls Tryd.prog 29 #[.int .i64 2] W (fun e w' => e = .returned (.int .i64 4) ∧ W = w')) := fun W =>
    ⟨refPower_any 0 (by omega) W, refPower_any 1 (by omega) W, refPower_any 2 (by omega) W⟩
  have HFi : Hid (∀ k : Nat, ((Wd.mk n a b c).field k : Int) = oneB (hasB a k) + 2 * oneB (hasB b k) + 4 * oneB (hasB c k)) := fun k => field_int _ k
  obtain ⟨D, hD⟩ : ∃ D, D = Wd.mk n a b c := ⟨_, rfl⟩
  rw [← hD] at HK0 HFi ⊢
  have hDu : D.u = n := by rw [hD]
  have hDa : D.a = a := by rw [hD]
  have hDb : D.b = b := by rw [hD]
  have hDc : D.c = c := by rw [hD]
  have HDD : Hid (D.u = n ∧ D.a = a ∧ D.b = b ∧ D.c = c) := ⟨hDu, hDa, hDb, hDc⟩
  have HZ : Hid (arr8 Z = arr8 (D.fc 0)) := by unfold Hid; rw [hZ]; rfl
  clear ho hD hDu hDa hDb hDc hZ o1 o2 o3
  have HX : Hid (∀ W, Blk W w.heap.size 28 (arrW D) → W.cell? ⟨w.heap.size, 0, none⟩ = some (.int .i64 n) ∧ W.cell? ⟨w.heap.size, 1, none⟩ = some (.int .i64 a) ∧ W.cell? ⟨w.heap.size, 2, none⟩ = some (.int .i64 b) ∧ W.cell? ⟨w.heap.size, 3, none⟩ = some (.int .i64 c)) := fun W h => by
    have := h.cells4
    rw [HDD.out.1, HDD.out.2.1, HDD.out.2.2.1, HDD.out.2.2.2] at this
    exact this
  go_enter Tryd.func10, Tryd.ntmps10
  go_wp2
  rw [← hw1]
  clear hw1
  go_loopw [4] (fun i wr => ∃ k : Nat, k ≤ n ∧ i = .int .i64 k ∧ Below w.heap.size w wr ∧ Blk wr w.heap.size 28 (arrW D) ∧ Blk wr (w.heap.size + 1) 36 (arr8 Z) ∧ Blk wr (w.heap.size + 1 + 1) 36 (arr8 (D.fc k))) (fun i _ => n - (intOf i).toNat)
  case atStart => exact ⟨0, Nat.zero_le _, rfl, HW.out, HK0.out, HK1.out, by rw [← HZ.out]; exact HK2.out⟩
  case round =>
    obtain ⟨k, hk, rfl, hb, hp, hr, hn⟩ := hrel
    have HB1 : Hid (Below w.heap.size w wr) := hb
    have HP1 : Hid (Blk wr w.heap.size 28 (arrW D)) := hp
    have HR1 : Hid (Blk wr (w.heap.size + 1) 36 (arr8 Z)) := hr
    have HN1 : Hid (Blk wr (w.heap.size + 1 + 1) 36 (arr8 (D.fc k))) := hn
    clear hb hp hr hn
    obtain ⟨x0, x1, x2, x3⟩ := HX.out _ HP1.out
    by_cases hlt : k < n
    · have hf8 := field_lt D k
      have HHk := HH.out k wr hlt
      have HFk : Hid ((D.field k : Int) = oneB (hasB a k) + 2 * oneB (hasB b k) + 4 * oneB (hasB c k)) := HFi.out k
      obtain ⟨f, hf⟩ : ∃ f, f = D.field k := ⟨_, rfl⟩
      rw [← hf] at hf8 HFk
      have HF : Hid (f = D.field k) := hf
      clear hf
      obtain ⟨xa, hxa⟩ : ∃ x, x = hasB a k := ⟨_, rfl⟩
      obtain ⟨xb, hxb⟩ : ∃ x, x = hasB b k := ⟨_, rfl⟩
      obtain ⟨xc, hxc⟩ : ∃ x, x = hasB c k := ⟨_, rfl⟩
      rw [← hxa, ← hxb, ← hxc] at HHk HFk
      have HHa : Hid (Calls Tryd.prog 28 #[.int .i64 a, .int .i64 k] wr (fun e w' => e = .returned (.bool xa) ∧ wr = w')) := HHk.1
      have HHb : Hid (Calls Tryd.prog 28 #[.int .i64 b, .int .i64 k] wr (fun e w' => e = .returned (.bool xb) ∧ wr = w')) := HHk.2.1
      have HHc : Hid (Calls Tryd.prog 28 #[.int .i64 c, .int .i64 k] wr (fun e w' => e = .returned (.bool xc) ∧ wr = w')) := HHk.2.2
      clear HHk hxa hxb hxc
      go_wp2
      go_loop [5, 6] (fun s j => (j = .int .i64 0 ∧ s = .int .i64 0) ∨ (j = .int .i64 1 ∧ s = .int .i64 (oneB xa)) ∨ (j = .int .i64 2 ∧ s = .int .i64 (oneB xa + 2 * oneB xb)) ∨ (j = .int .i64 3 ∧ s = .int .i64 f)) (fun _ i => 3 - (intOf i).toNat)
      case atStart => exact Or.inl ⟨rfl, rfl⟩
      case round =>
        rcases hrel with ⟨rfl, rfl⟩ | ⟨rfl, rfl⟩ | ⟨rfl, rfl⟩ | ⟨rfl, rfl⟩
        · go_wp2_with fail
          go_at_call 28
          refine HHa.out.mono ?_
          rintro e w' ⟨rfl, rfl⟩
          cases xa
          · go_wp2
            go_round
            case rel => exact Or.inr (Or.inl ⟨rfl, rfl⟩)
            case measure => simp [intOf]
          · go_wp2_with fail
            go_at_call 29
            refine (HPw.out _).1.mono ?_
            rintro e w' ⟨rfl, rfl⟩
            go_wp2
            go_round
            case rel => exact Or.inr (Or.inl ⟨rfl, rfl⟩)
            case measure => simp [intOf]
        · go_wp2_with fail
          go_at_call 28
          refine HHb.out.mono ?_
          rintro e w' ⟨rfl, rfl⟩
          have q := oneB_le xa
          cases xb
          · go_wp2
            go_round
            case rel => exact Or.inr (Or.inr (Or.inl ⟨rfl, by simp [oneB]⟩))
            case measure => simp [intOf]
          · go_wp2_with fail
            go_at_call 29
            refine (HPw.out _).2.1.mono ?_
            rintro e w' ⟨rfl, rfl⟩
            go_wp2
            go_round
            case rel => exact Or.inr (Or.inr (Or.inl ⟨rfl, by simp [oneB]⟩))
            case measure => simp [intOf]
        · go_wp2_with fail
          go_at_call 28
          refine HHc.out.mono ?_
          rintro e w' ⟨rfl, rfl⟩
          have q := oneB_le xa
          have q' := oneB_le xb
          cases xc
          · go_wp2
            go_round
            case rel => exact Or.inr (Or.inr (Or.inr ⟨rfl, by rw [HFk.out]; simp [oneB]⟩))
            case measure => simp [intOf]
          · go_wp2_with fail
            go_at_call 29
            refine (HPw.out _).2.2.mono ?_
            rintro e w' ⟨rfl, rfl⟩
            go_wp2
            go_round
            case rel => exact Or.inr (Or.inr (Or.inr ⟨rfl, by rw [HFk.out]; simp [oneB]⟩))
            case measure => simp [intOf]
        · have hn3 : Blk wr (w.heap.size + 1 + 1) 36 (arr8 (D.fc k)) := HN1.out
          have c3 : wr.cell? ⟨w.heap.size + 1 + 1, f, none⟩ = some (.int .i64 (D.fc k f)) := by rw [hn3.cell, arr8_get _ hf8]
          have z3 := hn3.frozen f
          have p3 := fc_le D k f
          have HE : Hid (Blk (wr.setCell ⟨w.heap.size + 1 + 1, f, none⟩ (.int .i64 (D.fc k f + 1))) (w.heap.size + 1 + 1) 36 (arr8 (D.fc (k + 1)))) := by
            have := hn3.set f (.int .i64 (D.fc k f + 1))
            rw [arr8_one _ hf8] at this
            have e : (fun g => D.fc k g + if f = g then 1 else 0) = D.fc (k + 1) := by
              funext g; show _ = D.fc k g + _; rw [HF.out]
            rw [e] at this
            exact this
          clear hn3
          go_wp2
          go_roundw
          case rel => exact ⟨k + 1, by omega, by go_num, HB1.out.setCell (by simp; omega) _, HP1.out.far (by omega) _ _, HR1.out.far (by omega) _ _, HE.out⟩
          case measure => simp [intOf]; omega
    · obtain rfl : k = n := by omega
      obtain ⟨n0, n1, n2, n3, n4, n5, n6, n7⟩ := HN1.out.cells8
      obtain ⟨r0, r1, r2, r3, r4, r5, r6, r7⟩ := HR1.out.cells8
      obtain ⟨f0, f1, f2, f3, f4, f5, f6, f7⟩ := HR1.out.frozen8
      go_wp2
      refine bodyPost_ret (v := .agg (arr8 (D.fc k))) ?_ rfl ⟨rfl, ?_⟩
      · exact results_cell_row rfl _ _ (w.heap.size + 1) 36 (arr8 (D.fc k)) (0, 0) _ rfl (put8_blk HR1.out (D.fc k)) Tryd.underlying36 rfl info8
      · exact put8_below HB1.out (by omega) _
end Go.Proofs.YtgkgbpbohgklhafDoor
