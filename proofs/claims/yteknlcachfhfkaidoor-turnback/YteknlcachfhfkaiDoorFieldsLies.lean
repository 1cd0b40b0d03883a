/-
  Proved: what fields.lies returns; what was in memory is as it was (a contract that the statements lean on).
-/
import Derived.Test.YteknlcachfhfkaiDoorFieldsWith
namespace Go.Proofs.YteknlcachfhfkaiDoor
open Go.ChangeShapes Go.WideShapes Go.ChangeAt Go.RowKit

theorem or_one (x : Bool) : bits .or .i64 0 (wrap64 (oneB x)) = oneB x := by cases x <;> decide +kernel
theorem or_two (x y : Bool) : bits .or .i64 (oneB x) (wrap64 (oneB y * 2)) = oneB x + 2 * oneB y := by cases x <;> cases y <;> decide +kernel
theorem or_three (x y z : Bool) : bits .or .i64 (oneB x + 2 * oneB y) (wrap64 (oneB z * 4)) = oneB x + 2 * oneB y + 4 * oneB z := by cases x <;> cases y <;> cases z <;> decide +kernel
theorem field_int (w : Wd) (i : Nat) : (w.field i : Int) = oneB (hasB w.a i) + 2 * oneB (hasB w.b i) + 4 * oneB (hasB w.c i) := by
  unfold Wd.field
  cases hasB w.a i <;> cases hasB w.b i <;> cases hasB w.c i <;> decide

set_option maxRecDepth 100000 in
set_option maxHeartbeats 4000000 in
theorem lies_any (u a b c : Int) (i : Nat) (hok : (Wd.mk u a b c).ok = true) (hi : (i : Int) < u) (w : World) :
    Calls Tryd.prog 21 #[.agg #[.int .i64 u, .int .i64 a, .int .i64 b, .int .i64 c], .int .i64 i] w fun e w' => e = .returned (.int .i64 ((Wd.mk u a b c).field i)) ∧ Below w.heap.size w w' := by
  obtain ⟨w1, hw1⟩ : ∃ w1, w1 = w.alloc (.cells #[.int .i64 u, .int .i64 a, .int .i64 b, .int .i64 c] 28) := ⟨_, rfl⟩
  have HW : Hid (Below w.heap.size w w1) := by unfold Hid; rw [hw1]; exact below_alloc1 _ _
  have x0 : w1.cell? ⟨w.heap.size, 0, none⟩ = some (.int .i64 u) := by rw [hw1]; simp
  have x1 : w1.cell? ⟨w.heap.size, 1, none⟩ = some (.int .i64 a) := by rw [hw1]; simp
  have x2 : w1.cell? ⟨w.heap.size, 2, none⟩ = some (.int .i64 b) := by rw [hw1]; simp
  have x3 : w1.cell? ⟨w.heap.size, 3, none⟩ = some (.int .i64 c) := by rw [hw1]; simp
  obtain ⟨h1, h2, h3⟩ := Wd.ok_iff.1 hok
  obtain ⟨u0, u6, a0, a6⟩ := okB_lt h1
  obtain ⟨_, _, b0, b6⟩ := okB_lt h2
  obtain ⟨_, _, c0, c6⟩ := okB_lt h3
  simp only at u0 u6 a0 a6 b0 b6 c0 c6
  have hi6 : i < 6 := by omega
  have HB : Hid (bits .and .i64 (a / 2 ^ i) 1 = oneB (hasB a i) ∧ bits .and .i64 (b / 2 ^ i) 1 = oneB (hasB b i) ∧ bits .and .i64 (c / 2 ^ i) 1 = oneB (hasB c i)) := ⟨bit_at a i a0 (by omega) (by omega), bit_at b i b0 (by omega) (by omega), bit_at c i c0 (by omega) (by omega)⟩
  have HF : Hid (((Wd.mk u a b c).field i : Int) = oneB (hasB a i) + 2 * oneB (hasB b i) + 4 * oneB (hasB c i)) := field_int _ _
  clear hok h1 h2 h3 hi
  go_enter Tryd.func21, Tryd.ntmps21
  go_wp2
  rw [← hw1]
  clear hw1
  go_loop [5, 7] (fun s j => (j = .int .i64 0 ∧ s = .int .i64 0) ∨ (j = .int .i64 1 ∧ s = .int .i64 (oneB (hasB a i))) ∨ (j = .int .i64 2 ∧ s = .int .i64 (oneB (hasB a i) + 2 * oneB (hasB b i))) ∨ (j = .int .i64 3 ∧ s = .int .i64 (oneB (hasB a i) + 2 * oneB (hasB b i) + 4 * oneB (hasB c i)))) (fun _ i => 3 - (intOf i).toNat)
  case atStart => exact Or.inl ⟨rfl, rfl⟩
  case round =>
    rcases hrel with ⟨rfl, rfl⟩ | ⟨rfl, rfl⟩ | ⟨rfl, rfl⟩ | ⟨rfl, rfl⟩
    · go_wp2
      go_round
      case rel => exact Or.inr (Or.inl ⟨rfl, by rw [HB.out.1, or_one]⟩)
      case measure => simp [intOf]
    · go_wp2
      go_round
      case rel => exact Or.inr (Or.inr (Or.inl ⟨rfl, by rw [HB.out.2.1, or_two]⟩))
      case measure => simp [intOf]
    · go_wp2
      go_round
      case rel => exact Or.inr (Or.inr (Or.inr ⟨rfl, by rw [HB.out.2.2, or_three]⟩))
      case measure => simp [intOf]
    · go_wp2
      go_ret
      exact ⟨back_i HF.out.symm, HW.out⟩

end Go.Proofs.YteknlcachfhfkaiDoor
