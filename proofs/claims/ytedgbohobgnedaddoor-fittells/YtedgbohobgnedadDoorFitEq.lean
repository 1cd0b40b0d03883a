/-
  Proved: eight numbers are the same as eight others just if each is (the model's comparison of arrays).
-/
import Derived.Test.YtedgbohobgnedadDoorFieldsEq
namespace Go.Proofs.YtedgbohobgnedadDoor
open Go.ChangeShapes Go.WideShapes Go.ChangeAt Go.RowKit

/-- are eight numbers the same as eight others? -/
def eqB (N M : Nat → Int) : Bool := (List.range 8).all fun f => N f == M f
theorem eqB_iff {N M : Nat → Int} : eqB N M = true ↔ ∀ f, f < 8 → N f = M f := by
  unfold eqB
  rw [List.all_eq_true]
  exact ⟨fun h f hf => by simpa using h f (List.mem_range.2 hf), fun h f hf => by simpa using h f (List.mem_range.1 hf)⟩
theorem eqB_refl (N : Nat → Int) : eqB N N = true := eqB_iff.2 fun _ _ => rfl
theorem eqItems_any (d : Nat) (N M : Nat → Int) (is : List Nat) (h : ∀ j ∈ is, j < 8) (w : World) : (Op.eqItems (d + 1) 3 1 (arr8 N) (arr8 M) is).run Tryd.prog w = .ok (is.all fun j => N j == M j) w := by
  induction is with
  | nil => simp [Op.eqItems]
  | cons j is ih =>
    have hj := h j (by simp)
    have p : (part 3 (arr8 N) (j * 1)).run Tryd.prog w = .ok (.int .i64 (N j)) w := run_part_plain w plainI (by rw [Nat.mul_one]; exact arr8_get N hj)
    have p' : (part 3 (arr8 M) (j * 1)).run Tryd.prog w = .ok (.int .i64 (M j)) w := run_part_plain w plainI (by rw [Nat.mul_one]; exact arr8_get M hj)
    have q : (Op.equalIn (d + 1) 3 (.int .i64 (N j)) (.int .i64 (M j))).run Tryd.prog w = .ok (N j == M j) w := by
      rw [run_equalIn_int w d 3 .i64 .i64 (N j) (M j) Tryd.underlying3]
    have r := ih fun k hk => h k (by simp [hk])
    simp only [Op.eqItems, Sem.run_bind, p, p', q, Result.andThen_ok, List.all_cons]
    rcases (Bool.eq_false_or_eq_true (N j == M j)).symm with e | e
    · rw [e]; simp
    · rw [e]; simpa using r
theorem equalIn8_any (N M : Nat → Int) (d : Nat) (w : World) : (Op.equalIn (d + 2) 26 (.agg (arr8 N)) (.agg (arr8 M))).run Tryd.prog w = .ok (eqB N M) w := by
  obtain ⟨i, hi⟩ := info_of_underlying Tryd.underlying3
  rw [run_equalIn_array w (d + 1) (arr8 N) (arr8 M) Tryd.underlying26 hi, cells1]
  exact eqItems_any d N M _ (fun j hj => List.mem_range.1 hj) w
/-- x == y, of eight numbers. -/
theorem eql8 (N M : Nat → Int) (w : World) : (binOp .eql 26 (.agg #[.int .i64 (N 0), .int .i64 (N 1), .int .i64 (N 2), .int .i64 (N 3), .int .i64 (N 4), .int .i64 (N 5), .int .i64 (N 6), .int .i64 (N 7)]) (.agg #[.int .i64 (M 0), .int .i64 (M 1), .int .i64 (M 2), .int .i64 (M 3), .int .i64 (M 4), .int .i64 (M 5), .int .i64 (M 6), .int .i64 (M 7)])).run Tryd.prog w = .ok (.bool (eqB N M)) w := by
  rw [run_eql_struct]
  have := equalIn8_any N M 9998 w
  unfold arr8 at this
  rw [this]
  simp
end Go.Proofs.YtedgbohobgnedadDoor
