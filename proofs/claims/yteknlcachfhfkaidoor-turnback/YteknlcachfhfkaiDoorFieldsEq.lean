/-
  Proved: eight numbers are the same as themselves, and so is a world (the model's comparison of arrays and structs, at equal values).
-/
import Derived.Test.YteknlcachfhfkaiDoorFieldsBlk
import Derived.ChangeKeysEq
import Derived.Laws.StructEq
namespace Go.Proofs.YteknlcachfhfkaiDoor
open Go.ChangeShapes Go.WideShapes Go.ChangeAt Go.RowKit

theorem guard8 : Tryd.prog.eqGuardType Tryd.prog.depth 35 = false := by kernel_rfl
theorem guardW : Tryd.prog.eqGuardType Tryd.prog.depth 28 = false := by kernel_rfl
theorem stoodW : Tryd.prog.stoodInHeld 28 = false := by kernel_rfl
theorem plainI : Tryd.prog.plainKey 3 = true := by kernel_rfl
theorem cells1 : Tryd.prog.cellsOf 3 = 1 := by kernel_rfl
theorem eqItems_same (d : Nat) (xs : Array Value) (is : List Nat) (h : ∀ j ∈ is, ∃ n : Int, xs[j]? = some (.int .i64 n)) (w : World) : (Op.eqItems (d + 1) 3 1 xs xs is).run Tryd.prog w = .ok true w := by
  induction is with
  | nil => simp [Op.eqItems]
  | cons j is ih =>
    obtain ⟨n, hn⟩ := h j (by simp)
    have p : (part 3 xs (j * 1)).run Tryd.prog w = .ok (.int .i64 n) w := run_part_plain w plainI (by rw [Nat.mul_one]; exact hn)
    have q : (Op.equalIn (d + 1) 3 (.int .i64 n) (.int .i64 n)).run Tryd.prog w = .ok true w := by
      rw [run_equalIn_int w d 3 .i64 .i64 n n Tryd.underlying3]; simp
    simp only [Op.eqItems, Sem.run_bind, p, q, Result.andThen_ok]
    simpa using ih fun k hk => h k (by simp [hk])
theorem equalIn8 (N : Nat → Int) (d : Nat) (w : World) : (Op.equalIn (d + 2) 35 (.agg (arr8 N)) (.agg (arr8 N))).run Tryd.prog w = .ok true w := by
  obtain ⟨i, hi⟩ := info_of_underlying Tryd.underlying3
  rw [run_equalIn_array w (d + 1) (arr8 N) (arr8 N) Tryd.underlying35 hi, cells1]
  exact eqItems_same d (arr8 N) _ (fun j hj => ⟨N j, arr8_get N (List.mem_range.1 hj)⟩) w
/-- x == x, of eight numbers. -/
theorem same8 (N : Nat → Int) (w : World) : (binOp .eql 35 (.agg #[.int .i64 (N 0), .int .i64 (N 1), .int .i64 (N 2), .int .i64 (N 3), .int .i64 (N 4), .int .i64 (N 5), .int .i64 (N 6), .int .i64 (N 7)]) (.agg #[.int .i64 (N 0), .int .i64 (N 1), .int .i64 (N 2), .int .i64 (N 3), .int .i64 (N 4), .int .i64 (N 5), .int .i64 (N 6), .int .i64 (N 7)])).run Tryd.prog w = .ok (.bool true) w := by
  rw [run_eql_struct]
  have := equalIn8 N 9998 w
  unfold arr8 at this
  rw [this]
  simp
theorem differ8 (N : Nat → Int) (w : World) : (binOp .neq 35 (.agg #[.int .i64 (N 0), .int .i64 (N 1), .int .i64 (N 2), .int .i64 (N 3), .int .i64 (N 4), .int .i64 (N 5), .int .i64 (N 6), .int .i64 (N 7)]) (.agg #[.int .i64 (N 0), .int .i64 (N 1), .int .i64 (N 2), .int .i64 (N 3), .int .i64 (N 4), .int .i64 (N 5), .int .i64 (N 6), .int .i64 (N 7)])).run Tryd.prog w = .ok (.bool false) w := by
  rw [run_neq_struct]
  have := equalIn8 N 9998 w
  unfold arr8 at this
  rw [this]
  simp
theorem equalIn3 (a b c : Int) (d : Nat) (w : World) : (Op.equalIn (d + 2) 26 (.agg #[.int .i64 a, .int .i64 b, .int .i64 c]) (.agg #[.int .i64 a, .int .i64 b, .int .i64 c])).run Tryd.prog w = .ok true w := by
  obtain ⟨i, hi⟩ := info_of_underlying Tryd.underlying3
  rw [run_equalIn_array w (d + 1) _ _ Tryd.underlying26 hi, cells1]
  refine eqItems_same d _ _ (fun j hj => ?_) w
  have hj3 : j = 0 ∨ j = 1 ∨ j = 2 := by have := List.mem_range.1 hj; omega
  rcases hj3 with rfl | rfl | rfl
  · exact ⟨a, rfl⟩
  · exact ⟨b, rfl⟩
  · exact ⟨c, rfl⟩
theorem equalInW (u a b c : Int) (d : Nat) (w : World) : (Op.equalIn (d + 3) 28 (.agg #[.int .i64 u, .int .i64 a, .int .i64 b, .int .i64 c]) (.agg #[.int .i64 u, .int .i64 a, .int .i64 b, .int .i64 c])).run Tryd.prog w = .ok true w := by
  have hs : Tryd.prog.underlying 28 = some (.struct (Tryd.prog.fieldsOf 28)) := by kernel_rfl
  rw [run_equalIn_struct w (d + 2) 28 _ _ hs stoodW]
  have p1 : (part 3 #[.int .i64 u, .int .i64 a, .int .i64 b, .int .i64 c] 0).run Tryd.prog w = .ok (.int .i64 u) w := run_part_plain w plainI rfl
  have q1 : (Op.equalIn (d + 2) 3 (.int .i64 u) (.int .i64 u)).run Tryd.prog w = .ok true w := by
    rw [run_equalIn_int w (d + 1) 3 .i64 .i64 u u Tryd.underlying3]; simp
  have p2 : (part 26 #[.int .i64 u, .int .i64 a, .int .i64 b, .int .i64 c] 1).run Tryd.prog w = .ok (.agg #[.int .i64 a, .int .i64 b, .int .i64 c]) w := by
    simp [part, Tryd.isAgg26, Tryd.sizeOf26, Result.andThen]
  have q2 := equalIn3 a b c d w
  have ef : (Tryd.prog.fieldsOf 28).toList.map (fun f => (f.name, f.type, f.offset)) = [("Things", 3, 0), ("Has", 26, 1)] := by kernel_rfl
  generalize (Tryd.prog.fieldsOf 28).toList = fs at ef ⊢
  match fs, ef with
  | [f, g], ef =>
    simp only [List.map_cons, List.map_nil, List.cons.injEq, Prod.mk.injEq, and_true] at ef
    obtain ⟨⟨n1, t1, o1⟩, n2, t2, o2⟩ := ef
    simp [Op.eqFields, n1, n2, t1, t2, o1, o2, Sem.run_bind, p1, q1, p2, q2, Result.andThen_ok]
  | [], ef => simp at ef
  | [_], ef => simp at ef
  | _ :: _ :: _ :: _, ef => simp at ef
/-- x == x, of a world. -/
theorem sameW (u a b c : Int) (w : World) : (binOp .eql 28 (.agg #[.int .i64 u, .int .i64 a, .int .i64 b, .int .i64 c]) (.agg #[.int .i64 u, .int .i64 a, .int .i64 b, .int .i64 c])).run Tryd.prog w = .ok (.bool true) w := by
  rw [run_eql_struct]
  rw [equalInW u a b c 9997 w]
  simp
end Go.Proofs.YteknlcachfhfkaiDoor
