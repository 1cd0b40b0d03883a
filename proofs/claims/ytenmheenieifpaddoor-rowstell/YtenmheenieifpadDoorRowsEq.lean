/-
  Proved: a row is the same as itself (the model's comparison of structs, at equal values).
-/
import Derived.Test.YtenmheenieifpadDoorFieldsEq
import Derived.Test.YtenmheenieifpadDoorRowsBlk
namespace Go.Proofs.YtenmheenieifpadDoor
open Go.ChangeShapes Go.WideShapes Go.ChangeAt Go.RowKit

theorem guardR : Tryd.prog.eqGuardType Tryd.prog.depth 29 = false := by kernel_rfl
theorem stoodR : Tryd.prog.stoodInHeld 29 = false := by kernel_rfl
theorem equalInR (T : Nat → Int) (m : Int) (d : Nat) (w : World) : (Op.equalIn (d + 3) 29 (.agg (arrR T m)) (.agg (arrR T m))).run Tryd.prog w = .ok true w := by
  have hs : Tryd.prog.underlying 29 = some (.struct (Tryd.prog.fieldsOf 29)) := by kernel_rfl
  rw [run_equalIn_struct w (d + 2) 29 _ _ hs stoodR]
  have p1 : (part 26 (arrR T m) 0).run Tryd.prog w = .ok (.agg (arr8 T)) w := by
    simp [part, Tryd.isAgg26, Tryd.sizeOf26, Result.andThen, arrR, arr8]
  have q1 := equalIn8 T d w
  have p2 : (part 3 (arrR T m) 8).run Tryd.prog w = .ok (.int .i64 m) w := run_part_plain w plainI rfl
  have q2 : (Op.equalIn (d + 2) 3 (.int .i64 m) (.int .i64 m)).run Tryd.prog w = .ok true w := by
    rw [run_equalIn_int w (d + 1) 3 .i64 .i64 m m Tryd.underlying3]; simp
  have ef : (Tryd.prog.fieldsOf 29).toList.map (fun f => (f.name, f.type, f.offset)) = [("Times", 26, 0), ("Most", 3, 8)] := by kernel_rfl
  generalize (Tryd.prog.fieldsOf 29).toList = fs at ef ⊢
  match fs, ef with
  | [f, g], ef =>
    simp only [List.map_cons, List.map_nil, List.cons.injEq, Prod.mk.injEq, and_true] at ef
    obtain ⟨⟨n1, t1, o1⟩, n2, t2, o2⟩ := ef
    simp [Op.eqFields, n1, n2, t1, t2, o1, o2, Sem.run_bind, p1, q1, p2, q2, Result.andThen_ok]
  | [], ef => simp at ef
  | [_], ef => simp at ef
  | _ :: _ :: _ :: _, ef => simp at ef
/-- x == x, of a row. -/
theorem sameR (T : Nat → Int) (m : Int) (w : World) : (binOp .eql 29 (.agg #[.int .i64 (T 0), .int .i64 (T 1), .int .i64 (T 2), .int .i64 (T 3), .int .i64 (T 4), .int .i64 (T 5), .int .i64 (T 6), .int .i64 (T 7), .int .i64 m]) (.agg #[.int .i64 (T 0), .int .i64 (T 1), .int .i64 (T 2), .int .i64 (T 3), .int .i64 (T 4), .int .i64 (T 5), .int .i64 (T 6), .int .i64 (T 7), .int .i64 m])).run Tryd.prog w = .ok (.bool true) w := by
  rw [run_eql_struct]
  have := equalInR T m 9997 w
  unfold arrR at this
  rw [this]
  simp
end Go.Proofs.YtenmheenieifpadDoor
