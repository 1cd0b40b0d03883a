/-
  Proved: what errors.Is returns at api.ErrSyntax, of nil and of an api.Errno, and what atom.firstTold returns, of three such; what was in memory is as it was (contracts that the statements lean on).
-/
import Derived.Test.YtenmheenieifpabGreatDoorAtomCheck
import Derived.LaidEql
import Derived.Stop.Asserts
import Derived.RowKitTokens
namespace Go.Proofs.YtenmheenieifpabGreatDoor
open Go.ChangeShapes Go.WideShapes Go.ChangeAt Go.RowKit Go.Extern.Stop Go.Stop Go.Extern
set_option maxRecDepth 100000

theorem isTypeOf (v : Value) (w : World) : (Extern.ReflectliteType.typeOf #[.iface 51 v]).run Tryz.prog w = .ok (.iface 130 (.agg #[.pointer (some ⟨10, 51, none⟩)])) w := by kernel_rfl
theorem isComparable (w : World) : (callFunc 145 #[.agg #[.pointer (some ⟨10, 51, none⟩)]]).run Tryz.prog w = .ok (.value (.bool true)) w := by
  rw [@run_callFunc_extern Tryz.prog 145 _ (Extern.ReflectliteType.method fun t => do Rtype.noPackHeld "Comparable" t; pure (.bool (← typeInfo t).comparable)) Tryz.func145 (by kernel_rfl) (by kernel_rfl) (by kernel_rfl) (by kernel_rfl)]
  rw [show ((Extern.ReflectliteType.method fun t => do Rtype.noPackHeld "Comparable" t; pure (.bool (← typeInfo t).comparable)) #[.agg #[.pointer (some ⟨10, 51, none⟩)]]).run Tryz.prog w = .ok (.bool true) w by kernel_rfl]
  rfl
theorem isMethodComparable (v : Value) (w : World) : (Go.method 310 130 v "Comparable").run Tryz.prog w = .ok (145, v) w := by kernel_rfl
theorem noIsE (v : Value) (xT : TypeId) (w : World) : (Instr.typeAssert (.iface 51 v) xT 157 true).run Tryz.prog w = .ok (.tuple #[.nilIface, .bool false]) w := run_typeAssert_lacksB Tryz.underlying157 (by kernel_rfl) (by kernel_rfl) v xT w
theorem noUnwrapE (v : Value) (xT : TypeId) (w : World) : (Instr.typeAssert (.iface 51 v) xT 137 true).run Tryz.prog w = .ok (.tuple #[.nilIface, .bool false]) w := run_typeAssert_lacksB Tryz.underlying137 (by kernel_rfl) (by kernel_rfl) v xT w
theorem noUnwrapsE (v : Value) (xT : TypeId) (w : World) : (Instr.typeAssert (.iface 51 v) xT 139 true).run Tryz.prog w = .ok (.tuple #[.nilIface, .bool false]) w := run_typeAssert_lacksB Tryz.underlying139 (by kernel_rfl) (by kernel_rfl) v xT w

set_option maxHeartbeats 2000000 in
theorem is_err (m : Int) (b : Bool) (hq : ∀ W, (binOp .eql 31 (.iface 51 (.int .i64 m)) (.iface 51 (.int .i64 2))).run Tryz.prog W = .ok (.bool b) W) (w : World) :
    Calls Tryz.prog 61 #[.iface 51 (.int .i64 m), .iface 51 (.int .i64 2)] w fun e w' => e = .returned (.bool b) ∧ w = w' := by
  have h8 := @run_callFunc_extern Tryz.prog 83 _ Extern.ReflectliteType.typeOf Tryz.func83 (by kernel_rfl) (by kernel_rfl) (by kernel_rfl) (by kernel_rfl)
  have tT := isTypeOf
  have cT := isComparable
  have mR := isMethodComparable
  have nE := noIsE
  have uE := noUnwrapE
  have vE := noUnwrapsE
  cases b
  · go_enter Tryz.func61, Tryz.ntmps61
    go_wp2
    refine wp_loop_rounds 1 ?_
    rw [rounds_succ]
    go_wp2
    go_ret
    exact ⟨rfl, rfl⟩
  · go_enter Tryz.func61, Tryz.ntmps61
    go_wp2
    refine wp_loop_rounds 1 ?_
    rw [rounds_succ]
    go_wp2
    go_ret
    exact ⟨rfl, rfl⟩
theorem is_none (w : World) :
    Calls Tryz.prog 61 #[.nilIface, .iface 51 (.int .i64 2)] w fun e w' => e = .returned (.bool false) ∧ w = w' := by
  have hn := run_eql_iface_nil_left (P := Tryz.prog) w 51 (.int .i64 2) Tryz.underlying31
  go_enter Tryz.func61, Tryz.ntmps61
  go_wp2
  go_ret
  exact ⟨rfl, rfl⟩
theorem eql2 (W : World) : (binOp .eql 31 (.iface 51 (.int .i64 2)) (.iface 51 (.int .i64 2))).run Tryz.prog W = .ok (.bool true) W := by kernel_rfl
theorem eql1 (W : World) : (binOp .eql 31 (.iface 51 (.int .i64 1)) (.iface 51 (.int .i64 2))).run Tryz.prog W = .ok (.bool false) W := by kernel_rfl
theorem eql3 (W : World) : (binOp .eql 31 (.iface 51 (.int .i64 3)) (.iface 51 (.int .i64 2))).run Tryz.prog W = .ok (.bool false) W := by kernel_rfl
theorem eql4 (W : World) : (binOp .eql 31 (.iface 51 (.int .i64 4)) (.iface 51 (.int .i64 2))).run Tryz.prog W = .ok (.bool false) W := by kernel_rfl
theorem eql5 (W : World) : (binOp .eql 31 (.iface 51 (.int .i64 5)) (.iface 51 (.int .i64 2))).run Tryz.prog W = .ok (.bool false) W := by kernel_rfl

/-- errors.Is at ErrSyntax. -/
theorem is_any (m : Int) (h0 : 0 ≤ m) (h5 : m ≤ 5) (w : World) :
    Calls Tryz.prog 61 #[errV m, .iface 51 (.int .i64 2)] w fun e w' => e = .returned (.bool (decide (m = 2))) ∧ w = w' := by
  obtain rfl | rfl | rfl | rfl | rfl | rfl : m = 0 ∨ m = 1 ∨ m = 2 ∨ m = 3 ∨ m = 4 ∨ m = 5 := by omega
  · exact is_none w
  · exact is_err 1 false eql1 w
  · exact is_err 2 true eql2 w
  · exact is_err 3 false eql3 w
  · exact is_err 4 false eql4 w
  · exact is_err 5 false eql5 w

theorem ix0 (E0 E1 E2 : Value) (W : World) : (Instr.index 73 (.agg #[E0, E1, E2]) (.int .i64 0)).run Tryz.prog W = .ok E0 W := by kernel_rfl
theorem ix1 (E0 E1 E2 : Value) (W : World) : (Instr.index 73 (.agg #[E0, E1, E2]) (.int .i64 1)).run Tryz.prog W = .ok E1 W := by kernel_rfl
theorem ix2 (E0 E1 E2 : Value) (W : World) : (Instr.index 73 (.agg #[E0, E1, E2]) (.int .i64 2)).run Tryz.prog W = .ok E2 W := by kernel_rfl
/-- the error that is told of three: that of the syntax ahead of all others. -/
def toldN (a b c : Int) : Int := if a = 2 ∨ b = 2 ∨ c = 2 then 2 else if a = 0 then (if b = 0 then c else b) else a

set_option maxHeartbeats 2000000 in
theorem told_0 (E0 E1 E2 : Value)  (h0 : ∀ W, Calls Tryz.prog 61 #[E0, .iface 51 (.int .i64 2)] W fun e w' => e = .returned (.bool true) ∧ W = w') (w : World) :
    Calls Tryz.prog 38 #[.agg #[E0, E1, E2]] w fun e w' => e = .returned E0 ∧ Below w.heap.size w w' := by
  have H0 : Hid (∀ W, Calls Tryz.prog 61 #[E0, .iface 51 (.int .i64 2)] W fun e w' => e = .returned (.bool true) ∧ W = w') := h0
  clear h0
  have HB : Hid (Below w.heap.size w (w.alloc (.cells #[E0, E1, E2] 73))) := below_alloc1 w _
  have k0 := ix0 E0 E1 E2
  have k1 := ix1 E0 E1 E2
  have k2 := ix2 E0 E1 E2
  go_enter Tryz.func38, Tryz.ntmps38
  go_wp2_with fail
  refine wp_loop_rounds 4 ?_
  rw [rounds_succ]
  go_wp2_with fail
  go_at_call 61
  refine (H0.out _).mono ?_
  rintro e w2 ⟨rfl, rfl⟩
  go_wp2_with fail
  go_ret
  exact ⟨rfl, HB.out⟩

set_option maxHeartbeats 2000000 in
theorem told_1 (E0 E1 E2 : Value)  (h0 : ∀ W, Calls Tryz.prog 61 #[E0, .iface 51 (.int .i64 2)] W fun e w' => e = .returned (.bool false) ∧ W = w') (h1 : ∀ W, Calls Tryz.prog 61 #[E1, .iface 51 (.int .i64 2)] W fun e w' => e = .returned (.bool true) ∧ W = w') (w : World) :
    Calls Tryz.prog 38 #[.agg #[E0, E1, E2]] w fun e w' => e = .returned E1 ∧ Below w.heap.size w w' := by
  have H0 : Hid (∀ W, Calls Tryz.prog 61 #[E0, .iface 51 (.int .i64 2)] W fun e w' => e = .returned (.bool false) ∧ W = w') := h0
  clear h0
  have H1 : Hid (∀ W, Calls Tryz.prog 61 #[E1, .iface 51 (.int .i64 2)] W fun e w' => e = .returned (.bool true) ∧ W = w') := h1
  clear h1
  have HB : Hid (Below w.heap.size w (w.alloc (.cells #[E0, E1, E2] 73))) := below_alloc1 w _
  have k0 := ix0 E0 E1 E2
  have k1 := ix1 E0 E1 E2
  have k2 := ix2 E0 E1 E2
  go_enter Tryz.func38, Tryz.ntmps38
  go_wp2_with fail
  refine wp_loop_rounds 4 ?_
  rw [rounds_succ]
  go_wp2_with fail
  go_at_call 61
  refine (H0.out _).mono ?_
  rintro e w2 ⟨rfl, rfl⟩
  go_wp2_with fail
  rw [rounds_succ]
  go_wp2_with fail
  go_at_call 61
  refine (H1.out _).mono ?_
  rintro e w3 ⟨rfl, rfl⟩
  go_wp2_with fail
  go_ret
  exact ⟨rfl, HB.out⟩

set_option maxHeartbeats 2000000 in
theorem told_2 (E0 E1 E2 : Value)  (h0 : ∀ W, Calls Tryz.prog 61 #[E0, .iface 51 (.int .i64 2)] W fun e w' => e = .returned (.bool false) ∧ W = w') (h1 : ∀ W, Calls Tryz.prog 61 #[E1, .iface 51 (.int .i64 2)] W fun e w' => e = .returned (.bool false) ∧ W = w') (h2 : ∀ W, Calls Tryz.prog 61 #[E2, .iface 51 (.int .i64 2)] W fun e w' => e = .returned (.bool true) ∧ W = w') (w : World) :
    Calls Tryz.prog 38 #[.agg #[E0, E1, E2]] w fun e w' => e = .returned E2 ∧ Below w.heap.size w w' := by
  have H0 : Hid (∀ W, Calls Tryz.prog 61 #[E0, .iface 51 (.int .i64 2)] W fun e w' => e = .returned (.bool false) ∧ W = w') := h0
  clear h0
  have H1 : Hid (∀ W, Calls Tryz.prog 61 #[E1, .iface 51 (.int .i64 2)] W fun e w' => e = .returned (.bool false) ∧ W = w') := h1
  clear h1
  have H2 : Hid (∀ W, Calls Tryz.prog 61 #[E2, .iface 51 (.int .i64 2)] W fun e w' => e = .returned (.bool true) ∧ W = w') := h2
  clear h2
  have HB : Hid (Below w.heap.size w (w.alloc (.cells #[E0, E1, E2] 73))) := below_alloc1 w _
  have k0 := ix0 E0 E1 E2
  have k1 := ix1 E0 E1 E2
  have k2 := ix2 E0 E1 E2
  go_enter Tryz.func38, Tryz.ntmps38
  go_wp2_with fail
  refine wp_loop_rounds 4 ?_
  rw [rounds_succ]
  go_wp2_with fail
  go_at_call 61
  refine (H0.out _).mono ?_
  rintro e w2 ⟨rfl, rfl⟩
  go_wp2_with fail
  rw [rounds_succ]
  go_wp2_with fail
  go_at_call 61
  refine (H1.out _).mono ?_
  rintro e w3 ⟨rfl, rfl⟩
  go_wp2_with fail
  rw [rounds_succ]
  go_wp2_with fail
  go_at_call 61
  refine (H2.out _).mono ?_
  rintro e w4 ⟨rfl, rfl⟩
  go_wp2_with fail
  go_ret
  exact ⟨rfl, HB.out⟩

set_option maxHeartbeats 2000000 in
theorem told_n0 (E0 E1 E2 : Value) (f : Int) (g0 : E0 = (.iface 51 (.int .i64 f))) (h0 : ∀ W, Calls Tryz.prog 61 #[E0, .iface 51 (.int .i64 2)] W fun e w' => e = .returned (.bool false) ∧ W = w') (h1 : ∀ W, Calls Tryz.prog 61 #[E1, .iface 51 (.int .i64 2)] W fun e w' => e = .returned (.bool false) ∧ W = w') (h2 : ∀ W, Calls Tryz.prog 61 #[E2, .iface 51 (.int .i64 2)] W fun e w' => e = .returned (.bool false) ∧ W = w') (w : World) :
    Calls Tryz.prog 38 #[.agg #[E0, E1, E2]] w fun e w' => e = .returned (.iface 51 (.int .i64 f)) ∧ Below w.heap.size w w' := by
  have H0 : Hid (∀ W, Calls Tryz.prog 61 #[E0, .iface 51 (.int .i64 2)] W fun e w' => e = .returned (.bool false) ∧ W = w') := h0
  clear h0
  have H1 : Hid (∀ W, Calls Tryz.prog 61 #[E1, .iface 51 (.int .i64 2)] W fun e w' => e = .returned (.bool false) ∧ W = w') := h1
  clear h1
  have H2 : Hid (∀ W, Calls Tryz.prog 61 #[E2, .iface 51 (.int .i64 2)] W fun e w' => e = .returned (.bool false) ∧ W = w') := h2
  clear h2
  have HB : Hid (Below w.heap.size w (w.alloc (.cells #[E0, E1, E2] 73))) := below_alloc1 w _
  have k0 := ix0 E0 E1 E2
  have k1 := ix1 E0 E1 E2
  have k2 := ix2 E0 E1 E2
  subst g0
  go_enter Tryz.func38, Tryz.ntmps38
  go_wp2_with fail
  refine wp_loop_rounds 4 ?_
  rw [rounds_succ]
  go_wp2_with fail
  go_at_call 61
  refine (H0.out _).mono ?_
  rintro e w2 ⟨rfl, rfl⟩
  go_wp2_with fail
  rw [rounds_succ]
  go_wp2_with fail
  go_at_call 61
  refine (H1.out _).mono ?_
  rintro e w3 ⟨rfl, rfl⟩
  go_wp2_with fail
  rw [rounds_succ]
  go_wp2_with fail
  go_at_call 61
  refine (H2.out _).mono ?_
  rintro e w4 ⟨rfl, rfl⟩
  go_wp2_with fail
  rw [rounds_succ]
  go_wp2_with fail
  refine wp_loop_rounds 4 ?_
  rw [rounds_succ]
  go_wp2
  go_ret
  exact ⟨rfl, HB.out⟩

set_option maxHeartbeats 2000000 in
theorem told_n1 (E0 E1 E2 : Value) (f : Int) (g0 : E0 = Value.nilIface) (g1 : E1 = (.iface 51 (.int .i64 f))) (h0 : ∀ W, Calls Tryz.prog 61 #[E0, .iface 51 (.int .i64 2)] W fun e w' => e = .returned (.bool false) ∧ W = w') (h1 : ∀ W, Calls Tryz.prog 61 #[E1, .iface 51 (.int .i64 2)] W fun e w' => e = .returned (.bool false) ∧ W = w') (h2 : ∀ W, Calls Tryz.prog 61 #[E2, .iface 51 (.int .i64 2)] W fun e w' => e = .returned (.bool false) ∧ W = w') (w : World) :
    Calls Tryz.prog 38 #[.agg #[E0, E1, E2]] w fun e w' => e = .returned (.iface 51 (.int .i64 f)) ∧ Below w.heap.size w w' := by
  have H0 : Hid (∀ W, Calls Tryz.prog 61 #[E0, .iface 51 (.int .i64 2)] W fun e w' => e = .returned (.bool false) ∧ W = w') := h0
  clear h0
  have H1 : Hid (∀ W, Calls Tryz.prog 61 #[E1, .iface 51 (.int .i64 2)] W fun e w' => e = .returned (.bool false) ∧ W = w') := h1
  clear h1
  have H2 : Hid (∀ W, Calls Tryz.prog 61 #[E2, .iface 51 (.int .i64 2)] W fun e w' => e = .returned (.bool false) ∧ W = w') := h2
  clear h2
  have HB : Hid (Below w.heap.size w (w.alloc (.cells #[E0, E1, E2] 73))) := below_alloc1 w _
  have k0 := ix0 E0 E1 E2
  have k1 := ix1 E0 E1 E2
  have k2 := ix2 E0 E1 E2
  subst g0
  subst g1
  go_enter Tryz.func38, Tryz.ntmps38
  go_wp2_with fail
  refine wp_loop_rounds 4 ?_
  rw [rounds_succ]
  go_wp2_with fail
  go_at_call 61
  refine (H0.out _).mono ?_
  rintro e w2 ⟨rfl, rfl⟩
  go_wp2_with fail
  rw [rounds_succ]
  go_wp2_with fail
  go_at_call 61
  refine (H1.out _).mono ?_
  rintro e w3 ⟨rfl, rfl⟩
  go_wp2_with fail
  rw [rounds_succ]
  go_wp2_with fail
  go_at_call 61
  refine (H2.out _).mono ?_
  rintro e w4 ⟨rfl, rfl⟩
  go_wp2_with fail
  rw [rounds_succ]
  go_wp2_with fail
  refine wp_loop_rounds 4 ?_
  rw [rounds_succ]
  go_wp2
  rw [rounds_succ]
  go_wp2
  go_ret
  exact ⟨rfl, HB.out⟩

set_option maxHeartbeats 2000000 in
theorem told_n2 (E0 E1 E2 : Value) (f : Int) (g0 : E0 = Value.nilIface) (g1 : E1 = Value.nilIface) (g2 : E2 = (.iface 51 (.int .i64 f))) (h0 : ∀ W, Calls Tryz.prog 61 #[E0, .iface 51 (.int .i64 2)] W fun e w' => e = .returned (.bool false) ∧ W = w') (h1 : ∀ W, Calls Tryz.prog 61 #[E1, .iface 51 (.int .i64 2)] W fun e w' => e = .returned (.bool false) ∧ W = w') (h2 : ∀ W, Calls Tryz.prog 61 #[E2, .iface 51 (.int .i64 2)] W fun e w' => e = .returned (.bool false) ∧ W = w') (w : World) :
    Calls Tryz.prog 38 #[.agg #[E0, E1, E2]] w fun e w' => e = .returned (.iface 51 (.int .i64 f)) ∧ Below w.heap.size w w' := by
  have H0 : Hid (∀ W, Calls Tryz.prog 61 #[E0, .iface 51 (.int .i64 2)] W fun e w' => e = .returned (.bool false) ∧ W = w') := h0
  clear h0
  have H1 : Hid (∀ W, Calls Tryz.prog 61 #[E1, .iface 51 (.int .i64 2)] W fun e w' => e = .returned (.bool false) ∧ W = w') := h1
  clear h1
  have H2 : Hid (∀ W, Calls Tryz.prog 61 #[E2, .iface 51 (.int .i64 2)] W fun e w' => e = .returned (.bool false) ∧ W = w') := h2
  clear h2
  have HB : Hid (Below w.heap.size w (w.alloc (.cells #[E0, E1, E2] 73))) := below_alloc1 w _
  have k0 := ix0 E0 E1 E2
  have k1 := ix1 E0 E1 E2
  have k2 := ix2 E0 E1 E2
  subst g0
  subst g1
  subst g2
  go_enter Tryz.func38, Tryz.ntmps38
  go_wp2_with fail
  refine wp_loop_rounds 4 ?_
  rw [rounds_succ]
  go_wp2_with fail
  go_at_call 61
  refine (H0.out _).mono ?_
  rintro e w2 ⟨rfl, rfl⟩
  go_wp2_with fail
  rw [rounds_succ]
  go_wp2_with fail
  go_at_call 61
  refine (H1.out _).mono ?_
  rintro e w3 ⟨rfl, rfl⟩
  go_wp2_with fail
  rw [rounds_succ]
  go_wp2_with fail
  go_at_call 61
  refine (H2.out _).mono ?_
  rintro e w4 ⟨rfl, rfl⟩
  go_wp2_with fail
  rw [rounds_succ]
  go_wp2_with fail
  refine wp_loop_rounds 4 ?_
  rw [rounds_succ]
  go_wp2
  rw [rounds_succ]
  go_wp2
  rw [rounds_succ]
  go_wp2
  go_ret
  exact ⟨rfl, HB.out⟩

set_option maxHeartbeats 2000000 in
theorem told_n3 (E0 E1 E2 : Value) (g0 : E0 = Value.nilIface) (g1 : E1 = Value.nilIface) (g2 : E2 = Value.nilIface) (h0 : ∀ W, Calls Tryz.prog 61 #[E0, .iface 51 (.int .i64 2)] W fun e w' => e = .returned (.bool false) ∧ W = w') (h1 : ∀ W, Calls Tryz.prog 61 #[E1, .iface 51 (.int .i64 2)] W fun e w' => e = .returned (.bool false) ∧ W = w') (h2 : ∀ W, Calls Tryz.prog 61 #[E2, .iface 51 (.int .i64 2)] W fun e w' => e = .returned (.bool false) ∧ W = w') (w : World) :
    Calls Tryz.prog 38 #[.agg #[E0, E1, E2]] w fun e w' => e = .returned Value.nilIface ∧ Below w.heap.size w w' := by
  have H0 : Hid (∀ W, Calls Tryz.prog 61 #[E0, .iface 51 (.int .i64 2)] W fun e w' => e = .returned (.bool false) ∧ W = w') := h0
  clear h0
  have H1 : Hid (∀ W, Calls Tryz.prog 61 #[E1, .iface 51 (.int .i64 2)] W fun e w' => e = .returned (.bool false) ∧ W = w') := h1
  clear h1
  have H2 : Hid (∀ W, Calls Tryz.prog 61 #[E2, .iface 51 (.int .i64 2)] W fun e w' => e = .returned (.bool false) ∧ W = w') := h2
  clear h2
  have HB : Hid (Below w.heap.size w (w.alloc (.cells #[E0, E1, E2] 73))) := below_alloc1 w _
  have k0 := ix0 E0 E1 E2
  have k1 := ix1 E0 E1 E2
  have k2 := ix2 E0 E1 E2
  subst g0
  subst g1
  subst g2
  go_enter Tryz.func38, Tryz.ntmps38
  go_wp2_with fail
  refine wp_loop_rounds 4 ?_
  rw [rounds_succ]
  go_wp2_with fail
  go_at_call 61
  refine (H0.out _).mono ?_
  rintro e w2 ⟨rfl, rfl⟩
  go_wp2_with fail
  rw [rounds_succ]
  go_wp2_with fail
  go_at_call 61
  refine (H1.out _).mono ?_
  rintro e w3 ⟨rfl, rfl⟩
  go_wp2_with fail
  rw [rounds_succ]
  go_wp2_with fail
  go_at_call 61
  refine (H2.out _).mono ?_
  rintro e w4 ⟨rfl, rfl⟩
  go_wp2_with fail
  rw [rounds_succ]
  go_wp2_with fail
  refine wp_loop_rounds 4 ?_
  rw [rounds_succ]
  go_wp2
  rw [rounds_succ]
  go_wp2
  rw [rounds_succ]
  go_wp2
  rw [rounds_succ]
  go_wp2
  go_ret
  exact ⟨rfl, HB.out⟩

theorem told_any (a b c : Int) (a0 : 0 ≤ a) (a5 : a ≤ 5) (b0 : 0 ≤ b) (b5 : b ≤ 5) (c0 : 0 ≤ c) (c5 : c ≤ 5) (w : World) :
    Calls Tryz.prog 38 #[.agg #[errV a, errV b, errV c]] w fun e w' => e = .returned (errV (toldN a b c)) ∧ Below w.heap.size w w' := by
  have ha := is_any a a0 a5
  have hb := is_any b b0 b5
  have hc := is_any c c0 c5
  by_cases ha2 : a = 2
  · have e : toldN a b c = a := by unfold toldN; rw [if_pos (Or.inl ha2), ha2]
    rw [e]
    rw [decide_eq_true ha2] at ha
    exact told_0 _ _ _ ha w
  rw [decide_eq_false ha2] at ha
  by_cases hb2 : b = 2
  · have e : toldN a b c = b := by unfold toldN; rw [if_pos (Or.inr (Or.inl hb2)), hb2]
    rw [e]
    rw [decide_eq_true hb2] at hb
    exact told_1 _ _ _ ha hb w
  rw [decide_eq_false hb2] at hb
  by_cases hc2 : c = 2
  · have e : toldN a b c = c := by unfold toldN; rw [if_pos (Or.inr (Or.inr hc2)), hc2]
    rw [e]
    rw [decide_eq_true hc2] at hc
    exact told_2 _ _ _ ha hb hc w
  rw [decide_eq_false hc2] at hc
  have e : toldN a b c = if a = 0 then (if b = 0 then c else b) else a := by unfold toldN; rw [if_neg (by omega)]
  rw [e]
  by_cases ha0 : a = 0
  · rw [if_pos ha0]
    by_cases hb0 : b = 0
    · rw [if_pos hb0]
      by_cases hc0 : c = 0
      · rw [hc0, errV_0]
        rw [hc0] at hc
        exact told_n3 _ _ _ (by rw [ha0]; rfl) (by rw [hb0]; rfl) (by rfl) ha hb hc w
      · rw [errV_no hc0]
        exact told_n2 _ _ _ c (by rw [ha0]; rfl) (by rw [hb0]; rfl) rfl ha hb (by rw [errV_no hc0] at hc; exact hc) w
    · rw [if_neg hb0, errV_no hb0]
      rw [errV_no hb0] at hb
      exact told_n1 _ _ _ b (by rw [ha0]; rfl) rfl ha hb hc w
  · rw [if_neg ha0, errV_no ha0]
    rw [errV_no ha0] at ha
    exact told_n0 _ _ _ a rfl ha hb hc w
end Go.Proofs.YtenmheenieifpabGreatDoor
