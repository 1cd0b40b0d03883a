/-
  Facts and contracts that the statement leans on.
-/
import Derived.Test.YtjmeakkmfeoigaaGreatDoorLibA6
import Derived.LaidEql
import Derived.Stop.Asserts
import Derived.RowKitTokens
import Derived.Test.YtjmeakkmfeoigaaGreatDoorLibA17
import Derived.Laws.ResultCell
namespace Go.Proofs.YtjmeakkmfeoigaaGreatDoor
open Go.ChangeShapes Go.WideShapes Go.ChangeAt Go.RowKit Go.Extern.Stop Go.Stop Go.Extern
set_option maxRecDepth 100000
theorem isTypeOf (v : Value) (w : World) : (Extern.ReflectliteType.typeOf #[.iface 64 v]).run Tryz.prog w = .ok (.iface 199 (.agg #[.pointer (some ⟨11, 64, none⟩)])) w := by kernel_rfl
theorem isComparable (w : World) : (callFunc 263 #[.agg #[.pointer (some ⟨11, 64, none⟩)]]).run Tryz.prog w = .ok (.value (.bool true)) w := by
 rw [@run_callFunc_extern Tryz.prog 263 _ (Extern.ReflectliteType.method fun t => do Rtype.noPackHeld "Comparable" t; pure (.bool (← typeInfo t).comparable)) Tryz.func263 (by kernel_rfl) (by kernel_rfl) (by kernel_rfl) (by kernel_rfl)]
 rw [show ((Extern.ReflectliteType.method fun t => do Rtype.noPackHeld "Comparable" t; pure (.bool (← typeInfo t).comparable)) #[.agg #[.pointer (some ⟨11, 64, none⟩)]]).run Tryz.prog w = .ok (.bool true) w by kernel_rfl]
 rfl
theorem isMethodComparable (v : Value) (w : World) : (Go.method 429 199 v "Comparable").run Tryz.prog w = .ok (263, v) w := by kernel_rfl
theorem noIsE (v : Value) (xT : TypeId) (w : World) : (Instr.typeAssert (.iface 64 v) xT 259 true).run Tryz.prog w = .ok (.tuple #[.nilIface, .bool false]) w := run_typeAssert_lacksB Tryz.underlying259 (by kernel_rfl) (by kernel_rfl) v xT w
theorem noUnwrapE (v : Value) (xT : TypeId) (w : World) : (Instr.typeAssert (.iface 64 v) xT 207 true).run Tryz.prog w = .ok (.tuple #[.nilIface, .bool false]) w := run_typeAssert_lacksB Tryz.underlying207 (by kernel_rfl) (by kernel_rfl) v xT w
theorem noUnwrapsE (v : Value) (xT : TypeId) (w : World) : (Instr.typeAssert (.iface 64 v) xT 208 true).run Tryz.prog w = .ok (.tuple #[.nilIface, .bool false]) w := run_typeAssert_lacksB Tryz.underlying208 (by kernel_rfl) (by kernel_rfl) v xT w
set_option maxHeartbeats 2000000 in
theorem is_err (m : Int) (b : Bool) (hq : ∀ W, (binOp .eql 24 (.iface 64 (.int .i64 m)) (.iface 64 (.int .i64 2))).run Tryz.prog W = .ok (.bool b) W) (w : World) :
    Calls Tryz.prog 140 #[.iface 64 (.int .i64 m), .iface 64 (.int .i64 2)] w (Sk w (.bool b)) := by
 have h8 := @run_callFunc_extern Tryz.prog 141 _ Extern.ReflectliteType.typeOf Tryz.func141 (by kernel_rfl) (by kernel_rfl) (by kernel_rfl) (by kernel_rfl)
 have tT := isTypeOf
 have cT := isComparable
 have mR := isMethodComparable
 have nE := noIsE
 have uE := noUnwrapE
 have vE := noUnwrapsE
 cases b
 ·go_enter Tryz.func140, Tryz.ntmps140
  go_wp2
  refine wp_loop_rounds 1 ?_
  rw [rounds_succ]
  go_wp2
  go_ret
  exact ⟨rfl, rfl⟩
 ·go_enter Tryz.func140, Tryz.ntmps140
  go_wp2
  refine wp_loop_rounds 1 ?_
  rw [rounds_succ]
  go_wp2
  go_ret
  exact ⟨rfl, rfl⟩
theorem is_none (w : World) :
    Calls Tryz.prog 140 #[.nilIface, .iface 64 (.int .i64 2)] w (Sk w (.bool false)) := by
 have hn := run_eql_iface_nil_left (P := Tryz.prog) w 64 (.int .i64 2) Tryz.underlying24
 go_enter Tryz.func140, Tryz.ntmps140
 go_wp2
 go_ret
 exact ⟨rfl, rfl⟩
theorem eql2 (W : World) : (binOp .eql 24 (.iface 64 (.int .i64 2)) (.iface 64 (.int .i64 2))).run Tryz.prog W = .ok (.bool true) W := by kernel_rfl
theorem eql1 (W : World) : (binOp .eql 24 (.iface 64 (.int .i64 1)) (.iface 64 (.int .i64 2))).run Tryz.prog W = .ok (.bool false) W := by kernel_rfl
theorem eql3 (W : World) : (binOp .eql 24 (.iface 64 (.int .i64 3)) (.iface 64 (.int .i64 2))).run Tryz.prog W = .ok (.bool false) W := by kernel_rfl
theorem eql4 (W : World) : (binOp .eql 24 (.iface 64 (.int .i64 4)) (.iface 64 (.int .i64 2))).run Tryz.prog W = .ok (.bool false) W := by kernel_rfl
theorem eql5 (W : World) : (binOp .eql 24 (.iface 64 (.int .i64 5)) (.iface 64 (.int .i64 2))).run Tryz.prog W = .ok (.bool false) W := by kernel_rfl
theorem is_any (m : Int) (h0 : 0 ≤ m) (h5 : m ≤ 5) (w : World) :
    Calls Tryz.prog 140 #[errV m, .iface 64 (.int .i64 2)] w (Sk w (.bool (decide (m = 2)))) := by
 obtain rfl | rfl | rfl | rfl | rfl | rfl : m = 0 ∨ m = 1 ∨ m = 2 ∨ m = 3 ∨ m = 4 ∨ m = 5 := by omega
 ·exact is_none w
 ·exact is_err 1 false eql1 w
 ·exact is_err 2 true eql2 w
 ·exact is_err 3 false eql3 w
 ·exact is_err 4 false eql4 w
 ·exact is_err 5 false eql5 w
theorem ix0 (E0 E1 E2 : Value) (W : World) : (Instr.index 154 (.agg #[E0, E1, E2]) (.int .i64 0)).run Tryz.prog W = .ok E0 W := by kernel_rfl
theorem ix1 (E0 E1 E2 : Value) (W : World) : (Instr.index 154 (.agg #[E0, E1, E2]) (.int .i64 1)).run Tryz.prog W = .ok E1 W := by kernel_rfl
theorem ix2 (E0 E1 E2 : Value) (W : World) : (Instr.index 154 (.agg #[E0, E1, E2]) (.int .i64 2)).run Tryz.prog W = .ok E2 W := by kernel_rfl
def toldN (a b c : Int) : Int := if a = 2 ∨ b = 2 ∨ c = 2 then 2 else if a = 0 then (if b = 0 then c else b) else a
set_option maxHeartbeats 2000000 in
theorem told_0 (E0 E1 E2 : Value)  (h0 : ∀ W, Calls Tryz.prog 140 #[E0, .iface 64 (.int .i64 2)] W (Sk W (.bool true))) (w : World) :
    Calls Tryz.prog 100 #[.agg #[E0, E1, E2]] w (Bk w E0) := by
 have H0 := hide h0
 clear h0
 have HB : Hid (Below w.heap.size w (w.alloc (.cells #[E0, E1, E2] 154))) := below_alloc1 w _
 have k0 := ix0 E0 E1 E2
 have k1 := ix1 E0 E1 E2
 have k2 := ix2 E0 E1 E2
 go_enter Tryz.func100, Tryz.ntmps100
 go_wp2_with fail
 refine wp_loop_rounds 4 ?_
 rw [rounds_succ]
 go_wp2_with fail
 go_at_call 140
 refine (H0.out _).mono ?_
 rintro e w2 ⟨rfl, rfl⟩
 go_wp2_with fail
 go_ret
 exact ⟨rfl, HB.out⟩
set_option maxHeartbeats 2000000 in
theorem told_1 (E0 E1 E2 : Value)  (h0 : ∀ W, Calls Tryz.prog 140 #[E0, .iface 64 (.int .i64 2)] W (Sk W (.bool false))) (h1 : ∀ W, Calls Tryz.prog 140 #[E1, .iface 64 (.int .i64 2)] W (Sk W (.bool true))) (w : World) :
    Calls Tryz.prog 100 #[.agg #[E0, E1, E2]] w (Bk w E1) := by
 have H0 := hide h0
 clear h0
 have H1 := hide h1
 clear h1
 have HB : Hid (Below w.heap.size w (w.alloc (.cells #[E0, E1, E2] 154))) := below_alloc1 w _
 have k0 := ix0 E0 E1 E2
 have k1 := ix1 E0 E1 E2
 have k2 := ix2 E0 E1 E2
 go_enter Tryz.func100, Tryz.ntmps100
 go_wp2_with fail
 refine wp_loop_rounds 4 ?_
 rw [rounds_succ]
 go_wp2_with fail
 go_at_call 140
 refine (H0.out _).mono ?_
 rintro e w2 ⟨rfl, rfl⟩
 go_wp2_with fail
 rw [rounds_succ]
 go_wp2_with fail
 go_at_call 140
 refine (H1.out _).mono ?_
 rintro e w3 ⟨rfl, rfl⟩
 go_wp2_with fail
 go_ret
 exact ⟨rfl, HB.out⟩
set_option maxHeartbeats 2000000 in
theorem told_2 (E0 E1 E2 : Value)  (h0 : ∀ W, Calls Tryz.prog 140 #[E0, .iface 64 (.int .i64 2)] W (Sk W (.bool false))) (h1 : ∀ W, Calls Tryz.prog 140 #[E1, .iface 64 (.int .i64 2)] W (Sk W (.bool false))) (h2 : ∀ W, Calls Tryz.prog 140 #[E2, .iface 64 (.int .i64 2)] W (Sk W (.bool true))) (w : World) :
    Calls Tryz.prog 100 #[.agg #[E0, E1, E2]] w (Bk w E2) := by
 have H0 := hide h0
 clear h0
 have H1 := hide h1
 clear h1
 have H2 := hide h2
 clear h2
 have HB : Hid (Below w.heap.size w (w.alloc (.cells #[E0, E1, E2] 154))) := below_alloc1 w _
 have k0 := ix0 E0 E1 E2
 have k1 := ix1 E0 E1 E2
 have k2 := ix2 E0 E1 E2
 go_enter Tryz.func100, Tryz.ntmps100
 go_wp2_with fail
 refine wp_loop_rounds 4 ?_
 rw [rounds_succ]
 go_wp2_with fail
 go_at_call 140
 refine (H0.out _).mono ?_
 rintro e w2 ⟨rfl, rfl⟩
 go_wp2_with fail
 rw [rounds_succ]
 go_wp2_with fail
 go_at_call 140
 refine (H1.out _).mono ?_
 rintro e w3 ⟨rfl, rfl⟩
 go_wp2_with fail
 rw [rounds_succ]
 go_wp2_with fail
 go_at_call 140
 refine (H2.out _).mono ?_
 rintro e w4 ⟨rfl, rfl⟩
 go_wp2_with fail
 go_ret
 exact ⟨rfl, HB.out⟩
set_option maxHeartbeats 2000000 in
theorem told_n0 (E0 E1 E2 : Value) (f : Int) (g0 : E0 = (.iface 64 (.int .i64 f))) (h0 : ∀ W, Calls Tryz.prog 140 #[E0, .iface 64 (.int .i64 2)] W (Sk W (.bool false))) (h1 : ∀ W, Calls Tryz.prog 140 #[E1, .iface 64 (.int .i64 2)] W (Sk W (.bool false))) (h2 : ∀ W, Calls Tryz.prog 140 #[E2, .iface 64 (.int .i64 2)] W (Sk W (.bool false))) (w : World) :
    Calls Tryz.prog 100 #[.agg #[E0, E1, E2]] w (Bk w (.iface 64 (.int .i64 f))) := by
 have H0 := hide h0
 clear h0
 have H1 := hide h1
 clear h1
 have H2 := hide h2
 clear h2
 have HB : Hid (Below w.heap.size w (w.alloc (.cells #[E0, E1, E2] 154))) := below_alloc1 w _
 have k0 := ix0 E0 E1 E2
 have k1 := ix1 E0 E1 E2
 have k2 := ix2 E0 E1 E2
 subst g0
 go_enter Tryz.func100, Tryz.ntmps100
 go_wp2_with fail
 refine wp_loop_rounds 4 ?_
 rw [rounds_succ]
 go_wp2_with fail
 go_at_call 140
 refine (H0.out _).mono ?_
 rintro e w2 ⟨rfl, rfl⟩
 go_wp2_with fail
 rw [rounds_succ]
 go_wp2_with fail
 go_at_call 140
 refine (H1.out _).mono ?_
 rintro e w3 ⟨rfl, rfl⟩
 go_wp2_with fail
 rw [rounds_succ]
 go_wp2_with fail
 go_at_call 140
 refine (H2.out _).mono ?_
 rintro e w4 ⟨rfl, rfl⟩
 go_wp2_with fail
 rw [rounds_succ]
 go_wp2_with fail
 refine wp_loop_rounds 4 ?_
 rw [rounds_succ]
 go_wp2
 go_ret
 exact ⟨rfl, HB.out⟩
set_option maxHeartbeats 2000000 in
theorem told_n1 (E0 E1 E2 : Value) (f : Int) (g0 : E0 = Value.nilIface) (g1 : E1 = (.iface 64 (.int .i64 f))) (h0 : ∀ W, Calls Tryz.prog 140 #[E0, .iface 64 (.int .i64 2)] W (Sk W (.bool false))) (h1 : ∀ W, Calls Tryz.prog 140 #[E1, .iface 64 (.int .i64 2)] W (Sk W (.bool false))) (h2 : ∀ W, Calls Tryz.prog 140 #[E2, .iface 64 (.int .i64 2)] W (Sk W (.bool false))) (w : World) :
    Calls Tryz.prog 100 #[.agg #[E0, E1, E2]] w (Bk w (.iface 64 (.int .i64 f))) := by
 have H0 := hide h0
 clear h0
 have H1 := hide h1
 clear h1
 have H2 := hide h2
 clear h2
 have HB : Hid (Below w.heap.size w (w.alloc (.cells #[E0, E1, E2] 154))) := below_alloc1 w _
 have k0 := ix0 E0 E1 E2
 have k1 := ix1 E0 E1 E2
 have k2 := ix2 E0 E1 E2
 subst g0
 subst g1
 go_enter Tryz.func100, Tryz.ntmps100
 go_wp2_with fail
 refine wp_loop_rounds 4 ?_
 rw [rounds_succ]
 go_wp2_with fail
 go_at_call 140
 refine (H0.out _).mono ?_
 rintro e w2 ⟨rfl, rfl⟩
 go_wp2_with fail
 rw [rounds_succ]
 go_wp2_with fail
 go_at_call 140
 refine (H1.out _).mono ?_
 rintro e w3 ⟨rfl, rfl⟩
 go_wp2_with fail
 rw [rounds_succ]
 go_wp2_with fail
 go_at_call 140
 refine (H2.out _).mono ?_
 rintro e w4 ⟨rfl, rfl⟩
 go_wp2_with fail
 rw [rounds_succ]
 go_wp2_with fail
 refine wp_loop_rounds 4 ?_
 rw [rounds_succ]
 go_wp2
 rw [rounds_succ]
 go_wp2
 go_ret
 exact ⟨rfl, HB.out⟩
set_option maxHeartbeats 2000000 in
theorem told_n2 (E0 E1 E2 : Value) (f : Int) (g0 : E0 = Value.nilIface) (g1 : E1 = Value.nilIface) (g2 : E2 = (.iface 64 (.int .i64 f))) (h0 : ∀ W, Calls Tryz.prog 140 #[E0, .iface 64 (.int .i64 2)] W (Sk W (.bool false))) (h1 : ∀ W, Calls Tryz.prog 140 #[E1, .iface 64 (.int .i64 2)] W (Sk W (.bool false))) (h2 : ∀ W, Calls Tryz.prog 140 #[E2, .iface 64 (.int .i64 2)] W (Sk W (.bool false))) (w : World) :
    Calls Tryz.prog 100 #[.agg #[E0, E1, E2]] w (Bk w (.iface 64 (.int .i64 f))) := by
 have H0 := hide h0
 clear h0
 have H1 := hide h1
 clear h1
 have H2 := hide h2
 clear h2
 have HB : Hid (Below w.heap.size w (w.alloc (.cells #[E0, E1, E2] 154))) := below_alloc1 w _
 have k0 := ix0 E0 E1 E2
 have k1 := ix1 E0 E1 E2
 have k2 := ix2 E0 E1 E2
 subst g0
 subst g1
 subst g2
 go_enter Tryz.func100, Tryz.ntmps100
 go_wp2_with fail
 refine wp_loop_rounds 4 ?_
 rw [rounds_succ]
 go_wp2_with fail
 go_at_call 140
 refine (H0.out _).mono ?_
 rintro e w2 ⟨rfl, rfl⟩
 go_wp2_with fail
 rw [rounds_succ]
 go_wp2_with fail
 go_at_call 140
 refine (H1.out _).mono ?_
 rintro e w3 ⟨rfl, rfl⟩
 go_wp2_with fail
 rw [rounds_succ]
 go_wp2_with fail
 go_at_call 140
 refine (H2.out _).mono ?_
 rintro e w4 ⟨rfl, rfl⟩
 go_wp2_with fail
 rw [rounds_succ]
 go_wp2_with fail
 refine wp_loop_rounds 4 ?_
 rw [rounds_succ]
 go_wp2
 rw [rounds_succ]
 go_wp2
 rw [rounds_succ]
 go_wp2
 go_ret
 exact ⟨rfl, HB.out⟩
set_option maxHeartbeats 2000000 in
theorem told_n3 (E0 E1 E2 : Value) (g0 : E0 = Value.nilIface) (g1 : E1 = Value.nilIface) (g2 : E2 = Value.nilIface) (h0 : ∀ W, Calls Tryz.prog 140 #[E0, .iface 64 (.int .i64 2)] W (Sk W (.bool false))) (h1 : ∀ W, Calls Tryz.prog 140 #[E1, .iface 64 (.int .i64 2)] W (Sk W (.bool false))) (h2 : ∀ W, Calls Tryz.prog 140 #[E2, .iface 64 (.int .i64 2)] W (Sk W (.bool false))) (w : World) :
    Calls Tryz.prog 100 #[.agg #[E0, E1, E2]] w (Bk w Value.nilIface) := by
 have H0 := hide h0
 clear h0
 have H1 := hide h1
 clear h1
 have H2 := hide h2
 clear h2
 have HB : Hid (Below w.heap.size w (w.alloc (.cells #[E0, E1, E2] 154))) := below_alloc1 w _
 have k0 := ix0 E0 E1 E2
 have k1 := ix1 E0 E1 E2
 have k2 := ix2 E0 E1 E2
 subst g0
 subst g1
 subst g2
 go_enter Tryz.func100, Tryz.ntmps100
 go_wp2_with fail
 refine wp_loop_rounds 4 ?_
 rw [rounds_succ]
 go_wp2_with fail
 go_at_call 140
 refine (H0.out _).mono ?_
 rintro e w2 ⟨rfl, rfl⟩
 go_wp2_with fail
 rw [rounds_succ]
 go_wp2_with fail
 go_at_call 140
 refine (H1.out _).mono ?_
 rintro e w3 ⟨rfl, rfl⟩
 go_wp2_with fail
 rw [rounds_succ]
 go_wp2_with fail
 go_at_call 140
 refine (H2.out _).mono ?_
 rintro e w4 ⟨rfl, rfl⟩
 go_wp2_with fail
 rw [rounds_succ]
 go_wp2_with fail
 refine wp_loop_rounds 4 ?_
 rw [rounds_succ]
 go_wp2
 rw [rounds_succ]
 go_wp2
 rw [rounds_succ]
 go_wp2
 rw [rounds_succ]
 go_wp2
 go_ret
 exact ⟨rfl, HB.out⟩
theorem told_any (a b c : Int) (a0 : 0 ≤ a) (a5 : a ≤ 5) (b0 : 0 ≤ b) (b5 : b ≤ 5) (c0 : 0 ≤ c) (c5 : c ≤ 5) (w : World) :
    Calls Tryz.prog 100 #[.agg #[errV a, errV b, errV c]] w (Bk w (errV (toldN a b c))) := by
 have ha := is_any a a0 a5
 have hb := is_any b b0 b5
 have hc := is_any c c0 c5
 by_cases ha2 : a = 2
 ·have e : toldN a b c = a := by unfold toldN; rw [if_pos (Or.inl ha2), ha2]
  rw [e]
  rw [decide_eq_true ha2] at ha
  exact told_0 _ _ _ ha w
 rw [decide_eq_false ha2] at ha
 by_cases hb2 : b = 2
 ·have e : toldN a b c = b := by unfold toldN; rw [if_pos (Or.inr (Or.inl hb2)), hb2]
  rw [e]
  rw [decide_eq_true hb2] at hb
  exact told_1 _ _ _ ha hb w
 rw [decide_eq_false hb2] at hb
 by_cases hc2 : c = 2
 ·have e : toldN a b c = c := by unfold toldN; rw [if_pos (Or.inr (Or.inr hc2)), hc2]
  rw [e]
  rw [decide_eq_true hc2] at hc
  exact told_2 _ _ _ ha hb hc w
 rw [decide_eq_false hc2] at hc
 have e : toldN a b c = if a = 0 then (if b = 0 then c else b) else a := by unfold toldN; rw [if_neg (by omega)]
 rw [e]
 by_cases ha0 : a = 0
 ·rw [if_pos ha0]
  by_cases hb0 : b = 0
  ·rw [if_pos hb0]
   by_cases hc0 : c = 0
   ·rw [hc0, errV_0]
    rw [hc0] at hc
    exact told_n3 _ _ _ (by rw [ha0]; rfl) (by rw [hb0]; rfl) (by rfl) ha hb hc w
   ·rw [errV_no hc0]
    exact told_n2 _ _ _ c (by rw [ha0]; rfl) (by rw [hb0]; rfl) rfl ha hb (by rw [errV_no hc0] at hc; exact hc) w
  ·rw [if_neg hb0, errV_no hb0]
   rw [errV_no hb0] at hb
   exact told_n1 _ _ _ b (by rw [ha0]; rfl) rfl ha hb hc w
 ·rw [if_neg ha0, errV_no ha0]
  rw [errV_no ha0] at ha
  exact told_n0 _ _ _ a rfl ha hb hc w
end Go.Proofs.YtjmeakkmfeoigaaGreatDoor
namespace Go.Proofs.YtjmeakkmfeoigaaGreatDoor
open Go.ChangeShapes Go.WideShapes Go.ChangeAt Go.RowKit
set_option maxRecDepth 100000
theorem faultN_range (t : List Int) : 0 ≤ faultN t ∧ faultN t ≤ 5 := by unfold faultN; repeat' split <;> omega
theorem textFault_range (l : List UInt8) : 0 ≤ textFault l ∧ textFault l ≤ 5 := by
 unfold textFault
 split
 ·exact faultN_range _
 ·omega
theorem load_atom {W : World} {R : Nat} {c0 c1 c2 c3 : Value} (h0 : W.cell? ⟨R, 0, none⟩ = some c0) (h1 : W.cell? ⟨R, 1, none⟩ = some c1) (h2 : W.cell? ⟨R, 2, none⟩ = some c2) (h3 : W.cell? ⟨R, 3, none⟩ = some c3) : (loadVar 29 ⟨R, 0, none⟩).run Tryz.prog W = .ok (.agg #[c0, c1, c2, c3]) W := by
 have hl := run_loadCells_list (P := Tryz.prog) W ⟨R, 0, none⟩ [c0, c1, c2, c3] (fun j v hj => by
  match j, hj with
  | 0, hj => simp at hj; subst hj; simpa [Addr.add] using h0
  | 1, hj => simp at hj; subst hj; simpa [Addr.add] using h1
  | 2, hj => simp at hj; subst hj; simpa [Addr.add] using h2
  | 3, hj => simp at hj; subst hj; simpa [Addr.add] using h3)
 simp [loadVar, Tryz.isAgg29, Tryz.sizeOf29, Result.andThen] at hl ⊢
 simp [hl]
theorem numFault_range (l : List UInt8) : 0 ≤ numFault l ∧ numFault l ≤ 5 := by unfold numFault; split <;> omega
end Go.Proofs.YtjmeakkmfeoigaaGreatDoor
namespace Go.Proofs.YtjmeakkmfeoigaaGreatDoor
open Go.ChangeShapes Go.WideShapes Go.ChangeAt Go.RowKit
set_option maxRecDepth 100000
set_option maxHeartbeats 4000000 in
theorem aparse_zero (s : ByteArray) (ws : List (List UInt8)) (w : World)
    (hSp : ∀ W, Below w.heap.size w W → Calls Tryz.prog 96 #[.string s, .string ⟨#[32]⟩, .int .i64 5] W fun e w' => ∃ v, e = .returned v ∧ ReadsS w' v ws ∧ Below W.heap.size W w')
    (hKo : ∀ W v, Below w.heap.size w W → ReadsS W v ws → Calls Tryz.prog 97 #[v] W (Bk W (.int .i64 0))) :
    Calls Tryz.prog 62 #[.string s] w (Bk w (.tuple #[.agg #[.int .i64 0, .slice none 0 0, .slice none 0 0, .int .i64 0], .iface 64 (.int .i64 2)])) := by
 obtain ⟨w1, hw1⟩ := nm (w.alloc (.cells #[.int .i64 0, .slice none 0 0, .slice none 0 0, .int .i64 0] 29))
 have HB1 : Hid (Below w.heap.size w w1) := by unfold Hid; rw [hw1]; exact below_alloc1 w _
 have HRc : Hid ((w1.cell? ⟨w.heap.size, 0, none⟩ = some (.int .i64 0) ∧ w1.cell? ⟨w.heap.size, 1, none⟩ = some (.slice none 0 0) ∧ w1.cell? ⟨w.heap.size, 2, none⟩ = some (.slice none 0 0) ∧ w1.cell? ⟨w.heap.size, 3, none⟩ = some (.int .i64 0)) ∧ (∀ j, w1.frozen? ⟨w.heap.size, j, none⟩ = false) ∧ w.heap.size < w1.heap.size) := by unfold Hid; rw [hw1]; exact ⟨⟨by simp, by simp, by simp, by simp⟩, fun j => by simp, by simp⟩
 have HSp := hide (hSp w1 HB1.out)
 have HKo := hide hKo
 clear hSp hKo
 go_enter Tryz.func62, Tryz.ntmps62
 go_wp2_with fail
 rw [← hw1]
 clear hw1
 go_at_call 96
 refine HSp.out.mono ?_
 rintro e w2 ⟨v, rfl, hR, hb⟩
 have HZ2 := hide hb
 have HR2 := hide hR
 clear hb hR
 go_wp2_with fail
 go_at_call 97
 refine (HKo.out _ _ (HB1.out.trans (HZ2.out.mono HB1.out.size)) HR2.out).mono ?_
 rintro e w3 ⟨rfl, hb⟩
 have HZ3 := hide (HZ2.out.trans (hb.mono HZ2.out.size))
 clear hb
 have HLt : Hid (w.heap.size < w3.heap.size) := Nat.lt_of_lt_of_le HRc.out.2.2 HZ3.out.size
 have s0 := (HZ3.out.cell (p := ⟨w.heap.size, 0, none⟩) HRc.out.2.2).trans HRc.out.1.1
 have s1 := (HZ3.out.cell (p := ⟨w.heap.size, 1, none⟩) HRc.out.2.2).trans HRc.out.1.2.1
 have s2 := (HZ3.out.cell (p := ⟨w.heap.size, 2, none⟩) HRc.out.2.2).trans HRc.out.1.2.2.1
 have s3 := (HZ3.out.cell (p := ⟨w.heap.size, 3, none⟩) HRc.out.2.2).trans HRc.out.1.2.2.2
 have p0 := (HZ3.out.frozen (p := ⟨w.heap.size, 0, none⟩) HRc.out.2.2).trans (HRc.out.2.1 0)
 have p1 := (HZ3.out.frozen (p := ⟨w.heap.size, 1, none⟩) HRc.out.2.2).trans (HRc.out.2.1 1)
 have p2 := (HZ3.out.frozen (p := ⟨w.heap.size, 2, none⟩) HRc.out.2.2).trans (HRc.out.2.1 2)
 have p3 := (HZ3.out.frozen (p := ⟨w.heap.size, 3, none⟩) HRc.out.2.2).trans (HRc.out.2.1 3)
 have r0 : (w3.alloc (.cells #[.int .i64 0, .slice none 0 0, .slice none 0 0, .int .i64 0] 29)).cell? ⟨w.heap.size, 0, none⟩ = some (.int .i64 0) := (World.cell?_alloc_lt _ _ ⟨w.heap.size, 0, none⟩ HLt.out).trans s0
 have r1 : (w3.alloc (.cells #[.int .i64 0, .slice none 0 0, .slice none 0 0, .int .i64 0] 29)).cell? ⟨w.heap.size, 1, none⟩ = some (.slice none 0 0) := (World.cell?_alloc_lt _ _ ⟨w.heap.size, 1, none⟩ HLt.out).trans s1
 have r2 : (w3.alloc (.cells #[.int .i64 0, .slice none 0 0, .slice none 0 0, .int .i64 0] 29)).cell? ⟨w.heap.size, 2, none⟩ = some (.slice none 0 0) := (World.cell?_alloc_lt _ _ ⟨w.heap.size, 2, none⟩ HLt.out).trans s2
 have r3 : (w3.alloc (.cells #[.int .i64 0, .slice none 0 0, .slice none 0 0, .int .i64 0] 29)).cell? ⟨w.heap.size, 3, none⟩ = some (.int .i64 0) := (World.cell?_alloc_lt _ _ ⟨w.heap.size, 3, none⟩ HLt.out).trans s3
 have hne : ¬ w.heap.size = w3.heap.size := by have := HLt.out; omega
 have f0 : (w3.alloc (.cells #[.int .i64 0, .slice none 0 0, .slice none 0 0, .int .i64 0] 29)).frozen? ⟨w.heap.size, 0, none⟩ = false := (World.frozen?_alloc_old _ _ ⟨w.heap.size, 0, none⟩ hne).trans p0
 have f1 : (w3.alloc (.cells #[.int .i64 0, .slice none 0 0, .slice none 0 0, .int .i64 0] 29)).frozen? ⟨w.heap.size, 1, none⟩ = false := (World.frozen?_alloc_old _ _ ⟨w.heap.size, 1, none⟩ hne).trans p1
 have f2 : (w3.alloc (.cells #[.int .i64 0, .slice none 0 0, .slice none 0 0, .int .i64 0] 29)).frozen? ⟨w.heap.size, 2, none⟩ = false := (World.frozen?_alloc_old _ _ ⟨w.heap.size, 2, none⟩ hne).trans p2
 have f3 : (w3.alloc (.cells #[.int .i64 0, .slice none 0 0, .slice none 0 0, .int .i64 0] 29)).frozen? ⟨w.heap.size, 3, none⟩ = false := (World.frozen?_alloc_old _ _ ⟨w.heap.size, 3, none⟩ hne).trans p3
 go_wp2_with fail
 have m0 : (((((w3.alloc (.cells #[.int .i64 0, .slice none 0 0, .slice none 0 0, .int .i64 0] 29)).setCell ⟨w.heap.size, 0, none⟩ (.int .i64 0)).setCell ⟨w.heap.size, 1, none⟩ (.slice none 0 0)).setCell ⟨w.heap.size, 2, none⟩ (.slice none 0 0)).setCell ⟨w.heap.size, 3, none⟩ (.int .i64 0)).cell? ⟨w.heap.size, 0, none⟩ = some (.int .i64 0) := by
  rw [set_far (ne_off (by decide)), set_far (ne_off (by decide)), set_far (ne_off (by decide))]; exact set_same r0
 have m1 : (((((w3.alloc (.cells #[.int .i64 0, .slice none 0 0, .slice none 0 0, .int .i64 0] 29)).setCell ⟨w.heap.size, 0, none⟩ (.int .i64 0)).setCell ⟨w.heap.size, 1, none⟩ (.slice none 0 0)).setCell ⟨w.heap.size, 2, none⟩ (.slice none 0 0)).setCell ⟨w.heap.size, 3, none⟩ (.int .i64 0)).cell? ⟨w.heap.size, 1, none⟩ = some (.slice none 0 0) := by
  rw [set_far (ne_off (by decide)), set_far (ne_off (by decide))]; exact set_same ((set_far (ne_off (by decide))).trans r1)
 have m2 : (((((w3.alloc (.cells #[.int .i64 0, .slice none 0 0, .slice none 0 0, .int .i64 0] 29)).setCell ⟨w.heap.size, 0, none⟩ (.int .i64 0)).setCell ⟨w.heap.size, 1, none⟩ (.slice none 0 0)).setCell ⟨w.heap.size, 2, none⟩ (.slice none 0 0)).setCell ⟨w.heap.size, 3, none⟩ (.int .i64 0)).cell? ⟨w.heap.size, 2, none⟩ = some (.slice none 0 0) := by
  rw [set_far (ne_off (by decide))]; exact set_same ((set_far (ne_off (by decide))).trans ((set_far (ne_off (by decide))).trans r2))
 have m3 : (((((w3.alloc (.cells #[.int .i64 0, .slice none 0 0, .slice none 0 0, .int .i64 0] 29)).setCell ⟨w.heap.size, 0, none⟩ (.int .i64 0)).setCell ⟨w.heap.size, 1, none⟩ (.slice none 0 0)).setCell ⟨w.heap.size, 2, none⟩ (.slice none 0 0)).setCell ⟨w.heap.size, 3, none⟩ (.int .i64 0)).cell? ⟨w.heap.size, 3, none⟩ = some (.int .i64 0) :=
  set_same ((set_far (ne_off (by decide))).trans ((set_far (ne_off (by decide))).trans ((set_far (ne_off (by decide))).trans r3)))
 have hld := load_atom m0 m1 m2 m3
 refine bodyPost_ret (v := .tuple #[.agg #[.int .i64 0, .slice none 0 0, .slice none 0 0, .int .i64 0], .iface 64 (.int .i64 2)]) ?_ rfl ⟨rfl, ?_⟩
 ·rw [results_cell_tmp rfl]
  simp [asAddr, Result.andThen, hld]
 ·have hb := (HB1.out.trans (HZ3.out.mono HB1.out.size)).alloc (Nat.le_of_lt HLt.out) (.cells #[.int .i64 0, .slice none 0 0, .slice none 0 0, .int .i64 0] 29)
  exact (((hb.setCell (Nat.le_refl _) _).setCell (Nat.le_refl _) _).setCell (Nat.le_refl _) _).setCell (Nat.le_refl _) _
end Go.Proofs.YtjmeakkmfeoigaaGreatDoor