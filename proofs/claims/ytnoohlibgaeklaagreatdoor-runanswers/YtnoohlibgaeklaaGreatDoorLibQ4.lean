/-
  Facts and contracts that the statement leans on.
-/
import Derived.Test.YtnoohlibgaeklaaGreatDoorLibQ1
import Derived.Test.YtnoohlibgaeklaaGreatDoorLibQ3
import Derived.Deep.Cut
import Derived.LaidEql
import Derived.Stop.Asserts
import Derived.RowKitTokens
import Derived.Test.YtnoohlibgaeklaaGreatDoorShelf
import Derived.Lib.AppendIntMem
import Derived.Lib.LaidTab
import Derived.Lib.SmallJoins
import Derived.Laws.ResultCell
namespace Go.Proofs.YtnoohlibgaeklaaGreatDoor
open Go.ChangeShapes Go.WideShapes Go.ChangeAt Go.RowKit
set_option maxRecDepth 100000
set_option maxHeartbeats 16000000
def kindCells : List Value := [.string ⟨#[]⟩, .bool false, .bool false, .string ⟨#[115, 117, 98]⟩, .bool true, .bool false, .string ⟨#[115, 97, 109, 101]⟩, .bool true, .bool false, .string ⟨#[108, 101, 97, 115, 116]⟩, .bool false, .bool true, .string ⟨#[109, 111, 115, 116]⟩, .bool false, .bool true, .string ⟨#[110, 111, 109, 111, 114, 101]⟩, .bool true, .bool true]
def KindsLaid (w : World) : Prop := ∀ j, j < 18 → w.cell? ⟨1, j, none⟩ = some (kindCells.getD j .nilIface)
theorem KindsLaid.lt {w : World} (h : KindsLaid w) : 1 < w.heap.size := World.block_lt_of_cell? w ⟨1, 0, none⟩ (h 0 (by decide))
theorem KindsLaid.at {K : Nat} {w w' : World} (h : KindsLaid w) (hb : Below K w w') (hK : w.heap.size ≤ K) : KindsLaid w' := fun j hj => by
 rw [hb.cell (p := ⟨1, j, none⟩) (Nat.lt_of_lt_of_le h.lt hK)]; exact h j hj
theorem KindsLaid.below {w w' : World} (h : KindsLaid w) (hb : Bw w w') : KindsLaid w' := h.at hb (Nat.le_refl _)
theorem Reads.slice {w : World} {v : Value} {t : List Int} (h : Reads w v t) : ∃ ao cap, v = .slice ao t.length cap ∧ t.length ≤ 9223372036854775807 := by
 rcases h with ⟨ao, cap, rfl, rfl⟩ | ⟨b, off, cap, rfl, _, _, h, _⟩
 ·exact ⟨ao, cap, rfl, by simp⟩
 ·exact ⟨_, cap, rfl, h.1⟩
theorem errV_0 : errV 0 = .nilIface := rfl
theorem kind_has {W : World} (h : KindsLaid W) {k : Nat} (h1 : 0 < k) (h6 : k < 6) : W.cell? ⟨1, k * 3 + 1, none⟩ = some (.bool (secondB k)) ∧ W.cell? ⟨1, k * 3 + 2, none⟩ = some (.bool (numberB k)) := by
 rcases (by omega : k = 1 ∨ k = 2 ∨ k = 3 ∨ k = 4 ∨ k = 5) with rfl | rfl | rfl | rfl | rfl <;> exact ⟨h _ (by decide), h _ (by decide)⟩
theorem csecond_in (k : Nat) (h6 : k < 6) (n : Int) (sao tao : Option Addr) (sl scap tl tcap : Nat) (b : Bool) (E : Value) (w : World) (hl : tl ≤ 9223372036854775807)
    (hq : ∀ W, Bw w W → W.cell? ⟨1, k * 3 + 1, none⟩ = some (.bool b))
    (HC : Hid (b = true → ∀ W, Bw w W → Calls Tryz.prog 102 #[.slice tao tl tcap] W (Sk W E)))
    (HE : Hid (b = false → E = errV (if 0 < tl then 3 else 0))) :
    Calls Tryz.prog 138 #[.agg #[.int .i64 (k : Int), .slice sao sl scap, .slice tao tl tcap, .int .i64 n]] w (Bk w E) := by
 obtain ⟨w1, hw1⟩ := nm (w.alloc (.cells #[.int .i64 (k : Int), .slice sao sl scap, .slice tao tl tcap, .int .i64 n] 71))
 have HB : Hid (Bw w w1) := by unfold Hid; rw [hw1]; exact below_alloc1 w _
 have q := hq w1 HB.out
 obtain ⟨x0, x2⟩ : w1.cell? ⟨w.heap.size, 0, none⟩ = some (.int .i64 (k : Int)) ∧ w1.cell? ⟨w.heap.size, 2, none⟩ = some (.slice tao tl tcap) := by rw [hw1]; simp
 clear hq
 cases b
 ·have he := HE.out rfl
  by_cases h : 0 < tl
  ·rw [if_pos h] at he
   subst he
   go_enter Tryz.func138, Tryz.ntmps138
   go_upto_region 1 with fail
   rw [← hw1]
   clear hw1
   go_wp2
   go_ret
   exact ⟨rfl, HB.out⟩
  ·rw [if_neg h] at he
   subst he
   obtain rfl : tl = 0 := by omega
   go_enter Tryz.func138, Tryz.ntmps138
   go_upto_region 1 with fail
   rw [← hw1]
   clear hw1
   go_wp2
   go_ret
   exact ⟨rfl, HB.out⟩
 ·have HC' := hide (HC.out rfl w1 HB.out)
  go_enter Tryz.func138, Tryz.ntmps138
  go_upto_region 1 with fail
  rw [← hw1]
  clear hw1
  go_wp2_with (go_at_call 102; refine HC'.out.mono ?_; rintro e w' ⟨rfl, rfl⟩)
  go_ret
  exact ⟨rfl, HB.out⟩
theorem csecond_any (k n : Int) (vs vt : Value) (s t : List Int) (w : World) (hk : 1 ≤ k ∧ k ≤ 5) (hS : Reads w vs s) (hT : Reads w vt t) (hK : KindsLaid w) :
    Calls Tryz.prog 138 #[.agg #[.int .i64 k, vs, vt, .int .i64 n]] w (Bk w (errV (secondFault k t))) := by
 obtain ⟨k, rfl⟩ := Int.eq_ofNat_of_zero_le (show 0 ≤ k by omega)
 have hC := fun W (hW : Bw w W) => tcheck_any t vt W (hT.below hW)
 obtain ⟨sao, scap, rfl, _⟩ := hS.slice
 obtain ⟨tao, tcap, rfl, hl⟩ := hT.slice
 refine csecond_in k (by omega) n sao tao _ scap _ tcap (secondB k) _ w hl (fun W hW => (kind_has (hK.below hW) (by omega) (by omega)).1) (fun hb W hW => ?_) fun hb => ?_
 ·have e : secondFault (k : Int) t = faultN t := by unfold secondFault; rw [if_pos hb]
  rw [e]; exact hC W hW
 ·unfold secondFault; rw [hb]; rfl
theorem acheck_kind (k : Int) (n : Int) (sao tao : Option Addr) (sl scap tl tcap : Nat) (w : World) (hk : ¬ (1 ≤ k ∧ k ≤ 5)) :
    Calls Tryz.prog 92 #[.agg #[.int .i64 k, .slice sao sl scap, .slice tao tl tcap, .int .i64 n]] w (Bk w (.iface 91 (.int .i64 1))) := by
 have HB : Hid (Bw w (w.alloc (.cells #[.int .i64 k, .slice sao sl scap, .slice tao tl tcap, .int .i64 n] 71))) := below_alloc1 w _
 by_cases h : k < 1
 ·clear hk
  go_enter Tryz.func92, Tryz.ntmps92
  go_wp2
  go_ret
  exact ⟨rfl, HB.out⟩
 ·have h5 : 5 < k := by omega
  clear hk
  go_enter Tryz.func92, Tryz.ntmps92
  go_wp2
  go_ret
  exact ⟨rfl, HB.out⟩
theorem acheck_in (k : Nat) (h1 : 0 < k) (h6 : k < 6) (n : Int) (sao tao : Option Addr) (sl scap tl tcap : Nat) (b : Bool) (F1 F2 : Int) (w : World)
    (hq : ∀ W, Bw w W → W.cell? ⟨1, k * 3 + 2, none⟩ = some (.bool b))
    (HC : Hid (∀ W, Bw w W → Calls Tryz.prog 102 #[.slice sao sl scap] W (Sk W (errV F1))))
    (HS : Hid (∀ W, Bw w W → Calls Tryz.prog 138 #[.agg #[.int .i64 (k : Int), .slice sao sl scap, .slice tao tl tcap, .int .i64 n]] W (Bk W (errV F2)))) :
    Calls Tryz.prog 92 #[.agg #[.int .i64 (k : Int), .slice sao sl scap, .slice tao tl tcap, .int .i64 n]] w (Bk w (errV (if F1 = 0 then (if F2 = 0 then (if - (if b = true then 20 else 0) ≤ n ∧ n ≤ (if b = true then 20 else 0) then 0 else 1) else F2) else F1))) := by
 obtain ⟨w1, hw1⟩ := nm (w.alloc (.cells #[.int .i64 (k : Int), .slice sao sl scap, .slice tao tl tcap, .int .i64 n] 71))
 have HB : Hid (Bw w w1) := by unfold Hid; rw [hw1]; exact below_alloc1 w _
 have HQ : Hid (∀ W, Bw w1 W → W.cell? ⟨1, k * 3 + 2, none⟩ = some (.bool b)) := fun W hW => hq W (HB.out.trans (hW.mono HB.out.size))
 have HX : Hid (∀ W, Bw w1 W → W.cell? ⟨w.heap.size, 0, none⟩ = some (.int .i64 (k : Int)) ∧ W.cell? ⟨w.heap.size, 1, none⟩ = some (.slice sao sl scap) ∧ W.cell? ⟨w.heap.size, 2, none⟩ = some (.slice tao tl tcap) ∧ W.cell? ⟨w.heap.size, 3, none⟩ = some (.int .i64 n)) := fun W hW => by
  have hl : w.heap.size < w1.heap.size := by rw [hw1]; simp
  refine ⟨(hW.cell hl).trans ?_, (hW.cell hl).trans ?_, (hW.cell hl).trans ?_, (hW.cell hl).trans ?_⟩ <;> (rw [hw1]; simp)
 have HC1 := hide (HC.out w1 HB.out)
 have HS1 := hide (HS.out w1 HB.out)
 obtain ⟨x0, x1, x2, x3⟩ := HX.out w1 (Below.refl _ _)
 obtain ⟨M, hM⟩ : ∃ M : Int, M = if b = true then 20 else 0 := ⟨_, rfl⟩
 rw [← hM]
 obtain ⟨R, hR⟩ := nm (errV (if F1 = 0 then (if F2 = 0 then (if - M ≤ n ∧ n ≤ M then 0 else 1) else F2) else F1))
 rw [← hR]
 have HR := hide hR
 clear hq HC HS hR
 go_enter Tryz.func92, Tryz.ntmps92
 go_upto_region 1 with fail
 rw [← hw1]
 clear hw1
 go_wp2_with fail
 go_at_call 102
 refine HC1.out.mono ?_
 rintro e w' ⟨rfl, rfl⟩
 by_cases e1 : F1 = 0
 ·have H1 := hide e1
  rw [show errV F1 = .nilIface by rw [e1]; rfl]
  clear e1
  go_wp2_with fail
  go_at_call 138
  refine HS1.out.mono ?_
  rintro e w2 ⟨rfl, hb⟩
  have HB2 := bt HB hb
  have q := HQ.out w2 hb
  clear x0 x1 x2 x3
  obtain ⟨x0, x1, x2, x3⟩ := HX.out w2 hb
  clear hb
  by_cases e2 : F2 = 0
  ·have H2 := hide e2
   rw [show errV F2 = .nilIface by rw [e2]; rfl]
   clear e2
   have H3 : Hid (R = errV (if - M ≤ n ∧ n ≤ M then 0 else 1)) := by unfold Hid; rw [HR.out, if_pos H1.out, if_pos H2.out]
   clear HR H1 H2
   by_cases g1 : n < - M
   ·have H4 : Hid (.iface 91 (.int .i64 1) = R) := by unfold Hid; rw [H3.out, if_neg (by omega)]; rfl
    cases b <;> (simp at hM; subst hM; go_wp2; go_ret; exact ⟨back_v H4.out, HB2.out⟩)
   by_cases g2 : M < n
   ·have H4 : Hid (.iface 91 (.int .i64 1) = R) := by unfold Hid; rw [H3.out, if_neg (by omega)]; rfl
    cases b <;> (simp at hM; subst hM; go_wp2; go_ret; exact ⟨back_v H4.out, HB2.out⟩)
   ·have H4 : Hid (.nilIface = R) := by unfold Hid; rw [H3.out, if_pos (by omega)]; rfl
    cases b <;> (simp at hM; subst hM; go_wp2; go_ret; exact ⟨back_v H4.out, HB2.out⟩)
  ·have H4 : Hid (.iface 91 (.int .i64 F2) = R) := by unfold Hid; rw [HR.out, if_pos H1.out, if_neg e2, errV_no e2]
   rw [errV_no e2]
   clear e2 hM
   go_wp2
   go_ret
   exact ⟨back_v H4.out, HB2.out⟩
 ·have H4 : Hid (.iface 91 (.int .i64 F1) = R) := by unfold Hid; rw [HR.out, if_neg e1, errV_no e1]
  rw [errV_no e1]
  clear e1 hM
  go_wp2
  go_ret
  exact ⟨back_v H4.out, HB.out⟩
theorem acheck_any (k n : Int) (vs vt : Value) (s t : List Int) (w : World) (hS : Reads w vs s) (hT : Reads w vt t) (hK : KindsLaid w) :
    Calls Tryz.prog 92 #[.agg #[.int .i64 k, vs, vt, .int .i64 n]] w (Bk w (errV (atomFault k s t n))) := by
 have hC := fun W (hW : Bw w W) => tcheck_any s vs W (hS.below hW)
 have hS2 := fun h W (hW : Bw w W) => csecond_any k n vs vt s t W h (hS.below hW) (hT.below hW) (hK.below hW)
 obtain ⟨sao, scap, rfl, _⟩ := hS.slice
 obtain ⟨tao, tcap, rfl, hl⟩ := hT.slice
 by_cases hk : 1 ≤ k ∧ k ≤ 5
 ·unfold atomFault mostN
  rw [if_pos hk]
  obtain ⟨k, rfl⟩ := Int.eq_ofNat_of_zero_le (show 0 ≤ k by omega)
  exact acheck_in k (by omega) (by omega) n sao tao _ scap _ tcap (numberB k) _ _ w (fun W hW => (kind_has (hK.below hW) (by omega) (by omega)).2) hC (hS2 hk)
 ·rw [atomFault_kind hk, errV_no (by decide)]
  exact acheck_kind k n sao tao _ scap _ tcap w hk
end Go.Proofs.YtnoohlibgaeklaaGreatDoor
namespace Go.Proofs.YtnoohlibgaeklaaGreatDoor
open Go.ChangeShapes Go.WideShapes Go.ChangeAt Go.RowKit Go.Extern.Stop Go.Stop Go.Extern
set_option maxRecDepth 100000
set_option maxHeartbeats 16000000
theorem isTypeOf (v : Value) (w : World) : (Extern.ReflectliteType.typeOf #[.iface 91 v]).run Tryz.prog w = .ok (.iface 172 (.agg #[.pointer (some ⟨10, 91, none⟩)])) w := by kernel_rfl
theorem isComparable (w : World) : (callFunc 232 #[.agg #[.pointer (some ⟨10, 91, none⟩)]]).run Tryz.prog w = .ok (.value (.bool true)) w := by
 rw [@run_callFunc_extern Tryz.prog 232 _ (Extern.ReflectliteType.method fun t => do Rtype.noPackHeld "Comparable" t; pure (.bool (← typeInfo t).comparable)) Tryz.func232 (by kernel_rfl) (by kernel_rfl) (by kernel_rfl) (by kernel_rfl)]
 rw [show ((Extern.ReflectliteType.method fun t => do Rtype.noPackHeld "Comparable" t; pure (.bool (← typeInfo t).comparable)) #[.agg #[.pointer (some ⟨10, 91, none⟩)]]).run Tryz.prog w = .ok (.bool true) w by kernel_rfl]
 rfl
theorem isMethodComparable (v : Value) (w : World) : (Go.method 403 172 v "Comparable").run Tryz.prog w = .ok (232, v) w := by kernel_rfl
theorem noIsE (v : Value) (xT : TypeId) (w : World) : (Instr.typeAssert (.iface 91 v) xT 255 true).run Tryz.prog w = .ok (.tuple #[.nilIface, .bool false]) w := run_typeAssert_lacksB Tryz.underlying255 (by kernel_rfl) (by kernel_rfl) v xT w
theorem noUnwrapE (v : Value) (xT : TypeId) (w : World) : (Instr.typeAssert (.iface 91 v) xT 180 true).run Tryz.prog w = .ok (.tuple #[.nilIface, .bool false]) w := run_typeAssert_lacksB Tryz.underlying180 (by kernel_rfl) (by kernel_rfl) v xT w
theorem noUnwrapsE (v : Value) (xT : TypeId) (w : World) : (Instr.typeAssert (.iface 91 v) xT 182 true).run Tryz.prog w = .ok (.tuple #[.nilIface, .bool false]) w := run_typeAssert_lacksB Tryz.underlying182 (by kernel_rfl) (by kernel_rfl) v xT w
theorem is_err (m : Int) (b : Bool) (hq : ∀ W, (binOp .eql 34 (.iface 91 (.int .i64 m)) (.iface 91 (.int .i64 2))).run Tryz.prog W = .ok (.bool b) W) (w : World) :
    Calls Tryz.prog 137 #[.iface 91 (.int .i64 m), .iface 91 (.int .i64 2)] w (Sk w (.bool b)) := by
 have h8 := @run_callFunc_extern Tryz.prog 105 _ Extern.ReflectliteType.typeOf Tryz.func105 (by kernel_rfl) (by kernel_rfl) (by kernel_rfl) (by kernel_rfl)
 have tT := isTypeOf
 have cT := isComparable
 have mR := isMethodComparable
 have nE := noIsE
 have uE := noUnwrapE
 have vE := noUnwrapsE
 cases b
 ·go_enter Tryz.func137, Tryz.ntmps137
  go_wp2
  refine wp_loop_rounds 1 ?_
  rw [rounds_succ]
  go_wp2
  go_ret
  exact ⟨rfl, rfl⟩
 ·go_enter Tryz.func137, Tryz.ntmps137
  go_wp2
  refine wp_loop_rounds 1 ?_
  rw [rounds_succ]
  go_wp2
  go_ret
  exact ⟨rfl, rfl⟩
theorem is_none (w : World) :
    Calls Tryz.prog 137 #[.nilIface, .iface 91 (.int .i64 2)] w (Sk w (.bool false)) := by
 have hn := run_eql_iface_nil_left (P := Tryz.prog) w 91 (.int .i64 2) Tryz.underlying34
 go_enter Tryz.func137, Tryz.ntmps137
 go_wp2
 go_ret
 exact ⟨rfl, rfl⟩
theorem eql2 (W : World) : (binOp .eql 34 (.iface 91 (.int .i64 2)) (.iface 91 (.int .i64 2))).run Tryz.prog W = .ok (.bool true) W := by kernel_rfl
theorem eql1 (W : World) : (binOp .eql 34 (.iface 91 (.int .i64 1)) (.iface 91 (.int .i64 2))).run Tryz.prog W = .ok (.bool false) W := by kernel_rfl
theorem eql3 (W : World) : (binOp .eql 34 (.iface 91 (.int .i64 3)) (.iface 91 (.int .i64 2))).run Tryz.prog W = .ok (.bool false) W := by kernel_rfl
theorem eql4 (W : World) : (binOp .eql 34 (.iface 91 (.int .i64 4)) (.iface 91 (.int .i64 2))).run Tryz.prog W = .ok (.bool false) W := by kernel_rfl
theorem eql5 (W : World) : (binOp .eql 34 (.iface 91 (.int .i64 5)) (.iface 91 (.int .i64 2))).run Tryz.prog W = .ok (.bool false) W := by kernel_rfl
theorem is_any (m : Int) (h0 : 0 ≤ m) (h5 : m ≤ 5) (w : World) :
    Calls Tryz.prog 137 #[errV m, .iface 91 (.int .i64 2)] w (Sk w (.bool (decide (m = 2)))) := by
 obtain rfl | rfl | rfl | rfl | rfl | rfl : m = 0 ∨ m = 1 ∨ m = 2 ∨ m = 3 ∨ m = 4 ∨ m = 5 := by omega
 ·exact is_none w
 ·exact is_err 1 false eql1 w
 ·exact is_err 2 true eql2 w
 ·exact is_err 3 false eql3 w
 ·exact is_err 4 false eql4 w
 ·exact is_err 5 false eql5 w
theorem ix0 (E0 E1 E2 : Value) (W : World) : (Instr.index 152 (.agg #[E0, E1, E2]) (.int .i64 0)).run Tryz.prog W = .ok E0 W := by kernel_rfl
theorem ix1 (E0 E1 E2 : Value) (W : World) : (Instr.index 152 (.agg #[E0, E1, E2]) (.int .i64 1)).run Tryz.prog W = .ok E1 W := by kernel_rfl
theorem ix2 (E0 E1 E2 : Value) (W : World) : (Instr.index 152 (.agg #[E0, E1, E2]) (.int .i64 2)).run Tryz.prog W = .ok E2 W := by kernel_rfl
def toldN (a b c : Int) : Int := if a = 2 ∨ b = 2 ∨ c = 2 then 2 else if a = 0 then (if b = 0 then c else b) else a
theorem told_0 (E0 E1 E2 : Value)  (h0 : ∀ W, Calls Tryz.prog 137 #[E0, .iface 91 (.int .i64 2)] W (Sk W (.bool true))) (w : World) :
    Calls Tryz.prog 91 #[.agg #[E0, E1, E2]] w (Bk w E0) := by
 have H0 := hide h0
 clear h0
 have HB : Hid (Bw w (w.alloc (.cells #[E0, E1, E2] 152))) := below_alloc1 w _
 have k0 := ix0 E0 E1 E2
 have k1 := ix1 E0 E1 E2
 have k2 := ix2 E0 E1 E2
 go_enter Tryz.func91, Tryz.ntmps91
 go_wp2_with fail
 refine wp_loop_rounds 4 ?_
 rw [rounds_succ]
 go_wp2_with fail
 go_at_call 137
 refine (H0.out _).mono ?_
 rintro e w2 ⟨rfl, rfl⟩
 go_wp2_with fail
 go_ret
 exact ⟨rfl, HB.out⟩
theorem told_1 (E0 E1 E2 : Value)  (h0 : ∀ W, Calls Tryz.prog 137 #[E0, .iface 91 (.int .i64 2)] W (Sk W (.bool false))) (h1 : ∀ W, Calls Tryz.prog 137 #[E1, .iface 91 (.int .i64 2)] W (Sk W (.bool true))) (w : World) :
    Calls Tryz.prog 91 #[.agg #[E0, E1, E2]] w (Bk w E1) := by
 have H0 := hide h0
 clear h0
 have H1 := hide h1
 clear h1
 have HB : Hid (Bw w (w.alloc (.cells #[E0, E1, E2] 152))) := below_alloc1 w _
 have k0 := ix0 E0 E1 E2
 have k1 := ix1 E0 E1 E2
 have k2 := ix2 E0 E1 E2
 go_enter Tryz.func91, Tryz.ntmps91
 go_wp2_with fail
 refine wp_loop_rounds 4 ?_
 rw [rounds_succ]
 go_wp2_with fail
 go_at_call 137
 refine (H0.out _).mono ?_
 rintro e w2 ⟨rfl, rfl⟩
 go_wp2_with fail
 rw [rounds_succ]
 go_wp2_with fail
 go_at_call 137
 refine (H1.out _).mono ?_
 rintro e w3 ⟨rfl, rfl⟩
 go_wp2_with fail
 go_ret
 exact ⟨rfl, HB.out⟩
theorem told_2 (E0 E1 E2 : Value)  (h0 : ∀ W, Calls Tryz.prog 137 #[E0, .iface 91 (.int .i64 2)] W (Sk W (.bool false))) (h1 : ∀ W, Calls Tryz.prog 137 #[E1, .iface 91 (.int .i64 2)] W (Sk W (.bool false))) (h2 : ∀ W, Calls Tryz.prog 137 #[E2, .iface 91 (.int .i64 2)] W (Sk W (.bool true))) (w : World) :
    Calls Tryz.prog 91 #[.agg #[E0, E1, E2]] w (Bk w E2) := by
 have H0 := hide h0
 clear h0
 have H1 := hide h1
 clear h1
 have H2 := hide h2
 clear h2
 have HB : Hid (Bw w (w.alloc (.cells #[E0, E1, E2] 152))) := below_alloc1 w _
 have k0 := ix0 E0 E1 E2
 have k1 := ix1 E0 E1 E2
 have k2 := ix2 E0 E1 E2
 go_enter Tryz.func91, Tryz.ntmps91
 go_wp2_with fail
 refine wp_loop_rounds 4 ?_
 rw [rounds_succ]
 go_wp2_with fail
 go_at_call 137
 refine (H0.out _).mono ?_
 rintro e w2 ⟨rfl, rfl⟩
 go_wp2_with fail
 rw [rounds_succ]
 go_wp2_with fail
 go_at_call 137
 refine (H1.out _).mono ?_
 rintro e w3 ⟨rfl, rfl⟩
 go_wp2_with fail
 rw [rounds_succ]
 go_wp2_with fail
 go_at_call 137
 refine (H2.out _).mono ?_
 rintro e w4 ⟨rfl, rfl⟩
 go_wp2_with fail
 go_ret
 exact ⟨rfl, HB.out⟩
theorem told_n0 (E0 E1 E2 : Value) (f : Int) (g0 : E0 = (.iface 91 (.int .i64 f))) (h0 : ∀ W, Calls Tryz.prog 137 #[E0, .iface 91 (.int .i64 2)] W (Sk W (.bool false))) (h1 : ∀ W, Calls Tryz.prog 137 #[E1, .iface 91 (.int .i64 2)] W (Sk W (.bool false))) (h2 : ∀ W, Calls Tryz.prog 137 #[E2, .iface 91 (.int .i64 2)] W (Sk W (.bool false))) (w : World) :
    Calls Tryz.prog 91 #[.agg #[E0, E1, E2]] w (Bk w (.iface 91 (.int .i64 f))) := by
 have H0 := hide h0
 clear h0
 have H1 := hide h1
 clear h1
 have H2 := hide h2
 clear h2
 have HB : Hid (Bw w (w.alloc (.cells #[E0, E1, E2] 152))) := below_alloc1 w _
 have k0 := ix0 E0 E1 E2
 have k1 := ix1 E0 E1 E2
 have k2 := ix2 E0 E1 E2
 subst g0
 go_enter Tryz.func91, Tryz.ntmps91
 go_wp2_with fail
 refine wp_loop_rounds 4 ?_
 rw [rounds_succ]
 go_wp2_with fail
 go_at_call 137
 refine (H0.out _).mono ?_
 rintro e w2 ⟨rfl, rfl⟩
 go_wp2_with fail
 rw [rounds_succ]
 go_wp2_with fail
 go_at_call 137
 refine (H1.out _).mono ?_
 rintro e w3 ⟨rfl, rfl⟩
 go_wp2_with fail
 rw [rounds_succ]
 go_wp2_with fail
 go_at_call 137
 refine (H2.out _).mono ?_
 rintro e w4 ⟨rfl, rfl⟩
 go_wp2_with fail
 rw [rounds_succ]
 go_wp2_with fail
 refine wp_loop_rounds 4 ?_
 rw [rounds_succ]
 go_wp2
 go_ret
 exact ⟨rfl, HB.out⟩
theorem told_n1 (E0 E1 E2 : Value) (f : Int) (g0 : E0 = Value.nilIface) (g1 : E1 = (.iface 91 (.int .i64 f))) (h0 : ∀ W, Calls Tryz.prog 137 #[E0, .iface 91 (.int .i64 2)] W (Sk W (.bool false))) (h1 : ∀ W, Calls Tryz.prog 137 #[E1, .iface 91 (.int .i64 2)] W (Sk W (.bool false))) (h2 : ∀ W, Calls Tryz.prog 137 #[E2, .iface 91 (.int .i64 2)] W (Sk W (.bool false))) (w : World) :
    Calls Tryz.prog 91 #[.agg #[E0, E1, E2]] w (Bk w (.iface 91 (.int .i64 f))) := by
 have H0 := hide h0
 clear h0
 have H1 := hide h1
 clear h1
 have H2 := hide h2
 clear h2
 have HB : Hid (Bw w (w.alloc (.cells #[E0, E1, E2] 152))) := below_alloc1 w _
 have k0 := ix0 E0 E1 E2
 have k1 := ix1 E0 E1 E2
 have k2 := ix2 E0 E1 E2
 subst g0
 subst g1
 go_enter Tryz.func91, Tryz.ntmps91
 go_wp2_with fail
 refine wp_loop_rounds 4 ?_
 rw [rounds_succ]
 go_wp2_with fail
 go_at_call 137
 refine (H0.out _).mono ?_
 rintro e w2 ⟨rfl, rfl⟩
 go_wp2_with fail
 rw [rounds_succ]
 go_wp2_with fail
 go_at_call 137
 refine (H1.out _).mono ?_
 rintro e w3 ⟨rfl, rfl⟩
 go_wp2_with fail
 rw [rounds_succ]
 go_wp2_with fail
 go_at_call 137
 refine (H2.out _).mono ?_
 rintro e w4 ⟨rfl, rfl⟩
 go_wp2_with fail
 rw [rounds_succ]
 go_wp2_with fail
 refine wp_loop_rounds 4 ?_
 rw [rounds_succ]
 go_wp2
 rw [rounds_succ]
 go_wp2
 go_ret
 exact ⟨rfl, HB.out⟩
theorem told_n2 (E0 E1 E2 : Value) (f : Int) (g0 : E0 = Value.nilIface) (g1 : E1 = Value.nilIface) (g2 : E2 = (.iface 91 (.int .i64 f))) (h0 : ∀ W, Calls Tryz.prog 137 #[E0, .iface 91 (.int .i64 2)] W (Sk W (.bool false))) (h1 : ∀ W, Calls Tryz.prog 137 #[E1, .iface 91 (.int .i64 2)] W (Sk W (.bool false))) (h2 : ∀ W, Calls Tryz.prog 137 #[E2, .iface 91 (.int .i64 2)] W (Sk W (.bool false))) (w : World) :
    Calls Tryz.prog 91 #[.agg #[E0, E1, E2]] w (Bk w (.iface 91 (.int .i64 f))) := by
 have H0 := hide h0
 clear h0
 have H1 := hide h1
 clear h1
 have H2 := hide h2
 clear h2
 have HB : Hid (Bw w (w.alloc (.cells #[E0, E1, E2] 152))) := below_alloc1 w _
 have k0 := ix0 E0 E1 E2
 have k1 := ix1 E0 E1 E2
 have k2 := ix2 E0 E1 E2
 subst g0
 subst g1
 subst g2
 go_enter Tryz.func91, Tryz.ntmps91
 go_wp2_with fail
 refine wp_loop_rounds 4 ?_
 rw [rounds_succ]
 go_wp2_with fail
 go_at_call 137
 refine (H0.out _).mono ?_
 rintro e w2 ⟨rfl, rfl⟩
 go_wp2_with fail
 rw [rounds_succ]
 go_wp2_with fail
 go_at_call 137
 refine (H1.out _).mono ?_
 rintro e w3 ⟨rfl, rfl⟩
 go_wp2_with fail
 rw [rounds_succ]
 go_wp2_with fail
 go_at_call 137
 refine (H2.out _).mono ?_
 rintro e w4 ⟨rfl, rfl⟩
 go_wp2_with fail
 rw [rounds_succ]
 go_wp2_with fail
 refine wp_loop_rounds 4 ?_
 rw [rounds_succ]
 go_wp2
 rw [rounds_succ]
 go_wp2
 rw [rounds_succ]
 go_wp2
 go_ret
 exact ⟨rfl, HB.out⟩
theorem told_n3 (E0 E1 E2 : Value) (g0 : E0 = Value.nilIface) (g1 : E1 = Value.nilIface) (g2 : E2 = Value.nilIface) (h0 : ∀ W, Calls Tryz.prog 137 #[E0, .iface 91 (.int .i64 2)] W (Sk W (.bool false))) (h1 : ∀ W, Calls Tryz.prog 137 #[E1, .iface 91 (.int .i64 2)] W (Sk W (.bool false))) (h2 : ∀ W, Calls Tryz.prog 137 #[E2, .iface 91 (.int .i64 2)] W (Sk W (.bool false))) (w : World) :
    Calls Tryz.prog 91 #[.agg #[E0, E1, E2]] w (Bk w Value.nilIface) := by
 have H0 := hide h0
 clear h0
 have H1 := hide h1
 clear h1
 have H2 := hide h2
 clear h2
 have HB : Hid (Bw w (w.alloc (.cells #[E0, E1, E2] 152))) := below_alloc1 w _
 have k0 := ix0 E0 E1 E2
 have k1 := ix1 E0 E1 E2
 have k2 := ix2 E0 E1 E2
 subst g0
 subst g1
 subst g2
 go_enter Tryz.func91, Tryz.ntmps91
 go_wp2_with fail
 refine wp_loop_rounds 4 ?_
 rw [rounds_succ]
 go_wp2_with fail
 go_at_call 137
 refine (H0.out _).mono ?_
 rintro e w2 ⟨rfl, rfl⟩
 go_wp2_with fail
 rw [rounds_succ]
 go_wp2_with fail
 go_at_call 137
 refine (H1.out _).mono ?_
 rintro e w3 ⟨rfl, rfl⟩
 go_wp2_with fail
 rw [rounds_succ]
 go_wp2_with fail
 go_at_call 137
 refine (H2.out _).mono ?_
 rintro e w4 ⟨rfl, rfl⟩
 go_wp2_with fail
 rw [rounds_succ]
 go_wp2_with fail
 refine wp_loop_rounds 4 ?_
 rw [rounds_succ]
 go_wp2
 rw [rounds_succ]
 go_wp2
 rw [rounds_succ]
 go_wp2
 rw [rounds_succ]
 go_wp2
 go_ret
 exact ⟨rfl, HB.out⟩
theorem told_any (a b c : Int) (a0 : 0 ≤ a) (a5 : a ≤ 5) (b0 : 0 ≤ b) (b5 : b ≤ 5) (c0 : 0 ≤ c) (c5 : c ≤ 5) (w : World) :
    Calls Tryz.prog 91 #[.agg #[errV a, errV b, errV c]] w (Bk w (errV (toldN a b c))) := by
 have ha := is_any a a0 a5
 have hb := is_any b b0 b5
 have hc := is_any c c0 c5
 by_cases ha2 : a = 2
 ·have e : toldN a b c = a := by unfold toldN; rw [if_pos (Or.inl ha2), ha2]
  rw [e]
  rw [decide_eq_true ha2] at ha
  exact told_0 _ _ _ ha w
 rw [decide_eq_false ha2] at ha
 by_cases hb2 : b = 2
 ·have e : toldN a b c = b := by unfold toldN; rw [if_pos (Or.inr (Or.inl hb2)), hb2]
  rw [e]
  rw [decide_eq_true hb2] at hb
  exact told_1 _ _ _ ha hb w
 rw [decide_eq_false hb2] at hb
 by_cases hc2 : c = 2
 ·have e : toldN a b c = c := by unfold toldN; rw [if_pos (Or.inr (Or.inr hc2)), hc2]
  rw [e]
  rw [decide_eq_true hc2] at hc
  exact told_2 _ _ _ ha hb hc w
 rw [decide_eq_false hc2] at hc
 have e : toldN a b c = if a = 0 then (if b = 0 then c else b) else a := by unfold toldN; rw [if_neg (by omega)]
 rw [e]
 by_cases ha0 : a = 0
 ·rw [if_pos ha0]
  by_cases hb0 : b = 0
  ·rw [if_pos hb0]
   by_cases hc0 : c = 0
   ·rw [hc0, errV_0]
    rw [hc0] at hc
    exact told_n3 _ _ _ (by rw [ha0]; rfl) (by rw [hb0]; rfl) (by rfl) ha hb hc w
   ·rw [errV_no hc0]
    exact told_n2 _ _ _ c (by rw [ha0]; rfl) (by rw [hb0]; rfl) rfl ha hb (by rw [errV_no hc0] at hc; exact hc) w
  ·rw [if_neg hb0, errV_no hb0]
   rw [errV_no hb0] at hb
   exact told_n1 _ _ _ b (by rw [ha0]; rfl) rfl ha hb hc w
 ·rw [if_neg ha0, errV_no ha0]
  rw [errV_no ha0] at ha
  exact told_n0 _ _ _ a rfl ha hb hc w
end Go.Proofs.YtnoohlibgaeklaaGreatDoor
namespace Go.Proofs.YtnoohlibgaeklaaGreatDoor
open Go.ChangeShapes Go.WideShapes Go.ChangeAt Go.RowKit
set_option maxRecDepth 100000
set_option maxHeartbeats 16000000
theorem var_below {w w' : World} {n : String} {cs : Array Value} (h : w.var? Tryz.prog n = some cs) (hb : Bw w w') : w'.var? Tryz.prog n = some cs := by
 unfold World.var? at h ⊢
 cases hg : Tryz.prog.globalNamed n with
 | none => simp [hg] at h
 | some g =>
  simp only [hg, Option.bind_some] at h ⊢
  have hlt : g < w.heap.size := by
   rcases Nat.lt_or_ge g w.heap.size with h' | h'
   ·exact h'
   ·simp [Array.getElem?_eq_none h'] at h
  rw [hb.block g hlt]
  exact h
def LibLaid (w : World) : Prop := Lib.TabIs Tryz.prog w "internal/strconv.uint64pow10" .u64 Lib.pow10Tab ∧ ∃ tp p, w.var? Tryz.prog "strconv.ErrSyntax" = some #[.iface tp p]
theorem LibLaid.below {w w' : World} (h : LibLaid w) (hb : Bw w w') : LibLaid w' := by
 obtain ⟨h1, tp, p, h2⟩ := h
 exact ⟨var_below h1 hb, tp, p, var_below h2 hb⟩
theorem itoa_any (n : Int) (h0 : -99 ≤ n) (h1 : n ≤ 99) (w : World) (hL : LibLaid w) :
    Calls Tryz.prog 36 #[.int .i64 n] w (Bk w (.string (strOf (numText n)))) := by
 refine (Any.strconv_Itoa Tryz.laysM171 n (by omega) (by omega) w hL.1).mono ?_
 rintro e w' ⟨he, k, os, rfl⟩
 refine ⟨?_, Lib.below_grow _ _ (Nat.le_refl _) _ _⟩
 rw [he, itoa_num h0 h1]
 rfl
theorem trim_any (s : ByteArray) (w : World) :
    Calls Tryz.prog 86 #[.string s, .string ⟨#[45]⟩] w (Sk w (.string (strOf (bareN s.data.toList)))) := by
 refine (Any.strings_TrimPrefix Tryz.lays101 s ⟨#[45]⟩ w).mono ?_
 rintro e w' ⟨he, rfl⟩
 refine ⟨?_, rfl⟩
 have e1 : Lib.trimPrefix s.data.toList (ByteArray.mk #[45]).data.toList = bareN s.data.toList := by
  show Lib.trimPrefix s.data.toList [45] = _
  match s.data.toList with
  | [] => rfl
  | b :: r =>
   unfold Lib.trimPrefix
   by_cases hb : b = 45
   ·subst hb
    rw [if_pos (by simp [Lib.hasPrefix])]; rfl
   ·rw [if_neg (by simp [Lib.hasPrefix]; exact fun h => hb h.symm), bareN, if_neg hb]
 rw [he, e1]; rfl
theorem atoi_some (s : ByteArray) (n : Int) (hl : s.size ≤ 18) (h : Lib.atoi s.data.toList = some n) (w : World) :
    Calls Tryz.prog 136 #[.string s] w (Bk w (.tuple #[.int .i64 n, .nilIface])) := by
 refine (Any.strconv_Atoi Tryz.lays172 s n hl h w).mono ?_
 rintro e w' ⟨he, t, rfl⟩
 exact ⟨he, Go.Joins.below_bytesWorld _ _ _ _ (Nat.le_refl _)⟩
theorem atoi_none (s : ByteArray) (hl : s.size ≤ 18) (h : Lib.atoi s.data.toList = none) (w : World) (hL : LibLaid w) :
    Calls Tryz.prog 136 #[.string s] w fun e w' => ∃ N, e = .returned (.tuple #[.int .i64 0, .iface 252 (.pointer (some ⟨N, 0, none⟩))]) ∧ Bw w w' := by
 obtain ⟨_, tp, p, hv⟩ := hL
 refine (Any.strconv_Atoi_err_var Tryz.laysC172 s hl h tp p w hv).mono ?_
 rintro e w' ⟨N, he, _, _, hb⟩
 exact ⟨N, he, hb⟩
def numFault (l : List UInt8) : Int := if (numOf l).isSome then 0 else 2
def numIs (l : List UInt8) : Int := (numOf l).getD 0
theorem bare_size {l : List UInt8} (h : (bareN l).length ≤ 2) : l.length ≤ 3 := by
 match l with
 | [] => simp
 | b :: r =>
  rw [bareN] at h
  split at h
  ·simp; omega
  ·omega
theorem number_any (s : ByteArray) (hz : s.size ≤ 9223372036854775807) (w : World) (hL : LibLaid w) :
    Calls Tryz.prog 90 #[.string s] w (Bk w (.tuple #[.int .i64 (numIs s.data.toList), errV (numFault s.data.toList)])) := by
 have HT : Hid (∀ W, Calls Tryz.prog 86 #[.string s, .string ⟨#[45]⟩] W (Sk W (.string (strOf (bareN s.data.toList))))) := fun W => trim_any s W
 have hsz : s.data.toList.length = s.size := Array.length_toList
 have hbl : (bareN s.data.toList).length ≤ s.data.toList.length := by
  cases s.data.toList with
  | nil => simp [bareN]
  | cons b r => rw [bareN]; split <;> simp
 by_cases hb : 2 < (bareN s.data.toList).length
 ·have e1 : numIs s.data.toList = 0 := by unfold numIs; rw [numOf_long hb]; rfl
  have e2 : errV (numFault s.data.toList) = .iface 91 (.int .i64 2) := by unfold numFault; rw [numOf_long hb]; rfl
  rw [e1, e2]
  have hl2 : (2 : Int) < ((strOf (bareN s.data.toList)).size : Int) := by rw [strOf_size]; omega
  have hl3 : (strOf (bareN s.data.toList)).size ≤ 9223372036854775807 := by rw [strOf_size]; omega
  obtain ⟨t, ht⟩ := nm (strOf (bareN s.data.toList))
  rw [← ht] at HT hl2 hl3
  clear e1 e2 hb hbl hsz ht hz hL
  go_enter Tryz.func90, Tryz.ntmps90
  go_wp2_with (go_at_call 86; refine (HT.out _).mono ?_; rintro e w' ⟨rfl, rfl⟩)
  go_ret2
  exact ⟨rfl, Below.refl _ _⟩
 have hb2 : (bareN s.data.toList).length ≤ 2 := by omega
 have hl2 : ¬ (2 : Int) < ((strOf (bareN s.data.toList)).size : Int) := by rw [strOf_size]; omega
 have h18 : s.size ≤ 18 := by have := bare_size hb2; omega
 have hN := numOf_atoi hb2
 have hl3 : (strOf (bareN s.data.toList)).size ≤ 9223372036854775807 := by rw [strOf_size]; omega
 obtain ⟨t, ht⟩ := nm (strOf (bareN s.data.toList))
 rw [← ht] at HT hl2 hl3
 clear ht hb hbl
 rcases hA : Lib.atoi s.data.toList with _ | n
 ·rw [hA] at hN
  have e1 : numIs s.data.toList = 0 := by unfold numIs; rw [hN]; rfl
  have e2 : errV (numFault s.data.toList) = .iface 91 (.int .i64 2) := by unfold numFault; rw [hN]; rfl
  rw [e1, e2]
  have HA : Hid (Calls Tryz.prog 136 #[.string s] w fun e w' => ∃ N, e = .returned (.tuple #[.int .i64 0, .iface 252 (.pointer (some ⟨N, 0, none⟩))]) ∧ Bw w w') := atoi_none s h18 hA w hL
  clear e1 e2 hN hA h18 hsz hb2 hz hL
  go_enter Tryz.func90, Tryz.ntmps90
  go_wp2_with (first | (go_at_call 86; refine (HT.out _).mono ?_; rintro e w' ⟨rfl, rfl⟩) | (go_at_call 136; refine HA.out.mono ?_; rintro e w2 ⟨N, rfl, hbel⟩))
  go_ret2
  exact ⟨rfl, hbel⟩
 ·rw [hA] at hN
  have hn := atoi_bare hb2 hA
  have HA : Hid (Calls Tryz.prog 136 #[.string s] w (Bk w (.tuple #[.int .i64 n, .nilIface]))) := atoi_some s n h18 hA w
  have HI : Hid (∀ W, Bw w W → Calls Tryz.prog 36 #[.int .i64 n] W (Bk W (.string (strOf (numText n))))) := fun W h => itoa_any n hn.1 hn.2 W (hL.below h)
  by_cases he : numText n = s.data.toList
  ·have e0 : numOf s.data.toList = some n := by rw [hN]; exact if_pos he
   have e1 : numIs s.data.toList = n := by unfold numIs; rw [e0]; rfl
   have e2 : errV (numFault s.data.toList) = .nilIface := by unfold numFault; rw [e0]; rfl
   rw [e1, e2]
   rw [he, strOf_data] at HI
   clear e0 e1 e2 hN hA h18 hsz hb2 he hn hz hL
   go_enter Tryz.func90, Tryz.ntmps90
   go_wp2_with (first | (go_at_call 86; refine (HT.out _).mono ?_; rintro e w' ⟨rfl, rfl⟩) | (go_at_call 136; refine HA.out.mono ?_; rintro e w2 ⟨rfl, hbel⟩; have HB2 : Hid (Bw w w2) := hbel; clear hbel) | (go_at_call 36; refine (HI.out _ HB2.out).mono ?_; rintro e w3 ⟨rfl, hbel⟩; have HB3 : Hid (Bw w w3) := HB2.out.trans (hbel.mono HB2.out.size); clear hbel))
   go_ret2
   exact ⟨rfl, HB3.out⟩
  ·have e0 : numOf s.data.toList = none := by rw [hN]; exact if_neg he
   have e1 : numIs s.data.toList = 0 := by unfold numIs; rw [e0]; rfl
   have e2 : errV (numFault s.data.toList) = .iface 91 (.int .i64 2) := by unfold numFault; rw [e0]; rfl
   rw [e1, e2]
   have hq : ((strOf (numText n)).toList == s.toList) = false := by
    rw [Lib.toList_data, Lib.toList_data, strOf_list]
    simpa using he
   obtain ⟨x, hx⟩ := nm (strOf (numText n))
   rw [← hx] at HI hq
   clear e0 e1 e2 hN hA h18 hsz hb2 he hn hz hL hx
   go_enter Tryz.func90, Tryz.ntmps90
   go_wp2_with (first | (go_at_call 86; refine (HT.out _).mono ?_; rintro e w' ⟨rfl, rfl⟩) | (go_at_call 136; refine HA.out.mono ?_; rintro e w2 ⟨rfl, hbel⟩; have HB2 : Hid (Bw w w2) := hbel; clear hbel) | (go_at_call 36; refine (HI.out _ HB2.out).mono ?_; rintro e w3 ⟨rfl, hbel⟩; have HB3 : Hid (Bw w w3) := HB2.out.trans (hbel.mono HB2.out.size); clear hbel))
   go_ret2
   exact ⟨rfl, HB3.out⟩
theorem faultN_range (t : List Int) : 0 ≤ faultN t ∧ faultN t ≤ 5 := by unfold faultN; repeat' split <;> omega
theorem textFault_range (l : List UInt8) : 0 ≤ textFault l ∧ textFault l ≤ 5 := by
 unfold textFault
 split
 ·exact faultN_range _
 ·omega
theorem load_atom {W : World} {R : Nat} {c0 c1 c2 c3 : Value} (h0 : W.cell? ⟨R, 0, none⟩ = some c0) (h1 : W.cell? ⟨R, 1, none⟩ = some c1) (h2 : W.cell? ⟨R, 2, none⟩ = some c2) (h3 : W.cell? ⟨R, 3, none⟩ = some c3) : (loadVar 71 ⟨R, 0, none⟩).run Tryz.prog W = .ok (.agg #[c0, c1, c2, c3]) W := by
 have hl := run_loadCells_list (P := Tryz.prog) W ⟨R, 0, none⟩ [c0, c1, c2, c3] (fun j v hj => by
  match j, hj with
  | 0, hj => simp at hj; subst hj; simpa [Addr.add] using h0
  | 1, hj => simp at hj; subst hj; simpa [Addr.add] using h1
  | 2, hj => simp at hj; subst hj; simpa [Addr.add] using h2
  | 3, hj => simp at hj; subst hj; simpa [Addr.add] using h3)
 simp [loadVar, Tryz.isAgg71, Tryz.sizeOf71, Result.andThen] at hl ⊢
 simp [hl]
theorem numFault_range (l : List UInt8) : 0 ≤ numFault l ∧ numFault l ≤ 5 := by unfold numFault; split <;> omega
theorem aparse_zero (s : ByteArray) (ws : List (List UInt8)) (w : World)
    (hSp : ∀ W, Bw w W → Calls Tryz.prog 88 #[.string s, .string ⟨#[32]⟩, .int .i64 5] W fun e w' => ∃ v, e = .returned v ∧ ReadsS w' v ws ∧ Bw W w')
    (hKo : ∀ W v, Bw w W → ReadsS W v ws → Calls Tryz.prog 89 #[v] W (Bk W (.int .i64 0))) :
    Calls Tryz.prog 61 #[.string s] w (Bk w (.tuple #[.agg #[.int .i64 0, .slice none 0 0, .slice none 0 0, .int .i64 0], .iface 91 (.int .i64 2)])) := by
 obtain ⟨w1, hw1⟩ := nm (w.alloc (.cells #[.int .i64 0, .slice none 0 0, .slice none 0 0, .int .i64 0] 71))
 have HB1 : Hid (Bw w w1) := by unfold Hid; rw [hw1]; exact below_alloc1 w _
 have HRc : Hid ((w1.cell? ⟨w.heap.size, 0, none⟩ = some (.int .i64 0) ∧ w1.cell? ⟨w.heap.size, 1, none⟩ = some (.slice none 0 0) ∧ w1.cell? ⟨w.heap.size, 2, none⟩ = some (.slice none 0 0) ∧ w1.cell? ⟨w.heap.size, 3, none⟩ = some (.int .i64 0)) ∧ (∀ j, w1.frozen? ⟨w.heap.size, j, none⟩ = false) ∧ w.heap.size < w1.heap.size) := by unfold Hid; rw [hw1]; exact ⟨⟨by simp, by simp, by simp, by simp⟩, fun j => by simp, by simp⟩
 have HSp := hide (hSp w1 HB1.out)
 have HKo := hide hKo
 clear hSp hKo
 go_enter Tryz.func61, Tryz.ntmps61
 go_wp2_with fail
 rw [← hw1]
 clear hw1
 go_at_call 88
 refine HSp.out.mono ?_
 rintro e w2 ⟨v, rfl, hR, hb⟩
 have HZ2 := hide hb
 have HR2 := hide hR
 clear hb hR
 go_wp2_with fail
 go_at_call 89
 refine (HKo.out _ _ (HB1.out.trans (HZ2.out.mono HB1.out.size)) HR2.out).mono ?_
 rintro e w3 ⟨rfl, hb⟩
 have HZ3 := bt HZ2 hb
 clear hb
 have HLt : Hid (w.heap.size < w3.heap.size) := Nat.lt_of_lt_of_le HRc.out.2.2 HZ3.out.size
 have s0 := (HZ3.out.cell (p := ⟨w.heap.size, 0, none⟩) HRc.out.2.2).trans HRc.out.1.1
 have s1 := (HZ3.out.cell (p := ⟨w.heap.size, 1, none⟩) HRc.out.2.2).trans HRc.out.1.2.1
 have s2 := (HZ3.out.cell (p := ⟨w.heap.size, 2, none⟩) HRc.out.2.2).trans HRc.out.1.2.2.1
 have s3 := (HZ3.out.cell (p := ⟨w.heap.size, 3, none⟩) HRc.out.2.2).trans HRc.out.1.2.2.2
 have p0 := (HZ3.out.frozen (p := ⟨w.heap.size, 0, none⟩) HRc.out.2.2).trans (HRc.out.2.1 0)
 have p1 := (HZ3.out.frozen (p := ⟨w.heap.size, 1, none⟩) HRc.out.2.2).trans (HRc.out.2.1 1)
 have p2 := (HZ3.out.frozen (p := ⟨w.heap.size, 2, none⟩) HRc.out.2.2).trans (HRc.out.2.1 2)
 have p3 := (HZ3.out.frozen (p := ⟨w.heap.size, 3, none⟩) HRc.out.2.2).trans (HRc.out.2.1 3)
 have r0 : (w3.alloc (.cells #[.int .i64 0, .slice none 0 0, .slice none 0 0, .int .i64 0] 71)).cell? ⟨w.heap.size, 0, none⟩ = some (.int .i64 0) := (World.cell?_alloc_lt _ _ ⟨w.heap.size, 0, none⟩ HLt.out).trans s0
 have r1 : (w3.alloc (.cells #[.int .i64 0, .slice none 0 0, .slice none 0 0, .int .i64 0] 71)).cell? ⟨w.heap.size, 1, none⟩ = some (.slice none 0 0) := (World.cell?_alloc_lt _ _ ⟨w.heap.size, 1, none⟩ HLt.out).trans s1
 have r2 : (w3.alloc (.cells #[.int .i64 0, .slice none 0 0, .slice none 0 0, .int .i64 0] 71)).cell? ⟨w.heap.size, 2, none⟩ = some (.slice none 0 0) := (World.cell?_alloc_lt _ _ ⟨w.heap.size, 2, none⟩ HLt.out).trans s2
 have r3 : (w3.alloc (.cells #[.int .i64 0, .slice none 0 0, .slice none 0 0, .int .i64 0] 71)).cell? ⟨w.heap.size, 3, none⟩ = some (.int .i64 0) := (World.cell?_alloc_lt _ _ ⟨w.heap.size, 3, none⟩ HLt.out).trans s3
 have hne : ¬ w.heap.size = w3.heap.size := by have := HLt.out; omega
 have f0 : (w3.alloc (.cells #[.int .i64 0, .slice none 0 0, .slice none 0 0, .int .i64 0] 71)).frozen? ⟨w.heap.size, 0, none⟩ = false := (World.frozen?_alloc_old _ _ ⟨w.heap.size, 0, none⟩ hne).trans p0
 have f1 : (w3.alloc (.cells #[.int .i64 0, .slice none 0 0, .slice none 0 0, .int .i64 0] 71)).frozen? ⟨w.heap.size, 1, none⟩ = false := (World.frozen?_alloc_old _ _ ⟨w.heap.size, 1, none⟩ hne).trans p1
 have f2 : (w3.alloc (.cells #[.int .i64 0, .slice none 0 0, .slice none 0 0, .int .i64 0] 71)).frozen? ⟨w.heap.size, 2, none⟩ = false := (World.frozen?_alloc_old _ _ ⟨w.heap.size, 2, none⟩ hne).trans p2
 have f3 : (w3.alloc (.cells #[.int .i64 0, .slice none 0 0, .slice none 0 0, .int .i64 0] 71)).frozen? ⟨w.heap.size, 3, none⟩ = false := (World.frozen?_alloc_old _ _ ⟨w.heap.size, 3, none⟩ hne).trans p3
 go_wp2_with fail
 have m0 : (((((w3.alloc (.cells #[.int .i64 0, .slice none 0 0, .slice none 0 0, .int .i64 0] 71)).setCell ⟨w.heap.size, 0, none⟩ (.int .i64 0)).setCell ⟨w.heap.size, 1, none⟩ (.slice none 0 0)).setCell ⟨w.heap.size, 2, none⟩ (.slice none 0 0)).setCell ⟨w.heap.size, 3, none⟩ (.int .i64 0)).cell? ⟨w.heap.size, 0, none⟩ = some (.int .i64 0) := by
  rw [set_far (ne_off (by decide)), set_far (ne_off (by decide)), set_far (ne_off (by decide))]; exact set_same r0
 have m1 : (((((w3.alloc (.cells #[.int .i64 0, .slice none 0 0, .slice none 0 0, .int .i64 0] 71)).setCell ⟨w.heap.size, 0, none⟩ (.int .i64 0)).setCell ⟨w.heap.size, 1, none⟩ (.slice none 0 0)).setCell ⟨w.heap.size, 2, none⟩ (.slice none 0 0)).setCell ⟨w.heap.size, 3, none⟩ (.int .i64 0)).cell? ⟨w.heap.size, 1, none⟩ = some (.slice none 0 0) := by
  rw [set_far (ne_off (by decide)), set_far (ne_off (by decide))]; exact set_same ((set_far (ne_off (by decide))).trans r1)
 have m2 : (((((w3.alloc (.cells #[.int .i64 0, .slice none 0 0, .slice none 0 0, .int .i64 0] 71)).setCell ⟨w.heap.size, 0, none⟩ (.int .i64 0)).setCell ⟨w.heap.size, 1, none⟩ (.slice none 0 0)).setCell ⟨w.heap.size, 2, none⟩ (.slice none 0 0)).setCell ⟨w.heap.size, 3, none⟩ (.int .i64 0)).cell? ⟨w.heap.size, 2, none⟩ = some (.slice none 0 0) := by
  rw [set_far (ne_off (by decide))]; exact set_same ((set_far (ne_off (by decide))).trans ((set_far (ne_off (by decide))).trans r2))
 have m3 : (((((w3.alloc (.cells #[.int .i64 0, .slice none 0 0, .slice none 0 0, .int .i64 0] 71)).setCell ⟨w.heap.size, 0, none⟩ (.int .i64 0)).setCell ⟨w.heap.size, 1, none⟩ (.slice none 0 0)).setCell ⟨w.heap.size, 2, none⟩ (.slice none 0 0)).setCell ⟨w.heap.size, 3, none⟩ (.int .i64 0)).cell? ⟨w.heap.size, 3, none⟩ = some (.int .i64 0) :=
  set_same ((set_far (ne_off (by decide))).trans ((set_far (ne_off (by decide))).trans ((set_far (ne_off (by decide))).trans r3)))
 have hld := load_atom m0 m1 m2 m3
 refine bodyPost_ret (v := .tuple #[.agg #[.int .i64 0, .slice none 0 0, .slice none 0 0, .int .i64 0], .iface 91 (.int .i64 2)]) ?_ rfl ⟨rfl, ?_⟩
 ·rw [results_cell_tmp rfl]
  simp [asAddr, Result.andThen, hld]
 ·have hb := (HB1.out.trans (HZ3.out.mono HB1.out.size)).alloc (Nat.le_of_lt HLt.out) (.cells #[.int .i64 0, .slice none 0 0, .slice none 0 0, .int .i64 0] 71)
  exact (((hb.setCell (Nat.le_refl _) _).setCell (Nat.le_refl _) _).setCell (Nat.le_refl _) _).setCell (Nat.le_refl _) _
end Go.Proofs.YtnoohlibgaeklaaGreatDoor
