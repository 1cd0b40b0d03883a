/-
  Proved: what errors.As does at a target of type *api.Errno, what plain.Told returns, and what vennsame.Error answers, of a nil error and of any api.Errno; what was in memory is as it was. (Contracts that the statements lean on; after the manner of the guide's worked example Toyas.)
  Proved: what vennsame.Error returns of an error and its number (what the statements of chapter 9 lean on).
  Proved: a range over a function that keeps its place in a variable that was there ahead of the loop: what the caller must show of one round, and what it then knows behind the loop (the law that the walks of chapter 17's program lean on). It reads no program.
  Atoms that a call makes, one behind the other, while others turn other blocks: their row, and the rows of their terms (facts that the contracts lean on).
-/
import Derived.Test.YtfnkbbpjfjendaiGreatDoorRows
import Derived.WalkKit
import Derived.LaidEql
import Derived.Stop.Asserts
import Derived.RowKitTokens
import Derived.Test.YtfnkbbpjfjendaiGreatDoorLibTX29
import Derived.Test.YtfnkbbpjfjendaiGreatDoorLibTX1
import Derived.RangeFuncNested
import Derived.RangeFuncBound
import Derived.RangeFuncCalls
import Derived.Test.YtfnkbbpjfjendaiGreatDoorLibTX11
import Derived.Deep.Cut
import Derived.Handy
import Derived.Shelf.Abstract
import Derived.OwnWalkIn
import Derived.TacticsInMore
import Derived.LoopNIn
import Derived.LoopIn
import Derived.Sort.LoopGhostIn
import Derived.Stop.RegionWithIn
import Derived.Sort.CutIn
import Derived.Test.YtfnkbbpjfjendaiGreatDoorLibTX24
import Derived.Maps.OwnIn
import Derived.Deep.AppendLies
namespace Go.Proofs.YtfnkbbpjfjendaiGreatDoor
open Go.RowKit Go.Extern.Stop Go.Stop Go.Extern
set_option maxRecDepth 100000

/-! ### closed facts on the model's entries for internal/reflectlite, at this program's numbers -/
theorem rlValueOfP (t : Addr) (w : World) : (ReflectliteValue.unpack (.iface 84 (.pointer (some t)))).run Tryz.prog w
    = .ok (.agg #[.pointer (some ⟨11, 84, none⟩), .pointer (some ⟨w.heap.size, 0, none⟩), .int .u64 150]) (w.alloc (.cells #[.pointer (some t)] 84)) := by kernel_rfl
theorem rlTypeP (a : Addr) (w : World) : (ReflectliteValue.methodAny (ReflectliteValue.valueError "reflectlite.Value.Type" 0) (fun t _ _ _ => ReflectliteType.toType t) #[.agg #[.pointer (some ⟨11, 84, none⟩), .pointer (some a), .int .u64 150]]).run Tryz.prog w
    = .ok (.iface 125 (.agg #[.pointer (some ⟨11, 84, none⟩)])) w := by kernel_rfl
theorem rlMethodKind (h : Value) (w : World) : (Go.method 316 125 (.agg #[h]) "Kind").run Tryz.prog w = .ok (145, h) w := by kernel_rfl
theorem rlKindP (w : World) : ((ReflectliteType.abiMethod fun t => (fun a : Nat => Value.int IntKind.u8 (a : Int)) <$> Rtype.kind t) #[.pointer (some ⟨11, 84, none⟩)]).run Tryz.prog w = .ok (.int .u8 22) w := by kernel_rfl
theorem rlKindE (w : World) : ((ReflectliteType.abiMethod fun t => (fun a : Nat => Value.int IntKind.u8 (a : Int)) <$> Rtype.kind t) #[.pointer (some ⟨11, 55, none⟩)]).run Tryz.prog w = .ok (.int .u8 2) w := by kernel_rfl

/-! ### the entries that read or write memory -/
theorem rlPartsP (a : Addr) (w : World) : (ReflectliteValue.parts (.agg #[.pointer (some ⟨11, 84, none⟩), .pointer (some a), .int .u64 150])).run Tryz.prog w = .ok (some (84, a, 150)) w := by kernel_rfl
theorem rlIsNilP (a p : Addr) (W : World) (ha : W.cell? a = some (.pointer (some p))) :
    (ReflectliteValue.method (ReflectliteValue.valueError "reflectlite.Value.IsNil" 0) ReflectliteValue.isNil #[.agg #[.pointer (some ⟨11, 84, none⟩), .pointer (some a), .int .u64 150]]).run Tryz.prog W = .ok (.bool false) W := by
  change (ReflectliteValue.parts (.agg #[.pointer (some ⟨11, 84, none⟩), .pointer (some a), .int .u64 150]) >>= _).run _ _ = _
  simp only [Sem.run_bind, rlPartsP, Result.andThen]
  simp [ReflectliteValue.isNil, loadVar, isAgg, underlying, Tryz.underlying84, ha, Result.andThen]

theorem rlMethodElem (h : Value) (w : World) : (Go.method 316 125 (.agg #[h]) "Elem").run Tryz.prog w = .ok (156, .agg #[h]) w := by kernel_rfl
theorem rlMethodImplements (h : Value) (w : World) : (Go.method 316 125 (.agg #[h]) "Implements").run Tryz.prog w = .ok (157, .agg #[h]) w := by kernel_rfl
theorem rlMethodAssignableTo (h : Value) (w : World) : (Go.method 316 125 (.agg #[h]) "AssignableTo").run Tryz.prog w = .ok (154, .agg #[h]) w := by kernel_rfl
theorem rlElemP (w : World) : (ReflectliteType.method ReflectliteType.elem #[.agg #[.pointer (some ⟨11, 84, none⟩)]]).run Tryz.prog w = .ok (.iface 125 (.agg #[.pointer (some ⟨11, 55, none⟩)])) w := by kernel_rfl
theorem rlImplementsE (w : World) : (ReflectliteType.relation "Implements" ReflectliteType.implements_ #[.agg #[.pointer (some ⟨11, 55, none⟩)], .iface 125 (.agg #[.pointer (some ⟨11, 29, none⟩)])]).run Tryz.prog w = .ok (.bool true) w := by kernel_rfl
theorem rlTypeOfE (v : Value) (w : World) : (ReflectliteType.typeOf #[.iface 55 v]).run Tryz.prog w = .ok (.iface 125 (.agg #[.pointer (some ⟨11, 55, none⟩)])) w := by kernel_rfl
theorem rlAssignableE (w : World) : (ReflectliteType.relation "AssignableTo" ReflectliteType.assignableTo #[.agg #[.pointer (some ⟨11, 55, none⟩)], .iface 125 (.agg #[.pointer (some ⟨11, 55, none⟩)])]).run Tryz.prog w = .ok (.bool true) w := by kernel_rfl
theorem rlValueOfE (n : Int) (w : World) : (ReflectliteValue.unpack (.iface 55 (.int .i64 n))).run Tryz.prog w
    = .ok (.agg #[.pointer (some ⟨11, 55, none⟩), .pointer (some ⟨w.heap.size, 0, none⟩), .int .u64 130]) (w.alloc (.cells #[.int .i64 n] 55)) := by kernel_rfl

theorem rlElemOfP (w : World) : (Rtype.elem? 84).run Tryz.prog w = .ok (some 55) w := by kernel_rfl
theorem rlMkE (p : Addr) (w : World) : (ReflectliteValue.mk 55 p ReflectliteValue.flagAddr).run Tryz.prog w = .ok (.agg #[.pointer (some ⟨11, 55, none⟩), .pointer (some p), .int .u64 386]) w := by kernel_rfl
theorem rlElemV (a p : Addr) (W : World) (ha : W.cell? a = some (.pointer (some p))) :
    (ReflectliteValue.method (ReflectliteValue.valueError "reflectlite.Value.Elem" 0) ReflectliteValue.elem #[.agg #[.pointer (some ⟨11, 84, none⟩), .pointer (some a), .int .u64 150]]).run Tryz.prog W
      = .ok (.agg #[.pointer (some ⟨11, 55, none⟩), .pointer (some p), .int .u64 386]) W := by
  change (ReflectliteValue.parts (.agg #[.pointer (some ⟨11, 84, none⟩), .pointer (some a), .int .u64 150]) >>= _).run _ _ = _
  simp only [Sem.run_bind, rlPartsP, Result.andThen]
  simp [ReflectliteValue.elem, loadVar, isAgg, underlying, Tryz.underlying84, ha, Result.andThen, rlElemOfP, rlMkE]
theorem rlPartsEa (a : Addr) (w : World) : (ReflectliteValue.parts (.agg #[.pointer (some ⟨11, 55, none⟩), .pointer (some a), .int .u64 386])).run Tryz.prog w = .ok (some (55, a, 386)) w := by kernel_rfl
theorem rlPartsE (a : Addr) (w : World) : (ReflectliteValue.parts (.agg #[.pointer (some ⟨11, 55, none⟩), .pointer (some a), .int .u64 130])).run Tryz.prog w = .ok (some (55, a, 130)) w := by kernel_rfl
theorem rlDirectE (w : World) : (Rtype.directlyAssignable 55 55).run Tryz.prog w = .ok true w := by kernel_rfl
theorem rlSetE (ta b : Addr) (n : Int) (old : Value) (W : World) (hb : W.cell? b = some (.int .i64 n)) (ht : W.cell? ta = some old) (hf : W.frozen? ta = false) :
    (ReflectliteValue.set #[.agg #[.pointer (some ⟨11, 55, none⟩), .pointer (some ta), .int .u64 386], .agg #[.pointer (some ⟨11, 55, none⟩), .pointer (some b), .int .u64 130]]).run Tryz.prog W
      = .ok (.tuple #[]) (W.setCell ta (.int .i64 n)) := by
  change (ReflectliteValue.parts (.agg #[.pointer (some ⟨11, 55, none⟩), .pointer (some ta), .int .u64 386]) >>= fun _ => ReflectliteValue.parts (.agg #[.pointer (some ⟨11, 55, none⟩), .pointer (some b), .int .u64 130]) >>= _).run _ _ = _
  simp only [Sem.run_bind, rlPartsEa, rlPartsE, Result.andThen]
  simp [ReflectliteValue.flagAddr, loadVar, isAgg, underlying, Tryz.underlying55, hb, Result.andThen, rlDirectE, storeVar, Value.cells, storeCells, Addr.add]
  rw [run_store Tryz.prog W ta _ _ (by rfl)]
  simp [ht, hf]

/-- what errors.errorType holds: the handle of the type error. -/
def Laid (w : World) : Prop := w.cell? ⟨2, 0, none⟩ = some (.iface 125 (.agg #[.pointer (some ⟨11, 29, none⟩)]))
theorem Laid.lt {w : World} (h : Laid w) : 2 < w.heap.size := by
  rcases Nat.lt_or_ge 2 w.heap.size with h' | h'
  · exact h'
  · simp [Laid, World.cell?, Array.getElem?_eq_none h'] at h
theorem Laid.below {w w' : World} (h : Laid w) (hb : Below w.heap.size w w') : Laid w' := by
  unfold Laid
  rw [hb.cell h.lt]
  exact h

/-- what a walk carries from world to world: the variable is laid, and what was there at the start is as it was. -/
def Acc (w0 w : World) : Prop := Laid w ∧ Below w0.heap.size w0 w
theorem Acc.start {w : World} (h : Laid w) : Acc w w := ⟨h, Below.refl _ _⟩
theorem Acc.step {w0 w w' : World} (h : Acc w0 w) (hb : Below w.heap.size w w') : Acc w0 w' := ⟨h.1.below hb, h.2.trans (hb.mono h.2.size)⟩

set_option maxRecDepth 100000 in
set_option maxHeartbeats 4000000 in
theorem as_hit (n : Int) (t : Addr) (old : Value) (w : World) (hg : w.cell? ⟨2, 0, none⟩ = some (.iface 125 (.agg #[.pointer (some ⟨11, 29, none⟩)]))) (ht0 : w.cell? t = some old) (hf0 : w.frozen? t = false) :
    Calls Tryz.prog 41 #[.iface 55 (.int .i64 n), .iface 84 (.pointer (some t))] w fun ev w' => ev = .returned (.bool true) ∧ ((((w.alloc (.cells #[.pointer (some t)] 84)).alloc (.cells #[.pointer (some ⟨11, 84, none⟩), .pointer (some ⟨w.heap.size, 0, none⟩), .int .u64 150] 104)).alloc (.cells #[.pointer (some ⟨11, 84, none⟩), .pointer (some ⟨w.heap.size, 0, none⟩), .int .u64 150] 104)).alloc (.cells #[.int .i64 n] 55)).setCell t (.int .i64 n) = w' := by
  have h6 := @run_callFunc_extern Tryz.prog 57 _ (fun args => ReflectliteValue.unpack (args.getD 0 (.tuple #[]))) Tryz.func57 (by kernel_rfl) (by kernel_rfl) (by kernel_rfl) (by kernel_rfl)
  have h7 := @run_callFunc_extern Tryz.prog 58 _ (ReflectliteValue.methodAny (ReflectliteValue.valueError "reflectlite.Value.Type" 0) (fun t _ _ _ => ReflectliteType.toType t)) Tryz.func58 (by kernel_rfl) (by kernel_rfl) (by kernel_rfl) (by kernel_rfl)
  have h8 := @run_callFunc_extern Tryz.prog 59 _ (ReflectliteValue.method (ReflectliteValue.valueError "reflectlite.Value.IsNil" 0) ReflectliteValue.isNil) Tryz.func59 (by kernel_rfl) (by kernel_rfl) (by kernel_rfl) (by kernel_rfl)
  have h27 := @run_callFunc_extern Tryz.prog 145 _ (ReflectliteType.abiMethod fun t => do pure (.int .u8 (← Rtype.kind t))) Tryz.func145 (by kernel_rfl) (by kernel_rfl) (by kernel_rfl) (by kernel_rfl)
  have h37 := @run_callFunc_extern Tryz.prog 156 _ (ReflectliteType.method ReflectliteType.elem) Tryz.func156 (by kernel_rfl) (by kernel_rfl) (by kernel_rfl) (by kernel_rfl)
  have h38 := @run_callFunc_extern Tryz.prog 157 _ (ReflectliteType.relation "Implements" ReflectliteType.implements_) Tryz.func157 (by kernel_rfl) (by kernel_rfl) (by kernel_rfl) (by kernel_rfl)
  have h10 := @run_callFunc_extern Tryz.prog 75 _ ReflectliteType.typeOf Tryz.func75 (by kernel_rfl) (by kernel_rfl) (by kernel_rfl) (by kernel_rfl)
  have h35 := @run_callFunc_extern Tryz.prog 154 _ (ReflectliteType.relation "AssignableTo" ReflectliteType.assignableTo) Tryz.func154 (by kernel_rfl) (by kernel_rfl) (by kernel_rfl) (by kernel_rfl)
  have h11 := @run_callFunc_extern Tryz.prog 76 _ (ReflectliteValue.method (ReflectliteValue.valueError "reflectlite.Value.Elem" 0) ReflectliteValue.elem) Tryz.func76 (by kernel_rfl) (by kernel_rfl) (by kernel_rfl) (by kernel_rfl)
  have h12 := @run_callFunc_extern Tryz.prog 77 _ ReflectliteValue.set Tryz.func77 (by kernel_rfl) (by kernel_rfl) (by kernel_rfl) (by kernel_rfl)
  have tO := rlTypeOfE
  have mA := rlMethodAssignableTo
  have a25 := rlAssignableE
  have v25 := rlValueOfE
  have f6 := rlValueOfP
  have f7 := rlTypeP
  have mK := rlMethodKind
  have mE := rlMethodElem
  have mI := rlMethodImplements
  have k27 := rlKindP
  have k25 := rlKindE
  have e27 := rlElemP
  have i25 := rlImplementsE
  have n8 := rlIsNilP ⟨w.heap.size, 0, none⟩ t ((w.alloc (.cells #[.pointer (some t)] 84)).alloc (.cells #[.pointer (some ⟨11, 84, none⟩), .pointer (some ⟨w.heap.size, 0, none⟩), .int .u64 150] 104)) (by simp)
  have hlt : 2 < w.heap.size := Laid.lt hg
  have hg2 : ((w.alloc (.cells #[.pointer (some t)] 84)).alloc (.cells #[.pointer (some ⟨11, 84, none⟩), .pointer (some ⟨w.heap.size, 0, none⟩), .int .u64 150] 104)).cell? ⟨2, 0, none⟩ = some (.iface 125 (.agg #[.pointer (some ⟨11, 29, none⟩)])) := by
    rw [World.cell?_alloc_lt _ _ ⟨2, 0, none⟩ (Nat.lt_of_lt_of_le hlt (by simp)), World.cell?_alloc_lt _ _ ⟨2, 0, none⟩ hlt]; exact hg
  have htl : t.block < w.heap.size := by
    rcases Nat.lt_or_ge t.block w.heap.size with h | h
    · exact h
    · simp [World.cell?, Array.getElem?_eq_none h] at ht0
  have el := rlElemV ⟨w.heap.size, 0, none⟩ t (((w.alloc (.cells #[.pointer (some t)] 84)).alloc (.cells #[.pointer (some ⟨11, 84, none⟩), .pointer (some ⟨w.heap.size, 0, none⟩), .int .u64 150] 104)).alloc (.cells #[.pointer (some ⟨11, 84, none⟩), .pointer (some ⟨w.heap.size, 0, none⟩), .int .u64 150] 104)) (by rw [World.cell?_alloc_lt _ _ ⟨w.heap.size, 0, none⟩ (by simp; omega)]; simp)
  have st := rlSetE t ⟨w.heap.size + 1 + 1 + 1, 0, none⟩ n old ((((w.alloc (.cells #[.pointer (some t)] 84)).alloc (.cells #[.pointer (some ⟨11, 84, none⟩), .pointer (some ⟨w.heap.size, 0, none⟩), .int .u64 150] 104)).alloc (.cells #[.pointer (some ⟨11, 84, none⟩), .pointer (some ⟨w.heap.size, 0, none⟩), .int .u64 150] 104)).alloc (.cells #[.int .i64 n] 55))
    (by rw [World.cell?_alloc_at _ _ _ _ (by simp)]; rfl)
    (by rw [World.cell?_alloc_lt _ _ t (by simp; omega), World.cell?_alloc_lt _ _ t (by simp; omega), World.cell?_alloc_lt _ _ t (by simp; omega), World.cell?_alloc_lt _ _ t htl]; exact ht0)
    (by rw [World.frozen?_alloc_old _ _ t (by simp; omega), World.frozen?_alloc_old _ _ t (by simp; omega), World.frozen?_alloc_old _ _ t (by simp; omega), World.frozen?_alloc_old _ _ t (Nat.ne_of_lt htl)]; exact hf0)
  go_enter Tryz.func41, Tryz.ntmps41
  go_wp2
  refine wp_loop_rounds 1 ?_
  rw [rounds_succ]
  go_wp2
  go_ret
  exact ⟨rfl, rfl⟩

theorem told_nil (w : World) : Calls Tryz.prog 20 #[.nilIface] w fun e w' => e = .returned (.int .i64 0) ∧ w = w' := by
  go_enter Tryz.func20, Tryz.ntmps20
  go_wp2
  go_ret
  exact ⟨rfl, rfl⟩

set_option maxHeartbeats 1000000 in
theorem told_err (n : Int) (w : World) (hg : Laid w) : Calls Tryz.prog 20 #[.iface 55 (.int .i64 n)] w fun e w' => e = .returned (.int .i64 n) ∧ Below w.heap.size w w' := by
  have hgA : (w.alloc (.cells #[.int .i64 0] 55)).cell? ⟨2, 0, none⟩ = some (.iface 125 (.agg #[.pointer (some ⟨11, 29, none⟩)])) := by
    rw [World.cell?_alloc_lt _ _ ⟨2, 0, none⟩ hg.lt]; exact hg
  have htA : (w.alloc (.cells #[.int .i64 0] 55)).cell? ⟨w.heap.size, 0, none⟩ = some (.int .i64 0) := by simp
  have hfA : (w.alloc (.cells #[.int .i64 0] 55)).frozen? ⟨w.heap.size, 0, none⟩ = false := by simp
  clear hg
  go_enter Tryz.func20, Tryz.ntmps20
  go_wp2_with (go_at_call 41; refine (as_hit _ _ _ _ hgA htA hfA).mono ?_; rintro e w' ⟨rfl, rfl⟩)
  go_ret
  refine ⟨rfl, ?_⟩
  exact ((((((Below.refl _ _).alloc (Nat.le_refl _) _).alloc (by simp) _).alloc (by simp; omega) _).alloc (by simp; omega) _).alloc (by simp; omega) _)

/-- vennsame.Error of nil. -/
theorem same_nil (n : Int) (w : World) : Calls Tryz.prog 9 #[.nilIface, .int .i64 n] w fun e w' => e = .returned (.bool (0 == n)) ∧ w = w' := by
  go_enter Tryz.func9, Tryz.ntmps9
  go_wp2_with (go_at_call 20; refine (told_nil _).mono ?_; rintro e w' ⟨rfl, rfl⟩)
  go_ret
  exact ⟨rfl, rfl⟩
/-- vennsame.Error of an Errno. -/
theorem same_err (m n : Int) (w : World) (hg : Laid w) : Calls Tryz.prog 9 #[.iface 55 (.int .i64 m), .int .i64 n] w fun e w' => e = .returned (.bool (m == n)) ∧ Below w.heap.size w w' := by
  have HG : Hid (Laid w) := hg
  clear hg
  go_enter Tryz.func9, Tryz.ntmps9
  go_wp2_with (go_at_call 20; refine (told_err _ _ HG.out).mono ?_; rintro e w' ⟨rfl, hb⟩)
  go_ret
  exact ⟨rfl, hb⟩
end Go.Proofs.YtfnkbbpjfjendaiGreatDoor

namespace Go.Proofs.YtfnkbbpjfjendaiGreatDoor
open Go.ChangeShapes Go.WideShapes Go.ChangeAt Go.RowKit

theorem merr_any (n : Int) (w : World) (hg : Laid w) : Calls Tryz.prog 9 #[errV n, .int .i64 n] w fun e w' => e = .returned (.bool true) ∧ Below w.heap.size w w' := by
  by_cases h : n = 0
  · subst h
    exact (same_nil 0 w).mono fun _ _ h => ⟨h.1, by rw [← h.2]; exact Below.refl _ _⟩
  · rw [errV_no h]
    have := same_err n n w hg
    rw [beq_self_eq_true] at this; exact this
end Go.Proofs.YtfnkbbpjfjendaiGreatDoor

namespace Go.Proofs.YtfnkbbpjfjendaiGreatDoor
open Go.RowKit

/-- what lay from block B on, and the blocks S, lie as they lay, but for the loop's own blocks R. -/
structure OverS (R S : Nat → Prop) (B : Nat) (W W' : World) : Prop where
  size : W.heap.size ≤ W'.heap.size
  same : ∀ b, (B ≤ b ∨ S b) → b < W.heap.size → ¬ R b → W'.heap[b]? = W.heap[b]?
theorem OverS.refl (R S : Nat → Prop) (B : Nat) (W : World) : OverS R S B W W := ⟨Nat.le_refl _, fun _ _ _ _ => rfl⟩
theorem OverS.trans {R S : Nat → Prop} {B : Nat} {X Y Z : World} (h : OverS R S B X Y) (k : OverS R S B Y Z) : OverS R S B X Z :=
  ⟨Nat.le_trans h.size k.size, fun b hb hl hr => (k.same b hb (Nat.lt_of_lt_of_le hl h.size) hr).trans (h.same b hb hl hr)⟩
theorem OverS.of_below {R S : Nat → Prop} {B : Nat} {W W' : World} (h : Below W.heap.size W W') : OverS R S B W W' := ⟨h.size, fun b _ hl _ => h.block b hl⟩
theorem OverS.setCell {R S : Nat → Prop} {B : Nat} {X W : World} (h : OverS R S B X W) {p : Addr} (hp : p.block < B) (hs : ¬ S p.block) (u : Value) : OverS R S B X (W.setCell p u) :=
  ⟨Nat.le_trans h.size (by simp [World.setCell]), fun b hb hl hr => (Below.heap_setCell _ _ _ _ (by rcases hb with h | h; omega; intro e; exact hs (e ▸ h))).trans (h.same b hb hl hr)⟩
/-- what lay below B, but for the blocks S, and the loop's own blocks R, lie as they lay. -/
structure KeepS (R S : Nat → Prop) (B : Nat) (W W' : World) : Prop where
  rest : Below 0 W W'
  old : ∀ b, b < B → ¬ S b → W'.heap[b]? = W.heap[b]?
  own : ∀ b, R b → b < W.heap.size → W'.heap[b]? = W.heap[b]?
theorem below_putS {B l : Nat} (W : World) (o : Obj) (h : B ≤ l) : Below B W (W.putObj l o) :=
  ⟨rfl, rfl, rfl, by simp, fun k hk => World.putObj_heap_other (by omega)⟩
theorem KeepS.putObj {R S : Nat → Prop} {B l : Nat} (W : World) (o : Obj) (h : B ≤ l) (hr : ¬ R l) : KeepS R S B W (W.putObj l o) :=
  ⟨below_putS _ _ (Nat.zero_le _), fun b hb _ => World.putObj_heap_other (by omega), fun _ hb _ => World.putObj_heap_other (fun e => hr (e ▸ hb))⟩

/-- the iterator's word: A, one behind the other, to whatever loop whose rounds leave alone what the iterator has made since. -/
def SeqS {α : Type} (n : Nat) (P : Program) (g : Nat) (lb : Array Value) (encs : α → Array Value) (A : List α) (S : Nat → Prop) (W : World) : Prop :=
  ∀ (l : Nat) (J : Nat → (Nat → Prop) → World → Prop) (Jx : Nat → World → Prop),
    (∀ k R W1 W2, J k R W1 → KeepS R S W.heap.size W1 W2 → J k R W2) →
    (∀ k x R W1, A[k]? = some x → J k R W1 → YieldAt Fence.wide (n - 1) P l (encs x) W1 fun e W' =>
      (e = .returned (.bool true) ∧ ∃ R', J (k + 1) R' W' ∧ OverS R S W.heap.size W1 W' ∧ ∀ b, R' b → R b ∨ W1.heap.size ≤ b) ∨ (e = .returned (.bool false) ∧ Jx (k + 1) W')) →
    J 0 (fun _ => False) W →
    CallsIn Fence.wide n P g (#[.func (.yield l) #[] #[]] ++ lb) W fun e W' => (∃ v, e = .returned v) ∧ ((∃ R, J A.length R W') ∨ ∃ k, k < A.length ∧ Jx (k + 1) W')

/-- how a round's body may be left. -/
def roundPostS (R S : Nat → Prop) (B : Nat) (I : Nat → (Nat → Prop) → World → Prop) (Ix : Nat → World → Prop) (k : Nat) (W : World) : Exit → Act → World → Prop
  | .normal, _, W' => OverS R S B W W' ∧ ∃ R', I (k + 1) R' W' ∧ ∀ b, R' b → R b ∨ W.heap.size ≤ b
  | .ret, _, W' => OverS R S B W W' ∧ Ix (k + 1) W'
  | _, _, _ => False

theorem wpIn_range_ownS {α : Type} {P : Program} {n : Nat} {g : Operand} {ps : Array Tmp} {assign body : Code} {Q : Exit → Act → World → Prop} {a : Act} {w : World}
    (h1 : 1 ≤ n) {gf : Nat} {lb : Array Value} (hg : a.eval g = .func (.func gf) #[] lb) (eg : ∀ args w, (callFunc gf args).run P w = .ok (.enter gf args) w)
    {encs : α → Array Value} {A : List α} {S : Nat → Prop} (hS : ∀ b, S b → b < w.heap.size) (hseq : ∀ W, Below w.heap.size w W → SeqS (n - 1) P gf lb encs A S W) (hps : ∀ x, (encs x).size = ps.size)
    (I : Nat → (Nat → Prop) → World → Prop) (Ix : Nat → World → Prop) (hI : ∀ k R W1 W2, I k R W1 → KeepS R S w.heap.size W1 W2 → I k R W2) (hIx : ∀ k W1 W2, Ix k W1 → Below w.heap.size W1 W2 → Ix k W2) (h0 : I 0 (fun _ => False) w)
    (hround : ∀ (l k : Nat) (x : α) (R : Nat → Prop) (W : World), A[k]? = some x → w.heap.size ≤ l → l < W.heap.size → ¬ R l → I k R W →
      assign.wpIn (Fence.wide.inRound l) (n - 1 - 1) P (Exit.then (fun a1 W1 => OverS (fun _ => False) S w.heap.size W W1 ∧ ∀ o, body.wpIn (Fence.wide.inRound l) (n - 1 - 1) P (roundPostS R S w.heap.size I Ix k (W1.putObj l o)) a1 (W1.putObj l o)) (fun _ _ _ => False))
        { tmps := (ps.zip (encs x)).foldl (fun t (p, v) => t.setIfInBounds p v) a.tmps, defers := [] } W)
    (hdone : ∀ (D : Nat) (R : Nat → Prop) (W : World), w.heap.size ≤ D → ¬ R D → I A.length R W → W.heap[D]? = some (.deferred (some [])) → Q .normal { a with defers := { target := .collected D, args := #[] } :: a.defers } W)
    (hstop : ∀ (D k : Nat) (W : World), w.heap.size ≤ D → k < A.length → Ix (k + 1) W → W.heap[D]? = some (.deferred (some [])) → Code.ret.wpIn Fence.wide n P Q { a with defers := { target := .collected D, args := #[] } :: a.defers } W) :
    (Code.rangeFunc g ps assign body).wpIn Fence.wide n P Q a w := by
  refine wpIn_rangeFunc ?_
  intro fn hfn
  rw [show Fence.wide.round = none from rfl]
  obtain ⟨rec, hrec⟩ : ∃ rec : LoopState → Option Code → Loop, rec = fun st pe => { state := st, pending := pe, fn, tmps := a.tmps, params := ps, assign, body, defers := w.heap.size } := ⟨_, rfl⟩
  obtain ⟨W1, hW1⟩ : ∃ W1, (w.alloc (.deferred (some []))).alloc (.loop (rec .ready none)) = W1 := ⟨_, rfl⟩
  have hs1 : W1.heap.size = w.heap.size + 1 + 1 := by rw [← hW1, World.size_alloc, World.size_alloc]
  have hL1 : W1.heap[w.heap.size + 1]? = some (.loop (rec .ready none)) := by
    rw [← hW1]; have := World.alloc_heap_new (w.alloc (.deferred (some []))) (.loop (rec .ready none)); rwa [World.size_alloc] at this
  have hK1 : W1.heap[w.heap.size]? = some (.deferred (some [])) := by
    rw [← hW1]; exact (Below.heap_alloc _ _ _ (by simp)).trans (World.alloc_heap_new w _)
  have hb1 : Below w.heap.size w W1 := by
    rw [← hW1]; exact ((Below.refl _ w).alloc (Nat.le_refl _) _).alloc (by simp) _
  have hI1 : I 0 (fun _ => False) W1 := hI _ _ _ _ h0 ⟨hb1.mono (Nat.zero_le _), fun b hb _ => hb1.block b hb, fun _ h _ => h.elim⟩
  refine ⟨w.heap.size + 1, [{ target := .collected w.heap.size, args := #[] }], W1, { target := .fn (.func gf) lb, args := #[.func (.yield (w.heap.size + 1)) #[] #[]] }, W1, gf,
    #[.func (.yield (w.heap.size + 1)) #[] #[]] ++ lb, W1, ?_, ?_, ?_, ?_, fun _ => h1, ?_⟩
  · rw [← hW1, hrec]; exact run_enterLoop_outer _ _ _ _ _
  · simp only [resolve, hg]
    simp [go_sem]
  · intro f' _; exact trivial
  · simp [invoke, go_sem, eg]
  · refine (hseq W1 hb1 (w.heap.size + 1)
      (fun k R W => I k R W ∧ (∀ b, R b → w.heap.size + 1 + 1 ≤ b) ∧ W.heap[w.heap.size + 1]? = some (.loop (rec .ready none)) ∧ W.heap[w.heap.size]? = some (.deferred (some [])))
      (fun k W => Ix k W ∧ W.heap[w.heap.size + 1]? = some (.loop (rec .done (some .ret))) ∧ W.heap[w.heap.size]? = some (.deferred (some [])))
      (fun k R X Y hs hb => ⟨hI k R X Y hs.1 ⟨hb.rest, fun b h1 h2 => hb.old b (by omega) h2, hb.own⟩, hs.2.1, (hb.old _ (by omega) (fun h => by have := hS _ h; omega)).trans hs.2.2.1, (hb.old _ (by omega) (fun h => by have := hS _ h; omega)).trans hs.2.2.2⟩)
      ?_ ⟨hI1, fun _ h => h.elim, hL1, hK1⟩).mono ?_
    · rintro k x R W hx ⟨hi, hR, hl, hk⟩
      have hlt : w.heap.size + 1 < W.heap.size := (Array.getElem?_eq_some_iff.1 hl).1
      have hR1 : ¬ R (w.heap.size + 1) := fun h => by have := hR _ h; omega
      have hR0 : ¬ R w.heap.size := fun h => by have := hR _ h; omega
      have hy := run_yield (P := P) (args := encs x) hl (by rw [hrec]; exact hps x)
      rw [hrec] at hy
      refine ⟨fn, _, assign, body, hy, roundIn_of_wpIn hfn (wpIn_mono (hround _ k x R W hx (by omega) hlt hR1 hi) ?_)⟩
      intro e a1 Wa hp
      cases e with
      | normal =>
        obtain ⟨ha, hb⟩ := hp
        have hla : Wa.heap[w.heap.size + 1]? = some (.loop (rec .ready none)) := (ha.same _ (Or.inl (by omega)) hlt id).trans hl
        have hka : Wa.heap[w.heap.size]? = some (.deferred (some [])) := (ha.same _ (Or.inl (by omega)) (by omega) id).trans hk
        have hlta : w.heap.size + 1 < Wa.heap.size := (Array.getElem?_eq_some_iff.1 hla).1
        refine ⟨_, run_beginRound hla (by rw [hrec]), ?_⟩
        have hl2 : (Wa.putObj (w.heap.size + 1) (.loop { rec .ready none with state := .busy })).heap[w.heap.size + 1]? = some (.loop { rec .ready none with state := .busy }) := World.putObj_heap_same hlta
        have hk2 : (Wa.putObj (w.heap.size + 1) (.loop { rec .ready none with state := .busy })).heap[w.heap.size]? = some (.deferred (some [])) := (World.putObj_heap_other (by omega)).trans hka
        refine wpIn_mono (hb _) ?_
        have fin : ∀ (jump : Option Code) (W3 : World), OverS R S w.heap.size (Wa.putObj (w.heap.size + 1) (.loop { rec .ready none with state := .busy })) W3 →
            (Instr.endRound (w.heap.size + 1) jump).run P W3 = .ok (.bool jump.isNone) (W3.putObj (w.heap.size + 1) (.loop (rec (if jump.isNone then .ready else .done) jump))) ∧
            (W3.putObj (w.heap.size + 1) (.loop (rec (if jump.isNone then .ready else .done) jump))).heap[w.heap.size + 1]? = some (.loop (rec (if jump.isNone then .ready else .done) jump)) ∧
            (W3.putObj (w.heap.size + 1) (.loop (rec (if jump.isNone then .ready else .done) jump))).heap[w.heap.size]? = some (.deferred (some [])) := fun jump W3 hk3 => by
          have hl3 := (hk3.same _ (Or.inl (by omega)) (by simpa using hlta) hR1).trans hl2
          have := run_endRound (P := P) jump hl3
          rw [hrec] at this ⊢
          exact ⟨this, World.putObj_heap_same (Array.getElem?_eq_some_iff.1 hl3).1, (World.putObj_heap_other (by omega)).trans ((hk3.same _ (Or.inl (by omega)) (by simp; omega) hR0).trans hk2)⟩
        rintro e a3 W3 hp
        cases e with
        | normal =>
          obtain ⟨hk3, R', hi3, hr3⟩ := hp
          obtain ⟨hr, hl4, hk4⟩ := fin none W3 hk3
          have hsz : W.heap.size ≤ Wa.heap.size := ha.size
          have hR' : ∀ b, R' b → w.heap.size + 1 + 1 ≤ b := fun b hb => by
            rcases hr3 b hb with h | h
            · exact hR b h
            · simp at h; omega
          refine ⟨_, _, hr, .inl ⟨rfl, R', ⟨hI _ _ _ _ hi3 (KeepS.putObj _ _ (by omega) fun h => by have := hR' _ h; omega), hR', hl4, hk4⟩, ?_, fun b hb => ?_⟩⟩
          · refine ⟨?_, fun b hb1 hb2 hb3 => ?_⟩
            · have := ha.size
              have := hk3.size
              simp at this
              simp
              omega
            · rw [hs1] at hb1
              have hs2 := ha.size
              have hnS : b ≠ w.heap.size + 1 := by
                rcases hb1 with h | h
                · omega
                · have := hS _ h; omega
              have hb1' : w.heap.size ≤ b ∨ S b := by
                rcases hb1 with h | h
                · exact Or.inl (by omega)
                · exact Or.inr h
              refine (World.putObj_heap_other hnS).trans ((hk3.same b hb1' (by simp; omega) hb3).trans ((World.putObj_heap_other hnS).trans (ha.same b hb1' hb2 id)))
          · rcases hr3 b hb with h | h
            · exact Or.inl h
            · right; simp at h; omega
        | ret =>
          obtain ⟨hk3, hi3⟩ := hp
          obtain ⟨hr, hl4, hk4⟩ := fin (some .ret) W3 hk3
          exact ⟨_, _, hr, .inr ⟨rfl, hIx _ _ _ hi3 (below_putS _ _ (by omega)), hl4, hk4⟩⟩
        | exit id => exact hp.elim
        | goto t => exact hp.elim
        | panic ch => exact hp.elim
        | outgrown => exact hp.elim
      | ret => exact hp.elim
      | exit id => exact hp.elim
      | goto t => exact hp.elim
      | panic ch => exact hp.elim
      | outgrown => exact hp.elim
    · rintro e W2 ⟨⟨v, rfl⟩, (⟨R, hi, hR, hl, hk⟩ | ⟨k, hkl, hi, hl, hk⟩)⟩
      · exact ⟨none, _, by have := run_endLoop (P := P) hl (by rw [hrec]; simp); rw [hrec] at this; exact this, hdone _ R _ (Nat.le_refl _) (fun h => by have := hR _ h; omega) (hI _ _ _ _ hi (KeepS.putObj _ _ (by omega) fun h => by have := hR _ h; omega)) ((World.putObj_heap_other (by omega)).trans hk)⟩
      · exact ⟨some .ret, _, by have := run_endLoop (P := P) hl (by rw [hrec]; simp); rw [hrec] at this; exact this, hstop _ k _ (Nat.le_refl _) hkl (hIx _ _ _ hi (below_putS _ _ (by omega))) ((World.putObj_heap_other (by omega)).trans hk)⟩
end Go.Proofs.YtfnkbbpjfjendaiGreatDoor

namespace Go.Proofs.YtfnkbbpjfjendaiGreatDoor
open Go.ChangeShapes Go.WideShapes Go.ChangeAt Go.RowKit
set_option maxRecDepth 100000

/-- a row of numbers lies in the blocks R. -/
def InR (R : Nat → Prop) (v : Value) (t : List Int) : Prop := 0 < t.length → ∀ b off n c, v = .slice (some ⟨b, off, none⟩) n c → R b
theorem InR.mono {R R' : Nat → Prop} {v : Value} {t : List Int} (h : InR R v t) (hR : ∀ b, R b → R' b) : InR R' v t := fun h0 b off n c e => hR b (h h0 b off n c e)
theorem Reads.inR {R : Nat → Prop} {W W' : World} {v : Value} {t : List Int} (h : Reads W v t) (hi : InR R v t) (hs : ∀ b, R b → b < W.heap.size → W'.heap[b]? = W.heap[b]?) (hz : W.heap.size ≤ W'.heap.size) : Reads W' v t := by
  rcases h with h | ⟨b, off, cap, rfl, h2, h3, h4, h5⟩
  · exact Or.inl h
  · have e : W'.heap[b]? = W.heap[b]? := hs b (hi h3 b off _ _ rfl) h2
    exact Or.inr ⟨b, off, cap, rfl, Nat.lt_of_lt_of_le h2 hz, h3, h4, fun k hk => by rw [World.cell?_of_block (w := W) (a := ⟨b, off + k, none⟩) e]; exact h5 k hk⟩
/-- the four values of an atom in a row, and where its terms lie. -/
def AtS (R : Nat → Prop) (w : World) (xs : List Value) (i : Nat) (a : At) (va : Value) : Prop :=
  ∃ vs vt, (xs[i * 4]? = some (.int .i64 a.k) ∧ xs[i * 4 + 1]? = some vs ∧ xs[i * 4 + 2]? = some vt ∧ xs[i * 4 + 3]? = some (.int .i64 a.n)) ∧ (Reads w vs a.s ∧ InR R vs a.s ∧ Apart vs a.s va) ∧ (Reads w vt a.t ∧ InR R vt a.t ∧ Apart vt a.t va)
/-- the atoms that were made, in a row of their own from block K on; all of it in the blocks R. -/
def MadeA (R : Nat → Prop) (K : Nat) (W : World) (v : Value) (ats : List At) : Prop :=
  ∃ xs, W.ownsRow K 40 4 v ats.length xs ∧ (∀ b, v.ownBlock = some b → R b) ∧ ∀ i a, ats[i]? = some a → AtS R W xs i a v
theorem made_nil (R : Nat → Prop) (K : Nat) (W : World) : MadeA R K W (.slice none 0 0) [] := ⟨[], World.ownsRow_nil _ _ _ _, (fun b e => by cases e), fun i a h => by simp at h⟩
theorem own_same {X Y : World} {K n size : Nat} {e : TypeId} {v : Value} {xs : List Value} (h : X.ownsRow K e size v n xs) (hs : ∀ b, v.ownBlock = some b → Y.heap[b]? = X.heap[b]?) : Y.ownsRow K e size v n xs := by
  refine ⟨h.1, ?_⟩
  rcases h.2 with h0 | ⟨g, cap, cur, hv, hb, hg, rest⟩
  · exact Or.inl h0
  · exact Or.inr ⟨g, cap, cur, hv, hb, (hs g (by rw [hv]; rfl)).trans hg, rest⟩
theorem MadeA.keep {R : Nat → Prop} {K : Nat} {W W' : World} {v : Value} {ats : List At} (h : MadeA R K W v ats) (hs : ∀ b, R b → b < W.heap.size → W'.heap[b]? = W.heap[b]?) (hz : W.heap.size ≤ W'.heap.size) : MadeA R K W' v ats := by
  obtain ⟨xs, h1, h2, h3⟩ := h
  refine ⟨xs, own_same h1 fun b e => hs b (h2 b e) (h1.lt b e).2, h2, fun i a ha => ?_⟩
  obtain ⟨vs, vt, c, ⟨r1, r2, r3⟩, t1, t2, t3⟩ := h3 i a ha
  exact ⟨vs, vt, c, ⟨r1.inR r2 hs hz, r2, r3⟩, t1.inR t2 hs hz, t2, t3⟩
theorem MadeA.below {R : Nat → Prop} {K : Nat} {W W' : World} {v : Value} {ats : List At} (h : MadeA R K W v ats) (hb : Below W.heap.size W W') : MadeA R K W' v ats := h.keep (fun b _ hl => hb.block b hl) hb.size
theorem MadeA.mono {R R' : Nat → Prop} {K : Nat} {W : World} {v : Value} {ats : List At} (h : MadeA R K W v ats) (hR : ∀ b, R b → R' b) : MadeA R' K W v ats := by
  obtain ⟨xs, h1, h2, h3⟩ := h
  refine ⟨xs, h1, fun b e => hR b (h2 b e), fun i a ha => ?_⟩
  obtain ⟨vs, vt, c, ⟨r1, r2, r3⟩, t1, t2, t3⟩ := h3 i a ha
  exact ⟨vs, vt, c, ⟨r1, r2.mono hR, r3⟩, t1, t2.mono hR, t3⟩
theorem MadeA.reads {R : Nat → Prop} {K : Nat} {W : World} {v : Value} {ats : List At} (h : MadeA R K W v ats) (hm : ats.length ≤ 9223372036854775807) : ReadsA W v ats := by
  obtain ⟨xs, h1, h2, h3⟩ := h
  refine own_readsA h1 rfl (fun i a ha => ?_) hm
  obtain ⟨vs, vt, ⟨c1, c2, c3, c4⟩, ⟨r1, _⟩, t1, _⟩ := h3 i a ha
  exact ⟨vs, vt, c1, c2, c3, c4, r1, t1⟩
theorem MadeA.slice {R : Nat → Prop} {K : Nat} {W : World} {v : Value} {ats : List At} (h : MadeA R K W v ats) : ∃ ao c, v = .slice ao ats.length c := by
  obtain ⟨xs, h1, _⟩ := h
  rcases h1.2 with ⟨rfl, h0⟩ | ⟨g, cap, cur, rfl, _⟩
  · exact ⟨_, _, by rw [h0]⟩
  · exact ⟨_, _, rfl⟩
/-- one atom more. -/
theorem made_more {R R' : Nat → Prop} {K H : Nat} {W W' : World} {v v' : Value} {ats : List At} {xs : List Value} {a : At} {vs vt : Value}
    (hRR : ∀ b, R b → R' b) (hH : ∀ b, H ≤ b → b < W'.heap.size → R' b) (hvH : ∀ b, v.ownBlock = some b → b < H) (hHW : H ≤ W.heap.size)
    (h1 : W.ownsRow K 40 4 v ats.length xs) (h2 : ∀ b, v.ownBlock = some b → R b) (h3 : ∀ i a, ats[i]? = some a → AtS R W xs i a v)
    (own' : W'.ownsRow K 40 4 v' (ats.length + 1) (xs ++ [.int .i64 a.k, vs, vt, .int .i64 a.n])) (hg : W.grownBy W' v.ownBlock) (hat : v'.ownBlock = v.ownBlock ∨ v'.ownBlock = some W.heap.size)
    (hs : Reads W vs a.s) (ht : Reads W vt a.t) (ns : NewV H vs) (nt : NewV H vt) : MadeA R' K W' v' (ats ++ [a]) := by
  have hl : xs.length = ats.length * 4 := h1.1
  have newR : ∀ {u : Value} {t : List Int}, Reads W u t → NewV H u → InR R' u t := by
    intro u t hr hn h0 b off n c e
    have hb := hr.lt h0 b off n c e
    obtain ⟨ao, m, d, rfl, hK⟩ := hn
    obtain ⟨e1, _, _⟩ := Value.slice.inj e
    exact hH b (hK _ e1) (Nat.lt_of_lt_of_le hb hg.size)
  refine ⟨_, by rw [List.length_append]; exact own', fun b e => ?_, fun i a' ha => ?_⟩
  · rcases hat with h | h
    · exact hRR b (h2 b (h ▸ e))
    · have hb := (own'.lt b e).2
      rw [h] at e
      have e2 := Option.some.inj e
      exact hH b (by omega) hb
  · rcases Nat.lt_or_ge i ats.length with hi | hi
    · rw [List.getElem?_append_left hi] at ha
      obtain ⟨us, ut, ⟨c1, c2, c3, c4⟩, ⟨r1, r2, r3⟩, t1, t2, t3⟩ := h3 i a' ha
      refine ⟨us, ut, ⟨?_, ?_, ?_, ?_⟩, ⟨r1.keptT hg r3, r2.mono hRR, r3.more r1 (Nat.le_refl _) hat⟩, t1.keptT hg t3, t2.mono hRR, t3.more t1 (Nat.le_refl _) hat⟩
      · rw [List.getElem?_append_left (by omega)]; exact c1
      · rw [List.getElem?_append_left (by omega)]; exact c2
      · rw [List.getElem?_append_left (by omega)]; exact c3
      · rw [List.getElem?_append_left (by omega)]; exact c4
    · rw [List.getElem?_append_right hi] at ha
      have h0 : i = ats.length := by
        rcases Nat.eq_zero_or_pos (i - ats.length) with h | h
        · omega
        · rw [List.getElem?_eq_none (by simp; omega)] at ha; cases ha
      subst h0
      rw [Nat.sub_self] at ha
      obtain rfl : a = a' := by simpa using ha
      have as' : Apart vs a.s v := Apart.new ns hvH
      have at' : Apart vt a.t v := Apart.new nt hvH
      refine ⟨vs, vt, ⟨?_, ?_, ?_, ?_⟩, ⟨hs.keptT hg as', newR hs ns, as'.more hs (Nat.le_refl _) hat⟩, ht.keptT hg at', newR ht nt, at'.more ht (Nat.le_refl _) hat⟩
      · rw [List.getElem?_append_right (by omega), hl, show ats.length * 4 - ats.length * 4 = 0 by omega]; rfl
      · rw [List.getElem?_append_right (by omega), hl, show ats.length * 4 + 1 - ats.length * 4 = 1 by omega]; rfl
      · rw [List.getElem?_append_right (by omega), hl, show ats.length * 4 + 2 - ats.length * 4 = 2 by omega]; rfl
      · rw [List.getElem?_append_right (by omega), hl, show ats.length * 4 + 3 - ats.length * 4 = 3 by omega]; rfl
theorem appendIn_atom {F : Fence} {nF : Nat} {w : World} {ops : Array Oper} {rest : List Oper} {o : Oper} {a : Act} {Q : Exit → Act → World → Prop} (hgd : o.guard = none) (s x : Operand)
    (ho : o.op = .call { callee := .builtin .append, args := #[s, x], argTypes := #[22, 22] }) (K : Nat) (v : Value) (hs : a.eval s = v) (n : Nat) (xs : List Value) (k m : Int) (vs vt : Value) (hvs : vs.oneCell' = true) (hvt : vt.oneCell' = true) (B c : Nat) (hx : a.eval x = .slice (some ⟨B, 0, none⟩) 1 c)
    (hown : w.ownsRow K 40 4 v n xs) (hB : w.heap[B]? = some (.cells #[.int .i64 k, vs, vt, .int .i64 m] 40 (0, 0))) (hK : K ≤ w.heap.size) (h12 : n ≤ 1000000)
    (h : ∀ v' w', w'.ownsRow K 40 4 v' (n + 1) (xs ++ [.int .i64 k, vs, vt, .int .i64 m]) → w.grownBy w' v.ownBlock → (v'.ownBlock = v.ownBlock ∨ v'.ownBlock = some w.heap.size) → wpListIn F nF Tryz.prog ops Q rest (a.put o.dst v') w') :
    wpListIn F nF Tryz.prog ops Q (o :: rest) a w := by
  obtain ⟨i1, hi, hz0, hz1, hz2⟩ := info_parts infoAt
  refine wpListIn_append_own_at w hgd s x 22 ho K 40 i1 _ 4 64 Tryz.underlying22 hi hz0 hz1 hz2 rfl (by decide) v n xs hs hown ⟨B, 0, none⟩ 1 c [.int .i64 k, vs, vt, .int .i64 m] hx rfl (World.news_of_block hB) (by intro u hu; simp at hu; rcases hu with rfl | rfl | rfl | rfl; rfl; exact hvs; exact hvt; rfl) (by unfold maxLen; omega) (by omega) hK ?_
  intro v' w' h1 h2 _ h5
  exact h v' w' h1 h2 h5
theorem Blk.putT {G l : Nat} {W : World} {T : TypeId} {cs : Array Value} (h : Blk W G T cs) (o : Obj) (hl : G ≠ l) : Blk (W.putObj l o) G T cs := by
  unfold Blk; rw [World.putObj_heap_other hl]; exact h
theorem resultsT {fn : Func} {p q : Tmp} {ty tz : TypeId} (h : fn.results = #[.cell p ty, .cell q tz]) (tmps : Array Value) (P : Program) (w : World) :
    (results fn tmps).run P w = ((asAddr (tmps.getD p undef)).run P w).andThen fun a w1 => ((loadVar ty a).run P w1).andThen fun v w2 => ((asAddr (tmps.getD q undef)).run P w2).andThen fun b w3 => ((loadVar tz b).run P w3).andThen fun u w4 => .ok (.tuple #[v, u]) w4 := by
  simp only [results, h]
  simp [Sem.run_bind, Result.andThen]
theorem loadAT {W : World} {R : Nat} {v : Value} (h : Blk W R 22 #[v]) : (loadVar 22 ⟨R, 0, none⟩).run Tryz.prog W = .ok v W := by
  have hc : W.cell? ⟨R, 0, none⟩ = some v := h.cell 0
  simp [loadVar, Tryz.isAgg22, Result.andThen, hc]
theorem loadET {W : World} {R : Nat} {v : Value} (h : Blk W R 29 #[v]) : (loadVar 29 ⟨R, 0, none⟩).run Tryz.prog W = .ok v W := by
  have hc : W.cell? ⟨R, 0, none⟩ = some v := h.cell 0
  simp [loadVar, Tryz.isAgg29, Result.andThen, hc]
end Go.Proofs.YtfnkbbpjfjendaiGreatDoor
