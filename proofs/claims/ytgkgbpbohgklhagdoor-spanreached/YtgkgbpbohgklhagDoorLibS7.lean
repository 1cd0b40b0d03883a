/-
  Plain facts on where a formula does not hold, whether it is sure, and on a formula that a name has at least so many things (chapter 9). No program is read here.
  Proved: what errors.As does at a target of type *api.Errno, what plain.Told returns, and what vennsame.Error answers, of a nil error and of any api.Errno; what was in memory is as it was. (Contracts that the statements lean on; after the manner of the guide's worked example Toyas.)
  Proved: what vennsame.Error returns of an error and its number (what the statements of chapter 9 lean on).
  Plain facts on some formulas together: whether they are open, and which are enough not to be (chapter 13). No program is read here.
  Plain facts on between how many things a term has in the worlds in which a formula holds (chapter 14). No program is read here.
-/
import Derived.Test.YtgkgbpbohgklhagDoorLibS6
import Derived.Test.YtgkgbpbohgklhagDoorRows
import Derived.WalkKit
import Derived.LaidEql
import Derived.Stop.Asserts
import Derived.RowKitTokens
import Derived.Test.YtgkgbpbohgklhagDoorLibS2
namespace Go.Proofs.YtgkgbpbohgklhagDoor
open Go.RowKit

def againstFault (ats : List At) (c : List Int) (u : Int) : Int := if negFault ats c = 0 then modelFault ats (c ++ [12]) u else negFault ats c
def againstW (ats : List At) (c : List Int) (u : Int) : Wd := if negFault ats c = 0 then modelW ats (c ++ [12]) u else ⟨0, 0, 0, 0⟩
def sureB (ats : List At) (c : List Int) (u : Int) : Bool := decide (againstFault ats c u = 5 ∧ formFault ats c = 0)
def sureFault (ats : List At) (c : List Int) (u : Int) : Int := if sureB ats c u = true then 0 else againstFault ats c u
theorem neg_good {ats : List At} {c : List Int} (h : negFault ats c = 0) : formFault ats c = 0 ∧ c.length ≤ 19 ∧ formFault ats (c ++ [12]) = 0 := by
  unfold negFault at h
  by_cases hf : formFault ats c = 0
  · rw [if_pos hf] at h
    by_cases h19 : 19 < c.length
    · rw [if_pos h19] at h; exact absurd h (by decide)
    · exact ⟨hf, by omega, good_no hf (by omega)⟩
  · rw [if_neg hf] at h; exact absurd h hf
theorem neg_five {ats : List At} {c : List Int} (h : negFault ats c = 5) : formFault ats c = 5 := by
  unfold negFault at h
  by_cases hf : formFault ats c = 0
  · rw [if_pos hf] at h
    by_cases h19 : 19 < c.length
    · rw [if_pos h19] at h; exact absurd h (by decide)
    · rw [if_neg h19] at h; exact absurd h (by decide)
  · rw [if_neg hf] at h; exact h
/-- the formula that a name has at least n things. -/
def manyA (name n : Int) : List At := [⟨3, [name], [], n⟩]
/-- what a world has of a name. -/
def Wd.has (w : Wd) : Nat → Int
  | 0 => w.a
  | 1 => w.b
  | _ => w.c
theorem many_facts : ∀ name : Nat, name < 3 → ∀ n : Nat, n < 6 → modelFault (manyA (name : Int) ((n : Int) + 1)) [0] ((n : Int) + 1) = 0 ∧ (modelW (manyA (name : Int) ((n : Int) + 1)) [0] ((n : Int) + 1)).has name + 1 = pw (n + 1) ∧ modelFault (manyA (name : Int) ((n : Int) + 1)) [0] (n : Int) = 5 ∧ sureB (manyA (name : Int) ((n : Int) + 1)) [0] (n : Int) = false ∧ sureFault (manyA (name : Int) ((n : Int) + 1)) [0] (n : Int) = 0 := by decide +kernel
theorem model_zero {ats : List At} {c : List Int} {u : Int} (h : modelFault ats c u = 0) : formFault ats c = 0 ∧ (modelW ats c u).ok = true ∧ (modelW ats c u).u = u ∧ (modelW ats c u).formIs ats c = true := by
  have h0 := h
  unfold modelFault at h
  by_cases hf : formFault ats c = 0
  · rw [if_pos hf] at h
    cases hL : cubesC c with
    | none => rw [hL] at h; have h : (4 : Int) = 0 := h; omega
    | some L =>
      rw [hL] at h
      have h : (if 0 ≤ u ∧ u ≤ 6 then (if (modelL ats u.toNat L).isSome = true then (0 : Int) else 5) else 1) = 0 := h
      by_cases hu : 0 ≤ u ∧ u ≤ 6
      · rw [if_pos hu] at h
        cases hm : modelL ats u.toNat L with
        | none => rw [hm] at h; have h : (5 : Int) = 0 := h; omega
        | some N =>
          have e : modelW ats c u = madeN N 8 := by
            unfold modelW modelN
            rw [if_pos h0, hL]
            show madeN ((modelL ats u.toNat L).getD zeroC) 8 = _
            rw [hm]; rfl
          obtain ⟨_, g2, g3, g4⟩ := model_holds hf hL (by omega) hm
          rw [e]
          exact ⟨hf, g2, by rw [g3]; omega, g4⟩
      · rw [if_neg hu] at h; exact absurd h (by decide)
  · rw [if_neg hf] at h; exact absurd h hf
theorem model_five {ats : List At} {c : List Int} {u : Int} (h : modelFault ats c u = 5) (hf : formFault ats c = 0) {w : Wd} (hw : w.ok = true) (hwu : w.u = u) : w.formIs ats c = false := by
  unfold modelFault at h
  rw [if_pos hf] at h
  cases hL : cubesC c with
  | none => rw [hL] at h; have h : (4 : Int) = 5 := h; omega
  | some L =>
    rw [hL] at h
    have h : (if 0 ≤ u ∧ u ≤ 6 then (if (modelL ats u.toNat L).isSome = true then (0 : Int) else 5) else 1) = 5 := h
    by_cases hu : 0 ≤ u ∧ u ≤ 6
    · rw [if_pos hu] at h
      cases hm : modelL ats u.toNat L with
      | none => exact model_never hf hL hm hw (by rw [hwu]; omega)
      | some N => rw [hm] at h; have h : (0 : Int) = 5 := h; omega
    · rw [if_neg hu] at h; exact absurd h (by decide)
theorem formIs_no {ats : List At} {c : List Int} (hf : formFault ats c = 0) (h19 : c.length ≤ 19) {w : Wd} (hw : w.ok = true) : w.formIs ats (c ++ [12]) = !w.formIs ats c := by
  unfold Wd.formIs
  rw [if_pos (wdForm_zero.2 ⟨hf, hw⟩), if_pos (wdForm_zero.2 ⟨good_no hf h19, hw⟩)]
  exact val_no _ (formFault_zero.1 hf).2.2.2.2
theorem one_facts : modelFault (manyA 0 2) [0] 2 = 0 ∧ modelW (manyA 0 2) [0] 2 = ⟨2, 3, 3, 3⟩ ∧ modelFault (manyA 0 2) [0] 1 = 5 ∧ modelW (manyA 0 2) [0] 1 = ⟨0, 0, 0, 0⟩ := by
  have h : modelFault (manyA 0 2) [0] 2 = 0 ∧ ((modelW (manyA 0 2) [0] 2).u = 2 ∧ (modelW (manyA 0 2) [0] 2).a = 3 ∧ (modelW (manyA 0 2) [0] 2).b = 3 ∧ (modelW (manyA 0 2) [0] 2).c = 3) ∧ modelFault (manyA 0 2) [0] 1 = 5 := by decide +kernel
  obtain ⟨h1, ⟨h2, h3, h4, h5⟩, h6⟩ := h
  refine ⟨h1, ?_, h6, by unfold modelW; rw [if_neg (by rw [h6]; decide)]⟩
  cases e : modelW (manyA 0 2) [0] 2 with
  | mk u a b c => rw [e] at h2 h3 h4 h5; simp only at h2 h3 h4 h5; rw [h2, h3, h4, h5]
end Go.Proofs.YtgkgbpbohgklhagDoor

namespace Go.Proofs.YtgkgbpbohgklhagDoor
open Go.RowKit Go.Extern.Stop Go.Stop Go.Extern
set_option maxRecDepth 100000

/-! ### closed facts on the model's entries for internal/reflectlite, at this program's numbers -/
theorem rlValueOfP (t : Addr) (w : World) : (ReflectliteValue.unpack (.iface 95 (.pointer (some t)))).run Tryd.prog w
    = .ok (.agg #[.pointer (some ⟨2, 95, none⟩), .pointer (some ⟨w.heap.size, 0, none⟩), .int .u64 150]) (w.alloc (.cells #[.pointer (some t)] 95)) := by kernel_rfl
theorem rlTypeP (a : Addr) (w : World) : (ReflectliteValue.methodAny (ReflectliteValue.valueError "reflectlite.Value.Type" 0) (fun t _ _ _ => ReflectliteType.toType t) #[.agg #[.pointer (some ⟨2, 95, none⟩), .pointer (some a), .int .u64 150]]).run Tryd.prog w
    = .ok (.iface 136 (.agg #[.pointer (some ⟨2, 95, none⟩)])) w := by kernel_rfl
theorem rlMethodKind (h : Value) (w : World) : (Go.method 283 136 (.agg #[h]) "Kind").run Tryd.prog w = .ok (106, h) w := by kernel_rfl
theorem rlKindP (w : World) : ((ReflectliteType.abiMethod fun t => (fun a : Nat => Value.int IntKind.u8 (a : Int)) <$> Rtype.kind t) #[.pointer (some ⟨2, 95, none⟩)]).run Tryd.prog w = .ok (.int .u8 22) w := by kernel_rfl
theorem rlKindE (w : World) : ((ReflectliteType.abiMethod fun t => (fun a : Nat => Value.int IntKind.u8 (a : Int)) <$> Rtype.kind t) #[.pointer (some ⟨2, 64, none⟩)]).run Tryd.prog w = .ok (.int .u8 2) w := by kernel_rfl

/-! ### the entries that read or write memory -/
theorem rlPartsP (a : Addr) (w : World) : (ReflectliteValue.parts (.agg #[.pointer (some ⟨2, 95, none⟩), .pointer (some a), .int .u64 150])).run Tryd.prog w = .ok (some (95, a, 150)) w := by kernel_rfl
theorem rlIsNilP (a p : Addr) (W : World) (ha : W.cell? a = some (.pointer (some p))) :
    (ReflectliteValue.method (ReflectliteValue.valueError "reflectlite.Value.IsNil" 0) ReflectliteValue.isNil #[.agg #[.pointer (some ⟨2, 95, none⟩), .pointer (some a), .int .u64 150]]).run Tryd.prog W = .ok (.bool false) W := by
  change (ReflectliteValue.parts (.agg #[.pointer (some ⟨2, 95, none⟩), .pointer (some a), .int .u64 150]) >>= _).run _ _ = _
  simp only [Sem.run_bind, rlPartsP, Result.andThen]
  simp [ReflectliteValue.isNil, loadVar, isAgg, underlying, Tryd.underlying95, ha, Result.andThen]

theorem rlMethodElem (h : Value) (w : World) : (Go.method 283 136 (.agg #[h]) "Elem").run Tryd.prog w = .ok (117, .agg #[h]) w := by kernel_rfl
theorem rlMethodImplements (h : Value) (w : World) : (Go.method 283 136 (.agg #[h]) "Implements").run Tryd.prog w = .ok (118, .agg #[h]) w := by kernel_rfl
theorem rlMethodAssignableTo (h : Value) (w : World) : (Go.method 283 136 (.agg #[h]) "AssignableTo").run Tryd.prog w = .ok (115, .agg #[h]) w := by kernel_rfl
theorem rlElemP (w : World) : (ReflectliteType.method ReflectliteType.elem #[.agg #[.pointer (some ⟨2, 95, none⟩)]]).run Tryd.prog w = .ok (.iface 136 (.agg #[.pointer (some ⟨2, 64, none⟩)])) w := by kernel_rfl
theorem rlImplementsE (w : World) : (ReflectliteType.relation "Implements" ReflectliteType.implements_ #[.agg #[.pointer (some ⟨2, 64, none⟩)], .iface 136 (.agg #[.pointer (some ⟨2, 26, none⟩)])]).run Tryd.prog w = .ok (.bool true) w := by kernel_rfl
theorem rlTypeOfE (v : Value) (w : World) : (ReflectliteType.typeOf #[.iface 64 v]).run Tryd.prog w = .ok (.iface 136 (.agg #[.pointer (some ⟨2, 64, none⟩)])) w := by kernel_rfl
theorem rlAssignableE (w : World) : (ReflectliteType.relation "AssignableTo" ReflectliteType.assignableTo #[.agg #[.pointer (some ⟨2, 64, none⟩)], .iface 136 (.agg #[.pointer (some ⟨2, 64, none⟩)])]).run Tryd.prog w = .ok (.bool true) w := by kernel_rfl
theorem rlValueOfE (n : Int) (w : World) : (ReflectliteValue.unpack (.iface 64 (.int .i64 n))).run Tryd.prog w
    = .ok (.agg #[.pointer (some ⟨2, 64, none⟩), .pointer (some ⟨w.heap.size, 0, none⟩), .int .u64 130]) (w.alloc (.cells #[.int .i64 n] 64)) := by kernel_rfl

theorem rlElemOfP (w : World) : (Rtype.elem? 95).run Tryd.prog w = .ok (some 64) w := by kernel_rfl
theorem rlMkE (p : Addr) (w : World) : (ReflectliteValue.mk 64 p ReflectliteValue.flagAddr).run Tryd.prog w = .ok (.agg #[.pointer (some ⟨2, 64, none⟩), .pointer (some p), .int .u64 386]) w := by kernel_rfl
theorem rlElemV (a p : Addr) (W : World) (ha : W.cell? a = some (.pointer (some p))) :
    (ReflectliteValue.method (ReflectliteValue.valueError "reflectlite.Value.Elem" 0) ReflectliteValue.elem #[.agg #[.pointer (some ⟨2, 95, none⟩), .pointer (some a), .int .u64 150]]).run Tryd.prog W
      = .ok (.agg #[.pointer (some ⟨2, 64, none⟩), .pointer (some p), .int .u64 386]) W := by
  change (ReflectliteValue.parts (.agg #[.pointer (some ⟨2, 95, none⟩), .pointer (some a), .int .u64 150]) >>= _).run _ _ = _
  simp only [Sem.run_bind, rlPartsP, Result.andThen]
  simp [ReflectliteValue.elem, loadVar, isAgg, underlying, Tryd.underlying95, ha, Result.andThen, rlElemOfP, rlMkE]
theorem rlPartsEa (a : Addr) (w : World) : (ReflectliteValue.parts (.agg #[.pointer (some ⟨2, 64, none⟩), .pointer (some a), .int .u64 386])).run Tryd.prog w = .ok (some (64, a, 386)) w := by kernel_rfl
theorem rlPartsE (a : Addr) (w : World) : (ReflectliteValue.parts (.agg #[.pointer (some ⟨2, 64, none⟩), .pointer (some a), .int .u64 130])).run Tryd.prog w = .ok (some (64, a, 130)) w := by kernel_rfl
theorem rlDirectE (w : World) : (Rtype.directlyAssignable 64 64).run Tryd.prog w = .ok true w := by kernel_rfl
theorem rlSetE (ta b : Addr) (n : Int) (old : Value) (W : World) (hb : W.cell? b = some (.int .i64 n)) (ht : W.cell? ta = some old) (hf : W.frozen? ta = false) :
    (ReflectliteValue.set #[.agg #[.pointer (some ⟨2, 64, none⟩), .pointer (some ta), .int .u64 386], .agg #[.pointer (some ⟨2, 64, none⟩), .pointer (some b), .int .u64 130]]).run Tryd.prog W
      = .ok (.tuple #[]) (W.setCell ta (.int .i64 n)) := by
  change (ReflectliteValue.parts (.agg #[.pointer (some ⟨2, 64, none⟩), .pointer (some ta), .int .u64 386]) >>= fun _ => ReflectliteValue.parts (.agg #[.pointer (some ⟨2, 64, none⟩), .pointer (some b), .int .u64 130]) >>= _).run _ _ = _
  simp only [Sem.run_bind, rlPartsEa, rlPartsE, Result.andThen]
  simp [ReflectliteValue.flagAddr, loadVar, isAgg, underlying, Tryd.underlying64, hb, Result.andThen, rlDirectE, storeVar, Value.cells, storeCells, Addr.add]
  rw [run_store Tryd.prog W ta _ _ (by rfl)]
  simp [ht, hf]

/-- what errors.errorType holds: the handle of the type error. -/
def Laid (w : World) : Prop := w.cell? ⟨1, 0, none⟩ = some (.iface 136 (.agg #[.pointer (some ⟨2, 26, none⟩)]))
theorem Laid.lt {w : World} (h : Laid w) : 1 < w.heap.size := by
  rcases Nat.lt_or_ge 1 w.heap.size with h' | h'
  · exact h'
  · simp [Laid, World.cell?, Array.getElem?_eq_none h'] at h
theorem Laid.below {w w' : World} (h : Laid w) (hb : Below w.heap.size w w') : Laid w' := by
  unfold Laid
  rw [hb.cell h.lt]
  exact h

/-- what a walk carries from world to world: the variable is laid, and what was there at the start is as it was. -/
def Acc (w0 w : World) : Prop := Laid w ∧ Below w0.heap.size w0 w
theorem Acc.start {w : World} (h : Laid w) : Acc w w := ⟨h, Below.refl _ _⟩
theorem Acc.step {w0 w w' : World} (h : Acc w0 w) (hb : Below w.heap.size w w') : Acc w0 w' := ⟨h.1.below hb, h.2.trans (hb.mono h.2.size)⟩

set_option maxRecDepth 100000 in
set_option maxHeartbeats 4000000 in
theorem as_hit (n : Int) (t : Addr) (old : Value) (w : World) (hg : w.cell? ⟨1, 0, none⟩ = some (.iface 136 (.agg #[.pointer (some ⟨2, 26, none⟩)]))) (ht0 : w.cell? t = some old) (hf0 : w.frozen? t = false) :
    Calls Tryd.prog 54 #[.iface 64 (.int .i64 n), .iface 95 (.pointer (some t))] w fun ev w' => ev = .returned (.bool true) ∧ ((((w.alloc (.cells #[.pointer (some t)] 95)).alloc (.cells #[.pointer (some ⟨2, 95, none⟩), .pointer (some ⟨w.heap.size, 0, none⟩), .int .u64 150] 120)).alloc (.cells #[.pointer (some ⟨2, 95, none⟩), .pointer (some ⟨w.heap.size, 0, none⟩), .int .u64 150] 120)).alloc (.cells #[.int .i64 n] 64)).setCell t (.int .i64 n) = w' := by
  have h6 := @run_callFunc_extern Tryd.prog 76 _ (fun args => ReflectliteValue.unpack (args.getD 0 (.tuple #[]))) Tryd.func76 (by kernel_rfl) (by kernel_rfl) (by kernel_rfl) (by kernel_rfl)
  have h7 := @run_callFunc_extern Tryd.prog 77 _ (ReflectliteValue.methodAny (ReflectliteValue.valueError "reflectlite.Value.Type" 0) (fun t _ _ _ => ReflectliteType.toType t)) Tryd.func77 (by kernel_rfl) (by kernel_rfl) (by kernel_rfl) (by kernel_rfl)
  have h8 := @run_callFunc_extern Tryd.prog 78 _ (ReflectliteValue.method (ReflectliteValue.valueError "reflectlite.Value.IsNil" 0) ReflectliteValue.isNil) Tryd.func78 (by kernel_rfl) (by kernel_rfl) (by kernel_rfl) (by kernel_rfl)
  have h27 := @run_callFunc_extern Tryd.prog 106 _ (ReflectliteType.abiMethod fun t => do pure (.int .u8 (← Rtype.kind t))) Tryd.func106 (by kernel_rfl) (by kernel_rfl) (by kernel_rfl) (by kernel_rfl)
  have h37 := @run_callFunc_extern Tryd.prog 117 _ (ReflectliteType.method ReflectliteType.elem) Tryd.func117 (by kernel_rfl) (by kernel_rfl) (by kernel_rfl) (by kernel_rfl)
  have h38 := @run_callFunc_extern Tryd.prog 118 _ (ReflectliteType.relation "Implements" ReflectliteType.implements_) Tryd.func118 (by kernel_rfl) (by kernel_rfl) (by kernel_rfl) (by kernel_rfl)
  have h10 := @run_callFunc_extern Tryd.prog 86 _ ReflectliteType.typeOf Tryd.func86 (by kernel_rfl) (by kernel_rfl) (by kernel_rfl) (by kernel_rfl)
  have h35 := @run_callFunc_extern Tryd.prog 115 _ (ReflectliteType.relation "AssignableTo" ReflectliteType.assignableTo) Tryd.func115 (by kernel_rfl) (by kernel_rfl) (by kernel_rfl) (by kernel_rfl)
  have h11 := @run_callFunc_extern Tryd.prog 87 _ (ReflectliteValue.method (ReflectliteValue.valueError "reflectlite.Value.Elem" 0) ReflectliteValue.elem) Tryd.func87 (by kernel_rfl) (by kernel_rfl) (by kernel_rfl) (by kernel_rfl)
  have h12 := @run_callFunc_extern Tryd.prog 88 _ ReflectliteValue.set Tryd.func88 (by kernel_rfl) (by kernel_rfl) (by kernel_rfl) (by kernel_rfl)
  have tO := rlTypeOfE
  have mA := rlMethodAssignableTo
  have a25 := rlAssignableE
  have v25 := rlValueOfE
  have f6 := rlValueOfP
  have f7 := rlTypeP
  have mK := rlMethodKind
  have mE := rlMethodElem
  have mI := rlMethodImplements
  have k27 := rlKindP
  have k25 := rlKindE
  have e27 := rlElemP
  have i25 := rlImplementsE
  have n8 := rlIsNilP ⟨w.heap.size, 0, none⟩ t ((w.alloc (.cells #[.pointer (some t)] 95)).alloc (.cells #[.pointer (some ⟨2, 95, none⟩), .pointer (some ⟨w.heap.size, 0, none⟩), .int .u64 150] 120)) (by simp)
  have hlt : 1 < w.heap.size := Laid.lt hg
  have hg2 : ((w.alloc (.cells #[.pointer (some t)] 95)).alloc (.cells #[.pointer (some ⟨2, 95, none⟩), .pointer (some ⟨w.heap.size, 0, none⟩), .int .u64 150] 120)).cell? ⟨1, 0, none⟩ = some (.iface 136 (.agg #[.pointer (some ⟨2, 26, none⟩)])) := by
    rw [World.cell?_alloc_lt _ _ ⟨1, 0, none⟩ (Nat.lt_of_lt_of_le hlt (by simp)), World.cell?_alloc_lt _ _ ⟨1, 0, none⟩ hlt]; exact hg
  have htl : t.block < w.heap.size := by
    rcases Nat.lt_or_ge t.block w.heap.size with h | h
    · exact h
    · simp [World.cell?, Array.getElem?_eq_none h] at ht0
  have el := rlElemV ⟨w.heap.size, 0, none⟩ t (((w.alloc (.cells #[.pointer (some t)] 95)).alloc (.cells #[.pointer (some ⟨2, 95, none⟩), .pointer (some ⟨w.heap.size, 0, none⟩), .int .u64 150] 120)).alloc (.cells #[.pointer (some ⟨2, 95, none⟩), .pointer (some ⟨w.heap.size, 0, none⟩), .int .u64 150] 120)) (by rw [World.cell?_alloc_lt _ _ ⟨w.heap.size, 0, none⟩ (by simp; omega)]; simp)
  have st := rlSetE t ⟨w.heap.size + 1 + 1 + 1, 0, none⟩ n old ((((w.alloc (.cells #[.pointer (some t)] 95)).alloc (.cells #[.pointer (some ⟨2, 95, none⟩), .pointer (some ⟨w.heap.size, 0, none⟩), .int .u64 150] 120)).alloc (.cells #[.pointer (some ⟨2, 95, none⟩), .pointer (some ⟨w.heap.size, 0, none⟩), .int .u64 150] 120)).alloc (.cells #[.int .i64 n] 64))
    (by rw [World.cell?_alloc_at _ _ _ _ (by simp)]; rfl)
    (by rw [World.cell?_alloc_lt _ _ t (by simp; omega), World.cell?_alloc_lt _ _ t (by simp; omega), World.cell?_alloc_lt _ _ t (by simp; omega), World.cell?_alloc_lt _ _ t htl]; exact ht0)
    (by rw [World.frozen?_alloc_old _ _ t (by simp; omega), World.frozen?_alloc_old _ _ t (by simp; omega), World.frozen?_alloc_old _ _ t (by simp; omega), World.frozen?_alloc_old _ _ t (Nat.ne_of_lt htl)]; exact hf0)
  go_enter Tryd.func54, Tryd.ntmps54
  go_wp2
  refine wp_loop_rounds 1 ?_
  rw [rounds_succ]
  go_wp2
  go_ret
  exact ⟨rfl, rfl⟩

theorem told_nil (w : World) : Calls Tryd.prog 28 #[.nilIface] w fun e w' => e = .returned (.int .i64 0) ∧ w = w' := by
  go_enter Tryd.func28, Tryd.ntmps28
  go_wp2
  go_ret
  exact ⟨rfl, rfl⟩

set_option maxHeartbeats 1000000 in
theorem told_err (n : Int) (w : World) (hg : Laid w) : Calls Tryd.prog 28 #[.iface 64 (.int .i64 n)] w fun e w' => e = .returned (.int .i64 n) ∧ Below w.heap.size w w' := by
  have hgA : (w.alloc (.cells #[.int .i64 0] 64)).cell? ⟨1, 0, none⟩ = some (.iface 136 (.agg #[.pointer (some ⟨2, 26, none⟩)])) := by
    rw [World.cell?_alloc_lt _ _ ⟨1, 0, none⟩ hg.lt]; exact hg
  have htA : (w.alloc (.cells #[.int .i64 0] 64)).cell? ⟨w.heap.size, 0, none⟩ = some (.int .i64 0) := by simp
  have hfA : (w.alloc (.cells #[.int .i64 0] 64)).frozen? ⟨w.heap.size, 0, none⟩ = false := by simp
  clear hg
  go_enter Tryd.func28, Tryd.ntmps28
  go_wp2_with (go_at_call 54; refine (as_hit _ _ _ _ hgA htA hfA).mono ?_; rintro e w' ⟨rfl, rfl⟩)
  go_ret
  refine ⟨rfl, ?_⟩
  exact ((((((Below.refl _ _).alloc (Nat.le_refl _) _).alloc (by simp) _).alloc (by simp; omega) _).alloc (by simp; omega) _).alloc (by simp; omega) _)

/-- vennsame.Error of nil. -/
theorem same_nil (n : Int) (w : World) : Calls Tryd.prog 11 #[.nilIface, .int .i64 n] w fun e w' => e = .returned (.bool (0 == n)) ∧ w = w' := by
  go_enter Tryd.func11, Tryd.ntmps11
  go_wp2_with (go_at_call 28; refine (told_nil _).mono ?_; rintro e w' ⟨rfl, rfl⟩)
  go_ret
  exact ⟨rfl, rfl⟩
/-- vennsame.Error of an Errno. -/
theorem same_err (m n : Int) (w : World) (hg : Laid w) : Calls Tryd.prog 11 #[.iface 64 (.int .i64 m), .int .i64 n] w fun e w' => e = .returned (.bool (m == n)) ∧ Below w.heap.size w w' := by
  have HG : Hid (Laid w) := hg
  clear hg
  go_enter Tryd.func11, Tryd.ntmps11
  go_wp2_with (go_at_call 28; refine (told_err _ _ HG.out).mono ?_; rintro e w' ⟨rfl, hb⟩)
  go_ret
  exact ⟨rfl, hb⟩
end Go.Proofs.YtgkgbpbohgklhagDoor

namespace Go.Proofs.YtgkgbpbohgklhagDoor
open Go.ChangeShapes Go.WideShapes Go.ChangeAt Go.RowKit

theorem merr_any (n : Int) (w : World) (hg : Laid w) : Calls Tryd.prog 11 #[errV n, .int .i64 n] w fun e w' => e = .returned (.bool true) ∧ Below w.heap.size w w' := by
  by_cases h : n = 0
  · subst h
    exact (same_nil 0 w).mono fun _ _ h => ⟨h.1, by rw [← h.2]; exact Below.refl _ _⟩
  · rw [errV_no h]
    have := same_err n n w hg
    rw [beq_self_eq_true] at this; exact this
end Go.Proofs.YtgkgbpbohgklhagDoor

namespace Go.Proofs.YtgkgbpbohgklhagDoor
open Go.RowKit

structure Fm where
  ats : List At
  c : List Int
def fmZ : Fm := ⟨[], []⟩
def Fm.fault (f : Fm) : Int := formFault f.ats f.c
/-- do all hold in a world? -/
def Wd.so (w : Wd) (fs : List Fm) : Bool := fs.all fun f => w.formIs f.ats f.c
/-- what is wrong with the first that is wrong. -/
def firstForm : List Fm → Int
  | [] => 0
  | f :: l => if f.fault = 0 then firstForm l else f.fault
def formsFault (fs : List Fm) (u : Int) : Int := if fs.length = 0 then 5 else if 6 < fs.length then 4 else if firstForm fs = 0 then (if 0 ≤ u ∧ u ≤ 6 then 0 else 1) else firstForm fs
/-- is there a world of u things in which all hold? -/
def openN (fs : List Fm) (u : Nat) : Bool := (everyC u).any fun N => (madeN N 8).so fs
def openB (fs : List Fm) (u : Int) : Bool := if formsFault fs u = 0 then openN fs u.toNat else false

theorem firstForm_zero {fs : List Fm} : firstForm fs = 0 ↔ ∀ f ∈ fs, f.fault = 0 := by
  induction fs with
  | nil => exact ⟨fun _ f hf => (by cases hf), fun _ => rfl⟩
  | cons f l ih =>
    unfold firstForm
    by_cases h : f.fault = 0
    · rw [if_pos h, ih]
      exact ⟨fun g x hx => by
        rcases List.mem_cons.1 hx with rfl | hx
        · exact h
        · exact g x hx, fun g x hx => g x (List.mem_cons_of_mem _ hx)⟩
    · rw [if_neg h]
      exact ⟨fun g => absurd g h, fun g => absurd (g f List.mem_cons_self) h⟩
theorem firstForm_at {fs : List Fm} {k : Nat} {f : Fm} (hk : fs[k]? = some f) (h : ∀ j, j < k → ∀ g, fs[j]? = some g → g.fault = 0) (hf : ¬ f.fault = 0) : firstForm fs = f.fault := by
  induction fs generalizing k with
  | nil => simp at hk
  | cons g l ih =>
    unfold firstForm
    cases k with
    | zero =>
      obtain rfl : g = f := by simpa using hk
      rw [if_neg hf]
    | succ k =>
      rw [if_pos (h 0 (by omega) g rfl)]
      exact ih (by simpa using hk) fun j hj x hx => h (j + 1) (by omega) x (by simpa using hx)
theorem forms_zero {fs : List Fm} {u : Int} : formsFault fs u = 0 ↔ (1 ≤ fs.length ∧ fs.length ≤ 6) ∧ (∀ f ∈ fs, f.fault = 0) ∧ 0 ≤ u ∧ u ≤ 6 := by
  unfold formsFault
  by_cases h0 : fs.length = 0
  · rw [if_pos h0]; exact ⟨fun h => absurd h (by decide), fun h => by omega⟩
  · rw [if_neg h0]
    by_cases h6 : 6 < fs.length
    · rw [if_pos h6]; exact ⟨fun h => absurd h (by decide), fun h => by omega⟩
    · rw [if_neg h6]
      by_cases hf : firstForm fs = 0
      · rw [if_pos hf]
        by_cases hu : 0 ≤ u ∧ u ≤ 6
        · rw [if_pos hu]; exact ⟨fun _ => ⟨⟨by omega, by omega⟩, firstForm_zero.1 hf, hu⟩, fun _ => rfl⟩
        · rw [if_neg hu]; exact ⟨fun h => absurd h (by decide), fun h => absurd h.2.2 hu⟩
      · rw [if_neg hf]; exact ⟨fun h => absurd h hf, fun h => absurd (firstForm_zero.2 h.2.1) hf⟩
/-- in a world where all hold they are open. -/
theorem open_of {fs : List Fm} {w : Wd} (hw : w.ok = true) {u : Int} (hu : w.u = u) (h : w.so fs = true) : openN fs u.toNat = true := by
  have hcf := counts_fc hw
  have hsum : sumN (w.fc w.u.toNat) 8 = ((u.toNat : Nat) : Int) := by rw [sum_fc, hu]
  obtain ⟨A, hA, hAw⟩ := everyC_all (u := u.toNat) (fun g hg => ((counts_zero.1 hcf).1 g hg).1) hsum
  unfold openN
  rw [List.any_eq_true]
  refine ⟨A, hA, ?_⟩
  have e : ∀ k, k ≤ 8 → madeN A k = madeN (w.fc w.u.toNat) k := by
    intro k
    induction k with
    | zero => intro _; rfl
    | succ k ih => intro hk; unfold madeN; rw [ih (by omega), hAw k (by omega)]
  unfold Wd.so at h ⊢
  rw [List.all_eq_true] at h ⊢
  intro f hf
  rw [e 8 (Nat.le_refl _), (alike_made hw).form f.ats f.c]
  exact h f hf
/-- what is open has a world. -/
theorem open_has {fs : List Fm} {u : Nat} (hu : u ≤ 6) (h : openN fs u = true) : ∃ w : Wd, w.ok = true ∧ w.u = u ∧ w.so fs = true := by
  unfold openN at h
  rw [List.any_eq_true] at h
  obtain ⟨N, hN, hs⟩ := h
  have hc := everyC_right hu hN
  exact ⟨madeN N 8, made_ok hc, by rw [made_u hc, (everyC_sum hN).2], hs⟩
theorem open_less {fs gs : List Fm} {u : Nat} (h : ∀ f ∈ gs, f ∈ fs) (ho : openN fs u = true) : openN gs u = true := by
  unfold openN at ho ⊢
  rw [List.any_eq_true] at ho ⊢
  obtain ⟨N, hN, hs⟩ := ho
  refine ⟨N, hN, ?_⟩
  unfold Wd.so at hs ⊢
  rw [List.all_eq_true] at hs ⊢
  exact fun f hf => hs f (h f hf)
theorem open_nil (u : Nat) : openN [] u = true := by
  unfold openN
  rw [List.any_eq_true]
  cases h : everyC u with
  | nil => exact absurd h (allF_ne 7 u _)
  | cons N A => exact ⟨N, List.mem_cons_self, rfl⟩

/-- the worlds of all counts, in order. -/
def worldsL (u : Nat) : List Wd := (everyC u).map fun N => madeN N 8
theorem worldsL_length (u : Nat) : (worldsL u).length = (everyC u).length := by unfold worldsL; rw [List.length_map]
theorem worldsL_ok {u : Nat} (hu : u ≤ 6) {D : Wd} (h : D ∈ worldsL u) : D.ok = true := by
  unfold worldsL at h
  obtain ⟨N, hN, rfl⟩ := List.mem_map.1 h
  exact made_ok (everyC_right hu hN)

/-- in the list of all worlds is one like this. -/
theorem worldsL_like {w : Wd} (hw : w.ok = true) {u : Nat} (hu : w.u = u) : ∃ D ∈ worldsL u, Alike w D := by
  have hcf := counts_fc hw
  have hsum : sumN (w.fc w.u.toNat) 8 = (u : Int) := by rw [sum_fc, hu, Int.toNat_natCast]
  obtain ⟨A, hA, hAw⟩ := everyC_all (u := u) (fun g hg => ((counts_zero.1 hcf).1 g hg).1) hsum
  have e : ∀ k, k ≤ 8 → madeN A k = madeN (w.fc w.u.toNat) k := by
    intro k
    induction k with
    | zero => intro _; rfl
    | succ k ih => intro hk; unfold madeN; rw [ih (by omega), hAw k (by omega)]
  refine ⟨madeN A 8, List.mem_map.2 ⟨A, hA, rfl⟩, ?_⟩
  rw [e 8 (Nat.le_refl _)]
  exact alike_made hw
theorem worldsL_u {u : Nat} (hu : u ≤ 6) {D : Wd} (h : D ∈ worldsL u) : D.u = u := by
  unfold worldsL at h
  obtain ⟨N, hN, rfl⟩ := List.mem_map.1 h
  rw [made_u (everyC_right hu hN), (everyC_sum hN).2]

/-! ### the core: one by one -/
def putG (g : Nat → Bool) (i : Nat) (b : Bool) : Nat → Bool := fun k => if k = i then b else g k
/-- those that are not gone, of the first k. -/
def leftTo (fs : List Fm) (g : Nat → Bool) : Nat → List Fm
  | 0 => []
  | k + 1 => leftTo fs g k ++ (if g k = true then [] else (match fs[k]? with | some f => [f] | none => []))
def leftF (fs : List Fm) (g : Nat → Bool) : List Fm := leftTo fs g fs.length
/-- which are gone, behind the first i. -/
def goneTo (fs : List Fm) (u : Nat) : Nat → (Nat → Bool)
  | 0 => fun _ => false
  | i + 1 => if openN (leftF fs (putG (goneTo fs u i) i true)) u = true then putG (goneTo fs u i) i false else putG (goneTo fs u i) i true
def coreTo (fs : List Fm) (u : Nat) : Nat → List Int
  | 0 => []
  | i + 1 => if openN (leftF fs (putG (goneTo fs u i) i true)) u = true then coreTo fs u i ++ [(i : Int)] else coreTo fs u i
def coreFault (fs : List Fm) (u : Int) : Int := if formsFault fs u = 0 then (if openB fs u = true then 8 else 0) else formsFault fs u
def coreL (fs : List Fm) (u : Int) : List Int := if coreFault fs u = 0 then coreTo fs u.toNat fs.length else []
end Go.Proofs.YtgkgbpbohgklhagDoor

namespace Go.Proofs.YtgkgbpbohgklhagDoor
open Go.RowKit

def spanStep (ats : List At) (c t : List Int) (p : Int × Int) (D : Wd) : Int × Int :=
  if D.formIs ats c = true then (if pcN (D.val t) < p.1 then pcN (D.val t) else p.1, if p.2 < pcN (D.val t) then pcN (D.val t) else p.2) else p
def spanOver (ats : List At) (c t : List Int) (L : List Wd) : Int × Int := L.foldl (spanStep ats c t) (100, -1)
def spanP (ats : List At) (c t : List Int) (u : Nat) : Int × Int := spanOver ats c t (worldsL u)
def spanFault (ats : List At) (c t : List Int) (u : Int) : Int := if formFault ats c = 0 then (if faultN t = 0 then (if 0 ≤ u ∧ u ≤ 6 then (if (spanP ats c t u.toNat).2 < 0 then 5 else 0) else 1) else faultN t) else formFault ats c
def spanLo (ats : List At) (c t : List Int) (u : Int) : Int := if spanFault ats c t u = 0 then (spanP ats c t u.toNat).1 else 0
def spanHi (ats : List At) (c t : List Int) (u : Int) : Int := if spanFault ats c t u = 0 then (spanP ats c t u.toNat).2 else 0
def exactFault (ats : List At) (c t : List Int) (u : Int) : Int := if spanFault ats c t u = 0 then (if spanLo ats c t u = spanHi ats c t u then 0 else 8) else spanFault ats c t u
def exactN (ats : List At) (c t : List Int) (u : Int) : Int := if exactFault ats c t u = 0 then spanLo ats c t u else 0

theorem revInd {α : Type} {P : List α → Prop} (h0 : P []) (h1 : ∀ L a, P L → P (L ++ [a])) : ∀ L, P L := by
  intro L
  have key : ∀ n, P (L.take n) := by
    intro n
    induction n with
    | zero => exact h0
    | succ n ih =>
      rw [List.take_add_one]
      cases h : L[n]? with
      | none => simpa using ih
      | some a => exact h1 _ _ ih
  have := key L.length
  rwa [List.take_length] at this
theorem spanOver_add (ats : List At) (c t : List Int) (L : List Wd) (D : Wd) : spanOver ats c t (L ++ [D]) = spanStep ats c t (spanOver ats c t L) D := by
  unfold spanOver; rw [List.foldl_append]; rfl
/-- all that hold lie between. -/
theorem span_bound {ats : List At} {c t : List Int} : ∀ L : List Wd, ∀ D ∈ L, D.formIs ats c = true → (spanOver ats c t L).1 ≤ pcN (D.val t) ∧ pcN (D.val t) ≤ (spanOver ats c t L).2 := by
  refine revInd ?_ ?_
  · intro D hD; cases hD
  · intro L E ih D hD hf
    rw [spanOver_add]
    unfold spanStep
    rcases List.mem_append.1 hD with h | h
    · obtain ⟨a, b⟩ := ih D h hf
      by_cases hE : E.formIs ats c = true
      · rw [if_pos hE]
        constructor
        · show (if _ then _ else _) ≤ _
          split <;> omega
        · show _ ≤ (if _ then _ else _)
          split <;> omega
      · rw [if_neg hE]; exact ⟨a, b⟩
    · obtain rfl : D = E := by simpa using h
      rw [if_pos hf]
      constructor
      · show (if _ then _ else _) ≤ _
        split <;> omega
      · show _ ≤ (if _ then _ else _)
        split <;> omega
/-- none holds, or both ends are reached. -/
theorem span_hit {ats : List At} {c t : List Int} : ∀ L : List Wd, (spanOver ats c t L = (100, -1) ∧ ∀ D ∈ L, D.formIs ats c = false) ∨ ((∃ D ∈ L, D.formIs ats c = true ∧ pcN (D.val t) = (spanOver ats c t L).1) ∧ ∃ D ∈ L, D.formIs ats c = true ∧ pcN (D.val t) = (spanOver ats c t L).2) := by
  refine revInd ?_ ?_
  · exact Or.inl ⟨rfl, fun D h => by cases h⟩
  · intro L E ih
    rw [spanOver_add]
    have hl : ∀ D, D ∈ L → D ∈ L ++ [E] := fun D h => List.mem_append_left _ h
    have hr : E ∈ L ++ [E] := by simp
    have hp := pcN_le (E.val t)
    rcases Bool.eq_false_or_eq_true (E.formIs ats c) with hE | hE
    · right
      rcases ih with ⟨h1, _⟩ | ⟨⟨D, hD, hf, e⟩, ⟨D', hD', hf', e'⟩⟩
      · rw [h1]
        unfold spanStep
        rw [if_pos hE]
        refine ⟨⟨E, hr, hE, ?_⟩, ⟨E, hr, hE, ?_⟩⟩
        · show _ = (if _ then _ else _)
          rw [if_pos (by show pcN (E.val t) < 100; omega)]
        · show _ = (if _ then _ else _)
          rw [if_pos (by show (-1 : Int) < pcN (E.val t); omega)]
      · unfold spanStep
        rw [if_pos hE]
        constructor
        · by_cases h : pcN (E.val t) < (spanOver ats c t L).1
          · exact ⟨E, hr, hE, by show _ = (if _ then _ else _); rw [if_pos h]⟩
          · exact ⟨D, hl D hD, hf, by show _ = (if _ then _ else _); rw [if_neg h]; exact e⟩
        · by_cases h : (spanOver ats c t L).2 < pcN (E.val t)
          · exact ⟨E, hr, hE, by show _ = (if _ then _ else _); rw [if_pos h]⟩
          · exact ⟨D', hl D' hD', hf', by show _ = (if _ then _ else _); rw [if_neg h]; exact e'⟩
    · have es : spanStep ats c t (spanOver ats c t L) E = spanOver ats c t L := by unfold spanStep; rw [if_neg (by rw [hE]; decide)]
      rw [es]
      rcases ih with ⟨h1, h2⟩ | ⟨⟨D, hD, hf, e⟩, ⟨D', hD', hf', e'⟩⟩
      · left
        refine ⟨h1, fun D hD => ?_⟩
        rcases List.mem_append.1 hD with h | h
        · exact h2 D h
        · obtain rfl : D = E := by simpa using h
          exact hE
      · right
        exact ⟨⟨D, hl D hD, hf, e⟩, ⟨D', hl D' hD', hf', e'⟩⟩
theorem span_zero {ats : List At} {c t : List Int} {u : Int} : spanFault ats c t u = 0 ↔ formFault ats c = 0 ∧ faultN t = 0 ∧ (0 ≤ u ∧ u ≤ 6) ∧ ¬ (spanP ats c t u.toNat).2 < 0 := by
  unfold spanFault
  by_cases h1 : formFault ats c = 0
  · rw [if_pos h1]
    by_cases h2 : faultN t = 0
    · rw [if_pos h2]
      by_cases h3 : 0 ≤ u ∧ u ≤ 6
      · rw [if_pos h3]
        by_cases h4 : (spanP ats c t u.toNat).2 < 0
        · rw [if_pos h4]; exact ⟨fun h => absurd h (by decide), fun h => absurd h4 h.2.2.2⟩
        · rw [if_neg h4]; exact ⟨fun _ => ⟨h1, h2, h3, h4⟩, fun _ => rfl⟩
      · rw [if_neg h3]; exact ⟨fun h => absurd h (by decide), fun h => absurd h.2.2.1 h3⟩
    · rw [if_neg h2]; exact ⟨fun h => absurd h h2, fun h => absurd h.2.1 h2⟩
  · rw [if_neg h1]; exact ⟨fun h => absurd h h1, fun h => absurd h.1 h1⟩
/-- in any world in which it holds the term has as many. -/
theorem span_world {ats : List At} {c t : List Int} {u : Int} (h : spanFault ats c t u = 0) {w : Wd} (hw : w.ok = true) (hu : w.u = u) (hf : w.formIs ats c = true) : spanLo ats c t u ≤ pcN (w.val t) ∧ pcN (w.val t) ≤ spanHi ats c t u := by
  obtain ⟨_, h2, h3, _⟩ := span_zero.1 h
  unfold spanLo spanHi
  rw [if_pos h, if_pos h]
  obtain ⟨D, hD, hl⟩ := worldsL_like (u := u.toNat) hw (by omega)
  obtain ⟨n, hn⟩ := one_term h2
  have := span_bound (worldsL u.toNat) D hD (by rw [hl.form]; exact hf) (t := t)
  rw [hl.size hn] at this
  exact this
/-- there are worlds with the least, and the most. -/
theorem span_ends {ats : List At} {c t : List Int} {u : Int} (h : spanFault ats c t u = 0) : (0 ≤ spanLo ats c t u ∧ spanLo ats c t u ≤ spanHi ats c t u ∧ spanHi ats c t u ≤ 6) ∧
    (∃ w : Wd, w.ok = true ∧ w.u = u ∧ w.formIs ats c = true ∧ pcN (w.val t) = spanLo ats c t u) ∧ ∃ w : Wd, w.ok = true ∧ w.u = u ∧ w.formIs ats c = true ∧ pcN (w.val t) = spanHi ats c t u := by
  obtain ⟨_, h2, h3, h4⟩ := span_zero.1 h
  have e1 : spanLo ats c t u = (spanP ats c t u.toNat).1 := by unfold spanLo; rw [if_pos h]
  have e2 : spanHi ats c t u = (spanP ats c t u.toNat).2 := by unfold spanHi; rw [if_pos h]
  rcases span_hit (ats := ats) (c := c) (t := t) (worldsL u.toNat) with ⟨h5, _⟩ | ⟨⟨D, hD, hf, e⟩, ⟨D', hD', hf', e'⟩⟩
  · exact absurd (show (spanP ats c t u.toNat).2 < 0 by unfold spanP; rw [h5]; decide) h4
  · have hb := span_bound (t := t) _ D hD hf
    have hb' := span_bound (t := t) _ D' hD' hf'
    have p1 := pcN_le (D.val t)
    have p2 := pcN_le (D'.val t)
    have q1 : (spanP ats c t u.toNat).1 = pcN (D.val t) := e.symm
    have q2 : (spanP ats c t u.toNat).2 = pcN (D'.val t) := e'.symm
    rw [e1, e2, q1, q2]
    refine ⟨⟨by omega, ?_, by omega⟩, ⟨D, worldsL_ok (by omega) hD, by rw [worldsL_u (by omega) hD]; omega, hf, rfl⟩, ⟨D', worldsL_ok (by omega) hD', by rw [worldsL_u (by omega) hD']; omega, hf', rfl⟩⟩
    have := hb.2
    rw [← e'] at this
    exact this
end Go.Proofs.YtgkgbpbohgklhagDoor
