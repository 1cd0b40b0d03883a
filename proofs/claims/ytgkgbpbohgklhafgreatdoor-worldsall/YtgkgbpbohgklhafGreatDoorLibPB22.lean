/-
  Proved: where the variable atom.kinds reads as the row lists it, its eighteen cells are those of the table of kinds. (What the tied statements' frames lean on.)
  Proved: what errors.As does at a target of type *api.Errno, what plain.Told returns, and what vennsame.Error answers, of a nil error and of any api.Errno; what was in memory is as it was. (Contracts that the statements lean on; after the manner of the guide's worked example Toyas.)
  Proved: where the variable errors.errorType reads as the row lists it, its one cell holds the handle of the type error; and the heap that the program's own initialisers leave meets the row's condition. (What the tied statements' frames lean on; after the guide's worked examples Toyas and Mapy.)
  Proved: where the variable rows.kinds reads as the row lists it, its cells are those of the table of times; the rows' conditions on the listed variables give the walks what they ask, and the heap that the program's own initialisers leave meets them. (What the tied statements' frames lean on.)
  Proved: what an argument of a statement is: a slice of numbers reads as a list, a world is four numbers, a string has a size; and that an argument reads behind a call that turns nothing that was there as it read before. (What the statements' frames lean on.)
  Proved: what an atom is, as an argument of a statement: two numbers, and two slices that read as lists. (What the statements' frames lean on.)
  Proved: what a formula is, as an argument of a statement: a slice of atoms, and a slice of numbers. (What the statements' frames lean on.)
-/
import Derived.Test.YtgkgbpbohgklhafGreatDoorRows
import Derived.Test.YtgkgbpbohgklhafGreatDoorLibPB8
import Derived.ProofKit
import Derived.OpenShut
import Derived.LaidLaws
import Derived.Stop.LaidErr
import Derived.Deep.Strs
import Derived.WalkKit
import Derived.LaidEql
import Derived.Stop.Asserts
import Derived.RowKitTokens
import Derived.LaidMore
import Derived.LaidHandle
import Derived.Stop.Joined
import Derived.Test.YtgkgbpbohgklhafGreatDoorLibPB14
import Derived.Test.YtgkgbpbohgklhafGreatDoorLibPB1
import Derived.Carry
import Derived.Lib.SmallJoins
import Derived.Test.YtgkgbpbohgklhafGreatDoorLibPB7
import Derived.Deep.Slices
namespace Go.Proofs.YtgkgbpbohgklhafGreatDoor
open Go.ChangeShapes Go.WideShapes Go.ChangeAt Go.RowKit Go.Deep
set_option maxRecDepth 100000

theorem kdG : Tryz.prog.globalNamed "vennhouse/atom.kinds" = some 0 := by kernel_rfl
theorem kdT : (Tryz.prog.globals[0]?).map (·.type) = some 111 := by kernel_rfl
theorem kdC : Tryz.prog.cellsOf 110 = 3 := by kernel_rfl
theorem kdA : Tryz.prog.cellsOf 111 = 18 := by kernel_rfl
theorem kdS : Tryz.prog.cellsOf 9 = 1 := by kernel_rfl
theorem kdB : Tryz.prog.cellsOf 4 = 1 := by kernel_rfl

theorem kind_of_trod {w : World} {cs : List Value} {fuel : Nat} {text : List UInt8} {b1 b2 : Bool} {y : DataW Unit × List MemPlace} (hy : y.1 = .agg [.lit (.string text), .lit (.bool b1), .lit (.bool b2)])
    (h : DataW.trod (fun _ => ()) Tryz.prog w 0 (fun _ => true) false fuel 110 cs = some y) : cs = [.string ⟨text.toArray⟩, .bool b1, .bool b2] := by
  obtain ⟨y0, y1, y2, n, e, hl, t0, t1, t2⟩ := trod_struct3 Tryz.underlying110 h
  rw [kdC] at hl
  obtain ⟨c0, c1, c2, rfl⟩ : ∃ c0 c1 c2, cs = [c0, c1, c2] := by
    match cs, hl with
    | [a, b, c], _ => exact ⟨a, b, c, rfl⟩
  · simp only [kdS, kdB] at t0 t1 t2
    obtain ⟨s, e0, f0, _⟩ := DataW.trod_string Tryz.underlying9 t0
    obtain ⟨x1, e1, f1⟩ := DataW.trod_bool Tryz.underlying4 t1
    obtain ⟨x2, e2, f2⟩ := DataW.trod_bool Tryz.underlying4 t2
    simp at e0 e1 e2
    subst e0 e1 e2
    subst f0 f1 f2
    subst e
    simp at hy
    obtain ⟨rfl, rfl, rfl⟩ := hy
    rfl

theorem kinds_of_head {r : List (String × DataW Unit)} {W : World} (h : laidMet Tryz.prog (("vennhouse/atom.kinds", Rows.laid_vennhouse_atom_kinds) :: r) W) : KindsLaid W := by
  obtain ⟨ps, ⟨g0, t0, cs0, f0, p0, q0, hg0, ht0, hv0, hd0, _, e0⟩, _, hrows⟩ := h
  obtain rfl := Option.some.inj (kdG.symm.trans hg0)
  obtain rfl := Option.some.inj (kdT.symm.trans ht0)
  obtain ⟨xs, m, _, hx, hlen, hxl, hi⟩ := DataW.trod_array Tryz.underlying111 hd0
  simp only [kdC] at hi
  rw [kdA] at hlen
  have hx1 : Rows.laid_vennhouse_atom_kinds = .agg (xs.map (·.1)) := congrArg Prod.fst hx
  obtain ⟨a0, a1, a2, a3, a4, a5, rfl⟩ : ∃ a0 a1 a2 a3 a4 a5, xs = [a0, a1, a2, a3, a4, a5] := by
    match xs, hxl with
    | [a, b, c, d, e, f], _ => exact ⟨a, b, c, d, e, f, rfl⟩
  · unfold Rows.laid_vennhouse_atom_kinds at hx1
    simp only [List.map, DataW.agg.injEq, List.cons.injEq, and_true] at hx1
    obtain ⟨g0, g1, g2, g3, g4, g5⟩ := hx1
    have k0 := kind_of_trod g0.symm (hi 0 (by decide))
    have k1 := kind_of_trod g1.symm (hi 1 (by decide))
    have k2 := kind_of_trod g2.symm (hi 2 (by decide))
    have k3 := kind_of_trod g3.symm (hi 3 (by decide))
    have k4 := kind_of_trod g4.symm (hi 4 (by decide))
    have k5 := kind_of_trod g5.symm (hi 5 (by decide))
    have hl : cs0.toList = kindCells := by
      have e : cs0.toList = (cs0.toList.drop (0 * 3)).take 3 ++ ((cs0.toList.drop (1 * 3)).take 3 ++ ((cs0.toList.drop (2 * 3)).take 3 ++ ((cs0.toList.drop (3 * 3)).take 3 ++ ((cs0.toList.drop (4 * 3)).take 3 ++ ((cs0.toList.drop (5 * 3)).take 3))))) := by
        match cs0.toList, hlen with
        | [_, _, _, _, _, _, _, _, _, _, _, _, _, _, _, _, _, _], _ => rfl
      rw [e, k0, k1, k2, k3, k4, k5]
      rfl
    intro j hj
    have hc := World.var?_cell kdG hv0 j
    rw [hc]
    have : cs0[j]? = cs0.toList[j]? := by simp
    rw [this, hl]
    have hj' : j < kindCells.length := hj
    simp [List.getElem?_eq_getElem hj']
end Go.Proofs.YtgkgbpbohgklhafGreatDoor

namespace Go.Proofs.YtgkgbpbohgklhafGreatDoor
open Go.RowKit Go.Extern.Stop Go.Stop Go.Extern
set_option maxRecDepth 100000

/-! ### closed facts on the model's entries for internal/reflectlite, at this program's numbers -/
theorem rlValueOfP (t : Addr) (w : World) : (ReflectliteValue.unpack (.iface 92 (.pointer (some t)))).run Tryz.prog w
    = .ok (.agg #[.pointer (some ⟨3, 92, none⟩), .pointer (some ⟨w.heap.size, 0, none⟩), .int .u64 150]) (w.alloc (.cells #[.pointer (some t)] 92)) := by kernel_rfl
theorem rlTypeP (a : Addr) (w : World) : (ReflectliteValue.methodAny (ReflectliteValue.valueError "reflectlite.Value.Type" 0) (fun t _ _ _ => ReflectliteType.toType t) #[.agg #[.pointer (some ⟨3, 92, none⟩), .pointer (some a), .int .u64 150]]).run Tryz.prog w
    = .ok (.iface 145 (.agg #[.pointer (some ⟨3, 92, none⟩)])) w := by kernel_rfl
theorem rlMethodKind (h : Value) (w : World) : (Go.method 329 145 (.agg #[h]) "Kind").run Tryz.prog w = .ok (152, h) w := by kernel_rfl
theorem rlKindP (w : World) : ((ReflectliteType.abiMethod fun t => (fun a : Nat => Value.int IntKind.u8 (a : Int)) <$> Rtype.kind t) #[.pointer (some ⟨3, 92, none⟩)]).run Tryz.prog w = .ok (.int .u8 22) w := by kernel_rfl
theorem rlKindE (w : World) : ((ReflectliteType.abiMethod fun t => (fun a : Nat => Value.int IntKind.u8 (a : Int)) <$> Rtype.kind t) #[.pointer (some ⟨3, 61, none⟩)]).run Tryz.prog w = .ok (.int .u8 2) w := by kernel_rfl

/-! ### the entries that read or write memory -/
theorem rlPartsP (a : Addr) (w : World) : (ReflectliteValue.parts (.agg #[.pointer (some ⟨3, 92, none⟩), .pointer (some a), .int .u64 150])).run Tryz.prog w = .ok (some (92, a, 150)) w := by kernel_rfl
theorem rlIsNilP (a p : Addr) (W : World) (ha : W.cell? a = some (.pointer (some p))) :
    (ReflectliteValue.method (ReflectliteValue.valueError "reflectlite.Value.IsNil" 0) ReflectliteValue.isNil #[.agg #[.pointer (some ⟨3, 92, none⟩), .pointer (some a), .int .u64 150]]).run Tryz.prog W = .ok (.bool false) W := by
  change (ReflectliteValue.parts (.agg #[.pointer (some ⟨3, 92, none⟩), .pointer (some a), .int .u64 150]) >>= _).run _ _ = _
  simp only [Sem.run_bind, rlPartsP, Result.andThen]
  simp [ReflectliteValue.isNil, loadVar, isAgg, underlying, Tryz.underlying92, ha, Result.andThen]

theorem rlMethodElem (h : Value) (w : World) : (Go.method 329 145 (.agg #[h]) "Elem").run Tryz.prog w = .ok (163, .agg #[h]) w := by kernel_rfl
theorem rlMethodImplements (h : Value) (w : World) : (Go.method 329 145 (.agg #[h]) "Implements").run Tryz.prog w = .ok (164, .agg #[h]) w := by kernel_rfl
theorem rlMethodAssignableTo (h : Value) (w : World) : (Go.method 329 145 (.agg #[h]) "AssignableTo").run Tryz.prog w = .ok (161, .agg #[h]) w := by kernel_rfl
theorem rlElemP (w : World) : (ReflectliteType.method ReflectliteType.elem #[.agg #[.pointer (some ⟨3, 92, none⟩)]]).run Tryz.prog w = .ok (.iface 145 (.agg #[.pointer (some ⟨3, 61, none⟩)])) w := by kernel_rfl
theorem rlImplementsE (w : World) : (ReflectliteType.relation "Implements" ReflectliteType.implements_ #[.agg #[.pointer (some ⟨3, 61, none⟩)], .iface 145 (.agg #[.pointer (some ⟨3, 23, none⟩)])]).run Tryz.prog w = .ok (.bool true) w := by kernel_rfl
theorem rlTypeOfE (v : Value) (w : World) : (ReflectliteType.typeOf #[.iface 61 v]).run Tryz.prog w = .ok (.iface 145 (.agg #[.pointer (some ⟨3, 61, none⟩)])) w := by kernel_rfl
theorem rlAssignableE (w : World) : (ReflectliteType.relation "AssignableTo" ReflectliteType.assignableTo #[.agg #[.pointer (some ⟨3, 61, none⟩)], .iface 145 (.agg #[.pointer (some ⟨3, 61, none⟩)])]).run Tryz.prog w = .ok (.bool true) w := by kernel_rfl
theorem rlValueOfE (n : Int) (w : World) : (ReflectliteValue.unpack (.iface 61 (.int .i64 n))).run Tryz.prog w
    = .ok (.agg #[.pointer (some ⟨3, 61, none⟩), .pointer (some ⟨w.heap.size, 0, none⟩), .int .u64 130]) (w.alloc (.cells #[.int .i64 n] 61)) := by kernel_rfl

theorem rlElemOfP (w : World) : (Rtype.elem? 92).run Tryz.prog w = .ok (some 61) w := by kernel_rfl
theorem rlMkE (p : Addr) (w : World) : (ReflectliteValue.mk 61 p ReflectliteValue.flagAddr).run Tryz.prog w = .ok (.agg #[.pointer (some ⟨3, 61, none⟩), .pointer (some p), .int .u64 386]) w := by kernel_rfl
theorem rlElemV (a p : Addr) (W : World) (ha : W.cell? a = some (.pointer (some p))) :
    (ReflectliteValue.method (ReflectliteValue.valueError "reflectlite.Value.Elem" 0) ReflectliteValue.elem #[.agg #[.pointer (some ⟨3, 92, none⟩), .pointer (some a), .int .u64 150]]).run Tryz.prog W
      = .ok (.agg #[.pointer (some ⟨3, 61, none⟩), .pointer (some p), .int .u64 386]) W := by
  change (ReflectliteValue.parts (.agg #[.pointer (some ⟨3, 92, none⟩), .pointer (some a), .int .u64 150]) >>= _).run _ _ = _
  simp only [Sem.run_bind, rlPartsP, Result.andThen]
  simp [ReflectliteValue.elem, loadVar, isAgg, underlying, Tryz.underlying92, ha, Result.andThen, rlElemOfP, rlMkE]
theorem rlPartsEa (a : Addr) (w : World) : (ReflectliteValue.parts (.agg #[.pointer (some ⟨3, 61, none⟩), .pointer (some a), .int .u64 386])).run Tryz.prog w = .ok (some (61, a, 386)) w := by kernel_rfl
theorem rlPartsE (a : Addr) (w : World) : (ReflectliteValue.parts (.agg #[.pointer (some ⟨3, 61, none⟩), .pointer (some a), .int .u64 130])).run Tryz.prog w = .ok (some (61, a, 130)) w := by kernel_rfl
theorem rlDirectE (w : World) : (Rtype.directlyAssignable 61 61).run Tryz.prog w = .ok true w := by kernel_rfl
theorem rlSetE (ta b : Addr) (n : Int) (old : Value) (W : World) (hb : W.cell? b = some (.int .i64 n)) (ht : W.cell? ta = some old) (hf : W.frozen? ta = false) :
    (ReflectliteValue.set #[.agg #[.pointer (some ⟨3, 61, none⟩), .pointer (some ta), .int .u64 386], .agg #[.pointer (some ⟨3, 61, none⟩), .pointer (some b), .int .u64 130]]).run Tryz.prog W
      = .ok (.tuple #[]) (W.setCell ta (.int .i64 n)) := by
  change (ReflectliteValue.parts (.agg #[.pointer (some ⟨3, 61, none⟩), .pointer (some ta), .int .u64 386]) >>= fun _ => ReflectliteValue.parts (.agg #[.pointer (some ⟨3, 61, none⟩), .pointer (some b), .int .u64 130]) >>= _).run _ _ = _
  simp only [Sem.run_bind, rlPartsEa, rlPartsE, Result.andThen]
  simp [ReflectliteValue.flagAddr, loadVar, isAgg, underlying, Tryz.underlying61, hb, Result.andThen, rlDirectE, storeVar, Value.cells, storeCells, Addr.add]
  rw [run_store Tryz.prog W ta _ _ (by rfl)]
  simp [ht, hf]

/-- what errors.errorType holds: the handle of the type error. -/
def Laid (w : World) : Prop := w.cell? ⟨1, 0, none⟩ = some (.iface 145 (.agg #[.pointer (some ⟨3, 23, none⟩)]))
theorem Laid.lt {w : World} (h : Laid w) : 1 < w.heap.size := by
  rcases Nat.lt_or_ge 1 w.heap.size with h' | h'
  · exact h'
  · simp [Laid, World.cell?, Array.getElem?_eq_none h'] at h
theorem Laid.below {w w' : World} (h : Laid w) (hb : Below w.heap.size w w') : Laid w' := by
  unfold Laid
  rw [hb.cell h.lt]
  exact h

/-- what a walk carries from world to world: the variable is laid, and what was there at the start is as it was. -/
def Acc (w0 w : World) : Prop := Laid w ∧ Below w0.heap.size w0 w
theorem Acc.start {w : World} (h : Laid w) : Acc w w := ⟨h, Below.refl _ _⟩
theorem Acc.step {w0 w w' : World} (h : Acc w0 w) (hb : Below w.heap.size w w') : Acc w0 w' := ⟨h.1.below hb, h.2.trans (hb.mono h.2.size)⟩

set_option maxRecDepth 100000 in
set_option maxHeartbeats 4000000 in
theorem as_hit (n : Int) (t : Addr) (old : Value) (w : World) (hg : w.cell? ⟨1, 0, none⟩ = some (.iface 145 (.agg #[.pointer (some ⟨3, 23, none⟩)]))) (ht0 : w.cell? t = some old) (hf0 : w.frozen? t = false) :
    Calls Tryz.prog 51 #[.iface 61 (.int .i64 n), .iface 92 (.pointer (some t))] w fun ev w' => ev = .returned (.bool true) ∧ ((((w.alloc (.cells #[.pointer (some t)] 92)).alloc (.cells #[.pointer (some ⟨3, 92, none⟩), .pointer (some ⟨w.heap.size, 0, none⟩), .int .u64 150] 124)).alloc (.cells #[.pointer (some ⟨3, 92, none⟩), .pointer (some ⟨w.heap.size, 0, none⟩), .int .u64 150] 124)).alloc (.cells #[.int .i64 n] 61)).setCell t (.int .i64 n) = w' := by
  have h6 := @run_callFunc_extern Tryz.prog 77 _ (fun args => ReflectliteValue.unpack (args.getD 0 (.tuple #[]))) Tryz.func77 (by kernel_rfl) (by kernel_rfl) (by kernel_rfl) (by kernel_rfl)
  have h7 := @run_callFunc_extern Tryz.prog 78 _ (ReflectliteValue.methodAny (ReflectliteValue.valueError "reflectlite.Value.Type" 0) (fun t _ _ _ => ReflectliteType.toType t)) Tryz.func78 (by kernel_rfl) (by kernel_rfl) (by kernel_rfl) (by kernel_rfl)
  have h8 := @run_callFunc_extern Tryz.prog 79 _ (ReflectliteValue.method (ReflectliteValue.valueError "reflectlite.Value.IsNil" 0) ReflectliteValue.isNil) Tryz.func79 (by kernel_rfl) (by kernel_rfl) (by kernel_rfl) (by kernel_rfl)
  have h27 := @run_callFunc_extern Tryz.prog 152 _ (ReflectliteType.abiMethod fun t => do pure (.int .u8 (← Rtype.kind t))) Tryz.func152 (by kernel_rfl) (by kernel_rfl) (by kernel_rfl) (by kernel_rfl)
  have h37 := @run_callFunc_extern Tryz.prog 163 _ (ReflectliteType.method ReflectliteType.elem) Tryz.func163 (by kernel_rfl) (by kernel_rfl) (by kernel_rfl) (by kernel_rfl)
  have h38 := @run_callFunc_extern Tryz.prog 164 _ (ReflectliteType.relation "Implements" ReflectliteType.implements_) Tryz.func164 (by kernel_rfl) (by kernel_rfl) (by kernel_rfl) (by kernel_rfl)
  have h10 := @run_callFunc_extern Tryz.prog 75 _ ReflectliteType.typeOf Tryz.func75 (by kernel_rfl) (by kernel_rfl) (by kernel_rfl) (by kernel_rfl)
  have h35 := @run_callFunc_extern Tryz.prog 161 _ (ReflectliteType.relation "AssignableTo" ReflectliteType.assignableTo) Tryz.func161 (by kernel_rfl) (by kernel_rfl) (by kernel_rfl) (by kernel_rfl)
  have h11 := @run_callFunc_extern Tryz.prog 92 _ (ReflectliteValue.method (ReflectliteValue.valueError "reflectlite.Value.Elem" 0) ReflectliteValue.elem) Tryz.func92 (by kernel_rfl) (by kernel_rfl) (by kernel_rfl) (by kernel_rfl)
  have h12 := @run_callFunc_extern Tryz.prog 93 _ ReflectliteValue.set Tryz.func93 (by kernel_rfl) (by kernel_rfl) (by kernel_rfl) (by kernel_rfl)
  have tO := rlTypeOfE
  have mA := rlMethodAssignableTo
  have a25 := rlAssignableE
  have v25 := rlValueOfE
  have f6 := rlValueOfP
  have f7 := rlTypeP
  have mK := rlMethodKind
  have mE := rlMethodElem
  have mI := rlMethodImplements
  have k27 := rlKindP
  have k25 := rlKindE
  have e27 := rlElemP
  have i25 := rlImplementsE
  have n8 := rlIsNilP ⟨w.heap.size, 0, none⟩ t ((w.alloc (.cells #[.pointer (some t)] 92)).alloc (.cells #[.pointer (some ⟨3, 92, none⟩), .pointer (some ⟨w.heap.size, 0, none⟩), .int .u64 150] 124)) (by simp)
  have hlt : 1 < w.heap.size := Laid.lt hg
  have hg2 : ((w.alloc (.cells #[.pointer (some t)] 92)).alloc (.cells #[.pointer (some ⟨3, 92, none⟩), .pointer (some ⟨w.heap.size, 0, none⟩), .int .u64 150] 124)).cell? ⟨1, 0, none⟩ = some (.iface 145 (.agg #[.pointer (some ⟨3, 23, none⟩)])) := by
    rw [World.cell?_alloc_lt _ _ ⟨1, 0, none⟩ (Nat.lt_of_lt_of_le hlt (by simp)), World.cell?_alloc_lt _ _ ⟨1, 0, none⟩ hlt]; exact hg
  have htl : t.block < w.heap.size := by
    rcases Nat.lt_or_ge t.block w.heap.size with h | h
    · exact h
    · simp [World.cell?, Array.getElem?_eq_none h] at ht0
  have el := rlElemV ⟨w.heap.size, 0, none⟩ t (((w.alloc (.cells #[.pointer (some t)] 92)).alloc (.cells #[.pointer (some ⟨3, 92, none⟩), .pointer (some ⟨w.heap.size, 0, none⟩), .int .u64 150] 124)).alloc (.cells #[.pointer (some ⟨3, 92, none⟩), .pointer (some ⟨w.heap.size, 0, none⟩), .int .u64 150] 124)) (by rw [World.cell?_alloc_lt _ _ ⟨w.heap.size, 0, none⟩ (by simp; omega)]; simp)
  have st := rlSetE t ⟨w.heap.size + 1 + 1 + 1, 0, none⟩ n old ((((w.alloc (.cells #[.pointer (some t)] 92)).alloc (.cells #[.pointer (some ⟨3, 92, none⟩), .pointer (some ⟨w.heap.size, 0, none⟩), .int .u64 150] 124)).alloc (.cells #[.pointer (some ⟨3, 92, none⟩), .pointer (some ⟨w.heap.size, 0, none⟩), .int .u64 150] 124)).alloc (.cells #[.int .i64 n] 61))
    (by rw [World.cell?_alloc_at _ _ _ _ (by simp)]; rfl)
    (by rw [World.cell?_alloc_lt _ _ t (by simp; omega), World.cell?_alloc_lt _ _ t (by simp; omega), World.cell?_alloc_lt _ _ t (by simp; omega), World.cell?_alloc_lt _ _ t htl]; exact ht0)
    (by rw [World.frozen?_alloc_old _ _ t (by simp; omega), World.frozen?_alloc_old _ _ t (by simp; omega), World.frozen?_alloc_old _ _ t (by simp; omega), World.frozen?_alloc_old _ _ t (Nat.ne_of_lt htl)]; exact hf0)
  go_enter Tryz.func51, Tryz.ntmps51
  go_wp2
  refine wp_loop_rounds 1 ?_
  rw [rounds_succ]
  go_wp2
  go_ret
  exact ⟨rfl, rfl⟩

theorem told_nil (w : World) : Calls Tryz.prog 26 #[.nilIface] w fun e w' => e = .returned (.int .i64 0) ∧ w = w' := by
  go_enter Tryz.func26, Tryz.ntmps26
  go_wp2
  go_ret
  exact ⟨rfl, rfl⟩

set_option maxHeartbeats 1000000 in
theorem told_err (n : Int) (w : World) (hg : Laid w) : Calls Tryz.prog 26 #[.iface 61 (.int .i64 n)] w fun e w' => e = .returned (.int .i64 n) ∧ Below w.heap.size w w' := by
  have hgA : (w.alloc (.cells #[.int .i64 0] 61)).cell? ⟨1, 0, none⟩ = some (.iface 145 (.agg #[.pointer (some ⟨3, 23, none⟩)])) := by
    rw [World.cell?_alloc_lt _ _ ⟨1, 0, none⟩ hg.lt]; exact hg
  have htA : (w.alloc (.cells #[.int .i64 0] 61)).cell? ⟨w.heap.size, 0, none⟩ = some (.int .i64 0) := by simp
  have hfA : (w.alloc (.cells #[.int .i64 0] 61)).frozen? ⟨w.heap.size, 0, none⟩ = false := by simp
  clear hg
  go_enter Tryz.func26, Tryz.ntmps26
  go_wp2_with (go_at_call 51; refine (as_hit _ _ _ _ hgA htA hfA).mono ?_; rintro e w' ⟨rfl, rfl⟩)
  go_ret
  refine ⟨rfl, ?_⟩
  exact ((((((Below.refl _ _).alloc (Nat.le_refl _) _).alloc (by simp) _).alloc (by simp; omega) _).alloc (by simp; omega) _).alloc (by simp; omega) _)

/-- vennsame.Error of nil. -/
theorem same_nil (n : Int) (w : World) : Calls Tryz.prog 8 #[.nilIface, .int .i64 n] w fun e w' => e = .returned (.bool (0 == n)) ∧ w = w' := by
  go_enter Tryz.func8, Tryz.ntmps8
  go_wp2_with (go_at_call 26; refine (told_nil _).mono ?_; rintro e w' ⟨rfl, rfl⟩)
  go_ret
  exact ⟨rfl, rfl⟩
/-- vennsame.Error of an Errno. -/
theorem same_err (m n : Int) (w : World) (hg : Laid w) : Calls Tryz.prog 8 #[.iface 61 (.int .i64 m), .int .i64 n] w fun e w' => e = .returned (.bool (m == n)) ∧ Below w.heap.size w w' := by
  have HG : Hid (Laid w) := hg
  clear hg
  go_enter Tryz.func8, Tryz.ntmps8
  go_wp2_with (go_at_call 26; refine (told_err _ _ HG.out).mono ?_; rintro e w' ⟨rfl, hb⟩)
  go_ret
  exact ⟨rfl, hb⟩
end Go.Proofs.YtgkgbpbohgklhafGreatDoor

namespace Go.Proofs.YtgkgbpbohgklhafGreatDoor
open Go.ChangeShapes Go.WideShapes Go.ChangeAt Go.RowKit

theorem ownK : ownKnob Tryz.prog.godebug = none := by kernel_rfl
theorem etG : Tryz.prog.globalNamed "errors.errorType" = some 1 := by kernel_rfl
theorem rtT : (Tryz.prog.cutTypes.find? (·.1 == "internal/reflectlite.rtype")).map (·.2) = some 145 := by kernel_rfl
theorem oneRow : ((List.range 229).filter fun t => Tryz.prog.rowNamed t [101, 114, 114, 111, 114]) = [23] := by kernel_rfl
theorem sizeT : Tryz.prog.types.size = 229 := by kernel_rfl
theorem handleE : typeHandle Tryz.prog 23 = .pointer (some ⟨3, 23, none⟩) := by kernel_rfl

def laidE : List (String × DataW Unit) := [("errors.errorType", Rows.laid_errors_errorType)]

/-- what the condition gives a walk: the variable's one cell. -/
theorem laid_of_met {W : World} (h : laidMetH Tryz.prog laidE W) : Laid W := by
  have h' : laidMet Tryz.prog [] W ∧ handlesMet Tryz.prog laidE W := h
  obtain ⟨name, u, ty, e1, e2, e3, e4, e5⟩ := h'.2 _ (List.mem_singleton.2 rfl)
  have en : name = [101, 114, 114, 111, 114] := (Option.some.inj e1).symm
  subst en
  obtain rfl := Option.some.inj (rtT.symm.trans e2)
  have hm : ty ∈ (List.range 229).filter fun t => Tryz.prog.rowNamed t [101, 114, 114, 111, 114] := List.mem_filter.2 ⟨List.mem_range.2 (by rw [← sizeT]; exact e3), e4⟩
  rw [oneRow] at hm
  obtain rfl := List.mem_singleton.1 hm
  rw [handleE] at e5
  simpa [Laid] using World.var?_cell etG e5 0

/-- the heap that the door's own run leaves meets the condition. -/
theorem door_met (os : Os) (args : Array Value) : laidMetH Tryz.prog laidE ((World.doorLaid Tryz.prog 400 os).forCall (fun _ _ => 0) ⟨#[], args, []⟩).memory :=
  laidMetH_of_parts3 (fuel := 8) (laidMet_of_run' 8 (by kernel_rfl) (by kernel_rfl)) (by kernel_rfl) (by kernel_rfl)
end Go.Proofs.YtgkgbpbohgklhafGreatDoor

namespace Go.Proofs.YtgkgbpbohgklhafGreatDoor
open Go.ChangeShapes Go.WideShapes Go.ChangeAt Go.RowKit Go.Deep
set_option maxRecDepth 100000

theorem ownR : ownKnob Tryz.prog.godebug = none := by kernel_rfl
theorem tmG : Tryz.prog.globalNamed "vennhouse/rows.kinds" = some 2 := by kernel_rfl
theorem tmT : (Tryz.prog.globals[2]?).map (·.type) = some 165 := by kernel_rfl
theorem tmC1 : Tryz.prog.cellsOf 3 = 1 := by kernel_rfl
theorem tmC2 : Tryz.prog.cellsOf 163 = 2 := by kernel_rfl
theorem tmC4 : Tryz.prog.cellsOf 164 = 4 := by kernel_rfl
theorem tmA : Tryz.prog.cellsOf 165 = 24 := by kernel_rfl

theorem pair_of_trod {w : World} {cs : List Value} {fuel : Nat} {a b : Int} {y : DataW Unit × List MemPlace} (hy : y.1 = .agg [.lit (.int .i64 a), .lit (.int .i64 b)])
    (h : DataW.trod (fun _ => ()) Tryz.prog w 0 (fun _ => true) false fuel 163 cs = some y) : cs = [.int .i64 a, .int .i64 b] := by
  obtain ⟨xs, m, _, hx, hlen, hxl, hi⟩ := DataW.trod_array Tryz.underlying163 h
  rw [tmC2] at hlen
  simp only [tmC1] at hi
  have hx1 : y.1 = .agg (xs.map (·.1)) := congrArg Prod.fst hx
  obtain ⟨a0, a1, rfl⟩ : ∃ a0 a1, xs = [a0, a1] := by
    match xs, hxl with
    | [a, b], _ => exact ⟨a, b, rfl⟩
  obtain ⟨c0, c1, rfl⟩ : ∃ c0 c1, cs = [c0, c1] := by
    match cs, hlen with
    | [a, b], _ => exact ⟨a, b, rfl⟩
  obtain ⟨n0, e0, f0, _⟩ := DataW.trod_int Tryz.underlying3 (hi 0 (by decide))
  obtain ⟨n1, e1, f1, _⟩ := DataW.trod_int Tryz.underlying3 (hi 1 (by decide))
  simp at e0 e1
  subst e0 e1 f0 f1
  rw [hx1] at hy
  simp at hy
  obtain ⟨rfl, rfl⟩ := hy
  rfl
theorem quad_of_trod {w : World} {cs : List Value} {fuel : Nat} {a b c d : Int} {y : DataW Unit × List MemPlace} (hy : y.1 = .agg [.agg [.lit (.int .i64 a), .lit (.int .i64 b)], .agg [.lit (.int .i64 c), .lit (.int .i64 d)]])
    (h : DataW.trod (fun _ => ()) Tryz.prog w 0 (fun _ => true) false fuel 164 cs = some y) : cs = [.int .i64 a, .int .i64 b, .int .i64 c, .int .i64 d] := by
  obtain ⟨xs, m, _, hx, hlen, hxl, hi⟩ := DataW.trod_array Tryz.underlying164 h
  rw [tmC4] at hlen
  simp only [tmC2] at hi
  have hx1 : y.1 = .agg (xs.map (·.1)) := congrArg Prod.fst hx
  obtain ⟨a0, a1, rfl⟩ : ∃ a0 a1, xs = [a0, a1] := by
    match xs, hxl with
    | [a, b], _ => exact ⟨a, b, rfl⟩
  rw [hx1] at hy
  simp only [List.map, DataW.agg.injEq, List.cons.injEq, and_true] at hy
  have k0 := pair_of_trod hy.1 (hi 0 (by decide))
  have k1 := pair_of_trod hy.2 (hi 1 (by decide))
  have e : cs = (cs.drop (0 * 2)).take 2 ++ (cs.drop (1 * 2)).take 2 := by
    match cs, hlen with
    | [_, _, _, _], _ => rfl
  rw [e, k0, k1]
  rfl
theorem times_of_head {r : List (String × DataW Unit)} {W : World} (h : laidMet Tryz.prog (("vennhouse/rows.kinds", Rows.laid_vennhouse_rows_kinds) :: r) W) : TimesLaid W := by
  obtain ⟨ps, ⟨g0, t0, cs0, f0, p0, q0, hg0, ht0, hv0, hd0, _, e0⟩, _, hrows⟩ := h
  obtain rfl := Option.some.inj (tmG.symm.trans hg0)
  obtain rfl := Option.some.inj (tmT.symm.trans ht0)
  obtain ⟨xs, m, _, hx, hlen, hxl, hi⟩ := DataW.trod_array Tryz.underlying165 hd0
  simp only [tmC4] at hi
  rw [tmA] at hlen
  have hx1 : Rows.laid_vennhouse_rows_kinds = .agg (xs.map (·.1)) := congrArg Prod.fst hx
  obtain ⟨a0, a1, a2, a3, a4, a5, rfl⟩ : ∃ a0 a1 a2 a3 a4 a5, xs = [a0, a1, a2, a3, a4, a5] := by
    match xs, hxl with
    | [a, b, c, d, e, f], _ => exact ⟨a, b, c, d, e, f, rfl⟩
  unfold Rows.laid_vennhouse_rows_kinds at hx1
  simp only [List.map, DataW.agg.injEq, List.cons.injEq, and_true] at hx1
  obtain ⟨g0, g1, g2, g3, g4, g5⟩ := hx1
  have k0 := quad_of_trod g0.symm (hi 0 (by decide))
  have k1 := quad_of_trod g1.symm (hi 1 (by decide))
  have k2 := quad_of_trod g2.symm (hi 2 (by decide))
  have k3 := quad_of_trod g3.symm (hi 3 (by decide))
  have k4 := quad_of_trod g4.symm (hi 4 (by decide))
  have k5 := quad_of_trod g5.symm (hi 5 (by decide))
  have hl : cs0.toList = timeCells.map (fun n => Value.int .i64 n) := by
    have e : cs0.toList = (cs0.toList.drop (0 * 4)).take 4 ++ ((cs0.toList.drop (1 * 4)).take 4 ++ ((cs0.toList.drop (2 * 4)).take 4 ++ ((cs0.toList.drop (3 * 4)).take 4 ++ ((cs0.toList.drop (4 * 4)).take 4 ++ ((cs0.toList.drop (5 * 4)).take 4))))) := by
      match cs0.toList, hlen with
      | [_, _, _, _, _, _, _, _, _, _, _, _, _, _, _, _, _, _, _, _, _, _, _, _], _ => rfl
    rw [e, k0, k1, k2, k3, k4, k5]
    rfl
  intro j hj
  have hc := World.var?_cell tmG hv0 j
  rw [hc]
  have : cs0[j]? = cs0.toList[j]? := by simp
  rw [this, hl]
  have hj' : j < timeCells.length := hj
  simp [List.getElem?_eq_getElem hj']

/-- of two tables. -/
def laidR : List (String × DataW Unit) := [("vennhouse/atom.kinds", Rows.laid_vennhouse_atom_kinds), ("vennhouse/rows.kinds", Rows.laid_vennhouse_rows_kinds)]
theorem rows_of_met {W : World} (h : laidMetH Tryz.prog laidR W) : KindsLaid W ∧ TimesLaid W := by
  have h' : laidMet Tryz.prog laidR W := h
  exact ⟨kinds_of_head h', times_of_head h'.tail⟩
theorem doorR_met (os : Os) (args : Array Value) : laidMetH Tryz.prog laidR ((World.doorLaid Tryz.prog 400 os).forCall (fun _ _ => 0) ⟨#[], args, []⟩).memory := by
  show laidMet Tryz.prog laidR _
  exact laidMet_of_run' 8 (by kernel_rfl) (by kernel_rfl)
/-- of the error's handle and two tables. -/
def laidQ : List (String × DataW Unit) := [("errors.errorType", Rows.laid_errors_errorType), ("vennhouse/atom.kinds", Rows.laid_vennhouse_atom_kinds), ("vennhouse/rows.kinds", Rows.laid_vennhouse_rows_kinds)]
theorem tellR_of_met {W : World} (h : laidMetH Tryz.prog laidQ W) : Laid W ∧ KindsLaid W ∧ TimesLaid W := by
  have h' : laidMet Tryz.prog laidR W ∧ handlesMet Tryz.prog laidE W := h
  have h1 : laidMetH Tryz.prog laidE W := (show laidMet Tryz.prog [] W ∧ handlesMet Tryz.prog laidE W from ⟨laidMet_nil _ _, h'.2⟩)
  have h2 : laidMetH Tryz.prog laidR W := (show laidMet Tryz.prog laidR W from h'.1)
  exact ⟨laid_of_met h1, rows_of_met h2⟩
theorem doorQ_met (os : Os) (args : Array Value) : laidMetH Tryz.prog laidQ ((World.doorLaid Tryz.prog 400 os).forCall (fun _ _ => 0) ⟨#[], args, []⟩).memory :=
  laidMetH_of_parts3 (fuel := 8) (laidMet_of_run' 8 (by kernel_rfl) (by kernel_rfl)) (by kernel_rfl) (by kernel_rfl)
end Go.Proofs.YtgkgbpbohgklhafGreatDoor

namespace Go.Proofs.YtgkgbpbohgklhafGreatDoor
open Go.ChangeShapes Go.WideShapes Go.ChangeAt Go.RowKit Go.WideMaps Go.WideElems
open Go.ChangeMaps (open_string)

theorem laidOutA : laidOutB Tryz.prog = true := by kernel_rfl
theorem cellsInt : Tryz.prog.cellsOf 3 = 1 := by kernel_rfl
theorem cellsWorld : Tryz.prog.cellsOf 37 = 4 := by kernel_rfl
theorem cellsArr : Tryz.prog.cellsOf 35 = 3 := by kernel_rfl

set_option maxRecDepth 100000 in
theorem reads_arg {H : Type} {enc : TypeId × Value → H} {W : World} {v : Value} {d : DataW H} {p : List MemPlace} {r : Reach} {b0 : Nat} (hv : Value.okWide Tryz.prog W r b0 27 v) (h : DataW.Trod enc Tryz.prog W 0 (fun _ => true) true 27 v d p) :
    ∃ t, Reads W v t := by
  obtain ⟨a0, len, cap, rfl⟩ := okWide_slice Tryz.underlying27 hv
  obtain ⟨fuel, hf⟩ := h
  rcases open_ints Tryz.underlying27 Tryz.underlying3 cellsInt hf with ⟨hcs, hx⟩ | ⟨a, len', cap', zs, hcs, _, hl, hm, hz, hx, hcell, hwz⟩
  · simp [Value.cells] at hcs
    obtain ⟨rfl, rfl, rfl⟩ := hcs
    exact ⟨[], Or.inl ⟨none, 0, rfl, rfl⟩⟩
  · simp [Value.cells] at hcs
    obtain ⟨rfl, rfl, rfl⟩ := hcs
    rw [if_pos rfl] at hz
    rcases Nat.eq_zero_or_pos len with h0 | h0
    · subst h0; exact ⟨[], Or.inl ⟨_, _, rfl, rfl⟩⟩
    · obtain ⟨b, off, rfl, hc⟩ := ints_at hcell (by omega)
      have hlen : (zs.take len).length = len := by rw [List.length_take]; omega
      unfold maxLen at hm
      refine ⟨zs.take len, Or.inr ⟨b, off, cap, by rw [hlen], ?_, by omega, ⟨by omega, by omega⟩, fun k hk => ?_⟩⟩
      · exact World.block_lt_of_cell? W ⟨b, off, none⟩ (hc 0 (by omega))
      · rw [hc k (by omega)]
        rw [hlen] at hk
        simp [hk]
set_option maxRecDepth 100000 in
theorem world_arg {H : Type} {enc : TypeId × Value → H} {W : World} {v : Value} {d : DataW H} {p : List MemPlace} {r : Reach} {b0 : Nat} (hv : Value.okWide Tryz.prog W r b0 37 v) (h : DataW.Trod enc Tryz.prog W 0 (fun _ => true) true 37 v d p) :
    ∃ u a b c : Int, v = .agg #[.int .i64 u, .int .i64 a, .int .i64 b, .int .i64 c] := by
  obtain ⟨cs, rfl, hsz⟩ := okWide_struct Tryz.underlying37 hv
  obtain ⟨c0, c1, c2, c3, rfl⟩ := Go.Joins.array4 (hsz.trans cellsWorld)
  obtain ⟨fuel, hf⟩ := h
  obtain ⟨y0, y1, n, _, _, h0, h1⟩ := trod_struct2 Tryz.underlying37 hf
  simp only [Value.cells, cellsInt, cellsArr] at h0 h1
  obtain ⟨u, e0, _, _⟩ := DataW.trod_int Tryz.underlying3 h0
  obtain ⟨xs, m, _, _, _, hxl, hx⟩ := DataW.trod_array Tryz.underlying35 h1
  have g0 := hx 0 (by omega)
  have g1 := hx 1 (by omega)
  have g2 := hx 2 (by omega)
  simp only [cellsInt] at g0 g1 g2
  rw [List.getElem?_eq_getElem (show 0 < xs.length by omega)] at g0
  rw [List.getElem?_eq_getElem (show 1 < xs.length by omega)] at g1
  rw [List.getElem?_eq_getElem (show 2 < xs.length by omega)] at g2
  obtain ⟨a, ea, _, _⟩ := DataW.trod_int Tryz.underlying3 g0
  obtain ⟨b, eb, _, _⟩ := DataW.trod_int Tryz.underlying3 g1
  obtain ⟨c, ec, _, _⟩ := DataW.trod_int Tryz.underlying3 g2
  simp at e0 ea eb ec
  subst e0 ea eb ec
  exact ⟨u, a, b, c, rfl⟩

set_option maxRecDepth 100000 in
theorem string_arg {H : Type} {enc : TypeId × Value → H} {W : World} {v : Value} {d : DataW H} {p : List MemPlace} {r : Reach} {b0 : Nat} (hv : Value.okWide Tryz.prog W r b0 9 v) (h : DataW.Trod enc Tryz.prog W 0 (fun _ => true) true 9 v d p) :
    ∃ s : ByteArray, v = .string s ∧ s.size ≤ 9223372036854775807 := by
  obtain ⟨s, rfl, _, _, hs⟩ := open_string Tryz.underlying9 hv h
  exact ⟨s, rfl, hs⟩
set_option maxRecDepth 100000 in
theorem int_arg {H : Type} {enc : TypeId × Value → H} {W : World} {v : Value} {d : DataW H} {p : List MemPlace} {r : Reach} {b0 : Nat} (hv : Value.okWide Tryz.prog W r b0 3 v) (h : DataW.Trod enc Tryz.prog W 0 (fun _ => true) true 3 v d p) :
    ∃ n : Int, v = .int .i64 n := by
  obtain ⟨n, rfl, _⟩ := open_int Tryz.underlying3 hv h
  exact ⟨n, rfl⟩
set_option maxRecDepth 100000 in
/-- a slice of numbers is no longer than its capacity. -/
theorem cap_arg {H : Type} {enc : TypeId × Value → H} {W : World} {v : Value} {d : DataW H} {p : List MemPlace} {r : Reach} {b0 : Nat} (hv : Value.okWide Tryz.prog W r b0 27 v) (h : DataW.Trod enc Tryz.prog W 0 (fun _ => true) true 27 v d p) :
    ∃ ao len cap, v = .slice ao len cap ∧ len ≤ cap := by
  obtain ⟨a0, len, cap, rfl⟩ := okWide_slice Tryz.underlying27 hv
  obtain ⟨fuel, hf⟩ := h
  rcases open_ints Tryz.underlying27 Tryz.underlying3 cellsInt hf with ⟨hcs, hx⟩ | ⟨a, len', cap', zs, hcs, _, hl, _⟩
  · simp [Value.cells] at hcs
    obtain ⟨rfl, rfl, rfl⟩ := hcs
    exact ⟨_, _, _, rfl, Nat.le_refl _⟩
  · simp [Value.cells] at hcs
    obtain ⟨rfl, rfl, rfl⟩ := hcs
    exact ⟨_, _, _, rfl, hl⟩
end Go.Proofs.YtgkgbpbohgklhafGreatDoor

namespace Go.Proofs.YtgkgbpbohgklhafGreatDoor
open Go.ChangeShapes Go.WideShapes Go.ChangeAt Go.RowKit Go.WideMaps Go.WideElems
set_option maxRecDepth 100000

theorem cellsAtom : Tryz.prog.cellsOf 51 = 4 := by kernel_rfl
theorem cellsInts : Tryz.prog.cellsOf 27 = 1 := by kernel_rfl

theorem reads_trod {H : Type} {enc : TypeId × Value → H} {W : World} {fuel : Nat} {cs : List Value} {x : DataW H × List MemPlace} (h : DataW.trod enc Tryz.prog W 0 (fun _ => true) true fuel 27 cs = some x) :
    ∃ v t, cs = [v] ∧ Reads W v t := by
  rcases open_ints Tryz.underlying27 Tryz.underlying3 cellsInt h with ⟨hcs, hx⟩ | ⟨a, len, cap, zs, hcs, _, hl, hm, hz, hx, hcell, hwz⟩
  · exact ⟨_, [], hcs, Or.inl ⟨none, 0, rfl, rfl⟩⟩
  · refine ⟨_, zs.take len, hcs, ?_⟩
    rw [if_pos rfl] at hz
    rcases Nat.eq_zero_or_pos len with h0 | h0
    · subst h0; exact Or.inl ⟨_, _, rfl, rfl⟩
    · obtain ⟨b, off, rfl, hc⟩ := ints_at hcell (by omega)
      have hlen : (zs.take len).length = len := by rw [List.length_take]; omega
      unfold maxLen at hm
      refine Or.inr ⟨b, off, cap, by rw [hlen], ?_, by omega, ⟨by omega, by omega⟩, fun k hk => ?_⟩
      · exact World.block_lt_of_cell? W ⟨b, off, none⟩ (hc 0 (by omega))
      · rw [hc k (by omega)]
        rw [hlen] at hk
        simp [hk]
theorem atom_trod {H : Type} {enc : TypeId × Value → H} {W : World} {fuel : Nat} {cs : List Value} {x : DataW H × List MemPlace} (h : DataW.trod enc Tryz.prog W 0 (fun _ => true) true fuel 51 cs = some x) :
    ∃ k vs vt n s t, cs = [.int .i64 k, vs, vt, .int .i64 n] ∧ Reads W vs s ∧ Reads W vt t := by
  obtain ⟨y0, y1, y2, y3, n, _, hl, h0, h1, h2, h3⟩ := Go.Joins.trod_struct4 Tryz.underlying51 h
  rw [cellsAtom] at hl
  obtain ⟨c0, c1, c2, c3, rfl⟩ : ∃ c0 c1 c2 c3, cs = [c0, c1, c2, c3] := by
    match cs, hl with
    | [a, b, c, d], _ => exact ⟨a, b, c, d, rfl⟩
  simp only [cellsInt, cellsInts] at h0 h1 h2 h3
  obtain ⟨k, e0, _, _⟩ := DataW.trod_int Tryz.underlying3 h0
  obtain ⟨vs, s, e1, r1⟩ := reads_trod h1
  obtain ⟨vt, t, e2, r2⟩ := reads_trod h2
  obtain ⟨m, e3, _, _⟩ := DataW.trod_int Tryz.underlying3 h3
  simp at e0 e1 e2 e3
  subst e0 e1 e2 e3
  exact ⟨k, _, _, m, s, t, rfl, r1, r2⟩
theorem atom_arg {H : Type} {enc : TypeId × Value → H} {W : World} {v : Value} {d : DataW H} {p : List MemPlace} {r : Reach} {b0 : Nat} (hv : Value.okWide Tryz.prog W r b0 51 v) (h : DataW.Trod enc Tryz.prog W 0 (fun _ => true) true 51 v d p) :
    ∃ k n vs vt s t, v = .agg #[.int .i64 k, vs, vt, .int .i64 n] ∧ Reads W vs s ∧ Reads W vt t := by
  obtain ⟨cs, rfl, hsz⟩ := okWide_struct Tryz.underlying51 hv
  obtain ⟨c0, c1, c2, c3, rfl⟩ := Go.Joins.array4 (hsz.trans cellsAtom)
  obtain ⟨fuel, hf⟩ := h
  obtain ⟨k, vs, vt, n, s, t, e, r1, r2⟩ := atom_trod hf
  simp [Value.cells] at e
  obtain ⟨rfl, rfl, rfl, rfl⟩ := e
  exact ⟨k, n, _, _, s, t, rfl, r1, r2⟩
end Go.Proofs.YtgkgbpbohgklhafGreatDoor

namespace Go.Proofs.YtgkgbpbohgklhafGreatDoor
open Go.ChangeShapes Go.WideShapes Go.ChangeAt Go.RowKit Go.WideMaps Go.WideElems
set_option maxRecDepth 100000

theorem cellsForm : Tryz.prog.cellsOf 29 = 2 := by kernel_rfl
theorem cellsAtoms : Tryz.prog.cellsOf 26 = 1 := by kernel_rfl

theorem atoms_of {w : World} (b off : Nat) (n : Nat) (h : ∀ i, i < n → ∃ a : At, AtomAt w b (off + i * 4) a) : ∃ ats : List At, ats.length = n ∧ ∀ i a, ats[i]? = some a → AtomAt w b (off + i * 4) a := by
  induction n with
  | zero => exact ⟨[], rfl, fun i a h => by simp at h⟩
  | succ n ih =>
    obtain ⟨ats, hl, ha⟩ := ih (fun i hi => h i (by omega))
    obtain ⟨a, haa⟩ := h n (by omega)
    refine ⟨ats ++ [a], by simp [hl], fun i x hx => ?_⟩
    rcases Nat.lt_or_ge i n with hi | hi
    · rw [List.getElem?_append_left (by omega)] at hx; exact ha i x hx
    · rw [List.getElem?_append_right (by omega), hl] at hx
      obtain rfl : i = n := by
        have := (List.getElem?_eq_some_iff.1 hx).1
        simp at this; omega
      simp at hx
      subst hx
      exact haa
theorem atoms_trod {H : Type} {enc : TypeId × Value → H} {W : World} {fuel : Nat} {cs : List Value} {x : DataW H × List MemPlace} (h : DataW.trod enc Tryz.prog W 0 (fun _ => true) true fuel 26 cs = some x) :
    ∃ v ats, cs = [v] ∧ ReadsA W v ats := by
  rcases Go.Deep.open_slice Tryz.underlying26 h with ⟨hcs, _⟩ | ⟨a, len, cap, m, n, D, Pl, hcs, _, hl, hm, hmm, _, hx⟩
  · exact ⟨_, [], hcs, Or.inl ⟨none, 0, rfl, rfl⟩⟩
  · rw [if_pos rfl] at hmm
    rcases Nat.eq_zero_or_pos len with h0 | h0
    · subst h0; exact ⟨_, [], hcs, Or.inl ⟨_, _, rfl, rfl⟩⟩
    · obtain ⟨b, off, spot⟩ := a
      have cell : ∀ i, i < m → ∀ j, j < 4 → ∃ cs', DataW.trod enc Tryz.prog W 0 (fun _ => true) true n 51 cs' = some (D i, Pl i) ∧ ∀ j, j < 4 → W.cell? ((Addr.add ⟨b, off, spot⟩ (i * 4)).add j) = cs'[j]? := by
        intro i hi j hj
        obtain ⟨cs', h1, h2⟩ := hx i hi
        rw [cellsAtom] at h1
        exact ⟨cs', h2, (World.cells?_some h1).2.2⟩
      have hspot : spot = none := by
        obtain ⟨cs', h2, hc⟩ := cell 0 (by omega) 0 (by omega)
        obtain ⟨k, vs, vt, n', s, t, rfl, _, _⟩ := atom_trod h2
        have := hc 0 (by omega)
        simpa [Addr.add] using World.cell?_spot this
      subst hspot
      obtain ⟨ats, hlen, has⟩ := atoms_of (w := W) b off len (fun i hi => by
        obtain ⟨cs', h2, hc⟩ := cell i (by omega) 0 (by omega)
        obtain ⟨k, vs, vt, n', s, t, rfl, r1, r2⟩ := atom_trod h2
        refine ⟨⟨k, s, t, n'⟩, vs, vt, ?_, ?_, ?_, ?_, r1, r2⟩
        · have := hc 0 (by omega)
          rw [Go.WideShapes.add_plain, Go.WideShapes.add_plain] at this
          simpa using this
        · have := hc 1 (by omega)
          rw [Go.WideShapes.add_plain, Go.WideShapes.add_plain] at this
          simpa using this
        · have := hc 2 (by omega)
          rw [Go.WideShapes.add_plain, Go.WideShapes.add_plain] at this
          simpa using this
        · have := hc 3 (by omega)
          rw [Go.WideShapes.add_plain, Go.WideShapes.add_plain] at this
          simpa using this)
      unfold maxLen at hm
      refine ⟨_, ats, hcs, Or.inr ⟨b, off, cap, by rw [hlen], ?_, by omega, ⟨by omega, by omega⟩, has⟩⟩
      obtain ⟨vs, vt, h1, _⟩ := has 0 (ats[0]'(by omega)) (List.getElem?_eq_getElem _)
      exact World.block_lt_of_cell? W ⟨b, off + 0 * 4, none⟩ h1
theorem form_arg {H : Type} {enc : TypeId × Value → H} {W : World} {v : Value} {d : DataW H} {p : List MemPlace} {r : Reach} {b0 : Nat} (hv : Value.okWide Tryz.prog W r b0 29 v) (h : DataW.Trod enc Tryz.prog W 0 (fun _ => true) true 29 v d p) :
    ∃ va vc ats c, v = .agg #[va, vc] ∧ ReadsA W va ats ∧ Reads W vc c := by
  obtain ⟨cs, rfl, hsz⟩ := okWide_struct Tryz.underlying29 hv
  obtain ⟨c0, c1, rfl⟩ : ∃ c0 c1, cs = #[c0, c1] := by
    obtain ⟨l⟩ := cs
    match l, hsz.trans cellsForm with
    | [c0, c1], _ => exact ⟨c0, c1, rfl⟩
  obtain ⟨fuel, hf⟩ := h
  obtain ⟨y0, y1, n, _, _, h0, h1⟩ := trod_struct2 Tryz.underlying29 hf
  simp only [Value.cells, cellsAtoms, cellsInts] at h0 h1
  obtain ⟨va, ats, e0, r0⟩ := atoms_trod h0
  obtain ⟨vc, c, e1, r1⟩ := reads_trod h1
  simp at e0 e1
  subst e0 e1
  exact ⟨_, _, ats, c, rfl, r0, r1⟩
end Go.Proofs.YtgkgbpbohgklhafGreatDoor
