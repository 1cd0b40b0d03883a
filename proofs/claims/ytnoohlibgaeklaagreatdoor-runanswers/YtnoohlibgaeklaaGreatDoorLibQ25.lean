/-
  Facts and contracts that the statement leans on.
-/
import Derived.Test.YtnoohlibgaeklaaGreatDoorLibQ24
import Derived.Test.YtnoohlibgaeklaaGreatDoorLibQ10
import Derived.Stop.Asserts
import Derived.Test.YtnoohlibgaeklaaGreatDoorLibQ18
import Derived.Test.YtnoohlibgaeklaaGreatDoorLibQ19
import Derived.Test.YtnoohlibgaeklaaGreatDoorLibQ21
import Derived.Lib.AppendZerosOnto
import Derived.Lib.Walk
import Derived.Lib.SliceRun
namespace Go.Proofs.YtnoohlibgaeklaaGreatDoor
open Go.RowKit Go.Extern.Stop Go.Stop Go.Extern
set_option maxRecDepth 100000
set_option maxHeartbeats 16000000
theorem rlValueOfPB (t : Addr) (w : World) : (ReflectliteValue.unpack (.iface 95 (.pointer (some t)))).run Tryz.prog w
    = .ok (.agg #[.pointer (some ⟨10, 95, none⟩), .pointer (some ⟨w.heap.size, 0, none⟩), .int .u64 150]) (w.alloc (.cells #[.pointer (some t)] 95)) := by kernel_rfl
theorem rlTypePB (a : Addr) (w : World) : (ReflectliteValue.methodAny (ReflectliteValue.valueError "reflectlite.Value.Type" 0) (fun t _ _ _ => ReflectliteType.toType t) #[.agg #[.pointer (some ⟨10, 95, none⟩), .pointer (some a), .int .u64 150]]).run Tryz.prog w
    = .ok (.iface 172 (.agg #[.pointer (some ⟨10, 95, none⟩)])) w := by kernel_rfl
theorem rlKindPB (w : World) : ((ReflectliteType.abiMethod fun t => (fun a : Nat => Value.int IntKind.u8 (a : Int)) <$> Rtype.kind t) #[.pointer (some ⟨10, 95, none⟩)]).run Tryz.prog w = .ok (.int .u8 22) w := by kernel_rfl
theorem rlKindEB (w : World) : ((ReflectliteType.abiMethod fun t => (fun a : Nat => Value.int IntKind.u8 (a : Int)) <$> Rtype.kind t) #[.pointer (some ⟨10, 93, none⟩)]).run Tryz.prog w = .ok (.int .u8 25) w := by kernel_rfl
theorem rlPartsPB (a : Addr) (w : World) : (ReflectliteValue.parts (.agg #[.pointer (some ⟨10, 95, none⟩), .pointer (some a), .int .u64 150])).run Tryz.prog w = .ok (some (95, a, 150)) w := by kernel_rfl
theorem rlIsNilPB (a p : Addr) (W : World) (ha : W.cell? a = some (.pointer (some p))) :
    (ReflectliteValue.method (ReflectliteValue.valueError "reflectlite.Value.IsNil" 0) ReflectliteValue.isNil #[.agg #[.pointer (some ⟨10, 95, none⟩), .pointer (some a), .int .u64 150]]).run Tryz.prog W = .ok (.bool false) W := by
 change (ReflectliteValue.parts (.agg #[.pointer (some ⟨10, 95, none⟩), .pointer (some a), .int .u64 150]) >>= _).run _ _ = _
 simp only [Sem.run_bind, rlPartsPB, Result.andThen]
 simp [ReflectliteValue.isNil, loadVar, isAgg, underlying, Tryz.underlying95, ha, Result.andThen]
theorem rlElemPB (w : World) : (ReflectliteType.method ReflectliteType.elem #[.agg #[.pointer (some ⟨10, 95, none⟩)]]).run Tryz.prog w = .ok (.iface 172 (.agg #[.pointer (some ⟨10, 93, none⟩)])) w := by kernel_rfl
theorem rlImplementsEB (w : World) : (ReflectliteType.relation "Implements" ReflectliteType.implements_ #[.agg #[.pointer (some ⟨10, 93, none⟩)], .iface 172 (.agg #[.pointer (some ⟨10, 34, none⟩)])]).run Tryz.prog w = .ok (.bool true) w := by kernel_rfl
theorem rlTypeOfEB (v : Value) (w : World) : (ReflectliteType.typeOf #[.iface 93 v]).run Tryz.prog w = .ok (.iface 172 (.agg #[.pointer (some ⟨10, 93, none⟩)])) w := by kernel_rfl
theorem rlAssignableEB (w : World) : (ReflectliteType.relation "AssignableTo" ReflectliteType.assignableTo #[.agg #[.pointer (some ⟨10, 93, none⟩)], .iface 172 (.agg #[.pointer (some ⟨10, 93, none⟩)])]).run Tryz.prog w = .ok (.bool true) w := by kernel_rfl
theorem rlValueOfEB (E : Value) (w : World) : (ReflectliteValue.unpack (.iface 93 (.agg #[E]))).run Tryz.prog w
    = .ok (.agg #[.pointer (some ⟨10, 93, none⟩), .pointer (some ⟨w.heap.size, 0, none⟩), .int .u64 153]) (w.alloc (.cells #[E] 93)) := by kernel_rfl
theorem rlElemOfPB (w : World) : (Rtype.elem? 95).run Tryz.prog w = .ok (some 93) w := by kernel_rfl
theorem rlMkEB (p : Addr) (w : World) : (ReflectliteValue.mk 93 p ReflectliteValue.flagAddr).run Tryz.prog w = .ok (.agg #[.pointer (some ⟨10, 93, none⟩), .pointer (some p), .int .u64 409]) w := by kernel_rfl
theorem rlElemVB (a p : Addr) (W : World) (ha : W.cell? a = some (.pointer (some p))) :
    (ReflectliteValue.method (ReflectliteValue.valueError "reflectlite.Value.Elem" 0) ReflectliteValue.elem #[.agg #[.pointer (some ⟨10, 95, none⟩), .pointer (some a), .int .u64 150]]).run Tryz.prog W
     = .ok (.agg #[.pointer (some ⟨10, 93, none⟩), .pointer (some p), .int .u64 409]) W := by
 change (ReflectliteValue.parts (.agg #[.pointer (some ⟨10, 95, none⟩), .pointer (some a), .int .u64 150]) >>= _).run _ _ = _
 simp only [Sem.run_bind, rlPartsPB, Result.andThen]
 simp [ReflectliteValue.elem, loadVar, isAgg, underlying, Tryz.underlying95, ha, Result.andThen, rlElemOfPB, rlMkEB]
theorem rlPartsEaB (a : Addr) (w : World) : (ReflectliteValue.parts (.agg #[.pointer (some ⟨10, 93, none⟩), .pointer (some a), .int .u64 409])).run Tryz.prog w = .ok (some (93, a, 409)) w := by kernel_rfl
theorem rlPartsEB (a : Addr) (w : World) : (ReflectliteValue.parts (.agg #[.pointer (some ⟨10, 93, none⟩), .pointer (some a), .int .u64 153])).run Tryz.prog w = .ok (some (93, a, 153)) w := by kernel_rfl
theorem rlDirectEB (w : World) : (Rtype.directlyAssignable 93 93).run Tryz.prog w = .ok true w := by kernel_rfl
theorem rlSetEB (ta b : Addr) (t : TypeId) (v : Value) (old : Value) (W : World) (hb : W.cell? b = some (.iface t v)) (ht : W.cell? ta = some old) (hf : W.frozen? ta = false) :
    (ReflectliteValue.set #[.agg #[.pointer (some ⟨10, 93, none⟩), .pointer (some ta), .int .u64 409], .agg #[.pointer (some ⟨10, 93, none⟩), .pointer (some b), .int .u64 153]]).run Tryz.prog W
     = .ok (.tuple #[]) (W.setCell ta (.iface t v)) := by
 change (ReflectliteValue.parts (.agg #[.pointer (some ⟨10, 93, none⟩), .pointer (some ta), .int .u64 409]) >>= fun _ => ReflectliteValue.parts (.agg #[.pointer (some ⟨10, 93, none⟩), .pointer (some b), .int .u64 153]) >>= _).run _ _ = _
 simp only [Sem.run_bind, rlPartsEaB, rlPartsEB, Result.andThen]
 have hl := run_loadCells_list (P := Tryz.prog) W b [.iface t v] (fun j x hj => by
  match j, hj with
  | 0, hj => simp at hj; subst hj; simpa [Addr.add] using hb)
 simp [ReflectliteValue.flagAddr, loadVar, Tryz.isAgg93, Tryz.sizeOf93, Result.andThen, rlDirectEB, storeVar, Value.cells, storeCells, Addr.add] at hl ⊢
 simp only [hl]
 have hst : (storeCells ta [Value.iface t v]).run Tryz.prog W = .ok () (W.setCell ta (.iface t v)) := by
  unfold storeCells
  simp only [Sem.run_bind, show ta.add 0 = ta from by simp [Addr.add]]
  rw [run_store Tryz.prog W ta _ _ (by rfl)]
  simp [ht, hf, Result.andThen, storeCells]
 simp [hst]
theorem as_bad (T : TypeId) (x : Value) (t : Addr) (old : Value) (w : World) (hg : w.cell? ⟨0, 0, none⟩ = some (.iface 172 (.agg #[.pointer (some ⟨10, 34, none⟩)]))) (ht0 : w.cell? t = some old) (hf0 : w.frozen? t = false) :
    Calls Tryz.prog 44 #[.iface 93 (.agg #[.iface T x]), .iface 95 (.pointer (some t))] w fun ev w' => ev = .returned (.bool true) ∧ ((((w.alloc (.cells #[.pointer (some t)] 95)).alloc (.cells #[.pointer (some ⟨10, 95, none⟩), .pointer (some ⟨w.heap.size, 0, none⟩), .int .u64 150] 125)).alloc (.cells #[.pointer (some ⟨10, 95, none⟩), .pointer (some ⟨w.heap.size, 0, none⟩), .int .u64 150] 125)).alloc (.cells #[.iface T x] 93)).setCell t (.iface T x) = w' := by
 have h6 := @run_callFunc_extern Tryz.prog 70 _ (fun args => ReflectliteValue.unpack (args.getD 0 (.tuple #[]))) Tryz.func70 (by kernel_rfl) (by kernel_rfl) (by kernel_rfl) (by kernel_rfl)
 have h7 := @run_callFunc_extern Tryz.prog 71 _ (ReflectliteValue.methodAny (ReflectliteValue.valueError "reflectlite.Value.Type" 0) (fun t _ _ _ => ReflectliteType.toType t)) Tryz.func71 (by kernel_rfl) (by kernel_rfl) (by kernel_rfl) (by kernel_rfl)
 have h8 := @run_callFunc_extern Tryz.prog 72 _ (ReflectliteValue.method (ReflectliteValue.valueError "reflectlite.Value.IsNil" 0) ReflectliteValue.isNil) Tryz.func72 (by kernel_rfl) (by kernel_rfl) (by kernel_rfl) (by kernel_rfl)
 have h27 := @run_callFunc_extern Tryz.prog 221 _ (ReflectliteType.abiMethod fun t => do pure (.int .u8 (← Rtype.kind t))) Tryz.func221 (by kernel_rfl) (by kernel_rfl) (by kernel_rfl) (by kernel_rfl)
 have h37 := @run_callFunc_extern Tryz.prog 233 _ (ReflectliteType.method ReflectliteType.elem) Tryz.func233 (by kernel_rfl) (by kernel_rfl) (by kernel_rfl) (by kernel_rfl)
 have h38 := @run_callFunc_extern Tryz.prog 234 _ (ReflectliteType.relation "Implements" ReflectliteType.implements_) Tryz.func234 (by kernel_rfl) (by kernel_rfl) (by kernel_rfl) (by kernel_rfl)
 have h10 := @run_callFunc_extern Tryz.prog 105 _ ReflectliteType.typeOf Tryz.func105 (by kernel_rfl) (by kernel_rfl) (by kernel_rfl) (by kernel_rfl)
 have h35 := @run_callFunc_extern Tryz.prog 231 _ (ReflectliteType.relation "AssignableTo" ReflectliteType.assignableTo) Tryz.func231 (by kernel_rfl) (by kernel_rfl) (by kernel_rfl) (by kernel_rfl)
 have h11 := @run_callFunc_extern Tryz.prog 106 _ (ReflectliteValue.method (ReflectliteValue.valueError "reflectlite.Value.Elem" 0) ReflectliteValue.elem) Tryz.func106 (by kernel_rfl) (by kernel_rfl) (by kernel_rfl) (by kernel_rfl)
 have h12 := @run_callFunc_extern Tryz.prog 107 _ ReflectliteValue.set Tryz.func107 (by kernel_rfl) (by kernel_rfl) (by kernel_rfl) (by kernel_rfl)
 have tO := rlTypeOfEB
 have mA := rlMethodAssignableTo
 have a25 := rlAssignableEB
 have v25 := rlValueOfEB
 have f6 := rlValueOfPB
 have f7 := rlTypePB
 have mK := rlMethodKind
 have mE := rlMethodElem
 have mI := rlMethodImplements
 have k27 := rlKindPB
 have k25 := rlKindEB
 have e27 := rlElemPB
 have i25 := rlImplementsEB
 have n8 := rlIsNilPB ⟨w.heap.size, 0, none⟩ t ((w.alloc (.cells #[.pointer (some t)] 95)).alloc (.cells #[.pointer (some ⟨10, 95, none⟩), .pointer (some ⟨w.heap.size, 0, none⟩), .int .u64 150] 125)) (by simp)
 have hlt : 0 < w.heap.size := Laid.lt hg
 have hg2 : ((w.alloc (.cells #[.pointer (some t)] 95)).alloc (.cells #[.pointer (some ⟨10, 95, none⟩), .pointer (some ⟨w.heap.size, 0, none⟩), .int .u64 150] 125)).cell? ⟨0, 0, none⟩ = some (.iface 172 (.agg #[.pointer (some ⟨10, 34, none⟩)])) := by
  rw [World.cell?_alloc_lt _ _ ⟨0, 0, none⟩ (Nat.lt_of_lt_of_le hlt (by simp)), World.cell?_alloc_lt _ _ ⟨0, 0, none⟩ hlt]; exact hg
 have htl : t.block < w.heap.size := by
  rcases Nat.lt_or_ge t.block w.heap.size with h | h
  ·exact h
  ·simp [World.cell?, Array.getElem?_eq_none h] at ht0
 have el := rlElemVB ⟨w.heap.size, 0, none⟩ t (((w.alloc (.cells #[.pointer (some t)] 95)).alloc (.cells #[.pointer (some ⟨10, 95, none⟩), .pointer (some ⟨w.heap.size, 0, none⟩), .int .u64 150] 125)).alloc (.cells #[.pointer (some ⟨10, 95, none⟩), .pointer (some ⟨w.heap.size, 0, none⟩), .int .u64 150] 125)) (by rw [World.cell?_alloc_lt _ _ ⟨w.heap.size, 0, none⟩ (by simp; omega)]; simp)
 have st := rlSetEB t ⟨w.heap.size + 1 + 1 + 1, 0, none⟩ T x old ((((w.alloc (.cells #[.pointer (some t)] 95)).alloc (.cells #[.pointer (some ⟨10, 95, none⟩), .pointer (some ⟨w.heap.size, 0, none⟩), .int .u64 150] 125)).alloc (.cells #[.pointer (some ⟨10, 95, none⟩), .pointer (some ⟨w.heap.size, 0, none⟩), .int .u64 150] 125)).alloc (.cells #[.iface T x] 93))
  (by rw [World.cell?_alloc_at _ _ _ _ (by simp)]; rfl)
  (by rw [World.cell?_alloc_lt _ _ t (by simp; omega), World.cell?_alloc_lt _ _ t (by simp; omega), World.cell?_alloc_lt _ _ t (by simp; omega), World.cell?_alloc_lt _ _ t htl]; exact ht0)
  (by rw [World.frozen?_alloc_old _ _ t (by simp; omega), World.frozen?_alloc_old _ _ t (by simp; omega), World.frozen?_alloc_old _ _ t (by simp; omega), World.frozen?_alloc_old _ _ t (Nat.ne_of_lt htl)]; exact hf0)
 go_enter Tryz.func44, Tryz.ntmps44
 go_wp2
 refine wp_loop_rounds 1 ?_
 rw [rounds_succ]
 go_wp2
 go_ret
 exact ⟨rfl, rfl⟩
theorem as_none (T : TypeId) (v : Value) (w : World) : Calls Tryz.prog 44 #[.nilIface, .iface T v] w (Sk w (.bool false)) := by
 go_enter Tryz.func44, Tryz.ntmps44
 go_wp2
 go_ret
 exact ⟨rfl, rfl⟩
theorem rlAssignableM (w : World) : (ReflectliteType.relation "AssignableTo" ReflectliteType.assignableTo #[.agg #[.pointer (some ⟨10, 91, none⟩)], .iface 172 (.agg #[.pointer (some ⟨10, 93, none⟩)])]).run Tryz.prog w = .ok (.bool false) w := by kernel_rfl
theorem noAsR (v : Value) (xT : TypeId) (w : World) : (Instr.typeAssert (.iface 91 v) xT 177 true).run Tryz.prog w = .ok (.tuple #[.nilIface, .bool false]) w := run_typeAssert_lacksB Tryz.underlying177 (by kernel_rfl) (by kernel_rfl) v xT w
theorem noUnwrapR (v : Value) (xT : TypeId) (w : World) : (Instr.typeAssert (.iface 91 v) xT 180 true).run Tryz.prog w = .ok (.tuple #[.nilIface, .bool false]) w := run_typeAssert_lacksB Tryz.underlying180 (by kernel_rfl) (by kernel_rfl) v xT w
theorem noUnwrapsR (v : Value) (xT : TypeId) (w : World) : (Instr.typeAssert (.iface 91 v) xT 182 true).run Tryz.prog w = .ok (.tuple #[.nilIface, .bool false]) w := run_typeAssert_lacksB Tryz.underlying182 (by kernel_rfl) (by kernel_rfl) v xT w
theorem as_miss (n : Int) (t : Addr) (old : Value) (w : World) (hg : w.cell? ⟨0, 0, none⟩ = some (.iface 172 (.agg #[.pointer (some ⟨10, 34, none⟩)]))) (ht0 : w.cell? t = some old) :
    Calls Tryz.prog 44 #[.iface 91 (.int .i64 n), .iface 95 (.pointer (some t))] w fun ev w' => ev = .returned (.bool false) ∧ Bw w w' := by
 have h6 := @run_callFunc_extern Tryz.prog 70 _ (fun args => ReflectliteValue.unpack (args.getD 0 (.tuple #[]))) Tryz.func70 (by kernel_rfl) (by kernel_rfl) (by kernel_rfl) (by kernel_rfl)
 have h7 := @run_callFunc_extern Tryz.prog 71 _ (ReflectliteValue.methodAny (ReflectliteValue.valueError "reflectlite.Value.Type" 0) (fun t _ _ _ => ReflectliteType.toType t)) Tryz.func71 (by kernel_rfl) (by kernel_rfl) (by kernel_rfl) (by kernel_rfl)
 have h8 := @run_callFunc_extern Tryz.prog 72 _ (ReflectliteValue.method (ReflectliteValue.valueError "reflectlite.Value.IsNil" 0) ReflectliteValue.isNil) Tryz.func72 (by kernel_rfl) (by kernel_rfl) (by kernel_rfl) (by kernel_rfl)
 have h27 := @run_callFunc_extern Tryz.prog 221 _ (ReflectliteType.abiMethod fun t => do pure (.int .u8 (← Rtype.kind t))) Tryz.func221 (by kernel_rfl) (by kernel_rfl) (by kernel_rfl) (by kernel_rfl)
 have h37 := @run_callFunc_extern Tryz.prog 233 _ (ReflectliteType.method ReflectliteType.elem) Tryz.func233 (by kernel_rfl) (by kernel_rfl) (by kernel_rfl) (by kernel_rfl)
 have h38 := @run_callFunc_extern Tryz.prog 234 _ (ReflectliteType.relation "Implements" ReflectliteType.implements_) Tryz.func234 (by kernel_rfl) (by kernel_rfl) (by kernel_rfl) (by kernel_rfl)
 have h10 := @run_callFunc_extern Tryz.prog 105 _ ReflectliteType.typeOf Tryz.func105 (by kernel_rfl) (by kernel_rfl) (by kernel_rfl) (by kernel_rfl)
 have h35 := @run_callFunc_extern Tryz.prog 231 _ (ReflectliteType.relation "AssignableTo" ReflectliteType.assignableTo) Tryz.func231 (by kernel_rfl) (by kernel_rfl) (by kernel_rfl) (by kernel_rfl)
 have h11 := @run_callFunc_extern Tryz.prog 106 _ (ReflectliteValue.method (ReflectliteValue.valueError "reflectlite.Value.Elem" 0) ReflectliteValue.elem) Tryz.func106 (by kernel_rfl) (by kernel_rfl) (by kernel_rfl) (by kernel_rfl)
 have h12 := @run_callFunc_extern Tryz.prog 107 _ ReflectliteValue.set Tryz.func107 (by kernel_rfl) (by kernel_rfl) (by kernel_rfl) (by kernel_rfl)
 have tO := rlTypeOfE
 have mA := rlMethodAssignableTo
 have a25 := rlAssignableM
 have v25 := rlValueOfEB
 have f6 := rlValueOfPB
 have f7 := rlTypePB
 have mK := rlMethodKind
 have mE := rlMethodElem
 have mI := rlMethodImplements
 have k27 := rlKindPB
 have k25 := rlKindEB
 have e27 := rlElemPB
 have i25 := rlImplementsEB
 have n8 := rlIsNilPB ⟨w.heap.size, 0, none⟩ t ((w.alloc (.cells #[.pointer (some t)] 95)).alloc (.cells #[.pointer (some ⟨10, 95, none⟩), .pointer (some ⟨w.heap.size, 0, none⟩), .int .u64 150] 125)) (by simp)
 have hlt : 0 < w.heap.size := Laid.lt hg
 have hg2 : ((w.alloc (.cells #[.pointer (some t)] 95)).alloc (.cells #[.pointer (some ⟨10, 95, none⟩), .pointer (some ⟨w.heap.size, 0, none⟩), .int .u64 150] 125)).cell? ⟨0, 0, none⟩ = some (.iface 172 (.agg #[.pointer (some ⟨10, 34, none⟩)])) := by
  rw [World.cell?_alloc_lt _ _ ⟨0, 0, none⟩ (Nat.lt_of_lt_of_le hlt (by simp)), World.cell?_alloc_lt _ _ ⟨0, 0, none⟩ hlt]; exact hg
 have htl : t.block < w.heap.size := by
  rcases Nat.lt_or_ge t.block w.heap.size with h | h
  ·exact h
  ·simp [World.cell?, Array.getElem?_eq_none h] at ht0
 have el := rlElemVB ⟨w.heap.size, 0, none⟩ t (((w.alloc (.cells #[.pointer (some t)] 95)).alloc (.cells #[.pointer (some ⟨10, 95, none⟩), .pointer (some ⟨w.heap.size, 0, none⟩), .int .u64 150] 125)).alloc (.cells #[.pointer (some ⟨10, 95, none⟩), .pointer (some ⟨w.heap.size, 0, none⟩), .int .u64 150] 125)) (by rw [World.cell?_alloc_lt _ _ ⟨w.heap.size, 0, none⟩ (by simp; omega)]; simp)
 have n1 := noAsR
 have n2 := noUnwrapR
 have n3 := noUnwrapsR
 go_enter Tryz.func44, Tryz.ntmps44
 go_wp2
 refine wp_loop_rounds 1 ?_
 rw [rounds_succ]
 go_wp2
 go_ret
 exact ⟨rfl, ((((Below.refl _ _).alloc (Nat.le_refl _) _).alloc (by simp) _).alloc (by simp; omega) _)⟩
end Go.Proofs.YtnoohlibgaeklaaGreatDoor
namespace Go.Proofs.YtnoohlibgaeklaaGreatDoor
open Go.ChangeShapes Go.WideShapes Go.ChangeAt Go.RowKit
set_option maxRecDepth 100000
set_option maxHeartbeats 16000000
attribute [local go_sem] Oper.semAt_some
theorem runTold_any {w : World} (hE : Laid w) {L : List UInt8} {s : ByteArray} {E : Value} (hend : LineEnd L s E) (w2 : World) (hW : Bw w w2) :
    Calls Tryz.prog 15 #[.string s, E] w2 (Bk w2 (.string (strOf L))) := by
 have HB2 := hide hW
 have HE := hide hE
 obtain ⟨w3, hw3⟩ := nm (w2.alloc (.cells #[.nilIface] 93))
 obtain ⟨G, hG⟩ := nm w2.heap.size
 have HB3 : Hid (Below w2.heap.size w2 w3) := by unfold Hid; rw [hw3]; exact below_alloc1 _ _
 have HG3 : Hid (Blk w3 G 93 #[.nilIface]) := by unfold Hid; rw [hw3, hG]; exact Blk.new _ _ _
 have HGs : Hid (w2.heap.size ≤ G) := by unfold Hid; omega
 clear hW hE
 go_enter Tryz.func15, Tryz.ntmps15
 go_upto_region 2 with fail
 rw [← hw3, ← hG]
 clear hw3 hG
 rcases hend with ⟨rfl, rfl⟩ | ⟨hbad, T, x, rfl⟩ | ⟨n, hn, rfl, hnm⟩
 ·go_wp2_with fail
  go_at_call 44
  refine (as_none _ _ _).mono ?_
  rintro e w4 ⟨rfl, rfl⟩
  obtain ⟨w5, hw5⟩ := nm (w3.alloc (.cells #[.int .i64 0] 91))
  have HB5 : Hid (Below w2.heap.size w2 w5) := by unfold Hid; rw [hw5]; exact HB3.out.trans ((below_alloc1 _ _).mono HB3.out.size)
  go_upto_region 5 with fail
  rw [← hw5]
  clear hw5
  go_wp2_with fail
  go_at_call 44
  refine (as_none _ _ _).mono ?_
  rintro e w6 ⟨rfl, rfl⟩
  go_wp2
  go_ret
  exact ⟨rfl, HB5.out⟩
 ·subst hbad
  have hg := HE.out.below (HB2.out.trans (HB3.out.mono HB2.out.size))
  have ht : w3.cell? ⟨G, 0, none⟩ = some .nilIface := HG3.out.cell 0
  have hfz : w3.frozen? ⟨G, 0, none⟩ = false := HG3.out.frozen 0
  have HAs : Hid (Calls Tryz.prog 44 #[.iface 93 (.agg #[.iface T x]), .iface 95 (.pointer (some ⟨G, 0, none⟩))] w3 (Bk w2 (.bool true))) := by
   refine (as_bad T x ⟨G, 0, none⟩ _ w3 hg ht hfz).mono ?_
   rintro e w' ⟨h1, rfl⟩
   refine ⟨h1, Below.setCell ?_ HGs.out _⟩
   refine HB3.out.trans (Below.mono ?_ HB3.out.size)
   exact ((((Below.refl _ w3).alloc (Nat.le_refl _) _).alloc (by simp) _).alloc (by simp; omega) _).alloc (by simp; omega) _
  clear hg ht hfz
  go_wp2_with fail
  go_at_call 44
  refine HAs.out.mono ?_
  rintro e w4 ⟨rfl, hb4⟩
  have HB4 := hide hb4
  clear hb4
  go_wp2
  go_ret
  exact ⟨rfl, HB4.out⟩
 ·subst hnm
  have hg := HE.out.below (HB2.out.trans (HB3.out.mono HB2.out.size))
  have ht : w3.cell? ⟨G, 0, none⟩ = some .nilIface := HG3.out.cell 0
  have HAs : Hid (Calls Tryz.prog 44 #[.iface 91 (.int .i64 n), .iface 95 (.pointer (some ⟨G, 0, none⟩))] w3 (Bk w3 (.bool false))) := as_miss n ⟨G, 0, none⟩ _ w3 hg ht
  have HN := hide hn
  clear hg ht hn
  go_wp2_with fail
  go_at_call 44
  refine HAs.out.mono ?_
  rintro e w4 ⟨rfl, hb4⟩
  have HB4 := bt HB3 hb4
  clear hb4
  obtain ⟨w5, hw5⟩ := nm (w4.alloc (.cells #[.int .i64 0] 91))
  obtain ⟨G5, hG5⟩ := nm w4.heap.size
  have HB5 : Hid (Below w2.heap.size w2 w5) := by unfold Hid; rw [hw5]; exact HB4.out.trans ((below_alloc1 _ _).mono HB4.out.size)
  have E5 : Blk w5 G5 91 #[.int .i64 0] := by rw [hw5, hG5]; exact Blk.new _ _ _
  have HE5 : Hid (Blk w5 G5 91 #[.int .i64 0]) := E5
  have HG5 : Hid (w2.heap.size ≤ G5) := by unfold Hid; rw [hG5]; exact HB4.out.size
  clear E5
  go_upto_region 5 with fail
  rw [← hw5, ← hG5]
  clear hw5 hG5
  have HAt : Hid (Calls Tryz.prog 44 #[.iface 91 (.int .i64 n), .iface 96 (.pointer (some ⟨G5, 0, none⟩))] w5 fun e w' => e = .returned (.bool true) ∧ Below w2.heap.size w2 w' ∧ w'.cell? ⟨G5, 0, none⟩ = some (.int .i64 n)) := by
   refine (as_hit _ _ _ _ (HE.out.below (HB2.out.trans (HB5.out.mono HB2.out.size))) (HE5.out.cell 0) (HE5.out.frozen 0)).mono ?_
   rintro e w' ⟨h1, rfl⟩
   have h4 : Bw w5 ((((w5.alloc (.cells #[.pointer (some ⟨G5, 0, none⟩)] 96)).alloc (.cells #[.pointer (some ⟨10, 96, none⟩), .pointer (some ⟨w5.heap.size, 0, none⟩), .int .u64 150] 125)).alloc (.cells #[.pointer (some ⟨10, 96, none⟩), .pointer (some ⟨w5.heap.size, 0, none⟩), .int .u64 150] 125)).alloc (.cells #[.int .i64 n] 91)) := ((((Below.refl _ w5).alloc (Nat.le_refl _) _).alloc (by simp) _).alloc (by simp; omega) _).alloc (by simp; omega) _
   refine ⟨h1, Below.setCell (HB5.out.trans (h4.mono HB5.out.size)) HG5.out _, ?_⟩
   exact ((HE5.out.below h4).set 0 _).cell 0
  go_wp2_with fail
  go_at_call 44
  refine HAt.out.mono ?_
  rintro e w6 ⟨rfl, hb6, y0⟩
  have HB6 := hide hb6
  clear hb6
  have HEr : Hid (∀ W, Calls Tryz.prog 45 #[.int .i64 n] W (Sk W (.string ⟨(nameW n).toArray⟩))) := fun W => errno_any n ⟨by have := HN.out; omega, HN.out.2⟩ W
  go_wp2_with fail
  go_at_call 45
  refine (HEr.out _).mono ?_
  rintro e w7 ⟨rfl, rfl⟩
  go_wp2
  go_ret
  exact ⟨rfl, HB6.out⟩
end Go.Proofs.YtnoohlibgaeklaaGreatDoor
namespace Go.Proofs.YtnoohlibgaeklaaGreatDoor
open Go.ChangeShapes Go.WideShapes Go.ChangeAt Go.RowKit
set_option maxRecDepth 100000
set_option maxHeartbeats 16000000
attribute [local go_sem] Oper.semAt_some
theorem trimEnd_miss (s : ByteArray) (hz : s.size ≤ 9223372036854775807) (he : endB s = false) (w : World) :
    Calls Tryz.prog 13 #[.string s, .string ⟨#[10]⟩] w (Sk w (.string s)) := by
 have HH : Hid (∀ W, Calls Tryz.prog 68 #[.string s, .string ⟨#[10]⟩] W (Sk W (.bool false))) := fun W => by
  have h := hasEnd_any s hz W
  rw [he] at h
  exact h
 have HC : Hid (∀ W, Calls Tryz.prog 42 #[.string s, .string ⟨#[10]⟩] W (Sk W (.string s))) := fun W => by
  go_enter Tryz.func42, Tryz.ntmps42
  go_wp2_with (go_at_call 68; refine (HH.out _).mono ?_; rintro e w' ⟨rfl, rfl⟩)
  go_ret
  exact ⟨rfl, rfl⟩
 go_enter Tryz.func13, Tryz.ntmps13
 go_wp2_with (go_at_call 42; refine (HC.out _).mono ?_; rintro e w' ⟨rfl, rfl⟩)
 go_ret
 exact ⟨rfl, rfl⟩
theorem end_plain {c : List UInt8} (h : plainC 10 c = true) : endB (strOf c) = false := by
 cases he : endB (strOf c) with
 | false => rfl
 | true =>
  obtain ⟨l, _, h2⟩ := endB_some he
  rw [strOf_list] at h2
  rw [h2] at h
  unfold plainC at h
  simp at h
theorem piece_line {H : List (List UInt8)} {c : List UInt8} (hc : plainC 10 c = true) (hz : ((H.map fun x => x ++ [10]).flatten ++ c).length ≤ 3000) {k : Nat} {x : List UInt8} (h : (pieces H c)[k]? = some x) :
    ∃ y, (H ++ (if c = [] then [] else [c]))[k]? = some y ∧ y.length ≤ 3000 ∧ ∀ W, Calls Tryz.prog 13 #[.string (strOf x), .string ⟨#[10]⟩] W (Sk W (.string (strOf y))) := by
 by_cases hk : k < H.length
 ·obtain ⟨y, hy, rfl⟩ := pieces_hit h hk
  have hl : y.length ≤ 3000 := by
   have h1 := lines_drop hy
   have h2 : (linesT (H.drop k)).length ≤ (linesT H).length := by
    unfold linesT
    rw [List.map_drop]
    have h2 : ((H.map fun x => x ++ [10]).flatten).length = (((H.map fun x => x ++ [10]).take k).flatten).length + (((H.map fun x => x ++ [10]).drop k).flatten).length := by
     rw [← List.length_append, ← List.flatten_append, List.take_append_drop]
    omega
   rw [h1, List.length_append, List.length_append] at h2
   rw [List.length_append] at hz
   have h3 : (linesT H).length = ((H.map fun x => x ++ [10]).flatten).length := rfl
   omega
  exact ⟨y, by rw [List.getElem?_append_left hk]; exact hy, hl, fun W => trimEnd_hit y (by omega) W⟩
 ·obtain ⟨rfl, rfl, h0⟩ := pieces_last h hk
  rw [List.length_append] at hz
  exact ⟨x, by rw [List.getElem?_append_right (Nat.le_refl _), if_neg h0]; simp, by omega, fun W => trimEnd_miss _ (by rw [strOf_size]; omega) (end_plain hc) W⟩
def AnsOk (w : World) (b : Nat) : Prop := ∀ (l : Lg) (fs : List Fm) (y : List UInt8) (W : World), y.length ≤ 3000 → Bw w W → LogAt b l W → LgRun l fs →
 Calls Tryz.prog 12 #[.agg #[.pointer (some ⟨b, 0, none⟩)], .string (strOf y)] W fun e w' => ∃ s E, e = .returned (.tuple #[.string s, E]) ∧ LineEnd (lineT fs y) s E ∧ (∃ l', LogAt b l' w' ∧ LgRun l' (lineS fs y)) ∧ LKeep (fun x => x = b) W w'
theorem run_step {ls : List (List UInt8)} {k : Nat} {y : List UInt8} (h : ls[k]? = some y) : saidF [] (ls.take (k + 1)) = lineS (saidF [] (ls.take k)) y ∧ runF [] (ls.take (k + 1)) = runF [] (ls.take k) ++ (lineT (saidF [] (ls.take k)) y ++ [10]) := by
 have e : ls.take (k + 1) = ls.take k ++ [y] := by rw [List.take_add_one, h]; rfl
 rw [e]
 refine ⟨by unfold saidF; rw [List.foldl_append]; rfl, ?_⟩
 rw [runF_append]
 rfl
theorem run_long (s : ByteArray) (hz : 3000 < s.size) (w : World) : Calls Tryz.prog 6 #[.string s] w (Bk w (.string ⟨#[116, 111, 111, 32, 108, 111, 110, 103, 10]⟩)) := by
 have h : (3000 : Int) < (s.size : Int) := by omega
 go_enter Tryz.func6, Tryz.ntmps6
 go_wp2
 go_ret
 exact ⟨rfl, Below.refl _ _⟩
theorem BldStep.low {R : Nat → Prop} {b K : Nat} {X Y : World} (h : BldStep R b X Y) (hb : K ≤ b) (hR : ∀ g, R g → K ≤ g) (hK : K ≤ X.heap.size) : Below K X Y :=
 ⟨h.rest.os, h.rest.tape, h.rest.output, h.rest.size, fun k hk => h.same k (by omega) (by omega) fun hr => by have := hR k hr; omega⟩
theorem write_line {R : Nat → Prop} {b : Nat} {out L : List UInt8} {w : World} (h : BldIn R b out w) (h1 : out.length ≤ 60020) (h2 : L.length ≤ 19) :
    Calls Tryz.prog 14 #[.pointer (some ⟨b, 0, none⟩), .string (strOf L ++ ⟨#[10]⟩)] w fun e w' => (∃ v, e = .returned (.tuple #[.int .i64 v, .nilIface])) ∧ BldIn (fun g => R g ∨ w.heap.size ≤ g) b (out ++ (L ++ [10])) w' ∧ BldStep R b w w' := by
 obtain ⟨s, hs⟩ := nm (strOf L ++ (⟨#[10]⟩ : ByteArray))
 rw [← hs]
 have hz : s.size = L.length + 1 := by rw [hs, ByteArray.size_append, strOf_size]; rfl
 have hl : s.data.toList = L ++ [10] := by rw [hs, ByteArray.data_append, Array.toList_append, strOf_list]
 have hw := bwrite_in R b out s w h (by omega) (by omega)
 rw [hl] at hw
 exact hw.mono fun e w' ⟨h1, h2, h3⟩ => ⟨⟨_, h1⟩, h2, h3⟩
theorem run_lines (H : List (List UInt8)) (c : List UInt8) (hH : ∀ x ∈ H, plainC 10 x = true) (hc : plainC 10 c = true) (hz : (linesT H ++ c).length ≤ 3000) (w : World) (hE : Laid w) (hAns : AnsOk w w.heap.size) :
    Calls Tryz.prog 6 #[.string (strOf (linesT H ++ c))] w (Bk w (.string ⟨(runF [] (H ++ (if c = [] then [] else [c]))).toArray⟩)) := by
 have HSq : Hid (∀ (Bu : Nat) (W : World), Blk W Bu 9 #[.string (strOf (linesT H ++ c))] → SeqS 2 Tryz.prog 33 #[.pointer (some ⟨Bu, 0, none⟩)] encP (pieces H c) (fun b => b = Bu) W) := fun Bu W h => lines_any H c hH hc (by omega) 2 (by omega) Bu W h
 obtain ⟨ls, hls⟩ := nm (H ++ (if c = [] then [] else [c]))
 have HPc : Hid (∀ (k : Nat) (x : List UInt8), (pieces H c)[k]? = some x → ∃ y, ls[k]? = some y ∧ y.length ≤ 3000 ∧ ∀ W, Calls Tryz.prog 13 #[.string (strOf x), .string ⟨#[10]⟩] W (Sk W (.string (strOf y)))) := fun k x h => by rw [hls]; exact piece_line hc hz h
 have HLn : Hid ((pieces H c).length = ls.length ∧ ls.length ≤ 3001) := by
  unfold Hid
  have h1 : (pieces H c).length = ls.length := by rw [pieces_length, hls, List.length_append]; split <;> simp
  have h2 : H.length ≤ (linesT H).length := by
   have key : ∀ L : List (List UInt8), L.length ≤ (linesT L).length := by
    intro L
    induction L with
    | nil => simp
    | cons x L ih => show L.length + 1 ≤ ((x ++ [10]) ++ linesT L).length; rw [List.length_append, List.length_append, List.length_singleton]; omega
   exact key H
  rw [List.length_append] at hz
  refine ⟨h1, ?_⟩
  rw [hls, List.length_append]
  split <;> simp <;> omega
 have HA : Hid (AnsOk w w.heap.size ∧ Laid w) := ⟨hAns, hE⟩
 rw [← hls]
 obtain ⟨S0, hS0⟩ := nm (strOf (linesT H ++ c))
 have hs3 : (S0.size : Int) ≤ 3000 := by rw [hS0, strOf_size]; omega
 rw [← hS0] at HSq ⊢
 obtain ⟨P, hP⟩ := nm (pieces H c)
 rw [← hP] at HSq HPc HLn
 clear hAns hE hH hc hz hls hS0 hP
 obtain ⟨w1, hw1⟩ := nm (w.alloc (.cells (lgC 4 ⟨#[]⟩ 0 (-1) false) 84))
 have s1 : w1.heap.size = w.heap.size + 1 := by rw [hw1, World.size_alloc]
 have b1 : Bw w w1 := by rw [hw1]; exact below_alloc1 _ _
 have l1 : LogAt w.heap.size (lg0 4) w1 := by rw [hw1]; exact logAt_new w
 have HNw : Hid (Calls Tryz.prog 10 #[.int .i64 4] w fun e w' => e = .returned (.tuple #[.pointer (some ⟨w.heap.size, 0, none⟩), .nilIface]) ∧ w' = w1) := by rw [hw1]; exact logNew_ok 4 (by decide) w
 clear hw1
 obtain ⟨w2, hw2⟩ := nm (w1.alloc (.cells #[.pointer (some ⟨w.heap.size, 0, none⟩)] 38))
 have s2 : w2.heap.size = w.heap.size + 1 + 1 := by rw [hw2, World.size_alloc, s1]
 have b2 : Bw w w2 := by rw [hw2]; exact b1.alloc b1.size _
 have l2 : LogAt w.heap.size (lg0 4) w2 := by rw [hw2]; exact l1.keep (Below.heap_alloc _ _ _ l1.lt)
 have d2 : Blk w2 (w.heap.size + 1) 38 #[.pointer (some ⟨w.heap.size, 0, none⟩)] := by rw [hw2, ← s1]; exact Blk.new _ _ _
 obtain ⟨w3, hw3⟩ := nm (w2.alloc (.cells #[.pointer none, .slice none 0 0] 42))
 have s3 : w3.heap.size = w.heap.size + 1 + 1 + 1 := by rw [hw3, World.size_alloc, s2]
 have b3 : Bw w w3 := by rw [hw3]; exact b2.alloc b2.size _
 have l3 : LogAt w.heap.size (lg0 4) w3 := by rw [hw3]; exact l2.keep (Below.heap_alloc _ _ _ l2.lt)
 have d3 : Blk w3 (w.heap.size + 1) 38 #[.pointer (some ⟨w.heap.size, 0, none⟩)] := by rw [hw3]; exact d2.old _
 have o3 : BldIn (fun _ => False) (w.heap.size + 1 + 1) [] w3 := by rw [hw3, ← s2]; exact bld_new _ _
 obtain ⟨wl, hwl⟩ := nm (w3.alloc (.cells #[.string S0] 9))
 have HB0 : Hid (Bw w wl) := by unfold Hid; rw [hwl]; exact b3.alloc b3.size _
 have Hsz : Hid (wl.heap.size = w.heap.size + 4) := by unfold Hid; rw [hwl, World.size_alloc, s3]
 have HL0 : Hid (LogAt w.heap.size (lg0 4) wl) := by unfold Hid; rw [hwl]; exact l3.keep (Below.heap_alloc _ _ _ l3.lt)
 have HD0 : Hid (Blk wl (w.heap.size + 1) 38 #[.pointer (some ⟨w.heap.size, 0, none⟩)]) := by unfold Hid; rw [hwl]; exact d3.old _
 have HO0 : Hid (BldIn (fun _ => False) (w.heap.size + 1 + 1) [] wl) := by unfold Hid; rw [hwl]; exact o3.keep (Below.heap_alloc _ _ _ (by omega)) fun g h => h.elim
 have HS0 : Hid (Blk wl (w.heap.size + 1 + 1 + 1) 9 #[.string S0]) := by unfold Hid; rw [hwl, ← s3]; exact Blk.new _ _ _
 clear l1 l2 l3 d2 d3 o3 b1 b2 b3
 refine (callsIn_wide (n := 3)).1 ?_
 refine callsIn_of_wp_marks Tryz.func6 rfl trivial ?_ rfl
 simp only [Tryz.ntmps6, List.size_toArray, List.length_cons, List.length_nil, Nat.reduceAdd, Nat.reduceSub, Array.replicate_succ, Array.replicate_zero, List.push_toArray, List.append_toArray, List.nil_append, List.cons_append]
 gi_wp2_with fail
 refine ⟨trivial, ?_⟩
 gi_at_call 10
 refine (callsIn_wide.2 HNw.out).mono ?_
 rintro e w9 ⟨rfl, rfl⟩
 gi_upto_region 5 with fail
 rw [← hw2]
 clear hw2
 gi_upto_region 6 with fail
 rw [← hw3]
 clear hw3
 gi_wp2_with fail
 refine ⟨trivial, ?_⟩
 gi_at_call 11
 refine (callsIn_wide.2 (lines_made _ _)).mono ?_
 rintro e w4 ⟨rfl, rfl⟩
 gi_wp2_with fail
 rw [← hwl]
 clear hwl
 refine wpIn_range_ownS (by omega) (gf := 33) (lb := #[.pointer (some ⟨w.heap.size + 1 + 1 + 1, 0, none⟩)]) rfl (enters_of Tryz.func33 (by kernel_rfl) rfl) (encs := encP) (A := P) (S := fun b => b = w.heap.size + 1 + 1 + 1)
  (fun b hb => by have := Hsz.out; omega) (fun W hW => HSq.out _ W (HS0.out.below hW)) (fun _ => rfl)
  (fun k R W => Bw w W ∧ (∀ g, R g → w.heap.size + 4 ≤ g) ∧ Blk W (w.heap.size + 1) 38 #[.pointer (some ⟨w.heap.size, 0, none⟩)] ∧ (∃ l, LogAt w.heap.size l W ∧ LgRun l (saidF [] (ls.take k))) ∧ BldIn R (w.heap.size + 1 + 1) (runF [] (ls.take k)) W)
  (fun _ _ => False)
  (fun k R X Y h hb => by
   obtain ⟨h1, h2, h3, ⟨l, h4, h5⟩, h6⟩ := h
   have hz := Hsz.out
   refine ⟨h1.trans ⟨hb.rest.os, hb.rest.tape, hb.rest.output, hb.rest.size, fun b hb' => hb.old b (by omega) (by omega)⟩, h2, ?_, ⟨l, h4.keep (hb.old _ (by omega) (by omega)), h5⟩, h6.keep (hb.old _ (by omega) (by omega)) hb.own⟩
   unfold Blk; rw [hb.old _ (by omega) (by omega)]; exact h3)
  (fun _ _ _ h _ => h) ⟨HB0.out, fun g h => h.elim, HD0.out, ⟨_, HL0.out, lgrun0⟩, HO0.out⟩ ?round ?done ?stop
 case round =>
  intro ln k x R W hx hl1 hl2 hlR ⟨hB, hR4, hD, ⟨l, hlg, hrun⟩, hO⟩
  obtain ⟨y, hy, hyl, hTr⟩ := HPc.out k x hx
  obtain ⟨e1, e2⟩ := run_step hy
  obtain ⟨fs, hfs⟩ := nm (saidF [] (ls.take k))
  obtain ⟨out, hout⟩ := nm (runF [] (ls.take k))
  rw [← hfs] at e1 e2 hrun
  rw [← hout] at e2 hO
  have HTr := hide hTr
  have Hl1 : Hid (w.heap.size + 4 ≤ ln) := by unfold Hid; rw [← Hsz.out]; exact hl1
  have HR4 := hide hR4
  have hol : out.length ≤ 60020 := by
   rw [hout]
   have h1 := runF_short [] (ls.take k)
   have h2 : (ls.take k).length ≤ 3001 := by rw [List.length_take]; have := HLn.out.2; omega
   omega
  have hll : (lineT fs y).length ≤ 19 := lineT_short fs y
  unfold encP
  gi_wp2
  refine ⟨OverS.refl _ _ _ _, fun o => ?_⟩
  obtain ⟨W2, hW2⟩ := nm (W.putObj ln o)
  have hs2 : W2.heap.size = W.heap.size := by rw [hW2]; simp
  have HB2 : Hid (Bw w W2) := by unfold Hid; rw [hW2]; exact hB.trans (below_putS _ _ (by have := Hl1.out; omega))
  have D0 : Hid (Blk W2 (w.heap.size + 1) 38 #[.pointer (some ⟨w.heap.size, 0, none⟩)]) := by unfold Hid; rw [hW2]; exact putFm hD _ (by have := Hl1.out; omega)
  have DL : Hid (LogAt w.heap.size l W2) := by unfold Hid; rw [hW2]; exact hlg.keep (World.putObj_heap_other (by have := Hl1.out; omega))
  have DO : Hid (BldIn R (w.heap.size + 1 + 1) out W2) := by unfold Hid; rw [hW2]; exact hO.keep (World.putObj_heap_other (by have := Hl1.out; omega)) fun g hg _ => World.putObj_heap_other fun e => hlR (e ▸ hg)
  have HS2 : Hid (w.heap.size + 4 ≤ W2.heap.size) := by unfold Hid; rw [hs2]; have := Hl1.out; omega
  have HAn : Hid (Calls Tryz.prog 12 #[.agg #[.pointer (some ⟨w.heap.size, 0, none⟩)], .string (strOf y)] W2.drew fun e w' => ∃ s E, e = .returned (.tuple #[.string s, E]) ∧ LineEnd (lineT fs y) s E ∧ (∃ l', LogAt w.heap.size l' w' ∧ LgRun l' (lineS fs y)) ∧ LKeep (fun x => x = w.heap.size) W2 w') :=
   (HA.out.1 l fs y W2.drew hyl HB2.out.drew DL.out hrun).mono fun e w' ⟨s, E, h1, h2, h3, h4⟩ => ⟨s, E, h1, h2, h3, ⟨h4.os, h4.tape, h4.output, h4.size, h4.block⟩⟩
  obtain ⟨L, hL⟩ := nm (lineT fs y)
  rw [← hL] at hll e2 HAn
  have HE : Hid (saidF [] (ls.take (k + 1)) = lineS fs y ∧ runF [] (ls.take (k + 1)) = out ++ (L ++ [10])) := ⟨e1, e2⟩
  have HTo : Hid (∀ s E w4, LineEnd L s E → LKeep (fun x => x = w.heap.size) W2 w4 → Calls Tryz.prog 15 #[.string s, E] w4 (Bk w4 (.string (strOf L)))) := fun s E w4 h hk =>
   runTold_any HA.out.2 h w4 (HB2.out.trans (hk.below (fun x e => by omega) (by have := HS2.out; omega)))
  have HWr : Hid (∀ w5, LKeep (fun x => x = w.heap.size) W2 w5 → Calls Tryz.prog 14 #[.pointer (some ⟨w.heap.size + 1 + 1, 0, none⟩), .string (strOf L ++ ⟨#[10]⟩)] w5 fun e w' => (∃ v, e = .returned (.tuple #[.int .i64 v, .nilIface])) ∧ BldIn (fun g => R g ∨ w5.heap.size ≤ g) (w.heap.size + 1 + 1) (out ++ (L ++ [10])) w' ∧ BldStep R (w.heap.size + 1 + 1) w5 w') := fun w5 hk => by
   have hS := HS2.out
   exact write_line (DO.out.keep (hk.block _ (by omega) (by omega)) fun g hg hl => hk.block g hl (by have := HR4.out g hg; omega)) hol hll
  have z1 : (strOf L).size ≤ 19 := by rw [strOf_size]; exact hll
  rw [← hW2]
  clear hW2 hx hl1 hl2 hlR hB hD hO hR4 hlg hrun hTr hy hyl e1 e2 hfs hout hol hll hs2 hL
  have c5 : W2.drew.cell? ⟨w.heap.size + 1, 0, none⟩ = some (.pointer (some ⟨w.heap.size, 0, none⟩)) := D0.out.cell 0
  gi_upto_region 8 with fail
  gi_region_with (refine ⟨trivial, ?_⟩; first
   | (gi_at_call 13; refine (CallsIn.inRound ln (callsIn_wide.2 (HTr.out _))).mono ?_; rintro e w3 ⟨rfl, rfl⟩)
   | (gi_at_call 12; refine (CallsIn.inRound ln (callsIn_wide.2 HAn.out)).mono ?_; rintro e w4 ⟨s4, E4, rfl, he4, hl4, hk4⟩))
  all_goals
   gi_wp2_with fail
   refine ⟨trivial, ?_⟩
   gi_at_call 15
   refine (CallsIn.inRound ln (callsIn_wide.2 (HTo.out _ _ _ he4 hk4))).mono ?_
   rintro e w5 ⟨rfl, hb5⟩
   have HS5 : Hid ((∃ l', LogAt w.heap.size l' w5 ∧ LgRun l' (lineS fs y)) ∧ LKeep (fun x => x = w.heap.size) W2 w5) := by
    obtain ⟨l', h1, h2⟩ := hl4
    exact ⟨⟨l', h1.keep (hb5.block _ h1.lt), h2⟩, hk4.trans (Grows.refl _ _) (LKeep.of_below hb5)⟩
   clear he4 hl4 hk4 hb5
   gi_wp2_with fail
   refine ⟨trivial, ?_⟩
   gi_at_call 14
   refine (CallsIn.inRound ln (callsIn_wide.2 (HWr.out _ HS5.out.2))).mono ?_
   rintro e w6 ⟨⟨v6, rfl⟩, hb6, hs6⟩
   have HS6 : Hid (BldIn (fun g => R g ∨ w5.heap.size ≤ g) (w.heap.size + 1 + 1) (out ++ (L ++ [10])) w6 ∧ BldStep R (w.heap.size + 1 + 1) w5 w6) := ⟨hb6, hs6⟩
   clear hb6 hs6
   gi_wp2
   obtain ⟨⟨l', p3, p4⟩, p5⟩ := HS5.out
   obtain ⟨q1, q2⟩ := HS6.out
   have hz := Hsz.out
   have hS := HS2.out
   have hR4 := HR4.out
   have z5 := p5.size
   have z6 := q2.rest.size
   have g5 : ∀ k, k < W2.heap.size → k ≠ w.heap.size + 1 + 1 → ¬ R k → w6.heap[k]? = w5.heap[k]? := fun k hl hb hr => q2.same k (by omega) hb hr
   have f4 : ∀ b, b < w.heap.size + 1 + 1 → w6.heap[b]? = w5.heap[b]? := fun b hb => g5 b (by omega) (by omega) fun hr => by have := hR4 b hr; omega
   have hB6 : Bw w w6 := (HB2.out.trans (p5.below (fun b e => by omega) (by omega))).trans (q2.low (by omega) (fun g h => by have := hR4 g h; omega) (by omega))
   refine ⟨⟨by omega, fun k hk hl hr => ?_⟩, fun g => R g ∨ W2.heap.size ≤ g, ⟨hB6, fun g h => ?_, ?_, ⟨l', p3.keep (f4 _ (by omega)), ?_⟩, ?_⟩, fun g h => h⟩
   ·have n0 : k ≠ w.heap.size := by rcases hk with h1 | h1 <;> omega
    have n2 : k ≠ w.heap.size + 1 + 1 := by rcases hk with h1 | h1 <;> omega
    exact (g5 k hl n2 hr).trans (p5.block k hl n0)
   ·rcases h with h | h
    ·exact hR4 g h
    ·omega
   ·have d4 := p5.blk D0.out (by omega)
    unfold Blk
    rw [f4 _ (by omega)]
    exact d4
   ·rw [HE.out.1]
    exact p4
   ·rw [HE.out.2]
    exact q1.mono fun g h => by rcases h with h | h; exact Or.inl h; exact Or.inr (by omega)
 case done =>
  intro D R W hD hDR ⟨hB, hR4, hD3, hl, hO⟩ hK
  rw [HLn.out.1, List.take_length] at hO
  have HD : Hid (w.heap.size + 4 ≤ D) := by unfold Hid; rw [← Hsz.out]; exact hD
  have HK := hide hK
  have HBk := hide hB
  have HW : Hid (D < W.heap.size) := by
   unfold Hid
   rcases Nat.lt_or_ge D W.heap.size with h | h
   ·exact h
   ·rw [Array.getElem?_eq_none h] at hK; simp at hK
  have HSt : Hid (Calls Tryz.prog 16 #[.pointer (some ⟨w.heap.size + 1 + 1, 0, none⟩)] W fun e w' => e = .returned (.string ⟨(runF [] ls).toArray⟩) ∧ BldStep R (w.heap.size + 1 + 1) W w') := bstring_in R _ _ W hO
  have HR4 := hide hR4
  have HDR := hide hDR
  clear hD hB hR4 hD3 hl hO hK hDR
  gi_wp2_with fail
  refine ⟨trivial, ?_⟩
  gi_at_call 16
  refine (callsIn_wide.2 HSt.out).mono ?_
  rintro e w7 ⟨rfl, hs7⟩
  have HK7 : Hid (w7.heap[D]? = some (.deferred (some []))) := by unfold Hid; rw [hs7.same D HW.out (by have := HD.out; omega) HDR.out]; exact HK.out
  have HB7 : Hid (Bw w w7) := HBk.out.trans (hs7.low (by omega) (fun g h => by have := HR4.out g h; omega) HBk.out.size)
  clear hs7
  gi_wp2
  refine ⟨by simp, .inl ⟨_, _, rfl, run_takeDeferred HK7.out, ?_⟩⟩
  have hd := HD.out
  refine ⟨_, ?res, rfl, HB7.out.trans (below_putS _ _ (by omega))⟩
  case res => exact results_tmp (t := 2) rfl _ _ _
 case stop => exact fun _ _ _ _ _ h => h.elim
theorem run_any (s : ByteArray) (w : World) (hE : Laid w) (hAns : AnsOk w w.heap.size) :
    Calls Tryz.prog 6 #[.string s] w (Bk w (.string (txtOf (runT s.data.toList)))) := by
 have hl : s.data.toList.length = s.size := Array.length_toList
 by_cases hz : 3000 < s.size
 ·have e : runT s.data.toList = longW := by unfold runT; rw [if_pos (by rw [hl]; exact hz)]
  rw [e]
  exact run_long s hz w
 ·obtain ⟨H, c, h1, h2, h3, h4⟩ := runL_is s.data.toList
  have e : runT s.data.toList = runF [] (H ++ (if c = [] then [] else [c])) := by unfold runT; rw [if_neg (by rw [hl]; exact hz), h4]
  have es : s = strOf (linesT H ++ c) := by
   have h5 : s.data.toList = linesT H ++ c := h3
   rw [← h5]
   rfl
  rw [e]
  have hlen : (linesT H ++ c).length ≤ 3000 := by
   have h5 : s.data.toList = linesT H ++ c := h3
   rw [← h5, hl]
   omega
  rw [es]
  exact run_lines H c h1 h2 hlen w hE hAns
end Go.Proofs.YtnoohlibgaeklaaGreatDoor
namespace Go.Proofs.YtnoohlibgaeklaaGreatDoor
open Go.ChangeShapes Go.WideShapes Go.ChangeAt Go.RowKit
set_option maxRecDepth 100000
set_option maxHeartbeats 16000000
def Fresh (K : Nat) (w : World) (v : Value) (t : List Int) : Prop := w.ownsRow K 3 1 v t.length (t.map (Value.int .i64))
theorem Fresh.reads {K : Nat} {w : World} {v : Value} {t : List Int} (h : Fresh K w v t) : Reads w v t := by
 rcases h.2 with ⟨rfl, h0⟩ | ⟨g, cap, cur, rfl, hg, hh, hn, hm, _, _⟩
 ·exact Or.inl ⟨none, 0, rfl, List.eq_nil_of_length_eq_zero h0⟩
 ·rcases Nat.eq_zero_or_pos t.length with h0 | h0
  ·refine Or.inl ⟨some ⟨g, 0, none⟩, cap, by rw [h0], List.eq_nil_of_length_eq_zero h0⟩
  ·refine Or.inr ⟨g, 0, cap, rfl, (Array.getElem?_eq_some_iff.1 hh).1, h0, ⟨by unfold maxLen at hm; omega, hn⟩, fun k hk => ?_⟩
   rw [Nat.zero_add]; exact ownsRow_int h hk
theorem Fresh.below {K : Nat} {w w' : World} {v : Value} {t : List Int} (h : Fresh K w v t) (hb : Bw w w') : Fresh K w' v t := ownsRow_below h hb
theorem copied_any (t : List Int) (v : Value) (w : World) (h : Reads w v t) (hl : t.length ≤ 40) :
    Calls Tryz.prog 151 #[v] w fun e w' => ∃ v', e = .returned v' ∧ Fresh w.heap.size w' v' t ∧ Below w.heap.size w w' := by
 obtain ⟨i0, hi, hz0, hz1, hz2⟩ := info_parts infoInt
 rcases h with ⟨ao, cap, rfl, rfl⟩ | ⟨b, off, cap, rfl, hB, h0, ⟨_, hcap⟩, hc⟩
 ·cases ao with
  | none =>
   have hrz : ∀ ty W, (Builtin.append_ #[62, 62] ty #[.slice none 0 0, .slice none 0 cap]).run Tryz.prog W = .ok (.slice none 0 0) W := fun ty W => by
    simp [Builtin.append_, Builtin.lenOf, Builtin.firstCells, run_underlying Tryz.underlying62]
   go_enter Tryz.func151, Tryz.ntmps151
   go_wp2_with (at_builtin; refine Lib.wpList_append_run _ rfl _ _ _ _ rfl _ _ rfl rfl _ _ (hrz _ _) ?_)
   go_ret
   exact ⟨_, rfl, World.ownsRow_nil _ _ _ _, Below.refl _ _⟩
  | some ad =>
   obtain ⟨K, hK⟩ := nm w.heap.size
   have HK := hide hK
   rw [← hK]
   clear hK
   go_enter Tryz.func151, Tryz.ntmps151
   go_wp2_with (first | (at_builtin; refine wpList_append_own _ rfl _ (.tmp 3) 62 rfl K 3 i0 (.int .i64 0) 1 8 Tryz.underlying62 hi hz0 hz1 hz2 rfl (by decide) (.slice none 0 0) 0 [] rfl (World.ownsRow_nil _ _ _ _) ad 0 cap [] rfl rfl ?a1 ?a2 ?a3 ?a4 ?a5 ?_))
   case a1 => intro j u hu; simp at hu
   case a2 => intro u hu; cases hu
   case a3 => unfold maxLen; omega
   case a4 => omega
   case a5 => rw [HK.out]; exact Nat.le_refl _
   intro v' w2 hown' hgrow _
   have HO : Hid (Fresh K w2 v' [] ∧ Below K w w2) := ⟨hown', (Below.refl _ w).grown hgrow (by rw [HK.out]; exact Nat.le_refl _) (fun k hk => by cases hk)⟩
   clear hown' hgrow
   go_wp2
   go_ret
   exact ⟨_, rfl, HO.out.1, HO.out.2⟩
 ·have HC := hide hc
  clear hc hB
  obtain ⟨n, hn⟩ := nm t.length
  have HN := hide hn
  obtain ⟨K, hK⟩ := nm w.heap.size
  have HK := hide hK
  rw [← hn] at hl h0 hcap ⊢
  rw [← hK]
  clear hn hK
  go_enter Tryz.func151, Tryz.ntmps151
  go_wp2_with (first | (at_builtin; refine wpList_append_own _ rfl _ (.tmp 3) 62 rfl K 3 i0 (.int .i64 0) 1 8 Tryz.underlying62 hi hz0 hz1 hz2 rfl (by decide) (.slice none 0 0) 0 [] rfl (World.ownsRow_nil _ _ _ _) ⟨b, off, none⟩ n cap (t.map (Value.int .i64)) rfl ?a0 ?a1 ?a2 ?a3 ?a4 ?a5 ?_))
  case a0 => rw [List.length_map, HN.out, Nat.mul_one]
  case a1 =>
   intro j u hu
   rw [Go.WideShapes.add_plain]
   have hj : j < t.length := by have := (List.getElem?_eq_some_iff.1 hu).1; simpa using this
   rw [HC.out j hj]
   rw [← hu]
   simp [List.getElem?_eq_getElem hj]
  case a2 => intro u hu; simp at hu; obtain ⟨_, _, rfl⟩ := hu; rfl
  case a3 => unfold maxLen; omega
  case a4 => omega
  case a5 => rw [HK.out]; exact Nat.le_refl _
  intro v' w2 hown' hgrow _
  have HO : Hid (Fresh K w2 v' t ∧ Below K w w2) := by
   refine ⟨?_, (Below.refl _ w).grown hgrow (by rw [HK.out]; exact Nat.le_refl _) (fun k hk => by cases hk)⟩
   have : w2.ownsRow K 3 1 v' n (t.map (Value.int .i64)) := by simpa using hown'
   rw [HN.out] at this
   exact this
  clear hown' hgrow
  go_wp2
  go_ret
  exact ⟨_, rfl, HO.out.1, HO.out.2⟩
theorem infoI : (Tryz.prog.info? 3).map (fun i => (i.zero, i.size, i.bytes)) = some (some (.int .i64 0), 1, 8) := by kernel_rfl
theorem growI (n : Nat) (h0 : 0 < n) (h1 : n ≤ 40) (w : World) :
    Calls Tryz.prog 152 #[.slice none 0 0, .int .i64 n] w fun e w' => ∃ cap, e = .returned (.slice (some ⟨w.heap.size, 0, none⟩) 0 cap) ∧ w'.ownsRow w.heap.size 3 1 (.slice (some ⟨w.heap.size, 0, none⟩) 0 cap) 0 [] ∧ Bw w w' ∧ w.heap.size < w'.heap.size := by
 obtain ⟨i0, hi, hz0, hz1, hz2⟩ := info_parts infoI
 have a1 : ¬ ((n : Int) < 0) := by omega
 have a4 : (n : Int) > 0 := by omega
 have hold : (Builtin.firstCells i0.size 0 (.slice none 0 0)).run Tryz.prog w.drew = .ok #[] w.drew := run_firstCells_none w.drew i0.size 0 0 0
 have hrz : ∀ ty, (Builtin.append_ #[62, 3] ty #[.slice none 0 0, .int .i64 n]).run Tryz.prog w =
     .ok (.slice (some ⟨w.heap.size, 0, none⟩) n (grownCap w n 0 3)) (w.drew.alloc (.cells (#[] ++ Builtin.zeroCells (Value.cells (.int .i64 0)) n ++ Builtin.zeroCells (Value.cells (.int .i64 0)) (grownCap w n 0 3 - n)) 3)) := fun ty => by
  have h := Lib.run_append_grow_zeros w 62 3 ty 3 i0 (.int .i64 0) .i64 .i64 Tryz.underlying62 Tryz.underlying3 hi hz0 none 0 0 [] hold n h0 (by omega) (by omega) (by omega) (by rw [hz2]; omega) (by rw [Nat.zero_add, hz2]; exact growslice_fits (by omega) (by omega))
  rw [Nat.zero_add] at h
  exact h
 have hGn : n ≤ grownCap w n 0 3 := grownCap_ge w _ _ _
 have hG63 : grownCap w n 0 3 ≤ maxLen := grownCap_le_maxLen w n 0 3 (by unfold maxLen; omega)
 obtain ⟨G, hG⟩ := nm (grownCap w n 0 3)
 rw [← hG] at hrz hGn hG63
 have HE : Hid (∃ w', w' = w.drew.alloc (.cells (#[] ++ Builtin.zeroCells (Value.cells (.int .i64 0)) n ++ Builtin.zeroCells (Value.cells (.int .i64 0)) (G - n)) 3) ∧ w'.ownsRow w.heap.size 3 1 (.slice (some ⟨w.heap.size, 0, none⟩) 0 G) 0 [] ∧ Bw w w' ∧ w.heap.size < w'.heap.size) := by
  refine ⟨_, rfl, ?_, ?_, ?_⟩
  ·refine ⟨by simp, .inr ⟨w.heap.size, G, _, rfl, Nat.le_refl _, heap_alloc_new w.drew _, Nat.zero_le _, hG63, ?_, by simp⟩⟩
   simp [Builtin.zeroCells, Value.cells]
   omega
  ·exact ((Below.refl _ w).drew).trans (below_alloc1 w.drew _)
  ·simp
 have hG63' : G ≤ 9223372036854775807 := by unfold maxLen at hG63; omega
 clear hold hG hG63
 obtain ⟨w', hw', HE⟩ := HE.out
 rw [← hw'] at hrz
 have HE' := hide HE
 clear hw' HE
 go_enter Tryz.func152, Tryz.ntmps152
 go_wp2_with (at_builtin; refine Lib.wpList_append_run _ rfl _ _ _ _ rfl _ _ rfl rfl _ _ (hrz _) ?_)
 go_ret
 exact ⟨G, rfl, HE'.out⟩
structure RowI where
 b : Nat
 off : Nat
 cap : Nat
 m : Nat
 vs : List Value
def RowI.Lies (w : World) (r : RowI) : Prop := r.b < w.heap.size ∧ 0 < r.m ∧ r.m ≤ r.cap ∧ r.vs.length = r.m * 1 ∧ (∀ u ∈ r.vs, u.oneCell' = true) ∧ ∀ j u, r.vs[j]? = some u → w.cell? ⟨r.b, r.off + j, none⟩ = some u
theorem RowI.Lies.below {w w' : World} {r : RowI} (h : r.Lies w) (hb : Bw w w') : r.Lies w' :=
 ⟨Nat.lt_of_lt_of_le h.1 hb.size, h.2.1, h.2.2.1, h.2.2.2.1, h.2.2.2.2.1, fun j u hu => by rw [hb.cell h.1]; exact h.2.2.2.2.2 j u hu⟩
def manyI (l : List RowI) : Nat := (l.map (·.m)).sum
def allI (l : List RowI) : List Value := (l.map (·.vs)).flatten
theorem manyI_succ (l : List RowI) {k : Nat} {r : RowI} (h : l[k]? = some r) : manyI (l.take (k + 1)) = manyI (l.take k) + r.m := by
 unfold manyI
 rw [List.take_add_one, h]; simp
theorem allI_succ (l : List RowI) {k : Nat} {r : RowI} (h : l[k]? = some r) : allI (l.take (k + 1)) = allI (l.take k) ++ r.vs := by
 unfold allI
 rw [List.take_add_one, h]; simp
theorem manyI_take (l : List RowI) (k : Nat) : manyI (l.take k) ≤ manyI l := by
 have : manyI l = manyI (l.take k) + manyI (l.drop k) := by
  unfold manyI
  rw [← List.sum_append_nat, ← List.map_append, List.take_append_drop]
 omega
theorem concatI (l : List RowI) (A lcap : Nat) (w : World) (hl : l.length ≤ 4) (hA : A < w.heap.size) (hc : ∀ k r, l[k]? = some r → w.cell? ⟨A, k, none⟩ = some (.slice (some ⟨r.b, r.off, none⟩) r.m r.cap)) (hr : ∀ r ∈ l, r.Lies w) (h0 : 0 < manyI l) (h1 : manyI l ≤ 40) :
    Calls Tryz.prog 112 #[.slice (some ⟨A, 0, none⟩) l.length lcap] w fun e w' => ∃ v, e = .returned v ∧ w'.ownsRow w.heap.size 3 1 v (manyI l) (allI l) ∧ Below w.heap.size w w' := by
 obtain ⟨i0, hi, hz0, hz1, hz2⟩ := info_parts infoI
 obtain ⟨N, hN⟩ := nm l.length
 rw [← hN] at hl ⊢
 have HN := hide hN
 clear hN
 have HC : Hid (∀ W, Below w.heap.size w W → ∀ k r, l[k]? = some r → W.cell? ⟨A, k, none⟩ = some (.slice (some ⟨r.b, r.off, none⟩) r.m r.cap)) := fun W hW k r h => by rw [hW.cell (show (⟨A, k, none⟩ : Addr).block < _ from hA)]; exact hc k r h
 have HR : Hid (∀ W, Below w.heap.size w W → ∀ (k : Nat) (r : RowI), l[k]? = some r → r.Lies W) := fun W hW k r h => (hr r (List.mem_of_getElem? h)).below hW
 have HS : Hid (∀ k, manyI (l.take k) ≤ 40) := fun k => Nat.le_trans (manyI_take l k) h1
 have HG : Hid (∀ W, Calls Tryz.prog 152 #[.slice none 0 0, .int .i64 (manyI l)] W fun e w' => ∃ cap, e = .returned (.slice (some ⟨W.heap.size, 0, none⟩) 0 cap) ∧ w'.ownsRow W.heap.size 3 1 (.slice (some ⟨W.heap.size, 0, none⟩) 0 cap) 0 [] ∧ Below W.heap.size W w' ∧ W.heap.size < w'.heap.size) := fun W => growI _ h0 h1 W
 obtain ⟨M, hM⟩ := nm (manyI l)
 rw [← hM] at HG ⊢
 have HM := hide hM
 clear hM hc hr h0 h1 hA
 go_enter Tryz.func112, Tryz.ntmps112
 go_wp2_with fail
 go_loop [3, 11] (fun c i => ∃ k : Nat, k ≤ N ∧ i = .int .i64 k ∧ c = .int .i64 (manyI (l.take k))) (fun _ i => N - (intOf i).toNat)
 case atStart => exact ⟨0, Nat.zero_le _, rfl, rfl⟩
 case round =>
  obtain ⟨k, hk, rfl, rfl⟩ := hrel
  by_cases hlt : k < N
  ·obtain ⟨r, hr⟩ : ∃ r, l[k]? = some r := ⟨_, List.getElem?_eq_getElem (by have := HN.out; omega)⟩
   have hcell := HC.out w (Below.refl _ _) k r hr
   have HE : Hid (manyI (l.take (k + 1)) = manyI (l.take k) + r.m) := manyI_succ l hr
   have hs1 := HS.out (k + 1)
   rw [HE.out] at hs1
   obtain ⟨S, hS⟩ := nm (manyI (l.take k))
   rw [← hS] at HE hs1 ⊢
   clear hS hr
   obtain ⟨rb, ro, rc, rm, rvs⟩ := r
   simp only at hcell HE hs1
   have q : ¬ ((S : Int) + (rm : Int) < 0) := by omega
   go_wp2
   go_round
   case rel => exact ⟨k + 1, by omega, by go_num, by rw [HE.out]; go_num⟩
   case measure => simp [intOf]; omega
  ·have HE : Hid (manyI (l.take k) = M) := by unfold Hid; rw [List.take_of_length_le (by have := HN.out; omega), HM.out]
   rw [HE.out]
   go_wp2_with fail
   go_at_call 152
   refine (HG.out _).mono ?_
   rintro e w2 ⟨cap, rfl, hown, hb, hlt2⟩
   obtain ⟨K, hK⟩ := nm w.heap.size
   rw [← hK] at hown hb hlt2 HC HR ⊢
   have HB2 : Hid (Below K w w2 ∧ K ≤ w2.heap.size) := ⟨hb, by omega⟩
   have HO2 := hide hown
   have HKe := hide (hK.symm)
   clear hb hown hK hlt2
   go_wp2_with fail
   go_loopw [6, 27] (fun v i wr => ∃ k : Nat, k ≤ N ∧ i = .int .i64 k ∧ wr.ownsRow K 3 1 v (manyI (l.take k)) (allI (l.take k)) ∧ Below K w wr ∧ K ≤ wr.heap.size) (fun _ i _ => N - (intOf i).toNat)
   case atStart => exact ⟨0, Nat.zero_le _, rfl, HO2.out, HB2.out.1, HB2.out.2⟩
   case round =>
    obtain ⟨j, hj, rfl, hown, hbel, hKw⟩ := hrel
    by_cases hjl : j < N
    ·obtain ⟨r, hr⟩ : ∃ r, l[j]? = some r := ⟨_, List.getElem?_eq_getElem (by have := HN.out; omega)⟩
     have hcell := HC.out wr hbel j r hr
     have HL := hide (HR.out wr hbel j r hr)
     have HE : Hid (manyI (l.take (j + 1)) = manyI (l.take j) + r.m) := manyI_succ l hr
     have HE2 : Hid (allI (l.take (j + 1)) = allI (l.take j) ++ r.vs) := allI_succ l hr
     have hs1 := HS.out (j + 1)
     rw [HE.out] at hs1
     obtain ⟨S, hS⟩ := nm (manyI (l.take j))
     obtain ⟨XS, hXS⟩ := nm (allI (l.take j))
     rw [← hS] at HE hs1 hown
     rw [← hXS] at HE2 hown
     clear hS hXS hr
     obtain ⟨rb, ro, rc, rm, rvs⟩ := r
     simp only at hcell HE HE2 hs1
     have HOW := hide hown
     have HBW : Hid (Below K w wr ∧ K ≤ wr.heap.size) := ⟨hbel, hKw⟩
     have hrm : 0 < rm := HL.out.2.1
     clear hown hbel hKw
     go_wp2_with (first | (at_builtin; refine wpList_append_own _ rfl (.tmp 31) (.tmp 32) 62 rfl K 3 i0 (.int .i64 0) 1 8 Tryz.underlying62 hi hz0 hz1 hz2 rfl (by decide) u6 S XS rfl HOW.out ⟨rb, ro, none⟩ rm rc rvs rfl HL.out.2.2.2.1 ?a1 HL.out.2.2.2.2.1 ?a3 ?a4 ?a5 ?_))
     case a1 =>
      intro i u hu
      rw [Go.WideShapes.add_plain]
      exact HL.out.2.2.2.2.2 i u hu
     case a3 => unfold maxLen; omega
     case a4 => omega
     case a5 => exact HBW.out.2
     intro v' w3 hown' hgrow _
     have HB3 : Hid (Below K w w3 ∧ K ≤ w3.heap.size) := by
      refine ⟨HBW.out.1.grown hgrow HBW.out.2 (fun k hk => (HOW.out.lt k hk).1), ?_⟩
      have := hgrow.size
      have := HBW.out.2
      omega
     have HO3 : Hid (w3.ownsRow K 3 1 v' (manyI (l.take (j + 1))) (allI (l.take (j + 1)))) := by
      unfold Hid; rw [HE.out, HE2.out]; exact hown'
     clear hown' hgrow
     go_wp2
     go_roundw
     case rel => exact ⟨j + 1, by omega, by go_num, HO3.out, HB3.out.1, HB3.out.2⟩
     case measure => simp [intOf]; omega
    ·rw [List.take_of_length_le (by have := HN.out; omega)] at hown
     have HO3 : Hid (wr.ownsRow K 3 1 u6 M (allI l)) := by unfold Hid; rw [HM.out]; exact hown
     have HB3 := hide hbel
     clear hown hbel
     go_wp2
     go_ret
     refine ⟨_, rfl, ?_, ?_⟩
     ·rw [HKe.out]; exact HO3.out
     ·rw [HKe.out]; exact HB3.out
end Go.Proofs.YtnoohlibgaeklaaGreatDoor
