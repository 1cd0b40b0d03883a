/-
  Plain facts on for how many things a formula has a model, and on the least of these (chapter 10). No program is read here.
  Slices of booleans: what they read as, and one more at the end of one's own (contracts that the statements lean on).
  Proved: what errors.Is returns at api.ErrNone, of an api.Errno; what was in memory is as it was (a contract that the statements lean on).
  Proved: what least.List, least.Of and least.Firm return where the models answer as chapter 9 says, and what slices.Index of booleans does; what was in memory is as it was (walks that the statements lean on).
  Proved: what least.List, least.Of and least.Firm return, of any formula; what was in memory is as it was (contracts that the statements lean on).
-/
import Derived.Test.YtedgbohobgnedaeGreatDoorLibPA5
import Derived.Test.YtedgbohobgnedaeGreatDoorLibPA1
import Derived.Test.YtedgbohobgnedaeGreatDoorLibPA4
import Derived.Maps.AppendAt
import Derived.Deep.AppendLies
import Derived.Test.YtedgbohobgnedaeGreatDoorLibPA2
import Derived.LaidEql
import Derived.Stop.Asserts
import Derived.RowKitTokens
import Derived.Test.YtedgbohobgnedaeGreatDoorLibPA3
import Derived.Deep.CutRange
import Derived.Test.YtedgbohobgnedaeGreatDoorLibMA1
namespace Go.Proofs.YtedgbohobgnedaeGreatDoor
open Go.RowKit

/-- what is wrong with a formula, or that it has too many cubes. -/
def cubeFault (ats : List At) (c : List Int) : Int := if formFault ats c = 0 then (if (cubesC c).isSome = true then 0 else 4) else formFault ats c
/-- has it a model of so many things? -/
def someM (ats : List At) (c : List Int) (u : Nat) : Bool := decide (modelFault ats c (u : Int) = 0)
def leastList (ats : List At) (c : List Int) : List Bool := if cubeFault ats c = 0 then (List.range 7).map (someM ats c) else []
/-- the first of the first k, or one less than 0. -/
def firstTo (ats : List At) (c : List Int) : Nat → Int
  | 0 => -1
  | k + 1 => if firstTo ats c k < 0 then (if someM ats c k = true then (k : Int) else -1) else firstTo ats c k
def leastFaultF (ats : List At) (c : List Int) : Int := if cubeFault ats c = 0 then (if firstTo ats c 7 < 0 then 5 else 0) else cubeFault ats c
def leastOfN (ats : List At) (c : List Int) : Int := if leastFaultF ats c = 0 then firstTo ats c 7 else 0
def firmFault (ats : List At) (c : List Int) : Int := if negFault ats c = 0 then cubeFault ats (c ++ [12]) else negFault ats c
/-- is there no model of the opposite, of the first k numbers of things? -/
def firmTo (ats : List At) (c : List Int) (k : Nat) : Bool := (List.range k).all fun u => !someM ats (c ++ [12]) u
def firmB (ats : List At) (c : List Int) : Bool := if firmFault ats c = 0 then firmTo ats c 7 else false

/-- what List tells: not that there is none. -/
def listFault (ats : List At) (c : List Int) : Int := if cubeFault ats c = 5 then 0 else cubeFault ats c
def listL (ats : List At) (c : List Int) : List Bool := if listFault ats c = 0 then (List.range 7).map (someM ats c) else []

theorem cube_zero {ats : List At} {c : List Int} (h : cubeFault ats c = 0) : formFault ats c = 0 ∧ ∃ L, cubesC c = some L := by
  unfold cubeFault at h
  by_cases hf : formFault ats c = 0
  · rw [if_pos hf] at h
    cases hL : cubesC c with
    | none => rw [hL] at h; have h : (4 : Int) = 0 := h; omega
    | some L => exact ⟨hf, L, rfl⟩
  · rw [if_neg hf] at h; exact absurd h hf
theorem cube_four {ats : List At} {c : List Int} (hf : formFault ats c = 0) (h : ¬ cubeFault ats c = 0) : cubeFault ats c = 4 ∧ ∀ u, modelFault ats c u = 4 := by
  unfold cubeFault at h ⊢
  rw [if_pos hf] at h ⊢
  cases hL : cubesC c with
  | none => exact ⟨rfl, fun u => by unfold modelFault; rw [if_pos hf, hL]⟩
  | some L => rw [hL] at h; exact absurd rfl h
/-- of a number of things from 0 to 6 there is a model, or none. -/
theorem model_two {ats : List At} {c : List Int} (h : cubeFault ats c = 0) {u : Nat} (hu : u ≤ 6) : modelFault ats c (u : Int) = if someM ats c u = true then 0 else 5 := by
  obtain ⟨hf, L, hL⟩ := cube_zero h
  have e : modelFault ats c (u : Int) = if (modelL ats u L).isSome = true then 0 else 5 := by
    unfold modelFault; rw [if_pos hf, hL]; show (if _ then _ else _) = _; rw [if_pos (by omega), Int.toNat_natCast]
  unfold someM
  rw [e]
  by_cases hm : (modelL ats u L).isSome = true
  · rw [if_pos hm, if_pos (by decide)]
  · rw [if_neg hm, if_neg (by decide)]
/-- of each number of things the same is wrong. -/
theorem cube_bad {ats : List At} {c : List Int} (h : ¬ cubeFault ats c = 0) (u : Int) : modelFault ats c u = cubeFault ats c := by
  by_cases hf : formFault ats c = 0
  · obtain ⟨h4, hm⟩ := cube_four hf h
    rw [hm u, h4]
  · unfold modelFault cubeFault; rw [if_neg hf, if_neg hf]
/-- what List asks of its rounds: in each there is a model, or none; or in each the same is wrong. -/
theorem list_well {ats : List At} {c : List Int} (h : listFault ats c = 0) {u : Nat} (hu : u ≤ 6) : modelFault ats c (u : Int) = if someM ats c u = true then 0 else 5 := by
  by_cases h0 : cubeFault ats c = 0
  · exact model_two h0 hu
  · have h5 : cubeFault ats c = 5 := by
      unfold listFault at h
      by_cases h5 : cubeFault ats c = 5
      · exact h5
      · rw [if_neg h5] at h; exact absurd h h0
    have hm := cube_bad h0 (u : Int)
    have hs : someM ats c u = false := by unfold someM; rw [hm, h5]; rfl
    rw [hm, h5, hs]; rfl
theorem list_ill {ats : List At} {c : List Int} (h : ¬ listFault ats c = 0) : (listFault ats c = cubeFault ats c ∧ ¬ cubeFault ats c = 5) ∧ ∀ u : Nat, modelFault ats c (u : Int) = listFault ats c := by
  have h5 : ¬ cubeFault ats c = 5 := fun h5 => by unfold listFault at h; rw [if_pos h5] at h; exact h rfl
  have e : listFault ats c = cubeFault ats c := by unfold listFault; rw [if_neg h5]
  exact ⟨⟨e, h5⟩, fun u => by rw [e]; exact cube_bad (by rw [← e]; exact h) _⟩
theorem firstTo_range (ats : List At) (c : List Int) (k : Nat) : -1 ≤ firstTo ats c k ∧ firstTo ats c k < k := by
  induction k with
  | zero => exact ⟨(by decide : (-1 : Int) ≤ -1), (by decide : (-1 : Int) < ((0 : Nat) : Int))⟩
  | succ k ih =>
    unfold firstTo
    by_cases h : firstTo ats c k < 0
    · rw [if_pos h]
      by_cases hs : someM ats c k = true
      · rw [if_pos hs]; omega
      · rw [if_neg hs]; omega
    · rw [if_neg h]; omega
theorem firstTo_none {ats : List At} {c : List Int} {k : Nat} (h : firstTo ats c k < 0) : ∀ u, u < k → someM ats c u = false := by
  induction k with
  | zero => intro u hu; omega
  | succ k ih =>
    unfold firstTo at h
    by_cases h1 : firstTo ats c k < 0
    · rw [if_pos h1] at h
      by_cases hs : someM ats c k = true
      · rw [if_pos hs] at h; omega
      · intro u hu
        rcases Nat.lt_or_ge u k with h2 | h2
        · exact ih h1 u h2
        · obtain rfl : u = k := by omega
          simpa using hs
    · rw [if_neg h1] at h; omega
theorem firstTo_some {ats : List At} {c : List Int} {k : Nat} {n : Nat} (h : firstTo ats c k = n) : someM ats c n = true ∧ n < k ∧ ∀ u, u < n → someM ats c u = false := by
  induction k with
  | zero => have : (-1 : Int) = n := h; omega
  | succ k ih =>
    have hr := firstTo_range ats c k
    unfold firstTo at h
    by_cases h1 : firstTo ats c k < 0
    · rw [if_pos h1] at h
      by_cases hs : someM ats c k = true
      · rw [if_pos hs] at h
        obtain rfl : k = n := by omega
        exact ⟨hs, by omega, firstTo_none h1⟩
      · rw [if_neg hs] at h; omega
    · rw [if_neg h1] at h
      obtain ⟨a, b, c'⟩ := ih h
      exact ⟨a, by omega, c'⟩
end Go.Proofs.YtedgbohobgnedaeGreatDoor

namespace Go.Proofs.YtedgbohobgnedaeGreatDoor
open Go.ChangeShapes Go.WideShapes Go.ChangeAt Go.RowKit
set_option maxRecDepth 100000

/-- the slice v reads, in the world w, as these booleans. -/
def ReadsO (w : World) (v : Value) (t : List Bool) : Prop :=
  (∃ ao cap, v = .slice ao 0 cap ∧ t = []) ∨ (∃ b off cap, v = .slice (some ⟨b, off, none⟩) t.length cap ∧ b < w.heap.size ∧ 0 < t.length ∧ (t.length ≤ 9223372036854775807 ∧ t.length ≤ cap) ∧ ∀ k, k < t.length → w.cell? ⟨b, off + k, none⟩ = some (.bool (t.getD k false)))
theorem ReadsO.below {w w' : World} {v : Value} {t : List Bool} (h : ReadsO w v t) (hb : Below w.heap.size w w') : ReadsO w' v t := by
  rcases h with h | ⟨b, off, cap, h1, h2, h3, h4, h5⟩
  · exact Or.inl h
  · exact Or.inr ⟨b, off, cap, h1, Nat.lt_of_lt_of_le h2 hb.size, h3, h4, fun k hk => by rw [hb.cell h2]; exact h5 k hk⟩
theorem ReadsO.slice {w : World} {v : Value} {t : List Bool} (h : ReadsO w v t) : ∃ ao cap, v = .slice ao t.length cap ∧ t.length ≤ 9223372036854775807 := by
  rcases h with ⟨ao, cap, rfl, rfl⟩ | ⟨b, off, cap, rfl, _, _, h, _⟩
  · exact ⟨ao, cap, rfl, by decide⟩
  · exact ⟨_, cap, rfl, h.1⟩
theorem own_readsO {w : World} {K : Nat} {v : Value} {t : List Bool} (h : w.ownsRow K 4 1 v t.length (t.map Value.bool)) (hm : t.length ≤ 9223372036854775807) : ReadsO w v t := by
  rcases h.2 with ⟨rfl, h0⟩ | ⟨g, cap, cur, rfl, hb, hg, hc, _⟩
  · exact Or.inl ⟨none, 0, rfl, List.eq_nil_of_length_eq_zero h0⟩
  · rcases Nat.eq_zero_or_pos t.length with h0 | h0
    · have e : t = [] := List.eq_nil_of_length_eq_zero h0
      subst e
      exact Or.inl ⟨_, _, rfl, rfl⟩
    · refine Or.inr ⟨g, 0, cap, rfl, (Array.getElem?_eq_some_iff.1 hg).1, h0, ⟨hm, hc⟩, fun k hk => ?_⟩
      rw [Nat.zero_add, h.cellAt _ (by omega), List.getElem?_map, List.getElem?_eq_getElem hk, List.getD_eq_getElem?_getD, List.getElem?_eq_getElem hk]
      rfl

theorem infoO : (Tryz.prog.info? 4).isSome = true := by kernel_rfl
theorem zeroO : (Tryz.prog.info? 4).bind (·.zero) = some (.bool false) := by kernel_rfl
theorem sizeO : (Tryz.prog.info? 4).map (·.size) = some 1 := by kernel_rfl
theorem bytesO : (Tryz.prog.info? 4).map (·.bytes) = some 1 := by kernel_rfl
/-- one boolean more, out of a block of its own. -/
theorem append_bool {w : World} {ops : Array Oper} {rest : List Oper} {o : Oper} {a : Act} {Q : Exit → Act → World → Prop} (hgd : o.guard = none) (s x : Operand)
    (ho : o.op = .call { callee := .builtin .append, args := #[s, x], argTypes := #[52, 52] }) (K : Nat) (v : Value) (hs : a.eval s = v) (l : List Bool) (r : Bool) (B c : Nat) (hx : a.eval x = .slice (some ⟨B, 0, none⟩) 1 c)
    (hown : w.ownsRow K 4 1 v l.length (l.map Value.bool)) (hB : w.heap[B]? = some (.cells #[.bool r] 4 (0, 0))) (hK : K ≤ w.heap.size) (h12 : l.length ≤ 12)
    (h : ∀ v' w', w'.ownsRow K 4 1 v' (l ++ [r]).length ((l ++ [r]).map Value.bool) → w.grownBy w' v.ownBlock → wpList Tryz.prog ops Q rest (a.put o.dst v') w') :
    wpList Tryz.prog ops Q (o :: rest) a w := by
  obtain ⟨i1, hi⟩ : ∃ i, Tryz.prog.info? 4 = some i := Option.isSome_iff_exists.1 infoO
  have hz0 : i1.zero = some (.bool false) := by have := zeroO; rw [hi] at this; simpa using this
  have hz1 : i1.size = 1 := by have := sizeO; rw [hi] at this; simpa using this
  have hz2 : i1.bytes = 1 := by have := bytesO; rw [hi] at this; simpa using this
  refine wpList_append_own_at w hgd s x 52 ho K 4 i1 _ 1 1 Tryz.underlying52 hi hz0 hz1 hz2 rfl (by decide) v l.length (l.map Value.bool) hs hown ⟨B, 0, none⟩ 1 c [.bool r] hx rfl (World.news_of_block hB) (by simp [Value.oneCell']) (by unfold maxLen; omega) (by omega) hK ?_
  intro v' w' h1 h2 _ _
  refine h v' w' ?_ h2
  rw [List.map_append, List.length_append]
  exact h1

end Go.Proofs.YtedgbohobgnedaeGreatDoor

namespace Go.Proofs.YtedgbohobgnedaeGreatDoor
open Go.ChangeShapes Go.WideShapes Go.ChangeAt Go.RowKit Go.Extern.Stop Go.Stop Go.Extern
set_option maxRecDepth 100000

theorem isnTypeOf (v : Value) (w : World) : (Extern.ReflectliteType.typeOf #[.iface 74 v]).run Tryz.prog w = .ok (.iface 148 (.agg #[.pointer (some ⟨3, 74, none⟩)])) w := by kernel_rfl
theorem isnComparable (w : World) : (callFunc 168 #[.agg #[.pointer (some ⟨3, 74, none⟩)]]).run Tryz.prog w = .ok (.value (.bool true)) w := by
  rw [@run_callFunc_extern Tryz.prog 168 _ (Extern.ReflectliteType.method fun t => do Rtype.noPackHeld "Comparable" t; pure (.bool (← typeInfo t).comparable)) Tryz.func168 (by kernel_rfl) (by kernel_rfl) (by kernel_rfl) (by kernel_rfl)]
  rw [show ((Extern.ReflectliteType.method fun t => do Rtype.noPackHeld "Comparable" t; pure (.bool (← typeInfo t).comparable)) #[.agg #[.pointer (some ⟨3, 74, none⟩)]]).run Tryz.prog w = .ok (.bool true) w by kernel_rfl]
  rfl
theorem isnMethodComparable (v : Value) (w : World) : (Go.method 339 148 v "Comparable").run Tryz.prog w = .ok (168, v) w := by kernel_rfl
theorem isnIsE (v : Value) (xT : TypeId) (w : World) : (Instr.typeAssert (.iface 74 v) xT 150 true).run Tryz.prog w = .ok (.tuple #[.nilIface, .bool false]) w := run_typeAssert_lacksB Tryz.underlying150 (by kernel_rfl) (by kernel_rfl) v xT w
theorem isnUnwrapE (v : Value) (xT : TypeId) (w : World) : (Instr.typeAssert (.iface 74 v) xT 152 true).run Tryz.prog w = .ok (.tuple #[.nilIface, .bool false]) w := run_typeAssert_lacksB Tryz.underlying152 (by kernel_rfl) (by kernel_rfl) v xT w
theorem isnUnwrapsE (v : Value) (xT : TypeId) (w : World) : (Instr.typeAssert (.iface 74 v) xT 154 true).run Tryz.prog w = .ok (.tuple #[.nilIface, .bool false]) w := run_typeAssert_lacksB Tryz.underlying154 (by kernel_rfl) (by kernel_rfl) v xT w
theorem isnEql (m : Int) (W : World) : (binOp .eql 32 (.iface 74 (.int .i64 m)) (.iface 74 (.int .i64 5))).run Tryz.prog W = .ok (.bool (m == 5)) W := by kernel_rfl

set_option maxHeartbeats 2000000 in
theorem isn_in (m : Int) (b : Bool) (hq : ∀ W, (binOp .eql 32 (.iface 74 (.int .i64 m)) (.iface 74 (.int .i64 5))).run Tryz.prog W = .ok (.bool b) W) (w : World) :
    Calls Tryz.prog 43 #[.iface 74 (.int .i64 m), .iface 74 (.int .i64 5)] w fun e w' => e = .returned (.bool b) ∧ w' = w := by
  have h8 := @run_callFunc_extern Tryz.prog 66 _ Extern.ReflectliteType.typeOf Tryz.func66 (by kernel_rfl) (by kernel_rfl) (by kernel_rfl) (by kernel_rfl)
  have tT := isnTypeOf
  have cT := isnComparable
  have mR := isnMethodComparable
  have nE := isnIsE
  have uE := isnUnwrapE
  have vE := isnUnwrapsE
  cases b
  · go_enter Tryz.func43, Tryz.ntmps43
    go_wp2
    refine wp_loop_rounds 1 ?_
    rw [rounds_succ]
    go_wp2
    go_ret
    exact ⟨rfl, rfl⟩
  · go_enter Tryz.func43, Tryz.ntmps43
    go_wp2
    refine wp_loop_rounds 1 ?_
    rw [rounds_succ]
    go_wp2
    go_ret
    exact ⟨rfl, rfl⟩
/-- errors.Is at ErrNone. -/
theorem isn_err (m : Int) (w : World) : Calls Tryz.prog 43 #[.iface 74 (.int .i64 m), .iface 74 (.int .i64 5)] w fun e w' => e = .returned (.bool (m == 5)) ∧ w' = w :=
  isn_in m (m == 5) (isnEql m) w
end Go.Proofs.YtedgbohobgnedaeGreatDoor

namespace Go.Proofs.YtedgbohobgnedaeGreatDoor
open Go.ChangeShapes Go.WideShapes Go.ChangeAt Go.RowKit
set_option maxRecDepth 100000

set_option maxHeartbeats 2000000 in
/-- the first that is true. -/
theorem indexO_any (t : List Bool) (v : Value) (w : World) (h : ReadsO w v t) :
    Calls Tryz.prog 42 #[v, .bool true] w fun e w' => ((∃ k : Nat, k < t.length ∧ t.getD k false = true ∧ (∀ j, j < k → t.getD j false = false) ∧ e = .returned (.int .i64 k)) ∨ ((∀ j, j < t.length → t.getD j false = false) ∧ e = .returned (.int .i64 (-1)))) ∧ Below w.heap.size w w' := by
  rcases h with ⟨ao, cap, rfl, rfl⟩ | ⟨b, off, cap, rfl, hB, h0, ⟨hl, _⟩, hc⟩
  · go_enter Tryz.func42, Tryz.ntmps42
    go_wp2
    refine wp_loop_rounds 1 ?_
    rw [rounds_succ]
    go_wp2
    go_ret
    exact ⟨Or.inr ⟨fun j hj => absurd hj (by simp), rfl⟩, Below.refl _ _⟩
  · have HC : Hid (∀ k, k < t.length → w.cell? ⟨b, off + k, none⟩ = some (.bool (t.getD k false))) := hc
    have HB : Hid (b < w.heap.size) := hB
    clear hc hB
    obtain ⟨n, hn⟩ : ∃ n, n = t.length := ⟨_, rfl⟩
    rw [← hn] at hl h0 ⊢
    have HN : Hid (n = t.length) := hn
    clear hn
    go_enter Tryz.func42, Tryz.ntmps42
    go_wp2
    go_loopw [8] (fun i wr => ∃ k : Nat, k ≤ n ∧ i = .int .i64 k ∧ (∀ j, j < k → t.getD j false = false) ∧ Below w.heap.size w wr) (fun i _ => n - (intOf i).toNat)
    case atStart => exact ⟨0, Nat.zero_le _, rfl, fun j hj => absurd hj (by omega), Below.refl _ _⟩
    case round =>
      obtain ⟨k, hk, rfl, hall, hbel⟩ := hrel
      have HA : Hid (∀ j, j < k → t.getD j false = false) := hall
      clear hall
      by_cases hlt : k < n
      · obtain ⟨s, hs⟩ : ∃ s, s = t.getD k false := ⟨_, rfl⟩
        have hkt : k < t.length := by rw [← HN.out]; exact hlt
        have c0 : wr.cell? ⟨b, off + k, none⟩ = some (.bool s) := by rw [hs, hbel.cell HB.out]; exact HC.out k hkt
        have HW : Hid (Below w.heap.size w wr) := hbel
        have HS : Hid (s = t.getD k false) := hs
        clear hs hkt hbel
        cases s with
        | true =>
          go_wp2
          go_ret
          exact ⟨Or.inl ⟨k, hlt, HS.out.symm, HA.out, rfl⟩, HW.out⟩
        | false =>
          go_wp2
          go_roundw
          case rel =>
            refine ⟨k + 1, by omega, by go_num, fun j hj => ?_, HW.out⟩
            rcases Nat.lt_or_ge j k with h | h
            · exact HA.out j h
            · obtain rfl : j = k := by omega
              exact HS.out.symm
          case measure => simp [intOf]; omega
      · obtain rfl : k = n := by omega
        have HW : Hid (Below w.heap.size w wr) := hbel
        clear hbel
        go_wp2
        go_ret
        exact ⟨Or.inr ⟨HA.out, rfl⟩, HW.out⟩

set_option maxHeartbeats 8000000 in
theorem list_good (ao : Option Addr) (al acap : Nat) (co : Option Addr) (cl ccap : Nat) (m : Nat → Bool) (w : World)
    (hM : ∀ u : Nat, u ≤ 6 → ∀ W, Below w.heap.size w W → Calls Tryz.prog 8 #[.agg #[.slice ao al acap, .slice co cl ccap], .int .i64 u] W fun e w' => (∃ D : Wd, e = .returned (.tuple #[.agg #[.int .i64 D.u, .int .i64 D.a, .int .i64 D.b, .int .i64 D.c], if m u = true then .nilIface else .iface 74 (.int .i64 5)])) ∧ Below W.heap.size W w') :
    Calls Tryz.prog 19 #[.agg #[.slice ao al acap, .slice co cl ccap]] w fun e w' => (∃ v, e = .returned (.tuple #[v, .nilIface]) ∧ ReadsO w' v ((List.range 7).map m)) ∧ Below w.heap.size w w' := by
  have HM : Hid (∀ u : Nat, u ≤ 6 → ∀ W, Below w.heap.size w W → Calls Tryz.prog 8 #[.agg #[.slice ao al acap, .slice co cl ccap], .int .i64 u] W fun e w' => (∃ D : Wd, e = .returned (.tuple #[.agg #[.int .i64 D.u, .int .i64 D.a, .int .i64 D.b, .int .i64 D.c], if m u = true then .nilIface else .iface 74 (.int .i64 5)])) ∧ Below W.heap.size W w') := hM
  clear hM
  obtain ⟨w1, hw1⟩ : ∃ w1, w1 = w.alloc (.cells #[.slice ao al acap, .slice co cl ccap] 25) := ⟨_, rfl⟩
  have HB1 : Hid (Below w.heap.size w w1) := by unfold Hid; rw [hw1]; exact below_alloc1 _ _
  have HP1 : Hid (Blk w1 w.heap.size 25 #[.slice ao al acap, .slice co cl ccap]) := by unfold Hid; rw [hw1]; exact Blk.new _ _ _
  go_enter Tryz.func19, Tryz.ntmps19
  go_wp2_with fail
  rw [← hw1]
  clear hw1
  go_wp2_with fail
  go_loopw [4, 8] (fun l i wr => ∃ k : Nat, k ≤ 7 ∧ i = .int .i64 k ∧ Below w1.heap.size w1 wr ∧ wr.ownsRow w1.heap.size 4 1 l k (((List.range k).map m).map Value.bool)) (fun _ i _ => 7 - (intOf i).toNat)
  case atStart => exact ⟨0, by omega, rfl, Below.refl _ _, World.ownsRow_nil _ _ _ _⟩
  case round =>
    obtain ⟨k, hk, rfl, hbr, hown⟩ := hrel
    have HBr : Hid (Below w1.heap.size w1 wr) := hbr
    have HBw : Hid (Below w.heap.size w wr) := HB1.out.trans (hbr.mono HB1.out.size)
    have HOw : Hid (wr.ownsRow w1.heap.size 4 1 u4 k (((List.range k).map m).map Value.bool)) := hown
    clear hbr hown
    by_cases hlt : k ≤ 6
    · have x0 : wr.cell? ⟨w.heap.size, 0, none⟩ = some (.slice ao al acap) := (HP1.out.below HBr.out).cell 0
      have x1 : wr.cell? ⟨w.heap.size, 1, none⟩ = some (.slice co cl ccap) := (HP1.out.below HBr.out).cell 1
      go_wp2_with fail
      go_at_call 8
      refine (HM.out k hlt _ HBw.out).mono ?_
      rintro e w4 ⟨⟨D, rfl⟩, hb⟩
      have HB4 : Hid (Below w1.heap.size w1 w4) := HBr.out.trans (hb.mono HBr.out.size)
      have HO4 : Hid (w4.ownsRow w1.heap.size 4 1 u4 k (((List.range k).map m).map Value.bool)) := ownsRow_below HOw.out hb
      clear hb x0 x1
      obtain ⟨w5, hw5⟩ : ∃ w5, w5 = w4.alloc (.cells #[.int .i64 D.u, .int .i64 D.a, .int .i64 D.b, .int .i64 D.c] 28) := ⟨_, rfl⟩
      have HB5 : Hid (Below w1.heap.size w1 w5) := by unfold Hid; rw [hw5]; exact HB4.out.alloc HB4.out.size _
      have HO5 : Hid (w5.ownsRow w1.heap.size 4 1 u4 k (((List.range k).map m).map Value.bool)) := by unfold Hid; rw [hw5]; exact HO4.out.alloc _
      go_upto_region 6 with fail
      rw [← hw5]
      clear hw5
      obtain ⟨l, hl⟩ : ∃ l, l = (List.range k).map m := ⟨_, rfl⟩
      have HLl : Hid (l.length = k) := by unfold Hid; rw [hl]; simp
      have HLs : Hid ((List.range (k + 1)).map m = l ++ [m k]) := by unfold Hid; rw [List.range_succ, List.map_append, ← hl]; rfl
      have HO6 : Hid (w5.ownsRow w1.heap.size 4 1 u4 l.length (l.map Value.bool)) := by unfold Hid; rw [HLl.out, hl]; exact HO5.out
      have HS : Hid (w1.heap.size ≤ w5.heap.size) := HB5.out.size
      have hl12 : l.length ≤ 12 := by have := HLl.out; omega
      obtain ⟨b, hb⟩ : ∃ b, b = m k := ⟨_, rfl⟩
      rw [← hb] at HLs ⊢
      clear hl hb
      cases b with
      | true =>
        rw [if_pos rfl]
        go_wp2_with (at_builtin; refine append_bool rfl _ _ rfl w1.heap.size u4 rfl l true w5.heap.size 1 rfl (HO6.out.alloc _) (heap_alloc_new w5 _) (by have := HS.out; simp; omega) hl12 ?_)
        intro v9 w9 hown hgrow
        have HBa : Hid (Below w1.heap.size w1 (w5.alloc (.cells #[.bool true] 4))) := HB5.out.alloc HB5.out.size _
        have HB9 : Hid (Below w1.heap.size w1 w9) := HBa.out.grown hgrow HBa.out.size (fun x hx => (HO6.out.lt x hx).1)
        have HO9 : Hid (w9.ownsRow w1.heap.size 4 1 v9 (k + 1) (((List.range (k + 1)).map m).map Value.bool)) := by
          unfold Hid
          rw [HLs.out, List.map_append]
          have hl := HLl.out
          rw [← hl]
          simpa using hown
        clear hown hgrow
        go_wp2
        go_roundw
        case rel => exact ⟨k + 1, by omega, by go_num, HB9.out, HO9.out⟩
        case measure => simp [intOf]; omega
      | false =>
        rw [if_neg (by decide)]
        go_wp2_with fail
        go_at_call 43
        refine (isn_err 5 _).mono ?_
        rintro e w6 ⟨rfl, hw6⟩
        obtain rfl := hw6
        go_wp2_with (at_builtin; refine append_bool rfl _ _ rfl w1.heap.size u4 rfl l false w6.heap.size 1 rfl (HO6.out.alloc _) (heap_alloc_new w6 _) (by have := HS.out; simp; omega) hl12 ?_)
        intro v9 w9 hown hgrow
        have HBa : Hid (Below w1.heap.size w1 (w6.alloc (.cells #[.bool false] 4))) := HB5.out.alloc HB5.out.size _
        have HB9 : Hid (Below w1.heap.size w1 w9) := HBa.out.grown hgrow HBa.out.size (fun x hx => (HO6.out.lt x hx).1)
        have HO9 : Hid (w9.ownsRow w1.heap.size 4 1 v9 (k + 1) (((List.range (k + 1)).map m).map Value.bool)) := by
          unfold Hid
          rw [HLs.out, List.map_append]
          have hl := HLl.out
          rw [← hl]
          simpa using hown
        clear hown hgrow
        go_wp2
        go_roundw
        case rel => exact ⟨k + 1, by omega, by go_num, HB9.out, HO9.out⟩
        case measure => simp [intOf]; omega
    · obtain rfl : k = 7 := by omega
      have HRd : Hid (ReadsO wr u4 ((List.range 7).map m)) := own_readsO (K := w1.heap.size) (by simpa using HOw.out) (by simp)
      go_wp2
      go_ret2
      exact ⟨⟨u4, rfl, HRd.out⟩, HBw.out⟩

set_option maxHeartbeats 8000000 in
theorem list_bad (ao : Option Addr) (al acap : Nat) (co : Option Addr) (cl ccap : Nat) (n : Int) (h5 : ¬ n = 5) (w : World)
    (hM : ∀ W, Below w.heap.size w W → Calls Tryz.prog 8 #[.agg #[.slice ao al acap, .slice co cl ccap], .int .i64 0] W fun e w' => (∃ D : Wd, e = .returned (.tuple #[.agg #[.int .i64 D.u, .int .i64 D.a, .int .i64 D.b, .int .i64 D.c], .iface 74 (.int .i64 n)])) ∧ Below W.heap.size W w') :
    Calls Tryz.prog 19 #[.agg #[.slice ao al acap, .slice co cl ccap]] w fun e w' => e = .returned (.tuple #[.slice none 0 0, .iface 74 (.int .i64 n)]) ∧ Below w.heap.size w w' := by
  have HM : Hid (∀ W, Below w.heap.size w W → Calls Tryz.prog 8 #[.agg #[.slice ao al acap, .slice co cl ccap], .int .i64 0] W fun e w' => (∃ D : Wd, e = .returned (.tuple #[.agg #[.int .i64 D.u, .int .i64 D.a, .int .i64 D.b, .int .i64 D.c], .iface 74 (.int .i64 n)])) ∧ Below W.heap.size W w') := hM
  clear hM
  have HI : Hid (∀ W, Calls Tryz.prog 43 #[.iface 74 (.int .i64 n), .iface 74 (.int .i64 5)] W fun e w' => e = .returned (.bool false) ∧ w' = W) := fun W => by
    have h := isn_err n W
    rw [show (n == 5) = false by simp [h5]] at h
    exact h
  clear h5
  obtain ⟨w1, hw1⟩ : ∃ w1, w1 = w.alloc (.cells #[.slice ao al acap, .slice co cl ccap] 25) := ⟨_, rfl⟩
  have HB1 : Hid (Below w.heap.size w w1) := by unfold Hid; rw [hw1]; exact below_alloc1 _ _
  have HP1 : Hid (Blk w1 w.heap.size 25 #[.slice ao al acap, .slice co cl ccap]) := by unfold Hid; rw [hw1]; exact Blk.new _ _ _
  have x0 : w1.cell? ⟨w.heap.size, 0, none⟩ = some (.slice ao al acap) := HP1.out.cell 0
  have x1 : w1.cell? ⟨w.heap.size, 1, none⟩ = some (.slice co cl ccap) := HP1.out.cell 1
  go_enter Tryz.func19, Tryz.ntmps19
  go_wp2_with fail
  rw [← hw1]
  clear hw1
  go_wp2_with fail
  refine wp_loop_rounds 1 ?_
  rw [rounds_succ]
  go_wp2_with fail
  go_at_call 8
  refine (HM.out _ HB1.out).mono ?_
  rintro e w4 ⟨⟨D, rfl⟩, hb⟩
  have HB4 : Hid (Below w.heap.size w w4) := HB1.out.trans (hb.mono HB1.out.size)
  clear hb x0 x1
  obtain ⟨w5, hw5⟩ : ∃ w5, w5 = w4.alloc (.cells #[.int .i64 D.u, .int .i64 D.a, .int .i64 D.b, .int .i64 D.c] 28) := ⟨_, rfl⟩
  have HB5 : Hid (Below w.heap.size w w5) := by unfold Hid; rw [hw5]; exact HB4.out.alloc HB4.out.size _
  go_upto_region 6 with fail
  rw [← hw5]
  clear hw5
  go_wp2_with fail
  go_at_call 43
  refine (HI.out _).mono ?_
  rintro e w6 ⟨rfl, hw6⟩
  obtain rfl := hw6
  go_wp2
  go_ret2
  exact ⟨rfl, HB5.out⟩

set_option maxHeartbeats 4000000 in
theorem least_bad (ao : Option Addr) (al acap : Nat) (co : Option Addr) (cl ccap : Nat) (n : Int) (w : World)
    (hL : ∀ W, Below w.heap.size w W → Calls Tryz.prog 19 #[.agg #[.slice ao al acap, .slice co cl ccap]] W fun e w' => e = .returned (.tuple #[.slice none 0 0, .iface 74 (.int .i64 n)]) ∧ Below W.heap.size W w') :
    Calls Tryz.prog 18 #[.agg #[.slice ao al acap, .slice co cl ccap]] w fun e w' => e = .returned (.tuple #[.int .i64 0, .iface 74 (.int .i64 n)]) ∧ Below w.heap.size w w' := by
  have HL : Hid (∀ W, Below w.heap.size w W → Calls Tryz.prog 19 #[.agg #[.slice ao al acap, .slice co cl ccap]] W fun e w' => e = .returned (.tuple #[.slice none 0 0, .iface 74 (.int .i64 n)]) ∧ Below W.heap.size W w') := hL
  clear hL
  obtain ⟨w1, hw1⟩ : ∃ w1, w1 = w.alloc (.cells #[.slice ao al acap, .slice co cl ccap] 25) := ⟨_, rfl⟩
  have HB1 : Hid (Below w.heap.size w w1) := by unfold Hid; rw [hw1]; exact below_alloc1 _ _
  have HP1 : Hid (Blk w1 w.heap.size 25 #[.slice ao al acap, .slice co cl ccap]) := by unfold Hid; rw [hw1]; exact Blk.new _ _ _
  have x0 : w1.cell? ⟨w.heap.size, 0, none⟩ = some (.slice ao al acap) := HP1.out.cell 0
  have x1 : w1.cell? ⟨w.heap.size, 1, none⟩ = some (.slice co cl ccap) := HP1.out.cell 1
  go_enter Tryz.func18, Tryz.ntmps18
  go_wp2_with fail
  rw [← hw1]
  clear hw1
  go_wp2_with fail
  go_at_call 19
  refine (HL.out _ HB1.out).mono ?_
  rintro e w4 ⟨rfl, hb⟩
  have HB4 : Hid (Below w.heap.size w w4) := HB1.out.trans (hb.mono HB1.out.size)
  clear hb x0 x1
  go_wp2
  go_ret2
  exact ⟨rfl, HB4.out⟩

set_option maxHeartbeats 4000000 in
theorem least_good (ao : Option Addr) (al acap : Nat) (co : Option Addr) (cl ccap : Nat) (t : List Bool) (w : World)
    (hL : ∀ W, Below w.heap.size w W → Calls Tryz.prog 19 #[.agg #[.slice ao al acap, .slice co cl ccap]] W fun e w' => (∃ v, e = .returned (.tuple #[v, .nilIface]) ∧ ReadsO w' v t) ∧ Below W.heap.size W w') :
    Calls Tryz.prog 18 #[.agg #[.slice ao al acap, .slice co cl ccap]] w fun e w' => ((∃ k : Nat, k < t.length ∧ t.getD k false = true ∧ (∀ j, j < k → t.getD j false = false) ∧ e = .returned (.tuple #[.int .i64 k, .nilIface])) ∨ ((∀ j, j < t.length → t.getD j false = false) ∧ e = .returned (.tuple #[.int .i64 0, .iface 74 (.int .i64 5)]))) ∧ Below w.heap.size w w' := by
  have HL : Hid (∀ W, Below w.heap.size w W → Calls Tryz.prog 19 #[.agg #[.slice ao al acap, .slice co cl ccap]] W fun e w' => (∃ v, e = .returned (.tuple #[v, .nilIface]) ∧ ReadsO w' v t) ∧ Below W.heap.size W w') := hL
  clear hL
  obtain ⟨w1, hw1⟩ : ∃ w1, w1 = w.alloc (.cells #[.slice ao al acap, .slice co cl ccap] 25) := ⟨_, rfl⟩
  have HB1 : Hid (Below w.heap.size w w1) := by unfold Hid; rw [hw1]; exact below_alloc1 _ _
  have HP1 : Hid (Blk w1 w.heap.size 25 #[.slice ao al acap, .slice co cl ccap]) := by unfold Hid; rw [hw1]; exact Blk.new _ _ _
  have x0 : w1.cell? ⟨w.heap.size, 0, none⟩ = some (.slice ao al acap) := HP1.out.cell 0
  have x1 : w1.cell? ⟨w.heap.size, 1, none⟩ = some (.slice co cl ccap) := HP1.out.cell 1
  go_enter Tryz.func18, Tryz.ntmps18
  go_wp2_with fail
  rw [← hw1]
  clear hw1
  go_wp2_with fail
  go_at_call 19
  refine (HL.out _ HB1.out).mono ?_
  rintro e w4 ⟨⟨v, rfl, hr⟩, hb⟩
  have HR : Hid (ReadsO w4 v t) := hr
  have HB4 : Hid (Below w.heap.size w w4) := HB1.out.trans (hb.mono HB1.out.size)
  clear hb hr x0 x1
  go_wp2_with fail
  go_at_call 42
  refine (indexO_any t v _ HR.out).mono ?_
  rintro e w5 ⟨hor, hb⟩
  have HB5 : Hid (Below w.heap.size w w5) := HB4.out.trans (hb.mono HB4.out.size)
  clear hb
  rcases hor with ⟨k, hk, h1, h2, rfl⟩ | ⟨h1, rfl⟩
  · have HK : Hid (k < t.length ∧ t.getD k false = true ∧ ∀ j, j < k → t.getD j false = false) := ⟨hk, h1, h2⟩
    clear hk h1 h2
    go_wp2
    go_ret2
    exact ⟨Or.inl ⟨k, HK.out.1, HK.out.2.1, HK.out.2.2, rfl⟩, HB5.out⟩
  · have HK : Hid (∀ j, j < t.length → t.getD j false = false) := h1
    clear h1
    go_wp2
    go_ret2
    exact ⟨Or.inr ⟨HK.out, rfl⟩, HB5.out⟩

set_option maxHeartbeats 4000000 in
theorem firm_good (ao : Option Addr) (al acap : Nat) (co : Option Addr) (cl ccap : Nat) (m : Nat → Bool) (w : World)
    (hS : ∀ u : Nat, u ≤ 6 → ∀ W, Below w.heap.size w W → Calls Tryz.prog 13 #[.agg #[.slice ao al acap, .slice co cl ccap], .int .i64 u] W fun e w' => e = .returned (.tuple #[.bool (m u), .nilIface]) ∧ Below W.heap.size W w') :
    Calls Tryz.prog 20 #[.agg #[.slice ao al acap, .slice co cl ccap]] w fun e w' => e = .returned (.tuple #[.bool ((List.range 7).all m), .nilIface]) ∧ Below w.heap.size w w' := by
  have HS : Hid (∀ u : Nat, u ≤ 6 → ∀ W, Below w.heap.size w W → Calls Tryz.prog 13 #[.agg #[.slice ao al acap, .slice co cl ccap], .int .i64 u] W fun e w' => e = .returned (.tuple #[.bool (m u), .nilIface]) ∧ Below W.heap.size W w') := hS
  clear hS
  obtain ⟨w1, hw1⟩ : ∃ w1, w1 = w.alloc (.cells #[.slice ao al acap, .slice co cl ccap] 25) := ⟨_, rfl⟩
  have HB1 : Hid (Below w.heap.size w w1) := by unfold Hid; rw [hw1]; exact below_alloc1 _ _
  have HP1 : Hid (Blk w1 w.heap.size 25 #[.slice ao al acap, .slice co cl ccap]) := by unfold Hid; rw [hw1]; exact Blk.new _ _ _
  go_enter Tryz.func20, Tryz.ntmps20
  go_wp2_with fail
  rw [← hw1]
  clear hw1
  go_wp2_with fail
  go_loopw [7] (fun i wr => ∃ k : Nat, k ≤ 7 ∧ i = .int .i64 k ∧ Below w1.heap.size w1 wr ∧ ∀ j, j < k → m j = true) (fun i _ => 7 - (intOf i).toNat)
  case atStart => exact ⟨0, by omega, rfl, Below.refl _ _, fun j hj => absurd hj (by omega)⟩
  case round =>
    obtain ⟨k, hk, rfl, hbr, hall⟩ := hrel
    have HBr : Hid (Below w1.heap.size w1 wr) := hbr
    have HBw : Hid (Below w.heap.size w wr) := HB1.out.trans (hbr.mono HB1.out.size)
    have HA : Hid (∀ j, j < k → m j = true) := hall
    clear hbr hall
    by_cases hlt : k ≤ 6
    · have x0 : wr.cell? ⟨w.heap.size, 0, none⟩ = some (.slice ao al acap) := (HP1.out.below HBr.out).cell 0
      have x1 : wr.cell? ⟨w.heap.size, 1, none⟩ = some (.slice co cl ccap) := (HP1.out.below HBr.out).cell 1
      go_wp2_with fail
      go_at_call 13
      refine (HS.out k hlt _ HBw.out).mono ?_
      rintro e w4 ⟨rfl, hb⟩
      have HB4 : Hid (Below w1.heap.size w1 w4) := HBr.out.trans (hb.mono HBr.out.size)
      have HBv : Hid (Below w.heap.size w w4) := HBw.out.trans (hb.mono HBw.out.size)
      clear hb x0 x1
      obtain ⟨b, hb⟩ : ∃ b, b = m k := ⟨_, rfl⟩
      have HMk : Hid (m k = b) := hb.symm
      rw [← hb]
      clear hb
      cases b with
      | true =>
        go_wp2
        go_roundw
        case rel =>
          refine ⟨k + 1, by omega, by go_num, HB4.out, fun j hj => ?_⟩
          rcases Nat.lt_or_ge j k with h | h
          · exact HA.out j h
          · obtain rfl : j = k := by omega
            exact HMk.out
        case measure => simp [intOf]; omega
      | false =>
        have HF : Hid ((List.range 7).all m = false) := by
          unfold Hid
          rw [List.all_eq_false]
          exact ⟨k, List.mem_range.2 (by omega), by rw [HMk.out]; decide⟩
        go_wp2
        go_ret2
        exact ⟨by rw [HF.out]; rfl, HBv.out⟩
    · obtain rfl : k = 7 := by omega
      have HF : Hid ((List.range 7).all m = true) := by
        unfold Hid
        rw [List.all_eq_true]
        exact fun x hx => HA.out x (List.mem_range.1 hx)
      go_wp2
      go_ret2
      exact ⟨by rw [HF.out]; rfl, HBw.out⟩

set_option maxHeartbeats 4000000 in
theorem firm_bad (ao : Option Addr) (al acap : Nat) (co : Option Addr) (cl ccap : Nat) (b : Bool) (n : Int) (w : World)
    (hS : ∀ W, Below w.heap.size w W → Calls Tryz.prog 13 #[.agg #[.slice ao al acap, .slice co cl ccap], .int .i64 0] W fun e w' => e = .returned (.tuple #[.bool b, .iface 74 (.int .i64 n)]) ∧ Below W.heap.size W w') :
    Calls Tryz.prog 20 #[.agg #[.slice ao al acap, .slice co cl ccap]] w fun e w' => e = .returned (.tuple #[.bool false, .iface 74 (.int .i64 n)]) ∧ Below w.heap.size w w' := by
  have HS : Hid (∀ W, Below w.heap.size w W → Calls Tryz.prog 13 #[.agg #[.slice ao al acap, .slice co cl ccap], .int .i64 0] W fun e w' => e = .returned (.tuple #[.bool b, .iface 74 (.int .i64 n)]) ∧ Below W.heap.size W w') := hS
  clear hS
  obtain ⟨w1, hw1⟩ : ∃ w1, w1 = w.alloc (.cells #[.slice ao al acap, .slice co cl ccap] 25) := ⟨_, rfl⟩
  have HB1 : Hid (Below w.heap.size w w1) := by unfold Hid; rw [hw1]; exact below_alloc1 _ _
  have HP1 : Hid (Blk w1 w.heap.size 25 #[.slice ao al acap, .slice co cl ccap]) := by unfold Hid; rw [hw1]; exact Blk.new _ _ _
  have x0 : w1.cell? ⟨w.heap.size, 0, none⟩ = some (.slice ao al acap) := HP1.out.cell 0
  have x1 : w1.cell? ⟨w.heap.size, 1, none⟩ = some (.slice co cl ccap) := HP1.out.cell 1
  go_enter Tryz.func20, Tryz.ntmps20
  go_wp2_with fail
  rw [← hw1]
  clear hw1
  go_wp2_with fail
  refine wp_loop_rounds 1 ?_
  rw [rounds_succ]
  go_wp2_with fail
  go_at_call 13
  refine (HS.out _ HB1.out).mono ?_
  rintro e w4 ⟨rfl, hb⟩
  have HB4 : Hid (Below w.heap.size w w4) := HB1.out.trans (hb.mono HB1.out.size)
  clear hb x0 x1
  go_wp2
  go_ret2
  exact ⟨rfl, HB4.out⟩
end Go.Proofs.YtedgbohobgnedaeGreatDoor

namespace Go.Proofs.YtedgbohobgnedaeGreatDoor
open Go.ChangeShapes Go.WideShapes Go.ChangeAt Go.RowKit
set_option maxRecDepth 100000

theorem firstTo_at {ats : List At} {c : List Int} {n : Nat} (hs : someM ats c n = true) (hz : ∀ j, j < n → someM ats c j = false) : ∀ k, n < k → firstTo ats c k = n := by
  intro k
  induction k with
  | zero => intro h; omega
  | succ k ih =>
    intro h
    unfold firstTo
    rcases Nat.lt_or_ge n k with h1 | h1
    · rw [ih h1, if_neg (by omega)]
    · obtain rfl : n = k := by omega
      have : firstTo ats c n < 0 := by
        have hr := firstTo_range ats c n
        by_cases hl : firstTo ats c n < 0
        · exact hl
        · exfalso
          obtain ⟨j, hj⟩ := Int.eq_ofNat_of_zero_le (Int.not_lt.1 hl)
          obtain ⟨a, b, _⟩ := firstTo_some hj
          rw [hz j b] at a; exact absurd a (by decide)
      rw [if_pos this, if_pos hs]
theorem firstTo_no {ats : List At} {c : List Int} {k : Nat} (hz : ∀ j, j < k → someM ats c j = false) : firstTo ats c k < 0 := by
  by_cases hl : firstTo ats c k < 0
  · exact hl
  · exfalso
    obtain ⟨j, hj⟩ := Int.eq_ofNat_of_zero_le (Int.not_lt.1 hl)
    obtain ⟨a, b, _⟩ := firstTo_some hj
    rw [hz j b] at a; exact absurd a (by decide)
theorem getD_some (m : Nat → Bool) {j : Nat} (h : j < 7) : ((List.range 7).map m).getD j false = m j := by
  rw [List.getD_eq_getElem?_getD, List.getElem?_map, List.getElem?_range h]; rfl

theorem list_any (va vc : Value) (ats : List At) (c : List Int) (w : World) (hA : ReadsA w va ats) (hC : Reads w vc c) (hK : KindsLaid w) (hT : TimesLaid w) (hg : Laid w) :
    Calls Tryz.prog 19 #[.agg #[va, vc]] w fun e w' => (∃ v, e = .returned (.tuple #[v, errV (listFault ats c)]) ∧ ReadsO w' v (listL ats c)) ∧ Below w.heap.size w w' := by
  have hM := fun (u : Int) W hW => modelOf_any va vc ats c u W (hA.below hW) (hC.below hW) (hK.below hW) (hT.below hW) (hg.below hW)
  obtain ⟨ao, acap, rfl, _⟩ := hA.slice
  obtain ⟨co, ccap, rfl, _⟩ := hC.slice
  by_cases h0 : listFault ats c = 0
  · have el : listL ats c = (List.range 7).map (someM ats c) := by unfold listL; rw [if_pos h0]
    rw [el, h0]
    refine list_good ao _ acap co _ ccap (someM ats c) w fun u hu W hW => ?_
    refine (hM (u : Int) W hW).mono ?_
    rintro e w' ⟨rfl, hb⟩
    refine ⟨⟨modelW ats c (u : Int), ?_⟩, hb⟩
    have hm := list_well h0 hu
    rcases (Bool.eq_false_or_eq_true (someM ats c u)) with hs | hs
    · rw [hs, if_pos rfl] at hm; rw [hm, hs]; rfl
    · rw [hs, if_neg (by decide)] at hm; rw [hm, hs]; rfl
  · obtain ⟨⟨e1, h5⟩, hm⟩ := list_ill h0
    have el : listL ats c = [] := by unfold listL; rw [if_neg h0]
    rw [el, errV_no h0]
    refine (list_bad ao _ acap co _ ccap (listFault ats c) (by rw [e1]; exact h5) w fun W hW => ?_).mono ?_
    · refine (hM 0 W hW).mono ?_
      rintro e w' ⟨rfl, hb⟩
      have := hm 0
      refine ⟨⟨modelW ats c 0, ?_⟩, hb⟩
      rw [show modelFault ats c 0 = listFault ats c from this, errV_no h0]; rfl
    · rintro e w' ⟨rfl, hb⟩
      exact ⟨⟨_, rfl, Or.inl ⟨none, 0, rfl, rfl⟩⟩, hb⟩

theorem leastOf_any (va vc : Value) (ats : List At) (c : List Int) (w : World) (hA : ReadsA w va ats) (hC : Reads w vc c) (hK : KindsLaid w) (hT : TimesLaid w) (hg : Laid w) :
    Calls Tryz.prog 18 #[.agg #[va, vc]] w fun e w' => e = .returned (.tuple #[.int .i64 (leastOfN ats c), errV (leastFaultF ats c)]) ∧ Below w.heap.size w w' := by
  have hL := fun W hW => list_any va vc ats c W (hA.below hW) (hC.below hW) (hK.below hW) (hT.below hW) (hg.below hW)
  have hM := fun (u : Int) W hW => modelOf_any va vc ats c u W (hA.below hW) (hC.below hW) (hK.below hW) (hT.below hW) (hg.below hW)
  obtain ⟨ao, acap, rfl, _⟩ := hA.slice
  obtain ⟨co, ccap, rfl, _⟩ := hC.slice
  by_cases h0 : listFault ats c = 0
  · have el : listL ats c = (List.range 7).map (someM ats c) := by unfold listL; rw [if_pos h0]
    rw [el, h0] at hL
    refine (least_good ao _ acap co _ ccap _ w hL).mono ?_
    rintro e w' ⟨hor, hb⟩
    refine ⟨?_, hb⟩
    have h7 : ((List.range 7).map (someM ats c)).length = 7 := by simp
    rcases hor with ⟨k, hk, h1, h2, rfl⟩ | ⟨h1, rfl⟩
    · rw [h7] at hk
      rw [getD_some _ hk] at h1
      have hz : ∀ j, j < k → someM ats c j = false := fun j hj => by have := h2 j hj; rw [getD_some _ (by omega)] at this; exact this
      have hF := firstTo_at h1 hz 7 hk
      have hc : cubeFault ats c = 0 := by
        by_cases hc : cubeFault ats c = 0
        · exact hc
        · exfalso
          have hm : modelFault ats c (k : Int) = 0 := of_decide_eq_true h1
          rw [cube_bad hc] at hm; exact hc hm
      have ef : leastFaultF ats c = 0 := by unfold leastFaultF; rw [if_pos hc, if_neg (by rw [hF]; omega)]
      have en : leastOfN ats c = k := by unfold leastOfN; rw [if_pos ef, hF]
      rw [ef, en]; rfl
    · have hz : ∀ j, j < 7 → someM ats c j = false := fun j hj => by have := h1 j (by rw [h7]; exact hj); rw [getD_some _ hj] at this; exact this
      have hF := firstTo_no hz
      have ef : leastFaultF ats c = 5 := by
        unfold leastFaultF
        by_cases hc : cubeFault ats c = 0
        · rw [if_pos hc, if_pos hF]
        · rw [if_neg hc]
          unfold listFault at h0
          by_cases h5 : cubeFault ats c = 5
          · exact h5
          · rw [if_neg h5] at h0; exact absurd h0 hc
      have en : leastOfN ats c = 0 := by unfold leastOfN; rw [if_neg (by rw [ef]; decide)]
      rw [ef, en]; rfl
  · obtain ⟨⟨e1, h5⟩, hm⟩ := list_ill h0
    have hc : ¬ cubeFault ats c = 0 := by rw [← e1]; exact h0
    have ef : leastFaultF ats c = listFault ats c := by unfold leastFaultF; rw [if_neg hc, e1]
    have en : leastOfN ats c = 0 := by unfold leastOfN; rw [if_neg (by rw [ef]; exact h0)]
    rw [ef, en, errV_no h0]
    refine least_bad ao _ acap co _ ccap (listFault ats c) w fun W hW => ?_
    refine list_bad ao _ acap co _ ccap (listFault ats c) (by rw [e1]; exact h5) W fun W' hW' => ?_
    refine (hM 0 W' (hW.trans (hW'.mono hW.size))).mono ?_
    rintro e w' ⟨rfl, hb⟩
    have := hm 0
    refine ⟨⟨modelW ats c 0, ?_⟩, hb⟩
    rw [show modelFault ats c 0 = listFault ats c from this, errV_no h0]; rfl

theorem firm_any (va vc : Value) (ats : List At) (c : List Int) (w : World) (hA : ReadsA w va ats) (hC : Reads w vc c) (hK : KindsLaid w) (hT : TimesLaid w) (hg : Laid w) :
    Calls Tryz.prog 20 #[.agg #[va, vc]] w fun e w' => e = .returned (.tuple #[.bool (firmB ats c), errV (firmFault ats c)]) ∧ Below w.heap.size w w' := by
  have hS := fun (u : Int) W hW => sure_any va vc ats c u W (hA.below hW) (hC.below hW) (hK.below hW) (hT.below hW) (hg.below hW)
  obtain ⟨ao, acap, rfl, _⟩ := hA.slice
  obtain ⟨co, ccap, rfl, _⟩ := hC.slice
  by_cases h0 : firmFault ats c = 0
  · have hn : negFault ats c = 0 := by
      by_cases hn : negFault ats c = 0
      · exact hn
      · unfold firmFault at h0; rw [if_neg hn] at h0; exact absurd h0 hn
    have hc : cubeFault ats (c ++ [12]) = 0 := by unfold firmFault at h0; rw [if_pos hn] at h0; exact h0
    have eb : firmB ats c = (List.range 7).all fun u => !someM ats (c ++ [12]) u := by unfold firmB; rw [if_pos h0]; rfl
    rw [h0, eb]
    refine firm_good ao _ acap co _ ccap (fun u => !someM ats (c ++ [12]) u) w fun u hu W hW => ?_
    have hm := model_two hc hu
    have ea : againstFault ats c (u : Int) = modelFault ats (c ++ [12]) (u : Int) := by unfold againstFault; rw [if_pos hn]
    have es : sureB ats c (u : Int) = !someM ats (c ++ [12]) u := by
      unfold sureB
      rcases (Bool.eq_false_or_eq_true (someM ats (c ++ [12]) u)) with hs | hs
      · rw [hs, if_pos rfl] at hm
        rw [hs]
        exact decide_eq_false fun h => by rw [ea, hm] at h; exact absurd h.1 (by decide)
      · rw [hs, if_neg (by decide)] at hm
        rw [hs]
        exact decide_eq_true ⟨by rw [ea, hm], (neg_good hn).1⟩
    have ef : sureFault ats c (u : Int) = 0 := by
      unfold sureFault
      rcases (Bool.eq_false_or_eq_true (someM ats (c ++ [12]) u)) with hs | hs
      · rw [hs, if_pos rfl] at hm
        rw [es, hs, if_neg (by decide), ea, hm]
      · rw [es, hs, if_pos (by decide)]
    have h := hS (u : Int) W hW
    rw [es, ef] at h
    exact h
  · have key : ∃ b, sureB ats c 0 = b ∧ sureFault ats c 0 = firmFault ats c := by
      refine ⟨_, rfl, ?_⟩
      by_cases hn : negFault ats c = 0
      · have e1 : firmFault ats c = cubeFault ats (c ++ [12]) := by unfold firmFault; rw [if_pos hn]
        have hc : ¬ cubeFault ats (c ++ [12]) = 0 := by rw [← e1]; exact h0
        obtain ⟨h4, hm⟩ := cube_four (neg_good hn).2.2 hc
        have ea : againstFault ats c 0 = 4 := by unfold againstFault; rw [if_pos hn]; exact hm 0
        have es : sureB ats c 0 = false := by unfold sureB; exact decide_eq_false fun h => by rw [ea] at h; exact absurd h.1 (by decide)
        unfold sureFault
        rw [es, if_neg (by decide), ea, e1, h4]
      · have e1 : firmFault ats c = negFault ats c := by unfold firmFault; rw [if_neg hn]
        have ea : againstFault ats c 0 = negFault ats c := by unfold againstFault; rw [if_neg hn]
        have es : sureB ats c 0 = false := by
          unfold sureB
          refine decide_eq_false fun h => ?_
          have h5 := h.1
          rw [ea] at h5
          have := neg_five h5
          rw [this] at h
          exact absurd h.2 (by decide)
        unfold sureFault
        rw [es, if_neg (by decide), ea, e1]
    obtain ⟨b, hb, hf⟩ := key
    have eb : firmB ats c = false := by unfold firmB; rw [if_neg h0]
    rw [eb, errV_no h0]
    refine firm_bad ao _ acap co _ ccap b (firmFault ats c) w fun W hW => ?_
    have h := hS 0 W hW
    rw [hb, hf, errV_no h0] at h
    exact h
end Go.Proofs.YtedgbohobgnedaeGreatDoor
