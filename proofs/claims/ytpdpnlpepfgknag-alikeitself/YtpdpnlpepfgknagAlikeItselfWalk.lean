/-
  Proved: vennlaw4.AlikeItself returns true, of any row, where alike's functions answer as chapter 12 says; what was in memory is as it was (the walk that the statement leans on).
-/
import Derived.Test.YtpdpnlpepfgknagAlikeMath
import Derived.Test.YtpdpnlpepfgknagAlikeOwn
import Derived.Test.YtpdpnlpepfgknagFieldsBlk
namespace Go.Proofs.Ytpdpnlpepfgknag
open Go.ChangeShapes Go.WideShapes Go.ChangeAt Go.RowKit
set_option maxRecDepth 100000

/-- a row of numbers, appended to none. -/
theorem append_signs {w : World} {ops : Array Oper} {rest : List Oper} {o : Oper} {a : Act} {Q : Exit → Act → World → Prop} (hgd : o.guard = none) (s x : Operand)
    (ho : o.op = .call { callee := .builtin .append, args := #[s, x], argTypes := #[22, 22] }) (hs : a.eval s = .slice none 0 0) (b off c : Nat) (t : List Int) (hx : a.eval x = .slice (some ⟨b, off, none⟩) t.length c)
    (hc : ∀ k, k < t.length → w.cell? ⟨b, off + k, none⟩ = some (.int .i64 (t.getD k 0))) (h20 : t.length ≤ 20)
    (h : ∀ v' w', w'.ownsRow w.heap.size 3 1 v' t.length (t.map (Value.int .i64)) → w.grownBy w' none → wpList Try.prog ops Q rest (a.put o.dst v') w') :
    wpList Try.prog ops Q (o :: rest) a w := by
  obtain ⟨i1, hi⟩ : ∃ i, Try.prog.info? 3 = some i := Option.isSome_iff_exists.1 infoS
  have hz0 : i1.zero = some (.int .i64 0) := by have := zeroS; rw [hi] at this; simpa using this
  have hz1 : i1.size = 1 := by have := sizeS; rw [hi] at this; simpa using this
  have hz2 : i1.bytes = 8 := by have := bytesS; rw [hi] at this; simpa using this
  refine wpList_append_own_at w hgd s x 22 ho w.heap.size 3 i1 _ 1 8 Try.underlying22 hi hz0 hz1 hz2 rfl (by decide) (.slice none 0 0) 0 [] hs (World.ownsRow_nil _ _ _ _) ⟨b, off, none⟩ t.length c (t.map (Value.int .i64)) hx (by simp) ?_ (by intro u hu; obtain ⟨n, _, rfl⟩ := List.mem_map.1 hu; rfl) (by unfold maxLen; omega) (by omega) (Nat.le_refl _) ?_
  · intro j u hu
    rw [List.getElem?_map] at hu
    cases hj : t[j]? with
    | none => rw [hj] at hu; cases hu
    | some n =>
      rw [hj] at hu
      have hjl := (List.getElem?_eq_some_iff.1 hj).1
      rw [show (⟨b, off, none⟩ : Addr).add j = ⟨b, off + j, none⟩ by simp [Addr.add], hc j hjl, List.getD_eq_getElem?_getD, hj]
      simpa using hu
  · intro v' w' h1 h2 _ _
    rw [Nat.zero_add, List.nil_append] at h1
    exact h v' w' h1 h2

set_option maxHeartbeats 4000000 in
theorem alikeItself_bad (to_ : Option Addr) (tl tc : Nat) (f : Int) (w : World)
    (HSa : Hid (∀ W, Below w.heap.size w W → Calls Try.prog 4 #[.slice to_ tl tc, .slice to_ tl tc] W fun e w' => e = .returned (.tuple #[.bool false, .iface 31 (.int .i64 f)]) ∧ Below W.heap.size W w'))
    (HPa : Hid (∀ W v, Below w.heap.size w W → Reads W v [4] → Calls Try.prog 5 #[.slice to_ tl tc, v] W fun e w' => e = .returned (.tuple #[.bool false, .iface 31 (.int .i64 f)]) ∧ Below W.heap.size W w'))
    (HCh : Hid (∀ W, Below w.heap.size w W → Calls Try.prog 6 #[.slice to_ tl tc] W fun e w' => e = .returned (.iface 31 (.int .i64 f)) ∧ Below W.heap.size W w')) :
    Calls Try.prog 3 #[.slice to_ tl tc] w fun e w' => e = .returned (.bool true) ∧ Below w.heap.size w w' := by
  go_enter Try.func3, Try.ntmps3
  go_wp2_with fail
  go_at_call 4
  refine (HSa.out _ (Below.refl _ _)).mono ?_
  rintro e w1 ⟨rfl, hb⟩
  have HB1 : Hid (Below w.heap.size w w1) := hb
  clear hb
  obtain ⟨w2, hw2⟩ : ∃ w2, w2 = w1.alloc (.cells #[.int .i64 4] 3) := ⟨_, rfl⟩
  have HB2 : Hid (Below w.heap.size w w2) := by unfold Hid; rw [hw2]; exact HB1.out.alloc HB1.out.size _
  have HR2 : Hid (Reads w2 (.slice (some ⟨w1.heap.size, 0, none⟩) 1 1) [4]) := by
    have k : Blk w2 w1.heap.size 3 #[.int .i64 4] := by rw [hw2]; exact Blk.new _ _ _
    refine Or.inr ⟨w1.heap.size, 0, 1, rfl, k.lt, by simp, ⟨by simp, by simp⟩, fun j hj => ?_⟩
    obtain rfl : j = 0 := by simp at hj; exact hj
    exact k.cell 0
  go_wp2_with fail
  rw [← hw2]
  clear hw2
  go_at_call 5
  refine (HPa.out _ _ HB2.out HR2.out).mono ?_
  rintro e w3 ⟨rfl, hb⟩
  have HB3 : Hid (Below w.heap.size w w3) := HB2.out.trans (hb.mono HB2.out.size)
  clear hb
  go_wp2_with fail
  go_at_call 6
  refine (HCh.out _ HB3.out).mono ?_
  rintro e w4 ⟨rfl, hb⟩
  have HB4 : Hid (Below w.heap.size w w4) := HB3.out.trans (hb.mono HB3.out.size)
  clear hb
  go_wp2
  go_ret
  exact ⟨rfl, HB4.out⟩

set_option maxHeartbeats 8000000 in
theorem alikeItself_good (b off tc : Nat) (t : List Int) (hl : t.length ≤ 12) (w : World) (hb : b < w.heap.size) (hc : ∀ k, k < t.length → w.cell? ⟨b, off + k, none⟩ = some (.int .i64 (t.getD k 0)))
    (HSa : Hid (∀ W, Below w.heap.size w W → Calls Try.prog 4 #[.slice (some ⟨b, off, none⟩) t.length tc, .slice (some ⟨b, off, none⟩) t.length tc] W fun e w' => e = .returned (.tuple #[.bool true, .nilIface]) ∧ Below W.heap.size W w'))
    (HPa : Hid (∀ W v, Below w.heap.size w W → Reads W v [4] → Calls Try.prog 5 #[.slice (some ⟨b, off, none⟩) t.length tc, v] W fun e w' => e = .returned (.tuple #[.bool true, .nilIface]) ∧ Below W.heap.size W w'))
    (HAp : Hid (t.length ≤ 11 → ∀ W v, Below w.heap.size w W → Reads W v (t ++ [8]) → Calls Try.prog 7 #[.slice (some ⟨b, off, none⟩) t.length tc, v] W fun e w' => e = .returned (.tuple #[.bool true, .nilIface]) ∧ Below W.heap.size W w')) :
    Calls Try.prog 3 #[.slice (some ⟨b, off, none⟩) t.length tc] w fun e w' => e = .returned (.bool true) ∧ Below w.heap.size w w' := by
  have HC : Hid (∀ k, k < t.length → w.cell? ⟨b, off + k, none⟩ = some (.int .i64 (t.getD k 0))) := hc
  have Hb : Hid (b < w.heap.size) := hb
  obtain ⟨n, hn⟩ : ∃ n, n = t.length := ⟨_, rfl⟩
  rw [← hn] at HSa HPa HAp hl ⊢
  have HNn : Hid (n = t.length) := hn
  clear hc hb hn
  go_enter Try.func3, Try.ntmps3
  go_wp2_with fail
  go_at_call 4
  refine (HSa.out _ (Below.refl _ _)).mono ?_
  rintro e w1 ⟨rfl, hb⟩
  have HB1 : Hid (Below w.heap.size w w1) := hb
  clear hb
  obtain ⟨w2, hw2⟩ : ∃ w2, w2 = w1.alloc (.cells #[.int .i64 4] 3) := ⟨_, rfl⟩
  have HB2 : Hid (Below w.heap.size w w2) := by unfold Hid; rw [hw2]; exact HB1.out.alloc HB1.out.size _
  have HR2 : Hid (Reads w2 (.slice (some ⟨w1.heap.size, 0, none⟩) 1 1) [4]) := by
    have k : Blk w2 w1.heap.size 3 #[.int .i64 4] := by rw [hw2]; exact Blk.new _ _ _
    refine Or.inr ⟨w1.heap.size, 0, 1, rfl, k.lt, by simp, ⟨by simp, by simp⟩, fun j hj => ?_⟩
    obtain rfl : j = 0 := by simp at hj; exact hj
    exact k.cell 0
  go_wp2_with fail
  rw [← hw2]
  clear hw2
  go_at_call 5
  refine (HPa.out _ _ HB2.out HR2.out).mono ?_
  rintro e w3 ⟨rfl, hb⟩
  have HB3 : Hid (Below w.heap.size w w3) := HB2.out.trans (hb.mono HB2.out.size)
  clear hb
  by_cases h11 : n ≤ 11
  · have h11' : (n : Int) ≤ 11 := by omega
    have HC3 : Hid (∀ k, k < t.length → w3.cell? ⟨b, off + k, none⟩ = some (.int .i64 (t.getD k 0))) := fun k hk => (HB3.out.cell Hb.out).trans (HC.out k hk)
    have hl20 : t.length ≤ 20 := by rw [← HNn.out]; omega
    go_wp2_with (at_builtin; refine append_signs rfl _ _ rfl rfl b off tc t (by rw [← HNn.out]; rfl) HC3.out hl20 ?_)
    intro v4 w4 hown hgrow
    have HB4 : Hid (Below w3.heap.size w3 w4) := (Below.refl _ _).grown hgrow (Nat.le_refl _) (fun k hk => by cases hk)
    have HO4 : Hid (w4.ownsRow w3.heap.size 3 1 v4 t.length (t.map (Value.int .i64))) := hown
    clear hown hgrow
    go_wp2_with (at_builtin; refine append_sign rfl _ _ rfl w3.heap.size v4 rfl t 8 w4.heap.size 1 rfl (HO4.out.alloc _) (heap_alloc_new w4 _) (by have := HB4.out.size; simp; omega) hl20 ?_)
    intro v5 w5 hown hgrow
    have HBa : Hid (Below w3.heap.size w3 (w4.alloc (.cells #[.int .i64 8] 3))) := HB4.out.alloc HB4.out.size _
    have HB5 : Hid (Below w3.heap.size w3 w5) := HBa.out.grown hgrow HBa.out.size (fun x hx => (HO4.out.lt x hx).1)
    have HBw5 : Hid (Below w.heap.size w w5) := HB3.out.trans (HB5.out.mono HB3.out.size)
    have HR5 : Hid (Reads w5 v5 (t ++ [8])) := own_readsS (K := w3.heap.size) (by rw [List.length_append, List.map_append]; exact hown) (by rw [List.length_append, ← HNn.out]; simp; omega)
    clear hown hgrow
    go_wp2_with fail
    go_at_call 7
    refine (HAp.out h11 _ _ HBw5.out HR5.out).mono ?_
    rintro e w6 ⟨rfl, hb⟩
    have HB6 : Hid (Below w.heap.size w w6) := HBw5.out.trans (hb.mono HBw5.out.size)
    clear hb
    go_wp2
    go_ret
    exact ⟨rfl, HB6.out⟩
  · have h11' : (11 : Int) < (n : Int) := by omega
    go_wp2
    go_ret
    exact ⟨rfl, HB3.out⟩

theorem alikeItself_of (vt : Value) (t : List Int) (w : World) (hT : Reads w vt t)
    (cCh : ∀ (vt : Value) (t : List Int) (W : World), Reads W vt t → Calls Try.prog 6 #[vt] W fun e w' => e = .returned (errV (faultN t)) ∧ Below W.heap.size W w')
    (cSa : ∀ (vs vt : Value) (s t : List Int) (W : World), Below w.heap.size w W → Reads W vs s → Reads W vt t → Calls Try.prog 4 #[vs, vt] W fun e w' => e = .returned (.tuple #[.bool (sameT s t), errV (alikeFault s t)]) ∧ Below W.heap.size W w')
    (cPa : ∀ (vs vt : Value) (s t : List Int) (W : World), Below w.heap.size w W → Reads W vs s → Reads W vt t → Calls Try.prog 5 #[vs, vt] W fun e w' => e = .returned (.tuple #[.bool (partT s t), errV (alikeFault s t)]) ∧ Below W.heap.size W w')
    (cAp : ∀ (vs vt : Value) (s t : List Int) (W : World), Below w.heap.size w W → Reads W vs s → Reads W vt t → Calls Try.prog 7 #[vs, vt] W fun e w' => e = .returned (.tuple #[.bool (apartT s t), errV (alikeFault s t)]) ∧ Below W.heap.size W w') :
    Calls Try.prog 3 #[vt] w fun e w' => e = .returned (.bool true) ∧ Below w.heap.size w w' := by
  have h4 : faultN [4] = 0 := by decide
  by_cases hf : faultN t = 0
  · have e0 : alikeFault t t = 0 := alike_zero.2 ⟨hf, hf⟩
    have e4 : alikeFault t [4] = 0 := alike_zero.2 ⟨hf, h4⟩
    have s0 : sameT t t = true := by unfold sameT; rw [if_pos e0]; exact same_self t
    have p0 : partT t [4] = true := by unfold partT; rw [if_pos e4]; exact part_all t
    have hl := (fault_zero.1 hf).2.1
    have h0 := (fault_zero.1 hf).1
    have hSa : ∀ W, Below w.heap.size w W → Calls Try.prog 4 #[vt, vt] W fun e w' => e = .returned (.tuple #[.bool true, .nilIface]) ∧ Below W.heap.size W w' := fun W hW => by
      have h := cSa vt vt t t W hW (hT.below hW) (hT.below hW)
      rw [s0, e0] at h
      exact h
    have hPa : ∀ W v, Below w.heap.size w W → Reads W v [4] → Calls Try.prog 5 #[vt, v] W fun e w' => e = .returned (.tuple #[.bool true, .nilIface]) ∧ Below W.heap.size W w' := fun W v hW hv => by
      have h := cPa vt v t [4] W hW (hT.below hW) hv
      rw [p0, e4] at h
      exact h
    have hAp : t.length ≤ 11 → ∀ W v, Below w.heap.size w W → Reads W v (t ++ [8]) → Calls Try.prog 7 #[vt, v] W fun e w' => e = .returned (.tuple #[.bool true, .nilIface]) ∧ Below W.heap.size W w' := fun h11 W v hW hv => by
      have e8 : alikeFault t (t ++ [8]) = 0 := alike_zero.2 ⟨hf, not_good hf h11⟩
      have a8 : apartT t (t ++ [8]) = true := by unfold apartT; rw [if_pos e8]; exact apart_not hf
      have h := cAp vt v t (t ++ [8]) W hW (hT.below hW) hv
      rw [a8, e8] at h
      exact h
    rcases hT with ⟨_, _, _, ht⟩ | ⟨b, off, cap, rfl, hb, _, _, hc⟩
    · rw [ht] at h0; exact absurd rfl h0
    · exact alikeItself_good b off cap t hl w hb hc hSa hPa hAp
  · have e0 : alikeFault t t = faultN t := by unfold alikeFault; rw [if_neg hf]
    have e4 : alikeFault t [4] = faultN t := by unfold alikeFault; rw [if_neg hf]
    have s0 : sameT t t = false := by unfold sameT; rw [if_neg (by rw [e0]; exact hf)]
    have p0 : partT t [4] = false := by unfold partT; rw [if_neg (by rw [e4]; exact hf)]
    have hSa : ∀ W, Below w.heap.size w W → Calls Try.prog 4 #[vt, vt] W fun e w' => e = .returned (.tuple #[.bool false, .iface 31 (.int .i64 (faultN t))]) ∧ Below W.heap.size W w' := fun W hW => by
      have h := cSa vt vt t t W hW (hT.below hW) (hT.below hW)
      rw [s0, e0, errV_no hf] at h
      exact h
    have hPa : ∀ W v, Below w.heap.size w W → Reads W v [4] → Calls Try.prog 5 #[vt, v] W fun e w' => e = .returned (.tuple #[.bool false, .iface 31 (.int .i64 (faultN t))]) ∧ Below W.heap.size W w' := fun W v hW hv => by
      have h := cPa vt v t [4] W hW (hT.below hW) hv
      rw [p0, e4, errV_no hf] at h
      exact h
    have hCh : ∀ W, Below w.heap.size w W → Calls Try.prog 6 #[vt] W fun e w' => e = .returned (.iface 31 (.int .i64 (faultN t))) ∧ Below W.heap.size W w' := fun W hW => by
      have h := cCh vt t W (hT.below hW)
      rw [errV_no hf] at h
      exact h
    obtain ⟨to_, tc, rfl⟩ : ∃ to_ tc, vt = .slice to_ t.length tc := by
      rcases hT with ⟨ao, cap, rfl, rfl⟩ | ⟨b, off, cap, rfl, _⟩
      · exact ⟨ao, cap, rfl⟩
      · exact ⟨_, cap, rfl⟩
    exact alikeItself_bad to_ _ tc (faultN t) w hSa hPa hCh
end Go.Proofs.Ytpdpnlpepfgknag
