/-
  Facts and contracts that the statement leans on.
-/
import Derived.Test.YtjaedfjfcghgcabGreatDoorLibX3
import Derived.Test.YtjaedfjfcghgcabGreatDoorLibX1
import Derived.Deep.Cut
import Derived.Test.YtjaedfjfcghgcabGreatDoorLibX5
import Derived.Test.YtjaedfjfcghgcabGreatDoorLibX4
import Derived.Maps.AppendAt
import Derived.Deep.AppendLies
import Derived.Deep.CutRange
import Derived.Deep.Onto
import Derived.Lib.Walk
import Derived.Lib.SliceRun
import Derived.Laws.ResultCell
namespace Go.Proofs.YtjaedfjfcghgcabGreatDoor
open Go.ChangeShapes Go.WideShapes Go.ChangeAt Go.RowKit
def kindCells : List Value := [.string ⟨#[]⟩, .bool false, .bool false, .string ⟨#[115, 117, 98]⟩, .bool true, .bool false, .string ⟨#[115, 97, 109, 101]⟩, .bool true, .bool false, .string ⟨#[108, 101, 97, 115, 116]⟩, .bool false, .bool true, .string ⟨#[109, 111, 115, 116]⟩, .bool false, .bool true, .string ⟨#[110, 111, 109, 111, 114, 101]⟩, .bool true, .bool true]
def KindsLaid (w : World) : Prop := ∀ j, j < 18 → w.cell? ⟨2, j, none⟩ = some (kindCells.getD j .nilIface)
theorem KindsLaid.lt {w : World} (h : KindsLaid w) : 2 < w.heap.size := World.block_lt_of_cell? w ⟨2, 0, none⟩ (h 0 (by decide))
theorem KindsLaid.at {K : Nat} {w w' : World} (h : KindsLaid w) (hb : Below K w w') (hK : w.heap.size ≤ K) : KindsLaid w' := fun j hj => by
 rw [hb.cell (p := ⟨2, j, none⟩) (Nat.lt_of_lt_of_le h.lt hK)]; exact h j hj
theorem KindsLaid.below {w w' : World} (h : KindsLaid w) (hb : Below w.heap.size w w') : KindsLaid w' := h.at hb (Nat.le_refl _)
theorem Reads.slice {w : World} {v : Value} {t : List Int} (h : Reads w v t) : ∃ ao cap, v = .slice ao t.length cap ∧ t.length ≤ 9223372036854775807 := by
 rcases h with ⟨ao, cap, rfl, rfl⟩ | ⟨b, off, cap, rfl, _, _, h, _⟩
 ·exact ⟨ao, cap, rfl, by simp⟩
 ·exact ⟨_, cap, rfl, h.1⟩
theorem errV_0 : errV 0 = .nilIface := rfl
set_option maxRecDepth 100000
theorem kind_has {W : World} (h : KindsLaid W) {k : Nat} (h1 : 0 < k) (h6 : k < 6) : W.cell? ⟨2, k * 3 + 1, none⟩ = some (.bool (secondB k)) ∧ W.cell? ⟨2, k * 3 + 2, none⟩ = some (.bool (numberB k)) := by
 rcases (by omega : k = 1 ∨ k = 2 ∨ k = 3 ∨ k = 4 ∨ k = 5) with rfl | rfl | rfl | rfl | rfl <;> exact ⟨h _ (by decide), h _ (by decide)⟩
theorem csecond_in (k : Nat) (h6 : k < 6) (n : Int) (sao tao : Option Addr) (sl scap tl tcap : Nat) (b : Bool) (E : Value) (w : World) (hl : tl ≤ 9223372036854775807)
    (hq : ∀ W, Below w.heap.size w W → W.cell? ⟨2, k * 3 + 1, none⟩ = some (.bool b))
    (HC : Hid (b = true → ∀ W, Below w.heap.size w W → Calls Tryz.prog 58 #[.slice tao tl tcap] W (Sk W E)))
    (HE : Hid (b = false → E = errV (if 0 < tl then 3 else 0))) :
    Calls Tryz.prog 81 #[.agg #[.int .i64 (k : Int), .slice sao sl scap, .slice tao tl tcap, .int .i64 n]] w (Bk w E) := by
 obtain ⟨w1, hw1⟩ := nm (w.alloc (.cells #[.int .i64 (k : Int), .slice sao sl scap, .slice tao tl tcap, .int .i64 n] 50))
 have HB : Hid (Below w.heap.size w w1) := by unfold Hid; rw [hw1]; exact below_alloc1 w _
 have q := hq w1 HB.out
 obtain ⟨x0, x2⟩ : w1.cell? ⟨w.heap.size, 0, none⟩ = some (.int .i64 (k : Int)) ∧ w1.cell? ⟨w.heap.size, 2, none⟩ = some (.slice tao tl tcap) := by rw [hw1]; simp
 clear hq
 cases b
 ·have he := HE.out rfl
  by_cases h : 0 < tl
  ·rw [if_pos h] at he
   subst he
   go_enter Tryz.func81, Tryz.ntmps81
   go_upto_region 1 with fail
   rw [← hw1]
   clear hw1
   go_wp2
   go_ret
   exact ⟨rfl, HB.out⟩
  ·rw [if_neg h] at he
   subst he
   obtain rfl : tl = 0 := by omega
   go_enter Tryz.func81, Tryz.ntmps81
   go_upto_region 1 with fail
   rw [← hw1]
   clear hw1
   go_wp2
   go_ret
   exact ⟨rfl, HB.out⟩
 ·have HC' := hide (HC.out rfl w1 HB.out)
  go_enter Tryz.func81, Tryz.ntmps81
  go_upto_region 1 with fail
  rw [← hw1]
  clear hw1
  go_wp2_with (go_at_call 58; refine HC'.out.mono ?_; rintro e w' ⟨rfl, rfl⟩)
  go_ret
  exact ⟨rfl, HB.out⟩
theorem csecond_any (k n : Int) (vs vt : Value) (s t : List Int) (w : World) (hk : 1 ≤ k ∧ k ≤ 5) (hS : Reads w vs s) (hT : Reads w vt t) (hK : KindsLaid w) :
    Calls Tryz.prog 81 #[.agg #[.int .i64 k, vs, vt, .int .i64 n]] w (Bk w (errV (secondFault k t))) := by
 obtain ⟨k, rfl⟩ := Int.eq_ofNat_of_zero_le (show 0 ≤ k by omega)
 have hC := fun W (hW : Below w.heap.size w W) => tcheck_any t vt W (hT.below hW)
 obtain ⟨sao, scap, rfl, _⟩ := hS.slice
 obtain ⟨tao, tcap, rfl, hl⟩ := hT.slice
 refine csecond_in k (by omega) n sao tao _ scap _ tcap (secondB k) _ w hl (fun W hW => (kind_has (hK.below hW) (by omega) (by omega)).1) (fun hb W hW => ?_) fun hb => ?_
 ·have e : secondFault (k : Int) t = faultN t := by unfold secondFault; rw [if_pos hb]
  rw [e]; exact hC W hW
 ·unfold secondFault; rw [hb]; rfl
theorem acheck_kind (k : Int) (n : Int) (sao tao : Option Addr) (sl scap tl tcap : Nat) (w : World) (hk : ¬ (1 ≤ k ∧ k ≤ 5)) :
    Calls Tryz.prog 35 #[.agg #[.int .i64 k, .slice sao sl scap, .slice tao tl tcap, .int .i64 n]] w (Bk w (.iface 75 (.int .i64 1))) := by
 have HB : Hid (Below w.heap.size w (w.alloc (.cells #[.int .i64 k, .slice sao sl scap, .slice tao tl tcap, .int .i64 n] 50))) := below_alloc1 w _
 by_cases h : k < 1
 ·clear hk
  go_enter Tryz.func35, Tryz.ntmps35
  go_wp2
  go_ret
  exact ⟨rfl, HB.out⟩
 ·have h5 : 5 < k := by omega
  clear hk
  go_enter Tryz.func35, Tryz.ntmps35
  go_wp2
  go_ret
  exact ⟨rfl, HB.out⟩
theorem acheck_in (k : Nat) (h1 : 0 < k) (h6 : k < 6) (n : Int) (sao tao : Option Addr) (sl scap tl tcap : Nat) (b : Bool) (F1 F2 : Int) (w : World)
    (hq : ∀ W, Below w.heap.size w W → W.cell? ⟨2, k * 3 + 2, none⟩ = some (.bool b))
    (HC : Hid (∀ W, Below w.heap.size w W → Calls Tryz.prog 58 #[.slice sao sl scap] W (Sk W (errV F1))))
    (HS : Hid (∀ W, Below w.heap.size w W → Calls Tryz.prog 81 #[.agg #[.int .i64 (k : Int), .slice sao sl scap, .slice tao tl tcap, .int .i64 n]] W (Bk W (errV F2)))) :
    Calls Tryz.prog 35 #[.agg #[.int .i64 (k : Int), .slice sao sl scap, .slice tao tl tcap, .int .i64 n]] w (Bk w (errV (if F1 = 0 then (if F2 = 0 then (if - (if b = true then 20 else 0) ≤ n ∧ n ≤ (if b = true then 20 else 0) then 0 else 1) else F2) else F1))) := by
 obtain ⟨w1, hw1⟩ := nm (w.alloc (.cells #[.int .i64 (k : Int), .slice sao sl scap, .slice tao tl tcap, .int .i64 n] 50))
 have HB : Hid (Below w.heap.size w w1) := by unfold Hid; rw [hw1]; exact below_alloc1 w _
 have HQ : Hid (∀ W, Below w1.heap.size w1 W → W.cell? ⟨2, k * 3 + 2, none⟩ = some (.bool b)) := fun W hW => hq W (HB.out.trans (hW.mono HB.out.size))
 have HX : Hid (∀ W, Below w1.heap.size w1 W → W.cell? ⟨w.heap.size, 0, none⟩ = some (.int .i64 (k : Int)) ∧ W.cell? ⟨w.heap.size, 1, none⟩ = some (.slice sao sl scap) ∧ W.cell? ⟨w.heap.size, 2, none⟩ = some (.slice tao tl tcap) ∧ W.cell? ⟨w.heap.size, 3, none⟩ = some (.int .i64 n)) := fun W hW => by
  have hl : w.heap.size < w1.heap.size := by rw [hw1]; simp
  refine ⟨(hW.cell hl).trans ?_, (hW.cell hl).trans ?_, (hW.cell hl).trans ?_, (hW.cell hl).trans ?_⟩ <;> (rw [hw1]; simp)
 have HC1 := hide (HC.out w1 HB.out)
 have HS1 := hide (HS.out w1 HB.out)
 obtain ⟨x0, x1, x2, x3⟩ := HX.out w1 (Below.refl _ _)
 obtain ⟨M, hM⟩ : ∃ M : Int, M = if b = true then 20 else 0 := ⟨_, rfl⟩
 rw [← hM]
 obtain ⟨R, hR⟩ := nm (errV (if F1 = 0 then (if F2 = 0 then (if - M ≤ n ∧ n ≤ M then 0 else 1) else F2) else F1))
 rw [← hR]
 have HR := hide hR
 clear hq HC HS hR
 go_enter Tryz.func35, Tryz.ntmps35
 go_upto_region 1 with fail
 rw [← hw1]
 clear hw1
 go_wp2_with fail
 go_at_call 58
 refine HC1.out.mono ?_
 rintro e w' ⟨rfl, rfl⟩
 by_cases e1 : F1 = 0
 ·have H1 := hide e1
  rw [show errV F1 = .nilIface by rw [e1]; rfl]
  clear e1
  go_wp2_with fail
  go_at_call 81
  refine HS1.out.mono ?_
  rintro e w2 ⟨rfl, hb⟩
  have HB2 := hide (HB.out.trans (hb.mono HB.out.size))
  have q := HQ.out w2 hb
  clear x0 x1 x2 x3
  obtain ⟨x0, x1, x2, x3⟩ := HX.out w2 hb
  clear hb
  by_cases e2 : F2 = 0
  ·have H2 := hide e2
   rw [show errV F2 = .nilIface by rw [e2]; rfl]
   clear e2
   have H3 : Hid (R = errV (if - M ≤ n ∧ n ≤ M then 0 else 1)) := by unfold Hid; rw [HR.out, if_pos H1.out, if_pos H2.out]
   clear HR H1 H2
   by_cases g1 : n < - M
   ·have H4 : Hid (.iface 75 (.int .i64 1) = R) := by unfold Hid; rw [H3.out, if_neg (by omega)]; rfl
    cases b <;> (simp at hM; subst hM; go_wp2; go_ret; exact ⟨back_v H4.out, HB2.out⟩)
   by_cases g2 : M < n
   ·have H4 : Hid (.iface 75 (.int .i64 1) = R) := by unfold Hid; rw [H3.out, if_neg (by omega)]; rfl
    cases b <;> (simp at hM; subst hM; go_wp2; go_ret; exact ⟨back_v H4.out, HB2.out⟩)
   ·have H4 : Hid (.nilIface = R) := by unfold Hid; rw [H3.out, if_pos (by omega)]; rfl
    cases b <;> (simp at hM; subst hM; go_wp2; go_ret; exact ⟨back_v H4.out, HB2.out⟩)
  ·have H4 : Hid (.iface 75 (.int .i64 F2) = R) := by unfold Hid; rw [HR.out, if_pos H1.out, if_neg e2, errV_no e2]
   rw [errV_no e2]
   clear e2 hM
   go_wp2
   go_ret
   exact ⟨back_v H4.out, HB2.out⟩
 ·have H4 : Hid (.iface 75 (.int .i64 F1) = R) := by unfold Hid; rw [HR.out, if_neg e1, errV_no e1]
  rw [errV_no e1]
  clear e1 hM
  go_wp2
  go_ret
  exact ⟨back_v H4.out, HB.out⟩
theorem acheck_any (k n : Int) (vs vt : Value) (s t : List Int) (w : World) (hS : Reads w vs s) (hT : Reads w vt t) (hK : KindsLaid w) :
    Calls Tryz.prog 35 #[.agg #[.int .i64 k, vs, vt, .int .i64 n]] w (Bk w (errV (atomFault k s t n))) := by
 have hC := fun W (hW : Below w.heap.size w W) => tcheck_any s vs W (hS.below hW)
 have hS2 := fun h W (hW : Below w.heap.size w W) => csecond_any k n vs vt s t W h (hS.below hW) (hT.below hW) (hK.below hW)
 obtain ⟨sao, scap, rfl, _⟩ := hS.slice
 obtain ⟨tao, tcap, rfl, hl⟩ := hT.slice
 by_cases hk : 1 ≤ k ∧ k ≤ 5
 ·unfold atomFault mostN
  rw [if_pos hk]
  obtain ⟨k, rfl⟩ := Int.eq_ofNat_of_zero_le (show 0 ≤ k by omega)
  exact acheck_in k (by omega) (by omega) n sao tao _ scap _ tcap (numberB k) _ _ w (fun W hW => (kind_has (hK.below hW) (by omega) (by omega)).2) hC (hS2 hk)
 ·rw [atomFault_kind hk, errV_no (by decide)]
  exact acheck_kind k n sao tao _ scap _ tcap w hk
end Go.Proofs.YtjaedfjfcghgcabGreatDoor
namespace Go.Proofs.YtjaedfjfcghgcabGreatDoor
open Go.ChangeShapes Go.WideShapes Go.ChangeAt Go.RowKit
set_option maxRecDepth 100000
theorem infoTu : (Tryz.prog.info? 3).isSome = true := by kernel_rfl
theorem zeroTu : (Tryz.prog.info? 3).bind (·.zero) = some (.int .i64 0) := by kernel_rfl
theorem sizeTu : (Tryz.prog.info? 3).map (·.size) = some 1 := by kernel_rfl
theorem bytesTu : (Tryz.prog.info? 3).map (·.bytes) = some 8 := by kernel_rfl
theorem append_turn {w : World} {ops : Array Oper} {rest : List Oper} {o : Oper} {a : Act} {Q : Exit → Act → World → Prop} (hgd : o.guard = none) (s x : Operand)
    (ho : o.op = .call { callee := .builtin .append, args := #[s, x], argTypes := #[23, 23] }) (K : Nat) (v : Value) (hs : a.eval s = v) (l : List Int) (r : Int) (B c : Nat) (hx : a.eval x = .slice (some ⟨B, 0, none⟩) 1 c)
    (hown : w.ownsRow K 3 1 v l.length (l.map (Value.int .i64))) (hB : w.heap[B]? = some (.cells #[.int .i64 r] 3 (0, 0))) (hK : K ≤ w.heap.size) (h12 : l.length ≤ 20)
    (h : ∀ v' w', w'.ownsRow K 3 1 v' (l.length + 1) ((l ++ [r]).map (Value.int .i64)) → w.grownBy w' v.ownBlock → wpList Tryz.prog ops Q rest (a.put o.dst v') w') :
    wpList Tryz.prog ops Q (o :: rest) a w := by
 obtain ⟨i1, hi⟩ : ∃ i, Tryz.prog.info? 3 = some i := Option.isSome_iff_exists.1 infoTu
 have hz0 : i1.zero = some (.int .i64 0) := by have := zeroTu; rw [hi] at this; simpa using this
 have hz1 : i1.size = 1 := by have := sizeTu; rw [hi] at this; simpa using this
 have hz2 : i1.bytes = 8 := by have := bytesTu; rw [hi] at this; simpa using this
 refine wpList_append_own_at w hgd s x 23 ho K 3 i1 _ 1 8 Tryz.underlying23 hi hz0 hz1 hz2 rfl (by decide) v l.length (l.map (Value.int .i64)) hs hown ⟨B, 0, none⟩ 1 c [.int .i64 r] hx rfl (World.news_of_block hB) (by simp [Value.oneCell']) (by unfold maxLen; omega) (by omega) hK ?_
 intro v' w' h1 h2 _ _
 refine h v' w' ?_ h2
 rw [List.map_append]
 exact h1
def arr3 (p : Nat → Int) : Array Value := #[.int .i64 (p 0), .int .i64 (p 1), .int .i64 (p 2)]
theorem Blk.cells3 {w : World} {G : Nat} {T : TypeId} {p : Nat → Int} (h : Blk w G T (arr3 p)) : w.cell? ⟨G, 0, none⟩ = some (.int .i64 (p 0)) ∧ w.cell? ⟨G, 1, none⟩ = some (.int .i64 (p 1)) ∧ w.cell? ⟨G, 2, none⟩ = some (.int .i64 (p 2)) := ⟨h.cell 0, h.cell 1, h.cell 2⟩
theorem three_blocks (w : World) (o0 o1 o2 : Obj) :
    (((w.alloc o0).alloc o1).alloc o2).heap[w.heap.size]? = some o0 ∧
    (((w.alloc o0).alloc o1).alloc o2).heap[w.heap.size + 1]? = some o1 ∧
    (((w.alloc o0).alloc o1).alloc o2).heap[w.heap.size + 1 + 1]? = some o2 ∧
    Below w.heap.size w (((w.alloc o0).alloc o1).alloc o2) := by
 have s1 : (w.alloc o0).heap.size = w.heap.size + 1 := World.size_alloc _ _
 have s2 : ((w.alloc o0).alloc o1).heap.size = w.heap.size + 1 + 1 := by rw [World.size_alloc, s1]
 refine ⟨?_, ?_, ?_, ?_⟩
 ·rw [Below.heap_alloc _ _ _ (by omega), Below.heap_alloc _ _ _ (by omega)]; exact heap_alloc_new _ _
 ·rw [Below.heap_alloc _ _ _ (by omega), ← s1]; exact heap_alloc_new _ _
 ·rw [← s2]; exact heap_alloc_new _ _
 ·exact (((Below.refl _ w).alloc (Nat.le_refl _) _).alloc (by omega) _).alloc (by omega) _
end Go.Proofs.YtjaedfjfcghgcabGreatDoor
namespace Go.Proofs.YtjaedfjfcghgcabGreatDoor
open Go.ChangeShapes Go.WideShapes Go.ChangeAt Go.RowKit
set_option maxRecDepth 100000
def FreshT (K : Nat) (w : World) (v : Value) (t : List Int) : Prop := w.ownsRow K 3 1 v t.length (t.map (Value.int .i64))
theorem FreshT.reads {K : Nat} {w : World} {v : Value} {t : List Int} (h : FreshT K w v t) : Reads w v t := by
 rcases h.2 with ⟨rfl, h0⟩ | ⟨g, cap, cur, rfl, hg, hh, hn, hm, _, _⟩
 ·exact Or.inl ⟨none, 0, rfl, List.eq_nil_of_length_eq_zero h0⟩
 ·rcases Nat.eq_zero_or_pos t.length with h0 | h0
  ·refine Or.inl ⟨some ⟨g, 0, none⟩, cap, by rw [h0], List.eq_nil_of_length_eq_zero h0⟩
  ·refine Or.inr ⟨g, 0, cap, rfl, (Array.getElem?_eq_some_iff.1 hh).1, h0, ⟨by unfold maxLen at hm; omega, hn⟩, fun k hk => ?_⟩
   rw [Nat.zero_add]; exact ownsRow_int h hk
theorem FreshT.below {K : Nat} {w w' : World} {v : Value} {t : List Int} (h : FreshT K w v t) (hb : Below w.heap.size w w') : FreshT K w' v t := ownsRow_below h hb
theorem infoAT : (Tryz.prog.info? 50).map (fun i => (i.zero, i.size, i.bytes)) = some (some (.agg #[.int .i64 0, .slice none 0 0, .slice none 0 0, .int .i64 0]), 4, 64) := by kernel_rfl
def AtomT (K : Nat) (w : World) (xs : List Value) (i : Nat) (a : At) : Prop :=
 ∃ vs vt, xs[i * 4]? = some (.int .i64 a.k) ∧ xs[i * 4 + 1]? = some vs ∧ xs[i * 4 + 2]? = some vt ∧ xs[i * 4 + 3]? = some (.int .i64 a.n) ∧ FreshT K w vs a.s ∧ FreshT K w vt a.t
theorem AtomT.below {K : Nat} {w w' : World} {xs : List Value} {i : Nat} {a : At} (h : AtomT K w xs i a) (hb : Below w.heap.size w w') : AtomT K w' xs i a := by
 obtain ⟨vs, vt, h1, h2, h3, h4, h5, h6⟩ := h
 exact ⟨vs, vt, h1, h2, h3, h4, h5.below hb, h6.below hb⟩
theorem AtomT.mono {K K' : Nat} {w : World} {xs : List Value} {i : Nat} {a : At} (h : AtomT K w xs i a) (hK : K' ≤ K) : AtomT K' w xs i a := by
 obtain ⟨vs, vt, h1, h2, h3, h4, h5, h6⟩ := h
 exact ⟨vs, vt, h1, h2, h3, h4, World.ownsRow.mono h5 hK, World.ownsRow.mono h6 hK⟩
theorem FreshT.set {K G j : Nat} {w : World} {v u : Value} {t : List Int} (h : FreshT K w v t) (hG : G < K) : FreshT K (w.setCell ⟨G, j, none⟩ u) v t := by
 obtain ⟨h1, h2⟩ := h
 refine ⟨h1, ?_⟩
 rcases h2 with h2 | ⟨g, cap, cur, hv, hg, hh, r⟩
 ·exact .inl h2
 ·refine .inr ⟨g, cap, cur, hv, hg, ?_, r⟩
  rw [RowKit.Below.heap_setCell _ _ _ _ (by simp; omega)]; exact hh
theorem AtomT.set {K G j : Nat} {w : World} {xs : List Value} {i : Nat} {a : At} (h : AtomT K w xs i a) (hG : G < K) (u : Value) : AtomT K (w.setCell ⟨G, j, none⟩ u) xs i a := by
 obtain ⟨vs, vt, h1, h2, h3, h4, h5, h6⟩ := h
 exact ⟨vs, vt, h1, h2, h3, h4, h5.set hG, h6.set hG⟩
theorem freshT_slice {K : Nat} {w : World} {v : Value} {t : List Int} (h : FreshT K w v t) : ∃ o c, v = .slice o t.length c := by
 rcases h.2 with ⟨rfl, h0⟩ | ⟨g, cap, cur, rfl, _⟩
 ·exact ⟨none, 0, by rw [h0]⟩
 ·exact ⟨_, cap, rfl⟩
def FillT (G : Nat) (w : World) (ats : List At) (m k : Nat) : Prop :=
 ∃ xs, w.ownsRow G 50 4 (.slice (some ⟨G, 0, none⟩) m m) m xs ∧ ∀ i a, i < k → ats[i]? = some a → AtomT (G + 1) w xs i a
theorem FillT.below {G : Nat} {w w' : World} {ats : List At} {m k : Nat} (h : FillT G w ats m k) (hb : Below w.heap.size w w') : FillT G w' ats m k := by
 obtain ⟨xs, h1, h2⟩ := h
 exact ⟨xs, ownsRow_below h1 hb, fun i a hi ha => (h2 i a hi ha).below hb⟩
theorem FillT.set {G : Nat} {w : World} {ats : List At} {m k : Nat} (h : FillT G w ats m k) {a : At} (ha : ats[k]? = some a) (hk : k < m) {vs vt : Value} (hs : FreshT (G + 1) w vs a.s) (ht : FreshT (G + 1) w vt a.t) :
    FillT G ((((w.setCell ⟨G, k * 4, none⟩ (.int .i64 a.k)).setCell ⟨G, k * 4 + 1, none⟩ vs).setCell ⟨G, k * 4 + 2, none⟩ vt).setCell ⟨G, k * 4 + 3, none⟩ (.int .i64 a.n)) ats m (k + 1) := by
 obtain ⟨xs, h1, h2⟩ := h
 have hl : xs.length = m * 4 := h1.1
 have g1 := (h1.stored (k * 4) (.int .i64 a.k)).1
 have g2 := (g1.stored (k * 4 + 1) vs).1
 have g3 := (g2.stored (k * 4 + 2) vt).1
 have g4 := (g3.stored (k * 4 + 3) (.int .i64 a.n)).1
 refine ⟨_, g4, fun i b hi hb => ?_⟩
 have hG : G < G + 1 := by omega
 by_cases hik : i = k
 ·subst hik
  obtain rfl := Option.some.inj (ha.symm.trans hb)
  refine ⟨vs, vt, ?_, ?_, ?_, ?_, (((hs.set hG).set hG).set hG).set hG, (((ht.set hG).set hG).set hG).set hG⟩
  ·rw [List.getElem?_set_ne (by omega), List.getElem?_set_ne (by omega), List.getElem?_set_ne (by omega), List.getElem?_set_self (by omega)]
  ·rw [List.getElem?_set_ne (by omega), List.getElem?_set_ne (by omega), List.getElem?_set_self (by simp; omega)]
  ·rw [List.getElem?_set_ne (by omega), List.getElem?_set_self (by simp; omega)]
  ·rw [List.getElem?_set_self (by simp; omega)]
 ·obtain ⟨us, ut, e1, e2, e3, e4, f1, f2⟩ := h2 i b (by omega) hb
  refine ⟨us, ut, ?_, ?_, ?_, ?_, (((f1.set hG).set hG).set hG).set hG, (((f2.set hG).set hG).set hG).set hG⟩
  ·rw [List.getElem?_set_ne (by omega), List.getElem?_set_ne (by omega), List.getElem?_set_ne (by omega), List.getElem?_set_ne (by omega)]; exact e1
  ·rw [List.getElem?_set_ne (by omega), List.getElem?_set_ne (by omega), List.getElem?_set_ne (by omega), List.getElem?_set_ne (by omega)]; exact e2
  ·rw [List.getElem?_set_ne (by omega), List.getElem?_set_ne (by omega), List.getElem?_set_ne (by omega), List.getElem?_set_ne (by omega)]; exact e3
  ·rw [List.getElem?_set_ne (by omega), List.getElem?_set_ne (by omega), List.getElem?_set_ne (by omega), List.getElem?_set_ne (by omega)]; exact e4
theorem FillT.there {G : Nat} {w : World} {ats : List At} {m k : Nat} (h : FillT G w ats m k) (hk : k < m) :
    ∃ z0 z1 z2 z3, (w.cell? ⟨G, k * 4, none⟩ = some z0 ∧ w.cell? ⟨G, k * 4 + 1, none⟩ = some z1 ∧ w.cell? ⟨G, k * 4 + 2, none⟩ = some z2 ∧ w.cell? ⟨G, k * 4 + 3, none⟩ = some z3) ∧ (w.frozen? ⟨G, k * 4, none⟩ = false ∧ w.frozen? ⟨G, k * 4 + 1, none⟩ = false ∧ w.frozen? ⟨G, k * 4 + 2, none⟩ = false ∧ w.frozen? ⟨G, k * 4 + 3, none⟩ = false) := by
 obtain ⟨xs, h1, _⟩ := h
 have hl : xs.length = m * 4 := h1.1
 have e : ∀ j, j < m * 4 → ∃ z, w.cell? ⟨G, j, none⟩ = some z := fun j hj => ⟨xs[j]'(by omega), by rw [h1.cellAt j hj, List.getElem?_eq_getElem]⟩
 obtain ⟨z0, e0⟩ := e (k * 4) (by omega)
 obtain ⟨z1, e1⟩ := e (k * 4 + 1) (by omega)
 obtain ⟨z2, e2⟩ := e (k * 4 + 2) (by omega)
 obtain ⟨z3, e3⟩ := e (k * 4 + 3) (by omega)
 exact ⟨z0, z1, z2, z3, ⟨e0, e1, e2, e3⟩, h1.frozenAt _, h1.frozenAt _, h1.frozenAt _, h1.frozenAt _⟩
theorem set4_farT {w : World} {G B o0 o1 o2 o3 j : Nat} {u0 u1 u2 u3 : Value} (h : G ≠ B) : ((((w.setCell ⟨G, o0, none⟩ u0).setCell ⟨G, o1, none⟩ u1).setCell ⟨G, o2, none⟩ u2).setCell ⟨G, o3, none⟩ u3).cell? ⟨B, j, none⟩ = w.cell? ⟨B, j, none⟩ := by
 have e : ∀ (W : World) (o : Nat) (u : Value), (W.setCell ⟨G, o, none⟩ u).cell? ⟨B, j, none⟩ = W.cell? ⟨B, j, none⟩ := fun W o u => by
  apply World.cell?_setCell_other
  intro e
  injection e with e1
  exact h e1
 rw [e, e, e, e]
theorem FillT.reads {G : Nat} {w : World} {ats : List At} (h : FillT G w ats ats.length ats.length) (h0 : 0 < ats.length) (h6 : ats.length ≤ 40) : ReadsA w (.slice (some ⟨G, 0, none⟩) ats.length ats.length) ats := by
 obtain ⟨xs, h1, h2⟩ := h
 refine Or.inr ⟨G, 0, ats.length, rfl, (ownsRow_block h1).2.1, h0, ⟨by omega, Nat.le_refl _⟩, fun i a ha => ?_⟩
 have hi : i < ats.length := (List.getElem?_eq_some_iff.1 ha).1
 obtain ⟨vs, vt, e1, e2, e3, e4, f1, f2⟩ := h2 i a hi ha
 rw [Nat.zero_add]
 exact ⟨vs, vt, by rw [h1.cellAt _ (by omega)]; exact e1, by rw [h1.cellAt _ (by omega)]; exact e2, by rw [h1.cellAt _ (by omega)]; exact e3, by rw [h1.cellAt _ (by omega)]; exact e4, f1.reads, f2.reads⟩
end Go.Proofs.YtjaedfjfcghgcabGreatDoor
namespace Go.Proofs.YtjaedfjfcghgcabGreatDoor
open Go.ChangeShapes Go.WideShapes Go.ChangeAt Go.RowKit
set_option maxRecDepth 100000
theorem sum_le {f : Nat → Nat} : ∀ n : Nat, (∀ i, i < n → f i ≤ 1) → ((List.range n).map f).sum ≤ n := by
 intro n
 induction n with
 | zero => intro _; exact Nat.le_refl _
 | succ n ih =>
  intro h
  rw [List.range_succ, List.map_append, List.sum_append]
  have := ih fun i hi => h i (by omega)
  have := h n (by omega)
  simp; omega
theorem sum_one {f : Nat → Nat} : ∀ n : Nat, (∀ i, i < n → f i ≤ 1) → ((List.range n).map f).sum = n → ∀ i, i < n → f i = 1 := by
 intro n
 induction n with
 | zero => intro _ _ i hi; omega
 | succ n ih =>
  intro h hs i hi
  rw [List.range_succ, List.map_append, List.sum_append] at hs
  have h1 := sum_le n fun i hi => h i (by omega)
  have h2 := h n (by omega)
  have hs2 : ((List.range n).map f).sum + f n = n + 1 := by simpa using hs
  by_cases e : i = n
  ·subst e; omega
  ·exact ih (fun i hi => h i (by omega)) (by omega) i (by omega)
theorem once_nodup {q : List Int} (h : onceB q = true) : q.Nodup := by
 rw [List.nodup_iff_count]
 intro a
 obtain ⟨h1, hall⟩ := once_in h
 by_cases ha : a ∈ q
 ·obtain ⟨n, rfl⟩ := Int.eq_ofNat_of_zero_le (hall a ha).1
  have := (hall _ ha).2
  rw [h1 n (by omega)]
  exact Nat.le_refl _
 ·rw [List.count_eq_zero.2 ha]
  exact Nat.zero_le _
theorem once_of {q : List Int} (hr : ∀ x ∈ q, 0 ≤ x ∧ x < (q.length : Int)) (hd : q.Nodup) : onceB q = true := by
 have hs := count_sum q.length q
 rw [(List.length_filter_eq_length_iff (p := fun x : Int => decide (0 ≤ x ∧ x < (q.length : Int)))).2 (fun x hx => decide_eq_true (hr x hx))] at hs
 unfold onceB
 rw [List.all_eq_true]
 intro i hi
 exact decide_eq_true (sum_one q.length (fun i _ => List.nodup_iff_count.1 hd _) hs i (List.mem_range.1 hi))
theorem getD_turn {q : List Int} {k : Nat} (hk : k < q.length) : q.getD k 0 = q[k] := by rw [List.getD_eq_getElem?_getD, List.getElem?_eq_getElem hk]; rfl
theorem once_yes {q : List Int} (h : ∀ k, k < q.length → (0 ≤ q.getD k 0 ∧ q.getD k 0 < (q.length : Int)) ∧ (q.take k).count (q.getD k 0) = 0) : onceB q = true := by
 refine once_of (fun x hx => ?_) ?_
 ·obtain ⟨k, hk, rfl⟩ := List.mem_iff_getElem.1 hx
  have := (h k hk).1
  rw [getD_turn hk] at this
  exact this
 ·refine List.pairwise_iff_getElem.2 fun i j hi hj hij e => ?_
  have h0 := (h j hj).2
  rw [getD_turn hj, List.count_eq_zero] at h0
  refine h0 ?_
  rw [← e]
  exact List.mem_take_iff_getElem.2 ⟨i, by omega, rfl⟩
theorem once_no {q : List Int} {k : Nat} (hk : k < q.length) (h : ¬ (0 ≤ q.getD k 0 ∧ q.getD k 0 < (q.length : Int)) ∨ 0 < (q.take k).count (q.getD k 0)) : onceB q = false := by
 rcases (Bool.eq_false_or_eq_true (onceB q)).symm with e | e
 ·exact e
 ·exfalso
  rw [getD_turn hk] at h
  rcases h with h | h
  ·exact h ((once_in e).2 _ (List.getElem_mem _))
  ·obtain ⟨i, hi, e2⟩ := List.mem_take_iff_getElem.1 (List.count_pos_iff.1 h)
   exact List.pairwise_iff_getElem.1 (once_nodup e) i k (by omega) hk (by omega) e2
def arr6 (N : Nat → Int) : Array Value := #[.int .i64 (N 0), .int .i64 (N 1), .int .i64 (N 2), .int .i64 (N 3), .int .i64 (N 4), .int .i64 (N 5)]
theorem arr6_get (N : Nat → Int) {j : Nat} (hj : j < 6) : (arr6 N)[j]? = some (.int .i64 (N j)) := by
 rcases (by omega : j = 0 ∨ j = 1 ∨ j = 2 ∨ j = 3 ∨ j = 4 ∨ j = 5) with rfl | rfl | rfl | rfl | rfl | rfl <;> rfl
def timesN (q : List Int) (k : Nat) : Nat → Int := fun j => (((q.take k).count (j : Int) : Nat) : Int)
theorem times_next {q : List Int} {k j : Nat} (hk : k < q.length) (hj : j < 6) (e : q.getD k 0 = (j : Int)) (h0 : (q.take k).count (j : Int) = 0) : (arr6 (timesN q k)).setIfInBounds j (.int .i64 1) = arr6 (timesN q (k + 1)) := by
 have ht : ∀ i : Nat, timesN q (k + 1) i = timesN q k i + if j = i then 1 else 0 := fun i => by
  unfold timesN
  rw [List.take_add_one, List.getElem?_eq_getElem hk, List.count_append, ← getD_turn hk, e]
  by_cases h : j = i
  ·subst h; simp
  ·have : ¬ (j : Int) = (i : Int) := by omega
   simp [this, h]
 have h1 : timesN q (k + 1) j = 1 := by rw [ht]; unfold timesN; rw [h0]; simp
 have h2 : ∀ i, ¬ j = i → timesN q (k + 1) i = timesN q k i := fun i hi => by rw [ht, if_neg hi]; omega
 unfold arr6
 rcases (by omega : j = 0 ∨ j = 1 ∨ j = 2 ∨ j = 3 ∨ j = 4 ∨ j = 5) with rfl | rfl | rfl | rfl | rfl | rfl <;> simp [h1, h2]
set_option maxHeartbeats 4000000 in
theorem eachOnce_any (q : List Int) (h6 : q.length ≤ 6) (v : Value) (w : World) (h : Reads w v q) :
    Calls Tryz.prog 40 #[v] w (Bk w (.bool (onceB q))) := by
 obtain ⟨ao, cap, rfl⟩ : ∃ ao cap, v = .slice ao q.length cap := by
  rcases h with ⟨ao, cap, rfl, rfl⟩ | ⟨b, off, cap, rfl, _⟩
  ·exact ⟨ao, cap, rfl⟩
  ·exact ⟨_, cap, rfl⟩
 have HT := hide h
 have HY : Hid ((∀ k, k < q.length → (0 ≤ q.getD k 0 ∧ q.getD k 0 < (q.length : Int)) ∧ (q.take k).count (q.getD k 0) = 0) → onceB q = true) := once_yes
 have HNo : Hid (∀ k, k < q.length → (¬ (0 ≤ q.getD k 0 ∧ q.getD k 0 < (q.length : Int)) ∨ 0 < (q.take k).count (q.getD k 0)) → onceB q = false) := fun k hk h => once_no hk h
 have HNx : Hid (∀ k j : Nat, k < q.length → j < 6 → q.getD k 0 = (j : Int) → (q.take k).count (j : Int) = 0 → (arr6 (timesN q k)).setIfInBounds j (.int .i64 1) = arr6 (timesN q (k + 1))) := fun k j hk hj e h0 => times_next hk hj e h0
 obtain ⟨R, hR⟩ := nm (onceB q)
 rw [← hR] at HY HNo ⊢
 obtain ⟨n, hn⟩ := nm q.length
 have HN := hide hn
 rw [← hn] at HT HY HNo HNx h6 ⊢
 obtain ⟨w1, hw1⟩ := nm (w.alloc (.cells #[.int .i64 0, .int .i64 0, .int .i64 0, .int .i64 0, .int .i64 0, .int .i64 0] 150))
 have HB1 : Hid (Below w.heap.size w w1) := by unfold Hid; rw [hw1]; exact below_alloc1 _ _
 have HP1 : Hid (Blk w1 w.heap.size 150 (arr6 (timesN q 0))) := by unfold Hid; rw [hw1]; exact Blk.new _ _ _
 clear h hn hR
 go_enter Tryz.func40, Tryz.ntmps40
 go_wp2
 rw [← hw1]
 clear hw1
 go_loopw [5, 8] (fun _ i wr => ∃ k : Nat, k ≤ n ∧ i = .int .i64 k ∧ Blk wr w.heap.size 150 (arr6 (timesN q k)) ∧ Below w.heap.size w wr ∧ ∀ m, m < k → (0 ≤ q.getD m 0 ∧ q.getD m 0 < (n : Int)) ∧ (q.take m).count (q.getD m 0) = 0) (fun _ i _ => n - (intOf i).toNat)
 case atStart => exact ⟨0, Nat.zero_le _, rfl, HP1.out, HB1.out, fun m hm => absurd hm (Nat.not_lt_zero _)⟩
 case round =>
  obtain ⟨k, hk, rfl, hblk, hbr, hall⟩ := hrel
  have HBr := hide hbr
  have HK : Hid (Blk wr w.heap.size 150 (arr6 (timesN q k))) := hblk
  have HA := hide hall
  clear hblk hbr hall
  by_cases hlt : k < n
  ·obtain ⟨b, off, hao, hcl⟩ : ∃ b off, ao = some ⟨b, off, none⟩ ∧ wr.cell? ⟨b, off + k, none⟩ = some (.int .i64 (q.getD k 0)) := by
    rcases HT.out with ⟨ao', cap', hv, h0⟩ | ⟨b, off, cap', hv, hb, _, _, hcell⟩
    ·have := HN.out; rw [h0] at this; simp at this; omega
    ·obtain ⟨h1, _, _⟩ := Value.slice.inj hv
     exact ⟨b, off, h1, (HBr.out.cell hb).trans (hcell k (by rw [← HN.out]; exact hlt))⟩
   subst hao
   have hkn : (k : Int) < (n : Int) := by omega
   by_cases hx0 : q.getD k 0 < 0
   ·have HR : Hid (R = false) := HNo.out k hlt (Or.inl (by omega))
    obtain ⟨x, hx⟩ := nm (q.getD k 0)
    rw [← hx] at hcl hx0
    clear hx
    go_wp2
    go_ret
    exact ⟨by first | (rw [HR.out]; done) | (rw [HR.out]; rfl), HBr.out⟩
   by_cases hxn : (n : Int) ≤ q.getD k 0
   ·have HR : Hid (R = false) := HNo.out k hlt (Or.inl (by omega))
    obtain ⟨x, hx⟩ := nm (q.getD k 0)
    rw [← hx] at hcl hx0 hxn
    clear hx
    go_wp2
    go_ret
    exact ⟨by first | (rw [HR.out]; done) | (rw [HR.out]; rfl), HBr.out⟩
   obtain ⟨j, hj⟩ : ∃ j : Nat, q.getD k 0 = (j : Int) := ⟨(q.getD k 0).toNat, by omega⟩
   have HJ := hide hj
   rw [hj] at hcl hx0 hxn
   have hjn : (j : Int) < (n : Int) := by omega
   have hj6 : j < 6 := by omega
   have y : wr.cell? ⟨w.heap.size, j, none⟩ = some (.int .i64 (((q.take k).count (j : Int) : Nat) : Int)) := by rw [HK.out.cell j, arr6_get _ hj6]; rfl
   have fz : wr.frozen? ⟨w.heap.size, j, none⟩ = false := HK.out.frozen j
   clear hj hx0 hxn
   by_cases hc : (q.take k).count (j : Int) = 0
   ·have HKn : Hid (Blk (wr.setCell ⟨w.heap.size, j, none⟩ (.int .i64 1)) w.heap.size 150 (arr6 (timesN q (k + 1)))) := by
     unfold Hid; rw [← HNx.out k j hlt hj6 HJ.out hc]; exact HK.out.set j _
    have HBn : Hid (Below w.heap.size w (wr.setCell ⟨w.heap.size, j, none⟩ (.int .i64 1))) := HBr.out.setCell (Nat.le_refl _) _
    have HAn : Hid (∀ m, m < k + 1 → (0 ≤ q.getD m 0 ∧ q.getD m 0 < (n : Int)) ∧ (q.take m).count (q.getD m 0) = 0) := fun m hm => by
     by_cases e : m = k
     ·subst e; rw [HJ.out]; exact ⟨⟨by omega, hjn⟩, hc⟩
     ·exact HA.out m (by omega)
    rw [hc] at y
    clear hc
    go_wp2
    go_roundw
    case rel => exact ⟨k + 1, by omega, by go_num, HKn.out, HBn.out, HAn.out⟩
    case measure => simp [intOf]; omega
   ·have HR : Hid (R = false) := HNo.out k hlt (Or.inr (by rw [HJ.out]; omega))
    obtain ⟨c, hcc⟩ := nm ((q.take k).count (j : Int))
    rw [← hcc] at y hc
    have hc0 : 0 < (c : Int) := by omega
    clear hcc hc
    go_wp2
    go_ret
    exact ⟨by first | (rw [HR.out]; done) | (rw [HR.out]; rfl), HBr.out⟩
  ·obtain rfl : k = n := by omega
   have HR := hide (HY.out HA.out)
   go_wp2
   go_ret
   exact ⟨by first | (rw [HR.out]; done) | (rw [HR.out]; rfl), HBr.out⟩
set_option maxHeartbeats 4000000 in
theorem renamed_any (t : List Int) (p : Nat → Int) (hs : t.all signB = true) (h12 : t.length ≤ 12) (v : Value) (w : World) (h : Reads w v t) :
    Calls Tryz.prog 41 #[v, .agg #[.int .i64 (p 0), .int .i64 (p 1), .int .i64 (p 2)]] w fun e w' => ∃ v' K, e = .returned v' ∧ w.heap.size ≤ K ∧ w'.ownsRow K 3 1 v' t.length ((renT p t).map (Value.int .i64)) ∧ Below w.heap.size w w' := by
 obtain ⟨ao, cap, rfl, hl63⟩ : ∃ ao cap, v = .slice ao t.length cap ∧ t.length ≤ 9223372036854775807 := by
  rcases h with ⟨ao, cap, rfl, rfl⟩ | ⟨b, off, cap, rfl, _, _, h, _⟩
  ·exact ⟨ao, cap, rfl, by decide⟩
  ·exact ⟨_, cap, rfl, h.1⟩
 have HT := hide h
 have HSg : Hid (∀ k, k < t.length → 0 ≤ t.getD k 0 ∧ t.getD k 0 ≤ 8) := fun k hk => by
  have := List.all_eq_true.1 hs (t.getD k 0) (by rw [List.getD_eq_getElem?_getD, List.getElem?_eq_getElem hk]; exact List.getElem_mem _)
  exact signB_iff.1 this
 obtain ⟨n, hn⟩ := nm t.length
 rw [← hn] at HT HSg h12 ⊢
 have HN := hide hn
 obtain ⟨w1, hw1⟩ := nm (w.alloc (.cells #[.int .i64 (p 0), .int .i64 (p 1), .int .i64 (p 2)] 32))
 have HB1 : Hid (Below w.heap.size w w1) := by unfold Hid; rw [hw1]; exact below_alloc1 _ _
 have HP1 : Hid (Blk w1 w.heap.size 32 (arr3 p)) := by unfold Hid; rw [hw1]; exact Blk.new _ _ _
 clear h hs hn hl63
 go_enter Tryz.func41, Tryz.ntmps41
 go_wp2
 rw [← hw1]
 clear hw1
 go_loopw [5, 7, 10] (fun r _ i wr => ∃ k : Nat, k ≤ n ∧ i = .int .i64 k ∧ wr.ownsRow w1.heap.size 3 1 r k ((renT p (t.take k)).map (Value.int .i64)) ∧ Below w1.heap.size w1 wr) (fun _ _ i _ => n - (intOf i).toNat)
 case atStart => exact ⟨0, Nat.zero_le _, rfl, World.ownsRow_nil _ _ _ _, Below.refl _ _⟩
 case round =>
  obtain ⟨k, hk, rfl, hown, hbr⟩ := hrel
  have HBr := hide hbr
  have HBw := hide (HB1.out.trans (hbr.mono HB1.out.size))
  have HOw := hide hown
  clear hbr hown
  by_cases hlt : k < n
  ·obtain ⟨b, off, hao, hcl⟩ : ∃ b off, ao = some ⟨b, off, none⟩ ∧ wr.cell? ⟨b, off + k, none⟩ = some (.int .i64 (t.getD k 0)) := by
    rcases HT.out with ⟨ao', cap', hv, h0⟩ | ⟨b, off, cap', hv, hb, _, _, hcell⟩
    ·have := HN.out; rw [h0] at this; simp at this; omega
    ·obtain ⟨h1, _, _⟩ := Value.slice.inj hv
     exact ⟨b, off, h1, (HBw.out.cell hb).trans (hcell k (by rw [← HN.out]; exact hlt))⟩
   subst hao
   obtain ⟨s0, s8⟩ := HSg.out k hlt
   obtain ⟨l, hl⟩ := nm (renT p (t.take k))
   have HLl : Hid (l.length = k) := by unfold Hid; rw [hl]; unfold renT; rw [List.length_map, List.length_take, ← HN.out]; omega
   have HO6 : Hid (wr.ownsRow w1.heap.size 3 1 u5 l.length (l.map (Value.int .i64))) := by unfold Hid; rw [HLl.out, hl]; exact HOw.out
   have HLs : Hid (renT p (t.take (k + 1)) = l ++ [renS p (t.getD k 0)]) := by
    unfold Hid
    have hk' : k < t.length := by rw [← HN.out]; exact hlt
    rw [List.take_add_one, List.getElem?_eq_getElem hk', hl]
    unfold renT
    rw [List.map_append, List.getD_eq_getElem?_getD, List.getElem?_eq_getElem hk']
    rfl
   have HS := hide (HBr.out.size)
   have hl20 : l.length ≤ 20 := by have := HLl.out; omega
   obtain ⟨s, hs⟩ := nm (t.getD k 0)
   rw [← hs] at hcl s0 s8 HLs
   clear hl hs
   have hkn : (k : Int) < (n : Int) := by omega
   by_cases h3 : s < 3
   ·obtain ⟨j, rfl⟩ := Int.eq_ofNat_of_zero_le s0
    have hj3 : j < 3 := by omega
    have HLs' : Hid (renT p (t.take (k + 1)) = l ++ [p j]) := by
     unfold Hid
     rw [HLs.out]
     unfold renS
     rw [if_pos h3, Int.toNat_natCast]
    have y : wr.cell? ⟨w.heap.size, j, none⟩ = some (.int .i64 (p j)) := by
     rw [(HP1.out.below HBr.out).cell j]
     rcases (by omega : j = 0 ∨ j = 1 ∨ j = 2) with rfl | rfl | rfl <;> rfl
    clear HLs s0 s8
    go_wp2_with (at_builtin; refine append_turn rfl _ _ rfl w1.heap.size u5 rfl l (p j) wr.heap.size 1 rfl (HO6.out.alloc _) (heap_alloc_new wr _) (by have := HS.out; simp; omega) hl20 ?_)
    intro v9 w9 hown hgrow
    have HBa : Hid (Below w1.heap.size w1 (wr.alloc (.cells #[.int .i64 (p j)] 3))) := HBr.out.alloc HBr.out.size _
    have HB9 : Hid (Below w1.heap.size w1 w9) := HBa.out.grown hgrow HBa.out.size (fun x hx => (HO6.out.lt x hx).1)
    have HO9 : Hid (w9.ownsRow w1.heap.size 3 1 v9 (k + 1) ((renT p (t.take (k + 1))).map (Value.int .i64))) := by
     unfold Hid
     rw [HLs'.out]
     have hl := HLl.out
     rw [← hl, List.map_append]
     exact hown
    clear hown hgrow
    go_wp2
    go_roundw
    case rel => exact ⟨k + 1, by omega, by go_num, HO9.out, HB9.out⟩
    case measure => simp [intOf]; omega
   ·have HLs' : Hid (renT p (t.take (k + 1)) = l ++ [s]) := by
     unfold Hid
     rw [HLs.out]
     unfold renS
     rw [if_neg h3]
    clear HLs
    go_wp2_with (at_builtin; refine append_turn rfl _ _ rfl w1.heap.size u5 rfl l s wr.heap.size 1 rfl (HO6.out.alloc _) (heap_alloc_new wr _) (by have := HS.out; simp; omega) hl20 ?_)
    intro v9 w9 hown hgrow
    have HBa : Hid (Below w1.heap.size w1 (wr.alloc (.cells #[.int .i64 s] 3))) := HBr.out.alloc HBr.out.size _
    have HB9 : Hid (Below w1.heap.size w1 w9) := HBa.out.grown hgrow HBa.out.size (fun x hx => (HO6.out.lt x hx).1)
    have HO9 : Hid (w9.ownsRow w1.heap.size 3 1 v9 (k + 1) ((renT p (t.take (k + 1))).map (Value.int .i64))) := by
     unfold Hid
     rw [HLs'.out]
     have hl := HLl.out
     rw [← hl, List.map_append]
     exact hown
    clear hown hgrow
    go_wp2
    go_roundw
    case rel => exact ⟨k + 1, by omega, by go_num, HO9.out, HB9.out⟩
    case measure => simp [intOf]; omega
  ·obtain rfl : k = n := by omega
   have HOf : Hid (wr.ownsRow w1.heap.size 3 1 u5 k ((renT p t).map (Value.int .i64))) := by
    have h := HOw.out
    rw [HN.out, List.take_length] at h
    unfold Hid
    rw [HN.out]
    exact h
   have HSz := hide (HB1.out.size)
   go_wp2
   go_ret
   exact ⟨u5, w1.heap.size, rfl, HSz.out, HOf.out, HBw.out⟩
set_option maxHeartbeats 2000000 in
theorem clone_any (t : List Int) (v : Value) (w : World) (h : Reads w v t) (h0 : 0 < t.length) (hl : t.length ≤ 40) :
    Calls Tryz.prog 42 #[v] w fun e w' => ∃ v', e = .returned v' ∧ FreshT w.heap.size w' v' t ∧ Below w.heap.size w w' := by
 obtain ⟨i0, hi, hz0, hz1, hz2⟩ := info_parts infoInt
 rcases h with ⟨ao, cap, rfl, rfl⟩ | ⟨b, off, cap, rfl, hB, _, ⟨_, hcap⟩, hc⟩
 ·simp at h0
 ·have HC : Hid (∀ k, k < t.length → (w.alloc (.cells #[] 3)).cell? ⟨b, off + k, none⟩ = some (.int .i64 (t.getD k 0))) := fun k hk => by
   rw [World.cell?_alloc_lt _ _ ⟨b, off + k, none⟩ hB]; exact hc k hk
  clear hc hB
  obtain ⟨n, hn⟩ := nm t.length
  have HN := hide hn
  obtain ⟨K, hK⟩ := nm w.heap.size
  have HK := hide hK
  have HO0 : Hid ((w.alloc (.cells #[] 3)).ownsRow K 3 1 (.slice (some ⟨w.heap.size, 0, none⟩) 0 0) 0 []) := World.ownsRow_lit w #[] 0 (by omega) (by unfold maxLen; omega) rfl
  rw [← hn] at hl h0 hcap ⊢
  rw [← hK]
  clear hn hK
  have q22 : ∀ (w : World) (a : Option Addr) (n c n' c' : Nat), (binOp .eql 23 (.slice a n c) (.slice none n' c')).run Tryz.prog w = .ok (.bool a.isNone) w := fun w a n c n' c' => Lib.run_eql_slice_nil w _ _ a n c n' c' Tryz.underlying23
  go_enter Tryz.func42, Tryz.ntmps42
  go_wp2_with (first | (at_builtin; refine wpList_append_own _ rfl _ _ 23 rfl K 3 i0 (.int .i64 0) 1 8 Tryz.underlying23 hi hz0 hz1 hz2 rfl (by decide) (.slice (some ⟨w.heap.size, 0, none⟩) 0 0) 0 [] rfl HO0.out ⟨b, off, none⟩ n cap (t.map (Value.int .i64)) rfl ?a0 ?a1 ?a2 ?a3 ?a4 ?a5 ?_))
  case a0 => rw [List.length_map, HN.out, Nat.mul_one]
  case a1 =>
   intro j u hu
   rw [Go.WideShapes.add_plain]
   have hj : j < t.length := by have := (List.getElem?_eq_some_iff.1 hu).1; simpa using this
   rw [HC.out j hj]
   rw [← hu]
   simp [List.getElem?_eq_getElem hj]
  case a2 => intro u hu; simp at hu; obtain ⟨_, _, rfl⟩ := hu; rfl
  case a3 => unfold maxLen; omega
  case a4 => omega
  case a5 => have := HK.out; simp; omega
  intro v' w2 hown' hgrow _
  have HO : Hid (FreshT K w2 v' t ∧ Below K w w2) := by
   refine ⟨?_, ((Below.refl _ w).alloc (by rw [HK.out]; exact Nat.le_refl _) _).grown hgrow (by have := HK.out; simp; omega) (fun k hk => by have := HK.out; simp [Value.ownBlock] at hk; omega)⟩
   have : w2.ownsRow K 3 1 v' n (t.map (Value.int .i64)) := by simpa using hown'
   rw [HN.out] at this
   exact this
  clear hown' hgrow
  go_wp2
  go_ret
  exact ⟨_, rfl, HO.out.1, HO.out.2⟩
end Go.Proofs.YtjaedfjfcghgcabGreatDoor
namespace Go.Proofs.YtjaedfjfcghgcabGreatDoor
open Go.ChangeShapes Go.WideShapes Go.ChangeAt Go.RowKit
set_option maxRecDepth 100000
def Wd.putJ (w : Wd) (j : Nat) (x : Int) : Wd := if j = 0 then ⟨w.u, x, w.b, w.c⟩ else if j = 1 then ⟨w.u, w.a, x, w.c⟩ else ⟨w.u, w.a, w.b, x⟩
def turnK (p : Nat → Int) (D : Wd) : Nat → Wd
 | 0 => ⟨D.u, 0, 0, 0⟩
 | k + 1 => (turnK p D k).putJ (p k).toNat (D.name k)
def thingsK (q : List Int) (D : Wd) : Nat → Wd
 | 0 => ⟨D.u, 0, 0, 0⟩
 | k + 1 => (thingsK q D k).putJ k (movedN q (D.name k) q.length)
theorem listP_reads {w : World} {G : Nat} {p : Nat → Int} (h : Blk w G 32 (arr3 p)) : Reads w (.slice (some ⟨G, 0, none⟩) 3 3) (listP p) := by
 refine Or.inr ⟨G, 0, 3, rfl, h.lt, (by show 0 < 3; omega), ⟨(by show 3 ≤ _; omega), Nat.le_refl _⟩, fun k hk => ?_⟩
 have hk3 : k < 3 := hk
 rw [Nat.zero_add, h.cell k]
 rcases (by omega : k = 0 ∨ k = 1 ∨ k = 2) with rfl | rfl | rfl <;> rfl
end Go.Proofs.YtjaedfjfcghgcabGreatDoor
namespace Go.Proofs.YtjaedfjfcghgcabGreatDoor
open Go.ChangeShapes Go.WideShapes Go.ChangeAt Go.RowKit
set_option maxRecDepth 100000
theorem firstFault_drop (ats : List At) {k : Nat} {a : At} (ha : ats[k]? = some a) : firstFault (ats.drop k) = if a.fault = 0 then firstFault (ats.drop (k + 1)) else a.fault := by
 obtain ⟨hk, rfl⟩ := List.getElem?_eq_some_iff.1 ha
 rw [List.drop_eq_getElem_cons hk]; rfl
theorem fcheck_none (va vc : Value) (ats : List At) (c : List Int) (w : World) (hA : ReadsA w va ats) (hC : Reads w vc c) (h0 : ats.length = 0 ∨ c.length = 0) :
    Calls Tryz.prog 14 #[.agg #[va, vc]] w (Bk w (.iface 75 (.int .i64 5))) := by
 obtain ⟨ao, acap, rfl, hal⟩ := hA.slice
 obtain ⟨co, ccap, rfl, hcl⟩ := hC.slice
 clear hA hC
 obtain ⟨m, hm⟩ := nm ats.length
 obtain ⟨n, hn⟩ := nm c.length
 rw [← hm] at h0 hal ⊢
 rw [← hn] at h0 hcl ⊢
 clear hm hn
 rcases h0 with rfl | rfl
 ·go_enter Tryz.func14, Tryz.ntmps14
  go_wp2
  go_ret
  exact ⟨rfl, below_alloc1 _ _⟩
 ·by_cases h1 : m = 0
  ·subst h1
   go_enter Tryz.func14, Tryz.ntmps14
   go_wp2
   go_ret
   exact ⟨rfl, below_alloc1 _ _⟩
  ·have h1' : ¬ ((m : Int) = 0) := by omega
   go_enter Tryz.func14, Tryz.ntmps14
   go_wp2
   go_ret
   exact ⟨rfl, below_alloc1 _ _⟩
theorem fcheck_full (va vc : Value) (ats : List At) (c : List Int) (w : World) (hA : ReadsA w va ats) (hC : Reads w vc c) (h0 : ¬ (ats.length = 0 ∨ c.length = 0)) (h1 : 6 < ats.length ∨ 20 < c.length) :
    Calls Tryz.prog 14 #[.agg #[va, vc]] w (Bk w (.iface 75 (.int .i64 4))) := by
 obtain ⟨ao, acap, rfl, hal⟩ := hA.slice
 obtain ⟨co, ccap, rfl, hcl⟩ := hC.slice
 clear hA hC
 obtain ⟨m, hm⟩ := nm ats.length
 obtain ⟨n, hn⟩ := nm c.length
 rw [← hm] at h0 h1 hal ⊢
 rw [← hn] at h0 h1 hcl ⊢
 clear hm hn
 have hm' : ((m : Int) == 0) = false := by simp; omega
 have hn' : ((n : Int) == 0) = false := by simp; omega
 have HT : Hid (∀ W, Calls Tryz.prog 43 #[.int .i64 m, .int .i64 n] W (Sk W (.bool true))) := fun W => by
  have := tooMany_any m n W
  rw [show (decide (6 < (m : Int)) || decide (20 < (n : Int))) = true by simp; omega] at this
  exact this
 clear h0 h1
 go_enter Tryz.func14, Tryz.ntmps14
 go_wp2_with fail
 go_at_call 43
 refine (HT.out _).mono ?_
 rintro e w' ⟨rfl, rfl⟩
 go_wp2
 go_ret
 exact ⟨rfl, below_alloc1 _ _⟩
theorem fcheck_rest (ao co : Option Addr) (acap ccap : Nat) (ats : List At) (c : List Int) (w : World) (hA : ReadsA w (.slice ao ats.length acap) ats) (hC : Reads w (.slice co c.length ccap) c) (hK : KindsLaid w) (h0 : ¬ (ats.length = 0 ∨ c.length = 0)) (h1 : ¬ (6 < ats.length ∨ 20 < c.length)) :
    Calls Tryz.prog 14 #[.agg #[.slice ao ats.length acap, .slice co c.length ccap]] w (Bk w (errV (formFault ats c))) := by
 obtain ⟨w1, hw1⟩ := nm (w.alloc (.cells #[.slice ao ats.length acap, .slice co c.length ccap] 25))
 have HB1 : Hid (Below w.heap.size w w1) := by unfold Hid; rw [hw1]; exact below_alloc1 w _
 have HS1 : Hid (w1.heap.size = w.heap.size + 1) := by unfold Hid; rw [hw1]; simp
 have HX : Hid (w1.cell? ⟨w.heap.size, 0, none⟩ = some (.slice ao ats.length acap) ∧ w1.cell? ⟨w.heap.size, 1, none⟩ = some (.slice co c.length ccap)) := by
  unfold Hid; rw [hw1]; simp
 have HA := hide (hA.below HB1.out)
 have HC := hide (hC.below HB1.out)
 have HK := hide (hK.below HB1.out)
 clear hA hC hK
 have HF : Hid (formFault ats c = if firstFault ats = 0 then (if c.all (signF ats.length) = true then (if cntF c 0 = some 1 then 0 else 3) else 1) else firstFault ats) := by
  unfold Hid formFault; rw [if_neg h0, if_neg h1]
 obtain ⟨m, hm⟩ := nm ats.length
 obtain ⟨n, hn⟩ := nm c.length
 rw [← hm] at h0 h1 hw1 HX HA HF ⊢
 rw [← hn] at h0 h1 hw1 HX HC ⊢
 have HM := hide hm
 have HN := hide hn
 clear hm hn
 have hm' : ((m : Int) == 0) = false := by simp; omega
 have hn' : ((n : Int) == 0) = false := by simp; omega
 have hm6 : m ≤ 6 := by omega
 have hn20 : n ≤ 20 := by omega
 have HT : Hid (∀ W, Calls Tryz.prog 43 #[.int .i64 m, .int .i64 n] W (Sk W (.bool false))) := fun W => by
  have := tooMany_any m n W
  rw [show (decide (6 < (m : Int)) || decide (20 < (n : Int))) = false by simp; omega] at this
  exact this
 clear h0 h1
 have x0 := HX.out.1
 have x1 := HX.out.2
 go_enter Tryz.func14, Tryz.ntmps14
 go_wp2_with fail
 rw [← hw1]
 clear hw1
 go_wp2_with fail
 go_at_call 43
 refine (HT.out _).mono ?_
 rintro e w' ⟨rfl, rfl⟩
 go_wp2
 go_loopw [29] (fun i wr => ∃ k : Nat, k ≤ m ∧ i = .int .i64 k ∧ Below w1.heap.size w1 wr ∧ firstFault (ats.drop k) = firstFault ats) (fun i _ => m - (intOf i).toNat)
 case atStart => exact ⟨0, Nat.zero_le _, rfl, Below.refl _ _, rfl⟩
 case round =>
  obtain ⟨k, hk, rfl, hbel, hff⟩ := hrel
  have HF0 := hide hff
  have HB := hide hbel
  clear hff hbel
  by_cases hlt : k < m
  ·obtain ⟨a, ha⟩ : ∃ a, ats[k]? = some a := ⟨_, List.getElem?_eq_getElem (by have := HM.out; omega)⟩
   have HFF : Hid (firstFault ats = if a.fault = 0 then firstFault (ats.drop (k + 1)) else a.fault) := by
    unfold Hid; rw [← HF0.out, firstFault_drop ats ha]
   rcases HA.out.below HB.out with ⟨_, _, hv, hn⟩ | ⟨b, off, cap, hv, hb, _, _, hall⟩
   ·have := HM.out; rw [hn] at this; simp at this; omega
   obtain rfl : ao = some ⟨b, off, none⟩ := by cases hv; rfl
   obtain ⟨vs, vt, c0, c1, c2, c3, r1, r2⟩ := hall k a ha
   obtain ⟨sao, scap, rfl, _⟩ := r1.slice
   obtain ⟨tao, tcap, rfl, _⟩ := r2.slice
   clear hv hall
   obtain ⟨w2, hw2⟩ := nm (wr.alloc (.cells #[.int .i64 a.k, .slice sao a.s.length scap, .slice tao a.t.length tcap, .int .i64 a.n] 50))
   have HB2 : Hid (Below wr.heap.size wr w2) := by unfold Hid; rw [hw2]; exact below_alloc1 wr _
   have HCk : Hid (Calls Tryz.prog 35 #[.agg #[.int .i64 a.k, .slice sao a.s.length scap, .slice tao a.t.length tcap, .int .i64 a.n]] w2 (Bk w2 (errV a.fault))) :=
    acheck_any a.k a.n _ _ a.s a.t w2 (r1.below HB2.out) (r2.below HB2.out) ((HK.out.below HB.out).below HB2.out)
   clear r1 r2
   go_wp2_with fail
   rw [← hw2]
   clear hw2
   go_at_call 35
   refine HCk.out.mono ?_
   rintro e w3 ⟨rfl, hb3⟩
   have HB3 : Hid (Below w1.heap.size w1 w3) := (HB.out.trans (HB2.out.mono HB.out.size)).trans (hb3.mono (Nat.le_trans HB.out.size HB2.out.size))
   clear hb3 HCk
   by_cases hf : a.fault = 0
   ·have HD : Hid (firstFault (ats.drop (k + 1)) = firstFault ats) := by
     have := HFF.out
     rw [if_pos hf] at this
     exact this.symm
    rw [hf, errV_0]
    go_wp2
    go_roundw
    case rel => exact ⟨k + 1, by omega, by go_num, HB3.out, HD.out⟩
    case measure => simp [intOf]; omega
   ·have HE : Hid (formFault ats c = a.fault) := by
     have := HFF.out
     rw [if_neg hf] at this
     unfold Hid; rw [HF.out, this, if_neg hf]
    rw [errV_no hf]
    go_wp2
    go_ret
    refine ⟨back_v ?_, HB1.out.trans (HB3.out.mono HB1.out.size)⟩
    rw [HE.out, errV_no hf]
    rfl
  ·have HE : Hid (firstFault ats = 0) := by
    have := HF0.out
    rw [List.drop_eq_nil_of_le (by have := HM.out; omega)] at this
    exact this.symm
   have hlt0 : w.heap.size < w1.heap.size := by have := HS1.out; omega
   have y0 : wr.cell? ⟨w.heap.size, 0, none⟩ = some (.slice ao m acap) := by rw [HB.out.cell hlt0]; exact HX.out.1
   have y1 : wr.cell? ⟨w.heap.size, 1, none⟩ = some (.slice co n ccap) := by rw [HB.out.cell hlt0]; exact HX.out.2
   rcases HC.out.below HB.out with ⟨_, _, hv, hcn⟩ | ⟨b, off, cap, hv, hb, _, ⟨hl63, _⟩, hc⟩
   ·have := HN.out; rw [hcn] at this; simp at this; subst this; simp at hn'
   obtain rfl : co = some ⟨b, off, none⟩ := by cases hv; rfl
   clear hv
   have cF := fcontainsFunc_any m acap w.heap.size ao b off ccap c wr hl63 y0 hc
   have cO := fisOne_any b off ccap c wr (by have := HN.out; omega) hc
   rw [← HN.out] at cF cO
   obtain ⟨x, hx⟩ := nm (c.all (signF m))
   obtain ⟨y, hy⟩ := nm (decide (cntF c 0 = some 1))
   rw [← hx] at cF
   rw [← hy] at cO
   have HF' : Hid (formFault ats c = if x = true then (if y = true then 0 else 3) else 1) := by
    unfold Hid; rw [HF.out, HE.out, hx, hy]; simp only [decide_eq_true_eq, if_true]
   clear hx hy hc hlt0 hl63 hb
   have HP := hide cF
   have HQ := hide cO
   clear cF cO
   have HEnd := hide (HB1.out.trans (HB.out.mono HB1.out.size))
   cases x
   ·go_wp2_with (go_at_call 45; refine HP.out.mono ?_; rintro e w' ⟨rfl, rfl⟩)
    go_ret
    exact ⟨back_v (by rw [HF'.out]; rfl), HEnd.out⟩
   ·cases y
    all_goals
     go_wp2_with (first | (go_at_call 45; refine HP.out.mono ?_; rintro e w' ⟨rfl, rfl⟩) | (go_at_call 46; refine HQ.out.mono ?_; rintro e w' ⟨rfl, rfl⟩))
     go_ret
     exact ⟨back_v (by rw [HF'.out]; rfl), HEnd.out⟩
theorem fcheck_any (va vc : Value) (ats : List At) (c : List Int) (w : World) (hA : ReadsA w va ats) (hC : Reads w vc c) (hK : KindsLaid w) :
    Calls Tryz.prog 14 #[.agg #[va, vc]] w (Bk w (errV (formFault ats c))) := by
 by_cases h0 : ats.length = 0 ∨ c.length = 0
 ·have e : formFault ats c = 5 := by unfold formFault; rw [if_pos h0]
  rw [e]
  exact fcheck_none va vc ats c w hA hC h0
 by_cases h1 : 6 < ats.length ∨ 20 < c.length
 ·have e : formFault ats c = 4 := by unfold formFault; rw [if_neg h0, if_pos h1]
  rw [e]
  exact fcheck_full va vc ats c w hA hC h0 h1
 obtain ⟨ao, acap, rfl, _⟩ := hA.slice
 obtain ⟨co, ccap, rfl, _⟩ := hC.slice
 exact fcheck_rest ao co acap ccap ats c w hA hC hK h0 h1
end Go.Proofs.YtjaedfjfcghgcabGreatDoor