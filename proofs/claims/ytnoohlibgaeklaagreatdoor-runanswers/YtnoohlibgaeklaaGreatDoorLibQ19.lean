/-
  Facts and contracts that the statement leans on.
-/
import Derived.Test.YtnoohlibgaeklaaGreatDoorLibQ1
import Derived.Lib.Strings
import Derived.Lib.Slices
import Derived.Lib.Walk
import Derived.Lib.Builder
import Derived.Lib.AppendStr
import Derived.Lib.UnsafeStr
import Derived.WalkKit
import Derived.Laws.Externs
import Derived.Laws.IdiomCopy
import Derived.Below
import Derived.Test.YtnoohlibgaeklaaGreatDoorLibQ10
import Derived.Test.YtnoohlibgaeklaaGreatDoorLibQ9
import Derived.Lib.ItoaMem
import Derived.Test.YtnoohlibgaeklaaGreatDoorLibQ18
import Derived.Test.YtnoohlibgaeklaaGreatDoorLibQ3
import Derived.Laws.Strings3
import Derived.Test.YtnoohlibgaeklaaGreatDoorLibQ8
namespace Go.Proofs.YtnoohlibgaeklaaGreatDoor
open Go.ChangeShapes Go.WideShapes Go.ChangeAt Go.RowKit
set_option maxRecDepth 100000
set_option maxHeartbeats 16000000
theorem infoBld : (Tryz.prog.info? 42).map (·.size) = some 2 := by kernel_rfl
theorem liesBld : liesAt Tryz.prog Tryz.prog.depth 42 (2 / Tryz.prog.cellsOf 42) 0 42 1 = true := by kernel_rfl
theorem infoU8 : (Tryz.prog.info? 5).map (fun i => (i.zero, i.size, i.bytes)) = some (some (.int .u8 0), 1, 1) := by kernel_rfl
theorem cellsU8 : Tryz.prog.cellsOf 5 = 1 := by kernel_rfl
theorem bcheck_used (b : Nat) (w : World) (h0 : w.cell? ⟨b, 0, none⟩ = some (.pointer (some ⟨b, 0, none⟩))) :
    Calls Tryz.prog 43 #[.pointer (some ⟨b, 0, none⟩)] w fun e w' => e = .returned (.tuple #[]) ∧ w' = w := by
 obtain ⟨j, hj, _⟩ := Option.map_eq_some_iff.1 infoBld
 go_enter Tryz.func43, Tryz.ntmps43
 go_wp2
 rw [Lib.run_neq_ptr_same w _ Tryz.underlying39 hj]
 go_wp2
 go_end0
 exact ⟨rfl, rfl⟩
theorem bcheck_fresh (b : Nat) (w : World) (h0 : w.cell? ⟨b, 0, none⟩ = some (.pointer none)) (hsh : w.shape? b = some (42, 2)) (hfz : w.frozen? ⟨b, 0, none⟩ = false) :
    Calls Tryz.prog 43 #[.pointer (some ⟨b, 0, none⟩)] w fun e w' => e = .returned (.tuple #[]) ∧ w' = w.setCell ⟨b, 0, none⟩ (.pointer (some ⟨b, 0, none⟩)) := by
 obtain ⟨j, hj, hjs⟩ := Option.map_eq_some_iff.1 infoBld
 go_enter Tryz.func43, Tryz.ntmps43
 go_wp2
 rw [Lib.run_to_unsafe w ⟨b, 0, none⟩ Tryz.underlying39 Tryz.underlying121 hj (by rw [hjs]; decide) hsh (Nat.zero_lt_succ 1)]
 simp only [Result.andThen]
 rw [Oper.upon_value]
 go_wp2
 rw [run_callFunc_extern Tryz.func69 (by kernel_rfl) (by kernel_rfl) (by kernel_rfl) (e := Extern.AbiNoEscape.same) (by kernel_rfl)]
 rw [Lib.run_noEscape]
 simp only [Result.andThen]
 rw [Oper.upon_value]
 go_wp2
 rw [Lib.run_from_unsafe w ⟨b, 0, none⟩ Tryz.underlying121 Tryz.underlying39 hj hsh liesBld]
 simp only [Result.andThen]
 rw [Oper.upon_value]
 go_wp2
 go_end0
 exact ⟨rfl, rfl⟩
def BldIn (R : Nat → Prop) (b : Nat) (l : List UInt8) (W : World) : Prop :=
 ∃ p v, (p = .pointer none ∨ p = .pointer (some ⟨b, 0, none⟩)) ∧ Blk W b 42 #[p, v] ∧ W.ownsRow 0 5 1 v l.length (Lib.byteCells l) ∧ (∀ g, v.ownBlock = some g → R g ∧ g ≠ b) ∧ (l = [] → v = .slice none 0 0)
theorem bld_new (R : Nat → Prop) (w : World) : BldIn R w.heap.size [] (w.alloc (.cells #[.pointer none, .slice none 0 0] 42)) :=
 ⟨_, _, Or.inl rfl, Blk.new _ _ _, World.ownsRow_nil _ _ _ _, (fun g e => by cases e), fun _ => rfl⟩
theorem BldIn.keep {R : Nat → Prop} {b : Nat} {l : List UInt8} {W W' : World} (h : BldIn R b l W) (hb : W'.heap[b]? = W.heap[b]?) (hs : ∀ g, R g → g < W.heap.size → W'.heap[g]? = W.heap[g]?) : BldIn R b l W' := by
 obtain ⟨p, v, hp, hB, hown, hR, h0⟩ := h
 refine ⟨p, v, hp, by unfold Blk; rw [hb]; exact hB, ?_, hR, h0⟩
 refine ⟨hown.1, ?_⟩
 rcases hown.2 with h0 | ⟨g, cap, cur, hv, h1, hg, rest⟩
 ·exact Or.inl h0
 ·have hl := (Array.getElem?_eq_some_iff.1 hg).1
  exact Or.inr ⟨g, cap, cur, hv, h1, (hs g (hR g (by rw [hv]; rfl)).1 hl).trans hg, rest⟩
theorem BldIn.mono {R R' : Nat → Prop} {b : Nat} {l : List UInt8} {W : World} (h : BldIn R b l W) (hR : ∀ g, R g → R' g) : BldIn R' b l W := by
 obtain ⟨p, v, hp, hB, hown, hr, h0⟩ := h
 exact ⟨p, v, hp, hB, hown, fun g e => ⟨hR g (hr g e).1, (hr g e).2⟩, h0⟩
structure BldStep (R : Nat → Prop) (b : Nat) (W W' : World) : Prop where
 rest : Below 0 W W'
 same : ∀ k, k < W.heap.size → k ≠ b → ¬ R k → W'.heap[k]? = W.heap[k]?
theorem own_elsewhere {X : World} {K n size : Nat} {e : TypeId} {v : Value} {xs : List Value} (h : X.ownsRow K e size v n xs) {b : Nat} (hp : ∀ g, v.ownBlock = some g → g ≠ b) (j : Nat) (u : Value) : (X.setCell ⟨b, j, none⟩ u).ownsRow K e size v n xs := by
 refine ⟨h.1, ?_⟩
 rcases h.2 with h0 | ⟨g, cap, cur, hv, hb, hg, rest⟩
 ·exact Or.inl h0
 ·exact Or.inr ⟨g, cap, cur, hv, hb, (Below.heap_setCell _ _ _ _ (hp g (by rw [hv]; rfl))).trans hg, rest⟩
theorem append_at {w : World} (i : TypeInfo) (hi : Tryz.prog.info? 5 = some i) (hz : i.zero = some (.int .u8 0)) (hsize : i.size = 1) (hby : i.bytes = 1) (ty : TypeId)
    {v : Value} {n : Nat} {xs : List Value} (hown : w.ownsRow 0 5 1 v n xs) (s : ByteArray) (hs : n + s.size ≤ 1000000000) :
    ∃ v' w', (Builtin.append_ #[40, 9] ty #[v, .string s]).run Tryz.prog w = .ok v' w' ∧ w'.ownsRow 0 5 1 v' (n + s.size) (xs ++ Lib.strCells s) ∧ w.grownBy w' v.ownBlock ∧ (v'.ownBlock = v.ownBlock ∨ v'.ownBlock = some w.heap.size) := by
 obtain ⟨v', w', hr, h1, h2, h3⟩ := Lib.run_append_own_string (P := Tryz.prog) w 0 40 9 ty 5 i Tryz.underlying40 Tryz.underlying9 hi hz hsize hby v n xs hown s (by unfold maxLen; omega) (by omega) (Nat.zero_le _)
 refine ⟨v', w', hr, h1, h2, ?_⟩
 rcases hown.2 with ⟨rfl, rfl⟩ | ⟨g, cap, cur, rfl, hbg, hg, hnc, hcm, hcs, htake⟩
 ·by_cases hm : s.size = 0
  ·rw [h3.2 ⟨rfl, hm⟩]; exact Or.inl rfl
  ·-- the row begins in a new block: it owns its bytes from there on
   obtain ⟨v2, w2, hr2, k1, _, k3⟩ := Lib.run_append_own_string (P := Tryz.prog) w w.heap.size 40 9 ty 5 i Tryz.underlying40 Tryz.underlying9 hi hz hsize hby (.slice none 0 0) 0 xs ⟨hown.1, Or.inl ⟨rfl, rfl⟩⟩ s (by unfold maxLen; omega) (by omega) (Nat.le_refl _)
   rw [hr] at hr2
   obtain ⟨rfl, rfl⟩ : v' = v2 ∧ w' = w2 := by injection hr2 with a b; exact ⟨a, b⟩
   rcases k1.2 with ⟨h, h0⟩ | ⟨g, cap, cur, rfl, hbg, hg, _⟩
   ·omega
   ·right
    have hlt := (Array.getElem?_eq_some_iff.1 hg).1
    have hnil := run_append_nil_string (P := Tryz.prog) w 40 9 ty 5 i (.int .u8 0) Tryz.underlying40 Tryz.underlying9 hi hz s (by omega) (by omega) (by rw [hby]; omega)
    rw [hr] at hnil
    injection hnil with a b
    rw [a]; rfl
 ·by_cases hroom : n + s.size ≤ cap
  ·have hcs' : cur.size = cap := by simpa using hcs
   have h := Lib.run_append_room_string (P := Tryz.prog) w 40 9 ty 5 i Tryz.underlying40 Tryz.underlying9 hi hsize g n cap cur hg s hroom (by omega)
   rw [hr] at h
   injection h with a b
   rw [a]; exact Or.inl rfl
  ·have h := Lib.run_append_grow_string (P := Tryz.prog) w 40 9 ty 5 i (.int .u8 0) Tryz.underlying40 Tryz.underlying9 hi hz ⟨g, 0, none⟩ n cap xs (by rw [hsize]; simpa using hown.1) (hown.cells (g := g) rfl) s (by omega) (by omega) (by rw [hby]; exact growslice_fits (by omega) (by omega))
   rw [hr] at h
   injection h with a b
   rw [a]; exact Or.inr rfl
theorem wpList_bytes {w : World} {ops : Array Oper} {rest : List Oper} {o : Oper} {a : Act} {Q : Exit → Act → World → Prop} (hgd : o.guard = none) (sl x : Operand)
    (ho : o.op = .call { callee := .builtin .append, args := #[sl, x], argTypes := #[40, 9] }) (i : TypeInfo) (hi : Tryz.prog.info? 5 = some i) (hz : i.zero = some (.int .u8 0)) (hsize : i.size = 1) (hby : i.bytes = 1)
    (v : Value) (n : Nat) (xs : List Value) (hs : a.eval sl = v) (hown : w.ownsRow 0 5 1 v n xs) (s : ByteArray) (hx : a.eval x = .string s) (hn : n + s.size ≤ 1000000000)
    (h : ∀ v' w', w'.ownsRow 0 5 1 v' (n + s.size) (xs ++ Lib.strCells s) → w.grownBy w' v.ownBlock → (v'.ownBlock = v.ownBlock ∨ v'.ownBlock = some w.heap.size) → wpList Tryz.prog ops Q rest (a.put o.dst v') w') : wpList Tryz.prog ops Q (o :: rest) a w := by
 refine wpList_plain hgd fun K hK => ?_
 obtain ⟨v', w', hr, h2, h3, h4⟩ := append_at i hi hz hsize hby o.type hown s hn
 unfold Oper.wp execOp
 simp only [ho, resolve, invoke, builtin, Sem.run_bind, Sem.run_pure, Result.andThen_ok, List.map_toArray, List.map_cons, List.map_nil, hs, hx, hr]
 exact hK _ _ (h v' w' h2 h3 h4)
theorem bwrite_in (R : Nat → Prop) (b : Nat) (l : List UInt8) (s : ByteArray) (w : World) (h : BldIn R b l w) (hlen : l.length + s.size ≤ 1000000000) (hs0 : 0 < s.size) :
    Calls Tryz.prog 14 #[.pointer (some ⟨b, 0, none⟩), .string s] w fun e w' => e = .returned (.tuple #[.int .i64 s.size, .nilIface]) ∧ BldIn (fun g => R g ∨ w.heap.size ≤ g) b (l ++ s.data.toList) w' ∧ BldStep R b w w' := by
 obtain ⟨p, v, hp, hB, hown, hR, _⟩ := h
 obtain ⟨i0, hi, hz0, hz1, hz2⟩ := info_parts infoU8
 have hat : Lib.IsBuilder 42 5 0 b (Lib.byteCells l) w := by
  have hown' : w.ownsRow 0 5 1 v (Lib.byteCells l).length (Lib.byteCells l) := by rw [Lib.byteCells_length]; exact hown
  rcases hp with rfl | rfl
  ·exact Or.inl ⟨Nat.zero_le _, v, hB, hown', fun e => (hR b e).2 rfl⟩
  ·exact Or.inr ⟨Nat.zero_le _, v, hB, hown', fun e => (hR b e).2 rfl⟩
 have HC : Hid (Calls Tryz.prog 43 #[.pointer (some ⟨b, 0, none⟩)] w fun e w' => e = .returned (.tuple #[]) ∧ ∃ W, w' = W ∧ Blk W b 42 #[.pointer (some ⟨b, 0, none⟩), v] ∧ W.heap.size = w.heap.size ∧ (∀ k, k ≠ b → W.heap[k]? = w.heap[k]?) ∧ Below 0 w W) := by
  rcases hp with rfl | rfl
  ·have hat : Lib.BuilderAt 42 5 0 b (.pointer none) (Lib.byteCells l) w := ⟨Nat.zero_le _, v, hB, by rw [Lib.byteCells_length]; exact hown, fun e => (hR b e).2 rfl⟩
   refine (bcheck_fresh b w hat.cell0 hat.shape hat.frozen0).mono ?_
   rintro e w' ⟨rfl, rfl⟩
   exact ⟨rfl, _, rfl, hB.set 0 _, by simp [World.setCell], fun k hk => Below.heap_setCell _ _ _ _ hk, (Below.refl 0 w).setCell (Nat.zero_le _) _⟩
  ·refine (bcheck_used b w (hB.cell 0)).mono ?_
   rintro e w' ⟨rfl, rfl⟩
   exact ⟨rfl, _, rfl, hB, rfl, fun _ _ => rfl, Below.refl _ _⟩
 have HR := hide hR
 have HO := hide hown
 clear hp hB hown hR
 go_enter Tryz.func14, Tryz.ntmps14
 go_wp2_with (go_at_call 43; refine HC.out.mono ?_)
 rintro e w9 ⟨rfl, w1, rfl, hB1, hs1, hk1, hb01⟩
 have c0 : w9.cell? ⟨b, 0, none⟩ = some (.pointer (some ⟨b, 0, none⟩)) := hB1.cell 0
 have c1 : w9.cell? ⟨b, 1, none⟩ = some v := hB1.cell 1
 have HB1 : Hid (Blk w9 b 42 #[.pointer (some ⟨b, 0, none⟩), v]) := hB1
 have H1 : Hid (w9.heap.size = w.heap.size ∧ (∀ k, k ≠ b → w9.heap[k]? = w.heap[k]?) ∧ Below 0 w w9) := ⟨hs1, hk1, hb01⟩
 have HO1 : Hid (w9.ownsRow 0 5 1 v l.length (Lib.byteCells l)) := by
  refine ⟨HO.out.1, ?_⟩
  rcases HO.out.2 with h0 | ⟨g, cap, cur, hv, h1, hg, rest⟩
  ·exact Or.inl h0
  ·exact Or.inr ⟨g, cap, cur, hv, h1, (hk1 g (HR.out g (by rw [hv]; rfl)).2).trans hg, rest⟩
 clear hB1 hs1 hk1 hb01
 go_wp2_with (at_builtin; refine wpList_bytes rfl _ _ rfl i0 hi hz0 hz1 hz2 v l.length (Lib.byteCells l) rfl HO1.out s rfl hlen ?_)
 intro v' w2 hown' hgrow hat
 have hlt : b < w9.heap.size := HB1.out.lt
 have hne : v.ownBlock ≠ some b := fun e => (HR.out b e).2 rfl
 have hb2 : Blk w2 b 42 #[.pointer (some ⟨b, 0, none⟩), v] := by
  unfold Blk; rw [hgrow.block b hlt (fun e => hne e.symm)]; exact HB1.out
 have HB2 : Hid (Blk w2 b 42 #[.pointer (some ⟨b, 0, none⟩), v]) := hb2
 have HG : Hid (w9.grownBy w2 v.ownBlock ∧ (v'.ownBlock = v.ownBlock ∨ v'.ownBlock = some w9.heap.size) ∧ w2.ownsRow 0 5 1 v' (l.length + s.size) (Lib.byteCells l ++ Lib.strCells s)) := ⟨hgrow, hat, hown'⟩
 have d0 : w2.cell? ⟨b, 0, none⟩ = some (.pointer (some ⟨b, 0, none⟩)) := hb2.cell 0
 have d1 : w2.cell? ⟨b, 1, none⟩ = some v := hb2.cell 1
 have f1 : w2.frozen? ⟨b, 1, none⟩ = false := hb2.frozen 1
 obtain ⟨ao, n', cap, rfl⟩ : ∃ ao n' cap, v' = .slice ao n' cap := by
  rcases hown'.2 with ⟨hv, _⟩ | ⟨g, cap, cur, hv, _⟩
  ·exact ⟨_, _, _, hv⟩
  ·exact ⟨_, _, _, hv⟩
 clear hlt hne hb2 hgrow hat hown' c0 c1 hi hz0 hz1 hz2
 go_wp2
 go_ret2
 obtain ⟨g1, g2, g3⟩ := HG.out
 obtain ⟨k1, k2, k3⟩ := H1.out
 have hR' : ∀ g, (Value.slice ao n' cap).ownBlock = some g → (R g ∨ w.heap.size ≤ g) ∧ g ≠ b := fun g e => by
  rcases g2 with h | h
  ·rw [h] at e; exact ⟨Or.inl (HR.out g e).1, (HR.out g e).2⟩
  ·rw [h] at e
   have e2 := Option.some.inj e
   have := HB1.out.lt
   exact ⟨Or.inr (by omega), by omega⟩
 refine ⟨rfl, ⟨_, _, Or.inr rfl, HB2.out.set 1 _, ?_, hR', fun e => ?_⟩, ?_, fun k hk hkb hkR => ?_⟩
 ·rw [List.length_append, Lib.byteCells_append]
  have hl : s.data.toList.length = s.size := Array.length_toList
  rw [hl, ← Lib.strCells_eq]
  exact own_elsewhere g3 (fun g e => (hR' g e).2) _ _
 ·have hl : s.data.toList.length = s.size := Array.length_toList
  have h0 : l.length + s.data.toList.length = 0 := by rw [← List.length_append, e]; rfl
  omega
 ·exact ((k3.grown g1 (Nat.zero_le _) fun _ _ => Nat.zero_le _).setCell (Nat.zero_le _) _)
 ·rw [Below.heap_setCell _ _ _ _ (show k ≠ b from hkb), g1.block k (by omega) fun e => hkR (HR.out k e.symm).1, k2 k hkb]
theorem bstring_none (R : Nat → Prop) (b : Nat) (w : World) (h : BldIn R b [] w) :
    Calls Tryz.prog 16 #[.pointer (some ⟨b, 0, none⟩)] w (Bk w (.string ⟨#[]⟩)) := by
 obtain ⟨p, v, hp, hB, hown, hr, h0⟩ := h
 obtain rfl := h0 rfl
 have c1 : w.drew.cell? ⟨b, 1, none⟩ = some (.slice none 0 0) := hB.cell 1
 have hSD : (Builtin.unsafeSliceData_ #[40] 97 #[.slice none 0 0]).run Tryz.prog w.drew = .ok (.pointer none) w.drew := Lib.run_unsafeSliceData_nil _ _ _ _ _
 have hUS : (Builtin.unsafeString_ #[97, 3] 9 #[.pointer none, .int .i64 0]).run Tryz.prog w.drew = .ok (.string .empty) w.drew := Lib.run_unsafeString_none _ _ _ _ _
 clear hp hB hown hr h0
 go_enter Tryz.func16, Tryz.ntmps16
 go_wp2
 go_region
 all_goals (go_wp2; go_ret; exact ⟨rfl, (Below.refl _ _).drew⟩)
theorem freeze_other (w : World) (g n k : Nat) (hk : k ≠ g) : (w.freeze ⟨g, 0, none⟩ n).heap[k]? = w.heap[k]? := by
 unfold World.freeze
 split
 ·rfl
 ·simp only [Array.getElem?_modify]
  rw [if_neg (fun e => hk e.symm)]
theorem bstring_some (R : Nat → Prop) (b : Nat) (l : List UInt8) (w : World) (h : BldIn R b l w) (hl : l ≠ []) :
    Calls Tryz.prog 16 #[.pointer (some ⟨b, 0, none⟩)] w fun e w' => e = .returned (.string ⟨l.toArray⟩) ∧ BldStep R b w w' := by
 obtain ⟨p, v, hp, hB, hown, hr, _⟩ := h
 have hl0 : l.length ≠ 0 := by simpa using hl
 obtain ⟨g, cap, cur, rfl, _, hg, hnc, hcm, hcs, htake⟩ : ∃ g cap cur, v = .slice (some ⟨g, 0, none⟩) l.length cap ∧ 0 ≤ g ∧ w.heap[g]? = some (.cells cur 5 (0, 0)) ∧ l.length ≤ cap ∧ cap ≤ maxLen ∧ cur.size = cap * 1 ∧ cur.toList.take (l.length * 1) = Lib.byteCells l := by
  rcases hown.2 with ⟨_, hz⟩ | ⟨g, cap, cur, hv, r⟩
  ·exact absurd hz hl0
  ·exact ⟨g, cap, cur, hv, r⟩
 have c1 : w.drew.cell? ⟨b, 1, none⟩ = some (.slice (some ⟨g, 0, none⟩) l.length cap) := hB.cell 1
 have hSD : (Builtin.unsafeSliceData_ #[40] 97 #[.slice (some ⟨g, 0, none⟩) l.length cap]).run Tryz.prog w.drew = .ok (.pointer (some ⟨g, 0, none⟩)) w.drew :=
  Lib.run_unsafeSliceData_row _ _ _ _ _ _ (by omega)
 have hUS : (Builtin.unsafeString_ #[97, 3] 9 #[.pointer (some ⟨g, 0, none⟩), .int .i64 l.length]).run Tryz.prog w.drew = .ok (.string ⟨l.toArray⟩) (w.drew.freeze ⟨g, 0, none⟩ l.length) := by
  refine Lib.run_unsafeString_row w.drew 97 3 9 5 Tryz.underlying97 cellsU8 g cur.size (by have hg' : w.drew.heap[g]? = some (.cells cur 5 (0, 0)) := hg; simp [World.shape?, hg']) l hl (by omega) (by unfold maxLen at hcm; omega) ?_
  intro j x hx
  have := hown.cells (g := g) rfl j (.int .u8 x.toNat) (by simp [Lib.byteCells, hx])
  exact this
 have HR : Hid (R g) := (hr g rfl).1
 have HB0 : Hid (Below 0 w (w.drew.freeze ⟨g, 0, none⟩ l.length)) := Lib.below_freeze (Below.drew (Below.refl 0 w)) (p := ⟨g, 0, none⟩) (Nat.zero_le _) _
 clear hp hB hown hr hg hnc hcm hcs htake
 go_enter Tryz.func16, Tryz.ntmps16
 go_wp2
 go_region
 all_goals
  go_wp2
  go_ret
  refine ⟨rfl, HB0.out, fun k _ _ hkR => ?_⟩
  exact freeze_other w.drew g _ k fun e => hkR (e ▸ HR.out)
theorem bstring_in (R : Nat → Prop) (b : Nat) (l : List UInt8) (w : World) (h : BldIn R b l w) :
    Calls Tryz.prog 16 #[.pointer (some ⟨b, 0, none⟩)] w fun e w' => e = .returned (.string ⟨l.toArray⟩) ∧ BldStep R b w w' := by
 by_cases h0 : l = []
 ·subst h0
  exact (bstring_none R b w h).mono fun e w' ⟨h1, h2⟩ => ⟨h1, ⟨h2.os, h2.tape, h2.output, h2.size, fun k hk => by omega⟩, fun k hk _ _ => h2.block k hk⟩
 ·exact bstring_some R b l w h h0
end Go.Proofs.YtnoohlibgaeklaaGreatDoor
namespace Go.Proofs.YtnoohlibgaeklaaGreatDoor
open Go.RowKit
set_option maxRecDepth 100000
set_option maxHeartbeats 16000000
structure LgOk (u : Int) (l : Lg) : Prop where
 hu : l.u = u
 good : ∀ f ∈ l.fs, ∃ a h, f = aloneF a h ∧ a.fault = 0
 n6 : l.fs.length ≤ 6
 op : openN l.fs u.toNat = true
 stop : l.stop = false
 left : l.left < 0
theorem alone_fm {f : Fm} (h : ∃ a b, f = aloneF a b ∧ a.fault = 0) : f.fault = 0 ∧ f.ats.length = 1 ∧ f.c.length ≤ 2 := by
 obtain ⟨a, b, rfl, ha⟩ := h
 refine ⟨alone_right ha b, rfl, ?_⟩
 cases b
 ·exact Nat.le_refl 2
 ·exact (by decide : 1 ≤ 2)
def bothFm (f g : Fm) : Fm := ⟨f.ats ++ g.ats, f.c ++ (g.c.map (movedF f.ats.length) ++ [10])⟩
def accF (fs : List Fm) : Nat → Fm
 | 0 => fs.getD 0 fmZ
 | i + 1 => bothFm (accF fs i) (fs.getD (i + 1) fmZ)
theorem both_is {f g : Fm} (hf : f.fault = 0) (hg : g.fault = 0) (hl : f.ats.length + g.ats.length ≤ 6) (hc : f.c.length + g.c.length ≤ 19) : (bothFm f g).fault = 0 ∧ ∀ D : Wd, D.ok = true → D.formIs (bothFm f g).ats (bothFm f g).c = (D.formIs f.ats f.c && D.formIs g.ats g.c) := by
 have h0 : formFault (bothFm f g).ats (bothFm f g).c = 0 := good_both hf hg hl hc
 refine ⟨h0, fun D hD => ?_⟩
 unfold Wd.formIs
 rw [if_pos (wdForm_zero.2 ⟨h0, hD⟩), if_pos (wdForm_zero.2 ⟨hf, hD⟩), if_pos (wdForm_zero.2 ⟨hg, hD⟩)]
 have e : D.heldL (bothFm f g).ats = D.heldL f.ats ++ D.heldL g.ats := by unfold Wd.heldL bothFm; rw [List.map_append]
 rw [e]
 exact val_both _ _ (by unfold Wd.heldL; rw [List.length_map]) hf hg hl
theorem acc_facts {fs : List Fm} (hgood : ∀ f ∈ fs, ∃ a h, f = aloneF a h ∧ a.fault = 0) (h6 : fs.length ≤ 6) : ∀ i, i < fs.length → (accF fs i).fault = 0 ∧ (accF fs i).ats.length = i + 1 ∧ (accF fs i).c.length ≤ 3 * i + 2 ∧ ∀ D : Wd, D.ok = true → D.formIs (accF fs i).ats (accF fs i).c = true → ∀ j, j ≤ i → ∀ f, fs[j]? = some f → D.formIs f.ats f.c = true := by
 intro i
 induction i with
 | zero =>
  intro hi
  have e : fs.getD 0 fmZ = fs[0] := by rw [List.getD_eq_getElem?_getD, List.getElem?_eq_getElem hi]; rfl
  have ha := alone_fm (hgood fs[0] (List.getElem_mem hi))
  unfold accF
  rw [e]
  refine ⟨ha.1, ha.2.1, by have := ha.2.2; omega, fun D _ hD j hj f hf => ?_⟩
  obtain rfl : j = 0 := by omega
  rw [List.getElem?_eq_getElem hi] at hf
  obtain rfl := Option.some.inj hf
  exact hD
 | succ i ih =>
  intro hi
  obtain ⟨a1, a2, a3, a4⟩ := ih (by omega)
  have e : fs.getD (i + 1) fmZ = fs[i + 1] := by rw [List.getD_eq_getElem?_getD, List.getElem?_eq_getElem hi]; rfl
  have ha := alone_fm (hgood fs[i + 1] (List.getElem_mem hi))
  have hu : accF fs (i + 1) = bothFm (accF fs i) fs[i + 1] := by
   show bothFm (accF fs i) (fs.getD (i + 1) fmZ) = _
   rw [e]
  rw [hu]
  obtain ⟨b1, b2⟩ := both_is a1 ha.1 (by rw [a2, ha.2.1]; omega) (by have := ha.2.2; omega)
  refine ⟨b1, ?_, ?_, fun D hD h j hj f hf => ?_⟩
  ·show (_ ++ _ : List At).length = _
   rw [List.length_append, a2, ha.2.1]
  ·show (_ ++ (_ ++ _) : List Int).length ≤ _
   rw [List.length_append, List.length_append, List.length_map]
   have := ha.2.2
   show _ + (_ + 1) ≤ _
   omega
  ·rw [b2 D hD, Bool.and_eq_true] at h
   rcases Nat.lt_or_ge i j with hji | hji
   ·obtain rfl : j = i + 1 := by omega
    rw [List.getElem?_eq_getElem hi] at hf
    obtain rfl := Option.some.inj hf
    exact h.2
   ·exact a4 D hD h.1 j hji f hf
theorem acc_so {fs : List Fm} (hgood : ∀ f ∈ fs, ∃ a h, f = aloneF a h ∧ a.fault = 0) (h6 : fs.length ≤ 6) {D : Wd} (hD : D.ok = true) (hs : D.so fs = true) : ∀ i, i < fs.length → D.formIs (accF fs i).ats (accF fs i).c = true := by
 have hall : ∀ f ∈ fs, D.formIs f.ats f.c = true := by unfold Wd.so at hs; rw [List.all_eq_true] at hs; exact hs
 intro i
 induction i with
 | zero =>
  intro hi
  have e : fs.getD 0 fmZ = fs[0] := by rw [List.getD_eq_getElem?_getD, List.getElem?_eq_getElem hi]; rfl
  unfold accF
  rw [e]
  exact hall _ (List.getElem_mem hi)
 | succ i ih =>
  intro hi
  obtain ⟨a1, a2, a3, _⟩ := acc_facts hgood h6 i (by omega)
  have e : fs.getD (i + 1) fmZ = fs[i + 1] := by rw [List.getD_eq_getElem?_getD, List.getElem?_eq_getElem hi]; rfl
  have ha := alone_fm (hgood fs[i + 1] (List.getElem_mem hi))
  have hu : accF fs (i + 1) = bothFm (accF fs i) fs[i + 1] := by
   show bothFm (accF fs i) (fs.getD (i + 1) fmZ) = _
   rw [e]
  rw [hu, (both_is a1 ha.1 (by rw [a2, ha.2.1]; omega) (by have := ha.2.2; omega)).2 D hD, ih (by omega), hall _ (List.getElem_mem hi)]
  rfl
structure SaysAll (fs : List Fm) (g : Fm) : Prop where
 right : formFault g.ats g.c = 0
 is : ∀ D : Wd, D.ok = true → D.formIs g.ats g.c = D.so fs
theorem says_worlds {fs : List Fm} {g : Fm} (h : SaysAll fs g) : worldsFault g.ats g.c 4 = 0 ∧ worldsN g.ats g.c 4 = worldsSo fs := by
 have h0 : worldsFault g.ats g.c 4 = 0 := by unfold worldsFault; rw [if_pos h.right]; decide
 refine ⟨h0, ?_⟩
 unfold worldsN worldsSo
 rw [if_pos h0]
 have key : ∀ A : List (Nat → Int), (∀ N ∈ A, N ∈ everyC 4) → sumL (fun N => (madeN N 8).formIs g.ats g.c) A = sumL (fun N => (madeN N 8).so fs) A := by
  intro A
  induction A with
  | nil => intro _; rfl
  | cons N A ih =>
   intro hA
   have e := h.is (madeN N 8) (made_ok (everyC_right (by decide) (hA N List.mem_cons_self)))
   unfold sumL
   rw [ih fun M hM => hA M (List.mem_cons_of_mem _ hM)]
   show (if (madeN N 8).formIs g.ats g.c = true then _ else _) + _ = (if (madeN N 8).so fs = true then _ else _) + _
   rw [e]
 exact key (everyC 4) fun N hN => hN
theorem says_step {fs : List Fm} {g : Fm} (h : SaysAll fs g) (t : List Int) : ∀ L : List Wd, (∀ D ∈ L, D.ok = true) → (spanOver g.ats g.c t L = (100, -1) ∧ spanSoOver fs t L = (100, 0) ∧ ∀ D ∈ L, D.so fs = false) ∨ (spanOver g.ats g.c t L = spanSoOver fs t L ∧ 0 ≤ (spanOver g.ats g.c t L).2) := by
 refine revInd (fun _ => Or.inl ⟨rfl, rfl, fun D hD => (by cases hD)⟩) fun L D ih hL => ?_
 have e := h.is D (hL D (List.mem_append_right _ (by simp)))
 have hn : 0 ≤ pcN (D.val t) := by unfold pcN; omega
 have e2 : spanSoOver fs t (L ++ [D]) = spanSoStep fs t (spanSoOver fs t L) D := by unfold spanSoOver; rw [List.foldl_append]; rfl
 rw [spanOver_add, e2]
 cases hs : D.so fs with
 | false =>
  have e3 : spanStep g.ats g.c t (spanOver g.ats g.c t L) D = spanOver g.ats g.c t L := by unfold spanStep; rw [e, hs, if_neg (by decide)]
  have e4 : spanSoStep fs t (spanSoOver fs t L) D = spanSoOver fs t L := by unfold spanSoStep; rw [hs]; simp
  rw [e3, e4]
  rcases ih fun X hX => hL X (List.mem_append_left _ hX) with ⟨h1, h2, h3⟩ | h1
  ·refine Or.inl ⟨h1, h2, fun X hX => ?_⟩
   rcases List.mem_append.1 hX with hX | hX
   ·exact h3 X hX
   ·obtain rfl : X = D := by simpa using hX
    exact hs
  ·exact Or.inr h1
 | true =>
  right
  have e3 : spanStep g.ats g.c t (spanOver g.ats g.c t L) D = (if pcN (D.val t) < (spanOver g.ats g.c t L).1 then pcN (D.val t) else (spanOver g.ats g.c t L).1, if (spanOver g.ats g.c t L).2 < pcN (D.val t) then pcN (D.val t) else (spanOver g.ats g.c t L).2) := by unfold spanStep; rw [e, hs, if_pos rfl]
  have e4 : spanSoStep fs t (spanSoOver fs t L) D = (if pcN (D.val t) < (spanSoOver fs t L).1 then pcN (D.val t) else (spanSoOver fs t L).1, if (spanSoOver fs t L).2 < pcN (D.val t) then pcN (D.val t) else (spanSoOver fs t L).2) := by unfold spanSoStep; rw [hs]; simp
  rw [e3, e4]
  rcases ih fun X hX => hL X (List.mem_append_left _ hX) with ⟨h1, h2, _⟩ | ⟨h1, h2⟩
  ·rw [h1, h2]
   have a1 : ((-1 : Int) < pcN (D.val t)) := by omega
   have a2 : (if (-1 : Int) < pcN (D.val t) then pcN (D.val t) else -1) = pcN (D.val t) := if_pos a1
   have a3 : (if (0 : Int) < pcN (D.val t) then pcN (D.val t) else 0) = pcN (D.val t) := by split <;> omega
   exact ⟨by show (_, (if (-1 : Int) < pcN (D.val t) then pcN (D.val t) else -1)) = (_, (if (0 : Int) < pcN (D.val t) then pcN (D.val t) else 0)); rw [a2, a3], by show 0 ≤ (if (-1 : Int) < pcN (D.val t) then pcN (D.val t) else -1); rw [a2]; exact hn⟩
  ·rw [← h1]
   refine ⟨rfl, ?_⟩
   show 0 ≤ (if (spanOver g.ats g.c t L).2 < pcN (D.val t) then pcN (D.val t) else (spanOver g.ats g.c t L).2)
   split <;> omega
theorem says_span {fs : List Fm} {g : Fm} (h : SaysAll fs g) (ho : openN fs 4 = true) {t : List Int} (ht : faultN t = 0) : spanFault g.ats g.c t 4 = 0 ∧ spanLo g.ats g.c t 4 = (spanSo fs t).1 ∧ spanHi g.ats g.c t 4 = (spanSo fs t).2 := by
 have hst := says_step h t (worldsL 4) fun D hD => worldsL_ok (by decide) hD
 have hop : ∃ D ∈ worldsL 4, D.so fs = true := by
  unfold openN at ho
  rw [List.any_eq_true] at ho
  obtain ⟨N, hN, hs⟩ := ho
  exact ⟨madeN N 8, List.mem_map.2 ⟨N, hN, rfl⟩, hs⟩
 obtain ⟨D, hD, hs⟩ := hop
 rcases hst with ⟨_, _, h3⟩ | ⟨h1, h2⟩
 ·rw [h3 D hD] at hs; cases hs
 ·have hz : spanFault g.ats g.c t 4 = 0 := by
   unfold spanFault
   rw [if_pos h.right, if_pos ht, if_pos (by decide)]
   exact if_neg (by show ¬ (spanOver g.ats g.c t (worldsL 4)).2 < 0; omega)
  refine ⟨hz, ?_, ?_⟩
  ·unfold spanLo; rw [if_pos hz]; show (spanOver g.ats g.c t (worldsL 4)).1 = _; rw [h1]; rfl
  ·unfold spanHi; rw [if_pos hz]; show (spanOver g.ats g.c t (worldsL 4)).2 = _; rw [h1]; rfl
theorem says_acc {fs : List Fm} (h : SaidOk fs) {i : Nat} (hi : i + 1 = fs.length) : SaysAll fs (accF fs i) := by
 obtain ⟨h1, h2, h3, h4⟩ := acc_facts h.good h.n6 i (by omega)
 refine ⟨h1, fun D hD => ?_⟩
 cases hs : D.so fs with
 | true => exact acc_so h.good h.n6 hD hs i (by omega)
 | false =>
  cases hf : D.formIs (accF fs i).ats (accF fs i).c with
  | false => rfl
  | true =>
   have : D.so fs = true := by
    unfold Wd.so
    rw [List.all_eq_true]
    intro f hm
    obtain ⟨j, hj⟩ := List.mem_iff_getElem?.1 hm
    exact h4 D hD hf j (by have := (List.getElem?_eq_some_iff.1 hj).1; omega) f hj
   rw [hs] at this; cases this
theorem says_none {g : Fm} (hg : formFault g.ats g.c = 0) (h : ∀ D : Wd, D.ok = true → D.formIs g.ats g.c = true) : SaysAll [] g := ⟨hg, fun D hD => h D hD⟩
theorem ask_none {g : Fm} (h : ∀ D : Wd, D.ok = true → D.formIs g.ats g.c = true) (ats : List At) (c : List Int) : askP [g] ats c 4 = askP [] ats c 4 := by
 unfold askP askOver
 have key : ∀ (L : List Wd), (∀ D ∈ L, D.ok = true) → ∀ p, L.foldl (askStep [g] ats c) p = L.foldl (askStep [] ats c) p := by
  intro L
  induction L with
  | nil => intro _ p; rfl
  | cons D L ih =>
   intro hL p
   have e : D.so [g] = D.so [] := by
    have := h D (hL D List.mem_cons_self)
    unfold Wd.so
    simp [this]
   rw [List.foldl_cons, List.foldl_cons]
   have e2 : askStep [g] ats c p D = askStep [] ats c p D := by unfold askStep; rw [e]
   rw [e2]
   exact ih (fun X hX => hL X (List.mem_cons_of_mem _ hX)) _
 exact key _ (fun D hD => worldsL_ok (by decide) hD) _
theorem ask_right {fs : List Fm} (h : SaidOk fs) (h0 : fs ≠ []) {ats : List At} {c : List Int} (hf : formFault ats c = 0) : askFault fs ats c 4 = 0 ∧ askN fs ats c 4 = answerN (askP fs ats c 4) := by
 have hz : askFault fs ats c 4 = 0 := ask_zero.2 ⟨forms_zero.2 ⟨⟨List.length_pos_iff.2 h0, h.n6⟩, h.fault, by decide⟩, hf, fun e => by
  have := ask_open.1 e
  have h4 : ((4 : Int)).toNat = 4 := rfl
  rw [h4, h.op] at this; cases this⟩
 exact ⟨hz, by unfold askN; rw [if_pos hz]; rfl⟩
theorem dec_is : ∀ (f u : Nat), u < 10 ^ (f + 1) → Lib.decDigits u = decF f u
 | 0, u, h => by
  have h : u < 10 := h
  rw [Lib.decDigits, dif_pos h]
  unfold decF
  rw [Nat.mod_eq_of_lt h]
 | f + 1, u, h => by
  unfold decF
  by_cases h1 : u < 10
  ·rw [if_pos h1, Lib.decDigits, dif_pos h1]
  ·rw [if_neg h1, Lib.decDigits, dif_neg h1, dec_is f (u / 10) (by rw [Nat.div_lt_iff_lt_mul (by decide)]; rw [Nat.pow_succ] at h; exact h)]
theorem itoa_dec {u : Nat} (h : u < 1000000000) : Lib.itoa (u : Int) = decT u := by rw [Lib.itoa_nonneg]; exact dec_is 8 u h
theorem cut_pieces : ∀ (n : Nat) (l : List UInt8), l.length ≤ n → ∃ H c, cutB 10 l = H ++ [c] ∧ (∀ x ∈ H, plainC 10 x = true) ∧ plainC 10 c = true ∧ l = (H.map fun x => x ++ [10]).flatten ++ c := by
 intro n
 induction n with
 | zero =>
  intro l hl
  have : l = [] := List.length_eq_zero_iff.1 (by omega)
  subst this
  exact ⟨[], [], rfl, (fun x h => by cases h), rfl, rfl⟩
 | succ n ih =>
  intro l hl
  rcases cut_parts 10 l with h | ⟨x, r, rfl, h⟩
  ·exact ⟨[], l, cutB_miss h, (fun x h => by cases h), h, rfl⟩
  ·obtain ⟨H, c, h1, h2, h3, h4⟩ := ih r (by simp at hl; omega)
   refine ⟨x :: H, c, by rw [cutB_hit h, h1]; rfl, fun y hy => ?_, h3, ?_⟩
   ·rcases List.mem_cons.1 hy with rfl | hy
    ·exact h
    ·exact h2 y hy
   ·rw [h4]; simp
theorem runL_is (t : List UInt8) : ∃ H c, (∀ x ∈ H, plainC 10 x = true) ∧ plainC 10 c = true ∧ t = (H.map fun x => x ++ [10]).flatten ++ c ∧ runL t = H ++ (if c = [] then [] else [c]) := by
 obtain ⟨H, c, h1, h2, h3, h4⟩ := cut_pieces _ t (Nat.le_refl _)
 refine ⟨H, c, h2, h3, h4, ?_⟩
 unfold runL
 rw [h1]
 by_cases hc : c = []
 ·subst hc; simp
 ·simp [hc]
end Go.Proofs.YtnoohlibgaeklaaGreatDoor
namespace Go.Proofs.YtnoohlibgaeklaaGreatDoor
open Go.ChangeShapes Go.WideShapes Go.ChangeAt Go.RowKit
set_option maxRecDepth 100000
set_option maxHeartbeats 16000000
theorem strOf_same {a b : ByteArray} (h : a.data.toList = b.data.toList) : a = b := by rw [← strOf_data a, ← strOf_data b, h]
def endB (s : ByteArray) : Bool := decide (1 ≤ s.size) && ((s.extract (s.size - 1) s.size).toList == [10])
theorem endB_app (l : List UInt8) : endB (strOf (l ++ [10])) = true := by
 unfold endB
 have h : (strOf (l ++ [10])).size = l.length + 1 := by rw [strOf_size]; simp
 rw [h, Lib.toList_data, Lib.extract_data, strOf_list]
 simp
theorem endB_some {s : ByteArray} (h : endB s = true) : ∃ l, s = strOf (l ++ [10]) ∧ s.data.toList = l ++ [10] := by
 unfold endB at h
 rw [Bool.and_eq_true, decide_eq_true_eq] at h
 obtain ⟨h1, h2⟩ := h
 have hl : s.data.toList.length = s.size := Array.length_toList
 have e := eq_of_beq h2
 rw [Lib.toList_data, Lib.extract_data, List.take_of_length_le (by rw [List.length_drop]; omega)] at e
 have e2 := List.take_append_drop (s.size - 1) s.data.toList
 rw [e] at e2
 exact ⟨s.data.toList.take (s.size - 1), by rw [e2, strOf_data], e2.symm⟩
theorem hasEnd_any (s : ByteArray) (hs : s.size ≤ 9223372036854775807) (w : World) :
    Calls Tryz.prog 68 #[.string s, .string ⟨#[10]⟩] w (Sk w (.bool (endB s))) := by
 unfold endB
 by_cases h : 1 ≤ s.size
 ·go_enter Tryz.func68, Tryz.ntmps68
  go_wp2
  go_ret
  refine ⟨?_, rfl⟩
  simp [h]
 ·go_enter Tryz.func68, Tryz.ntmps68
  go_wp2
  go_ret
  refine ⟨?_, rfl⟩
  simp
theorem drop_end (l : List UInt8) (n : Nat) (h : n = l.length) : (strOf (l ++ [10])).extract 0 n = strOf l := by
 rw [strOf_take, h, List.take_left]
theorem trimEnd_hit (l : List UInt8) (hz : l.length + 1 ≤ 9223372036854775807) (w : World) :
    Calls Tryz.prog 13 #[.string (strOf (l ++ [10])), .string ⟨#[10]⟩] w (Sk w (.string (strOf l))) := by
 have hn : (strOf (l ++ [10])).size = l.length + 1 := by rw [strOf_size]; simp
 have HH : Hid (∀ W, Calls Tryz.prog 68 #[.string (strOf (l ++ [10])), .string ⟨#[10]⟩] W (Sk W (.bool true))) := fun W => by
  have h := hasEnd_any (strOf (l ++ [10])) (by omega) W
  rw [endB_app] at h
  exact h
 have HD : Hid (∀ n, n = l.length → (strOf (l ++ [10])).extract 0 n = strOf l) := fun n h => drop_end l n h
 obtain ⟨s, hs⟩ := nm (strOf (l ++ [10]))
 rw [← hs] at hn HH HD ⊢
 clear hs
 have HC : Hid (∀ W, Calls Tryz.prog 42 #[.string s, .string ⟨#[10]⟩] W (Sk W (.string (strOf l)))) := fun W => by
  have h1 : (1 : Int) ≤ (s.size : Int) := by omega
  have h2 : (s.size : Int) ≤ 9223372036854775807 := by omega
  go_enter Tryz.func42, Tryz.ntmps42
  go_wp2_with (go_at_call 68; refine (HH.out _).mono ?_; rintro e w' ⟨rfl, rfl⟩)
  go_ret
  refine ⟨?_, rfl⟩
  rw [HD.out _ (by omega)]
  rfl
 go_enter Tryz.func13, Tryz.ntmps13
 go_wp2_with (go_at_call 42; refine (HC.out _).mono ?_; rintro e w' ⟨rfl, rfl⟩)
 go_ret
 exact ⟨rfl, rfl⟩
def lastTen (l : List UInt8) : Nat → Int
 | 0 => -1
 | k + 1 => if l.getD k 0 = 10 then (k : Int) else lastTen l k
theorem lastTen_plain {l : List UInt8} {a : Nat} : ∀ {k : Nat}, (∀ j, a ≤ j → j < k → l.getD j 0 ≠ 10) → a ≤ k → lastTen l k = lastTen l a := by
 intro k
 induction k with
 | zero => intro _ h; rw [Nat.le_zero.1 h]
 | succ k ih =>
  intro h hk
  rcases Nat.lt_or_ge k a with hl | hl
  ·rw [show a = k + 1 by omega]
  ·rw [lastTen, if_neg (h k hl (by omega)), ih (fun j h1 h2 => h j h1 (by omega)) hl]
theorem lastByte_any (s : ByteArray) (hs : s.size < 4611686018427387904) (w : World) :
    Calls Tryz.prog 127 #[.string s, .int .u8 10] w (Sk w (.int .i64 (lastTen s.data.toList s.size))) := by
 obtain ⟨R, hR⟩ := nm (lastTen s.data.toList s.size)
 rw [← hR]
 have HR := hide hR
 clear hR
 have HLen : Hid (s.data.toList.length = s.size) := Array.length_toList
 go_enter Tryz.func127, Tryz.ntmps127
 go_wp2
 go_loop [5] (fun vi => ∃ k : Nat, k ≤ s.size ∧ vi = .int .i64 ((k : Int) - 1) ∧ R = lastTen s.data.toList k) (fun vi => ((intOf vi) + 1).toNat)
 case atStart => exact ⟨s.size, Nat.le_refl _, by first | rfl | go_num | (congr 1; omega), HR.out⟩
 case round =>
  obtain ⟨k, hk, rfl, hh⟩ := hrel
  have HH := hide hh
  clear hh
  by_cases h0 : k = 0
  ·subst h0
   go_wp2
   go_ret
   refine ⟨?_, rfl⟩
   rw [HH.out]; rfl
  ·obtain ⟨j, rfl⟩ : ∃ j, k = j + 1 := ⟨k - 1, by omega⟩
   have e : ((j + 1 : Nat) : Int) - 1 = (j : Int) := by omega
   rw [e]
   clear e h0
   have hj : j < s.size := by omega
   have hj' : (j : Int) < (s.size : Int) := by omega
   have HGD : Hid (s.data.toList.getD j 0 = s[j]'hj) := by
    unfold Hid
    have hk' : j < s.data.toList.length := by rw [Array.length_toList]; exact hj
    rw [List.getD_eq_getElem?_getD, List.getElem?_eq_getElem hk']
    rfl
   by_cases hb : s[j]'hj = 10
   ·have hb' : (((s[j]'hj).toNat : Int) == 10) = true := by rw [hb]; simp
    have HS : Hid (R = (j : Int)) := by unfold Hid; rw [HH.out, lastTen, if_pos (by rw [HGD.out]; exact hb)]
    clear hb HGD
    go_wp2
    go_ret
    exact ⟨back_i HS.out.symm, rfl⟩
   ·have hb' : (((s[j]'hj).toNat : Int) == 10) = false := by
     have h : (s[j]'hj).toNat ≠ 10 := fun h => hb (UInt8.toNat_inj.1 h)
     simp; omega
    have HS : Hid (R = lastTen s.data.toList j) := by unfold Hid; rw [HH.out, lastTen, if_neg (by rw [HGD.out]; exact hb)]
    clear hb HGD
    go_wp2
    go_round
    case rel => exact ⟨j, by omega, by go_num, HS.out⟩
    case measure => simp [intOf]
theorem lastIndex_any (s : ByteArray) (hs : s.size < 4611686018427387904) (w : World) :
    Calls Tryz.prog 84 #[.string s, .string ⟨#[10]⟩] w (Sk w (.int .i64 (lastTen s.data.toList s.size))) := by
 have HL : Hid (∀ W, Calls Tryz.prog 127 #[.string s, .int .u8 10] W (Sk W (.int .i64 (lastTen s.data.toList s.size)))) := fun W => lastByte_any s hs W
 go_enter Tryz.func84, Tryz.ntmps84
 go_wp2_with (go_at_call 127; refine (HL.out _).mono ?_; rintro e w' ⟨rfl, rfl⟩)
 go_ret
 exact ⟨rfl, rfl⟩
theorem cutWord_hit (s : ByteArray) (j : Nat) (hj : blankAt s.data.toList = j) (hz : s.size ≤ 9223372036854775806) (w : World) :
    Calls Tryz.prog 38 #[.string s, .string ⟨#[32]⟩] w (Bk w (.tuple #[.string (s.extract 0 j), .string (s.extract (j + 1) s.size), .bool true])) := by
 have hr := blankAt_range s.data.toList
 have hl : s.data.toList.length = s.size := Array.length_toList
 have HI : Hid (∀ W, Calls Tryz.prog 87 #[.string s, .string ⟨#[32]⟩] W (Sk W (.int .i64 (j : Int)))) := fun W => by
  have h := slIndex_one s W
  rw [hj] at h
  exact h
 have c1 : (0 : Int) ≤ (j : Int) := by omega
 have c2 : (j : Int) ≤ (s.size : Int) := by omega
 have c3 : (0 : Int) ≤ (j : Int) + 1 := by omega
 have c4 : (j : Int) + 1 ≤ (s.size : Int) := by omega
 clear hr hl hj
 have HC : Hid (∀ W, Calls Tryz.prog 60 #[.string s, .string ⟨#[32]⟩] W (Bk W (.tuple #[.string (s.extract 0 j), .string (s.extract (j + 1) s.size), .bool true]))) := fun W => by
  go_enter Tryz.func60, Tryz.ntmps60
  go_wp2_with (go_at_call 87; refine (HI.out _).mono ?_; rintro e w' ⟨rfl, rfl⟩)
  go_region
  go_wp2
  go_ret3
  exact ⟨rfl, (Below.refl _ _).drew⟩
 go_enter Tryz.func38, Tryz.ntmps38
 go_wp2_with (go_at_call 60; refine (HC.out _).mono ?_; rintro e w' ⟨rfl, hb⟩)
 go_ret3
 exact ⟨rfl, hb⟩
theorem cutWord_miss (s : ByteArray) (hj : blankAt s.data.toList = -1) (w : World) :
    Calls Tryz.prog 38 #[.string s, .string ⟨#[32]⟩] w (Bk w (.tuple #[.string s, .string ⟨#[]⟩, .bool false])) := by
 have HI : Hid (∀ W, Calls Tryz.prog 87 #[.string s, .string ⟨#[32]⟩] W (Sk W (.int .i64 (-1)))) := fun W => by
  have h := slIndex_one s W
  rw [hj] at h
  exact h
 clear hj
 have HC : Hid (∀ W, Calls Tryz.prog 60 #[.string s, .string ⟨#[32]⟩] W (Sk W (.tuple #[.string s, .string ⟨#[]⟩, .bool false]))) := fun W => by
  go_enter Tryz.func60, Tryz.ntmps60
  go_wp2_with (go_at_call 87; refine (HI.out _).mono ?_; rintro e w' ⟨rfl, rfl⟩)
  go_ret3
  exact ⟨rfl, rfl⟩
 go_enter Tryz.func38, Tryz.ntmps38
 go_wp2_with (go_at_call 60; refine (HC.out _).mono ?_; rintro e w' ⟨rfl, rfl⟩)
 go_ret3
 exact ⟨rfl, Below.refl _ _⟩
end Go.Proofs.YtnoohlibgaeklaaGreatDoor
namespace Go.Proofs.YtnoohlibgaeklaaGreatDoor
open Go.RowKit
set_option maxRecDepth 100000
set_option maxHeartbeats 16000000
def recB (q : At × Bool) : List UInt8 := (if q.2 = true then 43 else 45) :: q.1.text
def aloneP (q : At × Bool) : Fm := aloneF q.1 q.2
def endsF : Int → List (List UInt8) → List Int
 | _, [] => []
 | s, x :: L => (s + ((x.length + 1 : Nat) : Int)) :: endsF (s + ((x.length + 1 : Nat) : Int)) L
def wholeL : List (List UInt8) → Nat → Nat
 | [], _ => 0
 | x :: L, h => if x.length + 1 ≤ h then wholeL L (h - (x.length + 1)) + 1 else 0
theorem linesT_cons (x : List UInt8) (L : List (List UInt8)) : linesT (x :: L) = (x ++ [10]) ++ linesT L := rfl
theorem linesT_app (L M : List (List UInt8)) : linesT (L ++ M) = linesT L ++ linesT M := by unfold linesT; rw [List.map_append, List.flatten_append]
theorem linesT_one (x : List UInt8) : linesT [x] = x ++ [10] := by simp [linesT]
theorem ends_take : ∀ (L : List (List UInt8)) (s : Int) (k : Nat), (endsF s L).take k = endsF s (L.take k)
 | [], s, k => by simp [endsF]
 | x :: L, s, 0 => rfl
 | x :: L, s, k + 1 => by
  rw [endsF, List.take_succ_cons, List.take_succ_cons, endsF, ends_take L]
theorem ends_more : ∀ (L : List (List UInt8)) (s : Int) (x : List UInt8), endsF s (L ++ [x]) = endsF s L ++ [s + ((linesT L).length : Int) + ((x.length + 1 : Nat) : Int)]
 | [], s, x => by simp [endsF, linesT]
 | y :: L, s, x => by
  rw [List.cons_append, endsF, endsF, ends_more L, List.cons_append]
  congr 3
  rw [linesT_cons, List.length_append, List.length_append]
  simp
  omega
theorem ends_at : ∀ (L : List (List UInt8)) (s : Int) (k : Nat), k < L.length → (endsF s L).getD k 0 = s + ((linesT (L.take (k + 1))).length : Int)
 | [], s, k, h => by simp at h
 | x :: L, s, 0, h => by simp [endsF, linesT]
 | x :: L, s, k + 1, h => by
  rw [endsF, List.getD_cons_succ, ends_at L _ k (by simpa using h), List.take_succ_cons, linesT_cons, List.length_append, List.length_append]
  simp
  omega
theorem end_at {L : List (List UInt8)} {k : Nat} (hk : k ≤ L.length) : endAt (endsF 0 L) k = ((linesT (L.take k)).length : Int) := by
 unfold endAt
 by_cases h : k = 0
 ·subst h; simp [linesT]
 ·rw [if_neg h, ends_at L 0 (k - 1) (by omega), show k - 1 + 1 = k by omega]; omega
theorem ends_whole : ∀ (L : List (List UInt8)) (s : Int) (h : Nat), wholeN (endsF s L) (s + (h : Int)) = wholeL L h
 | [], s, h => rfl
 | x :: L, s, h => by
  unfold wholeN wholeL
  rw [endsF, List.takeWhile_cons]
  by_cases hx : x.length + 1 ≤ h
  ·rw [if_pos hx, decide_eq_true (by omega), if_pos rfl, List.length_cons]
   have := ends_whole L (s + ((x.length + 1 : Nat) : Int)) (h - (x.length + 1))
   unfold wholeN at this
   rw [← this]
   congr 3
   funext e
   congr 2
   omega
  ·rw [if_neg hx, decide_eq_false (by omega)]
   rfl
theorem wholeL_le : ∀ (L : List (List UInt8)) (h : Nat), wholeL L h ≤ L.length
 | [], h => Nat.le_refl _
 | x :: L, h => by
  unfold wholeL
  split
  ·have := wholeL_le L (h - (x.length + 1)); simp; omega
  ·omega
theorem last_lines {L : List (List UInt8)} {r : List UInt8} (hr : plainC 10 r = true) : lastTen (linesT L ++ r) (linesT L ++ r).length + 1 = ((linesT L).length : Int) := by
 have h1 : lastTen (linesT L ++ r) (linesT L ++ r).length = lastTen (linesT L ++ r) (linesT L).length := by
  refine lastTen_plain (fun j h1 h2 => ?_) (by simp)
  rw [List.length_append] at h2
  rw [List.getD_eq_getElem?_getD, List.getElem?_append_right h1]
  have hj : j - (linesT L).length < r.length := by omega
  rw [List.getElem?_eq_getElem hj]
  unfold plainC at hr
  rw [List.all_eq_true] at hr
  simpa using hr _ (List.getElem_mem hj)
 rw [h1]
 rcases List.eq_nil_or_concat L with rfl | ⟨M, x, rfl⟩
 ·simp [linesT, lastTen]
 ·have e : (linesT (M ++ [x])).length = (linesT M ++ x).length + 1 := by rw [linesT_app, linesT_one]; simp; omega
  rw [List.concat_eq_append, e, lastTen, if_pos]
  ·omega
  ·rw [linesT_app, linesT_one, ← List.append_assoc, List.append_assoc (linesT M ++ x), List.getD_eq_getElem?_getD, List.getElem?_append_right (Nat.le_refl _)]
   simp
theorem rec_plain {q : At × Bool} (h : q.1.fault = 0) : plainC 10 (recB q) = true := by
 unfold recB
 refine plainC_cons ?_ (line_atom h)
 split <;> decide
theorem text_small {a : At} (h : a.fault = 0) : a.text.length ≤ 100 := by
 have := lines_len (ats := [a]) (fun b hb => by obtain rfl : b = a := by simpa using hb
                                                exact h)
 simp [linesOf] at this
 omega
theorem rec_small {q : At × Bool} (h : q.1.fault = 0) : (recB q).length ≤ 101 := by
 have := text_small h
 unfold recB
 rw [List.length_cons]; omega
theorem recs_small : ∀ {ps : List (At × Bool)}, (∀ q ∈ ps, q.1.fault = 0) → (linesT (ps.map recB)).length ≤ 102 * ps.length
 | [], _ => by simp [linesT]
 | q :: ps, h => by
  have h1 := rec_small (h q List.mem_cons_self)
  have h2 := recs_small (ps := ps) fun x hx => h x (List.mem_cons_of_mem _ hx)
  rw [List.map_cons, linesT_cons, List.length_append, List.length_append, List.length_cons]
  simp
  omega
structure KeptL (l : Lg) (ps : List (At × Bool)) (tail : List UInt8) : Prop where
 u : 0 ≤ l.u ∧ l.u ≤ 6
 six : ps.length ≤ 6
 right : ∀ q ∈ ps, q.1.fault = 0
 plain : plainC 10 tail = true
 small : tail.length ≤ 200
 go : l.stop = false → tail = []
 fs : l.fs = ps.map aloneP
 ends : l.ends = endsF 0 (ps.map recB)
 bytes : l.bytes = ((linesT (ps.map recB) ++ tail).length : Int)
 safe : 0 ≤ l.safe ∧ l.safe ≤ l.bytes
theorem KeptL.high {l : Lg} {ps : List (At × Bool)} {tail : List UInt8} (h : KeptL l ps tail) (keep : Int) : 0 ≤ l.high keep ∧ l.high keep ≤ l.bytes := by
 have := h.safe
 unfold Lg.high
 split
 ·split <;> omega
 ·omega
theorem KeptL.crash {l : Lg} {ps : List (At × Bool)} {tail : List UInt8} (h : KeptL l ps tail) (keep : Int) (k : Nat) (hk : k = wholeL (ps.map recB) (l.high keep).toNat) :
    KeptL (l.crash keep) (ps.take k) [] ∧ (l.crash keep).safe = ((linesT ((ps.take k).map recB)).length : Int) := by
 have hh := h.high keep
 have e1 : wholeN l.ends (l.high keep) = k := by
  rw [h.ends, hk]
  have := ends_whole (ps.map recB) 0 (l.high keep).toNat
  rwa [Int.zero_add, Int.toNat_of_nonneg hh.1] at this
 have hkl : k ≤ (ps.map recB).length := by rw [hk]; exact wholeL_le _ _
 have e2 : endAt l.ends k = ((linesT ((ps.take k).map recB)).length : Int) := by rw [h.ends, end_at hkl, List.map_take]
 have hs : (l.crash keep).safe = ((linesT ((ps.take k).map recB)).length : Int) := by show endAt l.ends (wholeN l.ends (l.high keep)) = _; rw [e1, e2]
 have hb : (l.crash keep).bytes = ((linesT ((ps.take k).map recB)).length : Int) := hs
 refine ⟨⟨h.u, ?_, fun q hq => h.right q (List.mem_of_mem_take hq), rfl, by simp, fun _ => rfl, ?_, ?_, ?_, ?_⟩, hs⟩
 ·have := h.six; rw [List.length_take]; omega
 ·show l.fs.take (wholeN l.ends (l.high keep)) = _
  rw [e1, h.fs, List.map_take]
 ·show l.ends.take (wholeN l.ends (l.high keep)) = _
  rw [e1, h.ends, ends_take, List.map_take]
 ·rw [hb, List.append_nil]
 ·rw [hb, hs]; exact ⟨by omega, Int.le_refl _⟩
def LeftIs (z left : Int) : Prop := (z < 0 ∧ left < 0) ∨ (0 ≤ z ∧ left = failN z)
theorem LeftIs.zero {z left : Int} (h : LeftIs z left) : z = 0 ↔ left = 0 := by
 rcases h with ⟨h1, h2⟩ | ⟨h1, rfl⟩
 ·omega
 ·unfold failN
  rw [if_neg (by omega)]
  split
  ·omega
  ·split <;> omega
theorem LeftIs.less {z left : Int} (h : LeftIs z left) (h0 : 0 < z) : LeftIs (IntKind.i64.wrap (z - 1)) (lessN1 left) := by
 rcases h with ⟨h1, h2⟩ | ⟨h1, rfl⟩
 ·omega
 ·have hr : -9223372036854775808 ≤ IntKind.i64.wrap (z - 1) ∧ IntKind.i64.wrap (z - 1) ≤ 9223372036854775807 := by rw [IntKind.wrap_i64]; omega
  obtain ⟨m, hm⟩ := nm (IntKind.i64.wrap (z - 1))
  unfold failN
  rw [if_neg (by omega), if_neg (by omega)]
  rw [← hm] at hr ⊢
  by_cases hneg : m < 0
  ·rw [if_pos hneg]
   exact Or.inl ⟨hneg, by decide⟩
  ·rw [if_neg hneg]
   refine Or.inr ⟨by omega, ?_⟩
   unfold lessN1
   rw [if_neg (by omega), failN_small (by omega) (by omega)]
   omega
theorem LeftIs.fail (n : Int) : LeftIs n (failN n) := by
 by_cases h : n < 0
 ·exact Or.inl ⟨h, by unfold failN; rw [if_pos h]; decide⟩
 ·exact Or.inr ⟨by omega, rfl⟩
theorem KeptL.said {l : Lg} {ps : List (At × Bool)} (h : KeptL l ps []) (q : At × Bool) (hq : q.1.fault = 0) (h6 : ps.length < 6) (left : Int) (stop : Bool) :
    KeptL { l with fs := l.fs ++ [aloneP q], ends := l.ends ++ [l.bytes + ((recB q ++ [10]).length : Int)], bytes := l.bytes + ((recB q ++ [10]).length : Int), left := left, stop := stop } (ps ++ [q]) [] := by
 have hb := h.bytes
 rw [List.append_nil] at hb
 have hs := h.safe
 refine ⟨h.u, by rw [List.length_append]; simp; omega, fun x hx => ?_, rfl, by simp, fun _ => rfl, ?_, ?_, ?_, ?_⟩
 ·rcases List.mem_append.1 hx with hx | hx
  ·exact h.right x hx
  ·obtain rfl : x = q := by simpa using hx
   exact hq
 ·show l.fs ++ [aloneP q] = _
  rw [h.fs, List.map_append]; rfl
 ·show l.ends ++ [l.bytes + ((recB q ++ [10]).length : Int)] = _
  rw [h.ends, List.map_append, List.map_cons, List.map_nil, ends_more, hb]
  simp
 ·show l.bytes + ((recB q ++ [10]).length : Int) = _
  rw [hb, List.map_append, List.map_cons, List.map_nil, linesT_app, linesT_one, List.append_nil, List.length_append]
  simp
 ·show 0 ≤ l.safe ∧ l.safe ≤ l.bytes + ((recB q ++ [10]).length : Int)
  omega
end Go.Proofs.YtnoohlibgaeklaaGreatDoor
namespace Go.Proofs.YtnoohlibgaeklaaGreatDoor
open Go.ChangeShapes Go.WideShapes Go.ChangeAt Go.RowKit
set_option maxRecDepth 100000
set_option maxHeartbeats 16000000
def headB (s : ByteArray) (c : UInt8) : Bool := decide (1 ≤ s.size) && ((s.extract 0 1).toList == [c])
theorem headB_cons (x c : UInt8) (l : List UInt8) : headB (strOf (x :: l)) c = (x == c) := by
 unfold headB
 have h : (strOf (x :: l)).size = l.length + 1 := by rw [strOf_size]; rfl
 rw [h, strOf_take]
 have e : (strOf [x]).toList = [x] := by rw [Lib.toList_data, strOf_list]
 have e2 : List.take 1 (x :: l) = [x] := rfl
 rw [e2, e]
 simp
theorem hasHead_any (s : ByteArray) (c : UInt8) (w : World) :
    Calls Tryz.prog 163 #[.string s, .string ⟨#[c]⟩] w (Sk w (.bool (headB s c))) := by
 unfold headB
 by_cases h : 1 ≤ s.size
 ·go_enter Tryz.func163, Tryz.ntmps163
  go_wp2
  go_ret
  refine ⟨?_, rfl⟩
  simp [h]
 ·go_enter Tryz.func163, Tryz.ntmps163
  go_wp2
  go_ret
  refine ⟨?_, rfl⟩
  simp
theorem drop_head (x : UInt8) (l : List UInt8) (n : Nat) (h : n = l.length + 1) : (strOf (x :: l)).extract 1 n = strOf l := by
 rw [strOf_drop _ _ _ h]; rfl
theorem cutHead_any (x c : UInt8) (l : List UInt8) (hz : l.length + 1 ≤ 9223372036854775807) (w : World) :
    Calls Tryz.prog 85 #[.string (strOf (x :: l)), .string ⟨#[c]⟩] w (Sk w (.tuple #[.string (if x = c then strOf l else strOf (x :: l)), .bool (x == c)])) := by
 have hn : (strOf (x :: l)).size = l.length + 1 := by rw [strOf_size]; rfl
 have HH : Hid (∀ W, Calls Tryz.prog 163 #[.string (strOf (x :: l)), .string ⟨#[c]⟩] W (Sk W (.bool (x == c)))) := fun W => by
  have h := hasHead_any (strOf (x :: l)) c W
  rw [headB_cons] at h
  exact h
 have HD : Hid (∀ n, n = l.length + 1 → (strOf (x :: l)).extract 1 n = strOf l) := fun n h => drop_head x l n h
 obtain ⟨s, hs⟩ := nm (strOf (x :: l))
 rw [← hs] at hn HH HD ⊢
 clear hs
 have HC : Hid (∀ W, Calls Tryz.prog 129 #[.string s, .string ⟨#[c]⟩] W (Sk W (.tuple #[.string (if x = c then strOf l else s), .bool (x == c)]))) := fun W => by
  have h1 : (1 : Int) ≤ (s.size : Int) := by omega
  have h2 : (s.size : Int) ≤ 9223372036854775807 := by omega
  by_cases hx : x = c
  ·have e1 : (x == c) = true := by simpa using hx
   rw [if_pos hx, e1]
   rw [e1] at HH
   clear hx e1
   go_enter Tryz.func129, Tryz.ntmps129
   go_wp2_with (go_at_call 163; refine (HH.out _).mono ?_; rintro e w' ⟨rfl, rfl⟩)
   go_ret2
   refine ⟨?_, rfl⟩
   rw [HD.out _ (by omega)]
   rfl
  ·have e1 : (x == c) = false := by simpa using hx
   rw [if_neg hx, e1]
   rw [e1] at HH
   clear hx e1
   go_enter Tryz.func129, Tryz.ntmps129
   go_wp2_with (go_at_call 163; refine (HH.out _).mono ?_; rintro e w' ⟨rfl, rfl⟩)
   go_ret2
   exact ⟨rfl, rfl⟩
 obtain ⟨R, hR⟩ := nm ((if x = c then strOf l else s))
 obtain ⟨B, hB⟩ := nm ((x == c))
 rw [← hR, ← hB] at HC ⊢
 clear hR hB HH HD hn
 go_enter Tryz.func85, Tryz.ntmps85
 go_wp2_with (go_at_call 129; refine (HC.out _).mono ?_; rintro e w' ⟨rfl, rfl⟩)
 go_ret2
 exact ⟨rfl, rfl⟩
theorem trimHead_any (x c : UInt8) (l : List UInt8) (hz : l.length + 1 ≤ 9223372036854775807) (w : World) :
    Calls Tryz.prog 86 #[.string (strOf (x :: l)), .string ⟨#[c]⟩] w (Sk w (.string (if x = c then strOf l else strOf (x :: l)))) := by
 have hn : (strOf (x :: l)).size = l.length + 1 := by rw [strOf_size]; rfl
 have HH : Hid (∀ W, Calls Tryz.prog 163 #[.string (strOf (x :: l)), .string ⟨#[c]⟩] W (Sk W (.bool (x == c)))) := fun W => by
  have h := hasHead_any (strOf (x :: l)) c W
  rw [headB_cons] at h
  exact h
 have HD : Hid (∀ n, n = l.length + 1 → (strOf (x :: l)).extract 1 n = strOf l) := fun n h => drop_head x l n h
 obtain ⟨s, hs⟩ := nm (strOf (x :: l))
 rw [← hs] at hn HH HD ⊢
 clear hs
 have HC : Hid (∀ W, Calls Tryz.prog 130 #[.string s, .string ⟨#[c]⟩] W (Sk W (.string (if x = c then strOf l else s)))) := fun W => by
  have h1 : (1 : Int) ≤ (s.size : Int) := by omega
  have h2 : (s.size : Int) ≤ 9223372036854775807 := by omega
  by_cases hx : x = c
  ·have e1 : (x == c) = true := by simpa using hx
   rw [if_pos hx]
   rw [e1] at HH
   clear hx e1
   go_enter Tryz.func130, Tryz.ntmps130
   go_wp2_with (go_at_call 163; refine (HH.out _).mono ?_; rintro e w' ⟨rfl, rfl⟩)
   go_ret
   refine ⟨?_, rfl⟩
   rw [HD.out _ (by omega)]
   rfl
  ·have e1 : (x == c) = false := by simpa using hx
   rw [if_neg hx]
   rw [e1] at HH
   clear hx e1
   go_enter Tryz.func130, Tryz.ntmps130
   go_wp2_with (go_at_call 163; refine (HH.out _).mono ?_; rintro e w' ⟨rfl, rfl⟩)
   go_ret
   exact ⟨rfl, rfl⟩
 obtain ⟨R, hR⟩ := nm ((if x = c then strOf l else s))
 rw [← hR] at HC ⊢
 clear hR HH HD hn
 go_enter Tryz.func86, Tryz.ntmps86
 go_wp2_with (go_at_call 130; refine (HC.out _).mono ?_; rintro e w' ⟨rfl, rfl⟩)
 go_ret
 exact ⟨rfl, rfl⟩
theorem logWhole_any (L : List (List UInt8)) (r : List UInt8) (hr : plainC 10 r = true) (hz : (linesT L ++ r).length ≤ 1000000) (w : World) :
    Calls Tryz.prog 58 #[.string (strOf (linesT L ++ r))] w (Sk w (.string (strOf (linesT L)))) := by
 have hn : (strOf (linesT L ++ r)).size = (linesT L ++ r).length := strOf_size _
 have hle : (linesT L).length ≤ (linesT L ++ r).length := by simp
 have HL : Hid (∀ W, Calls Tryz.prog 84 #[.string (strOf (linesT L ++ r)), .string ⟨#[10]⟩] W (Sk W (.int .i64 (((linesT L).length : Int) - 1)))) := fun W => by
  have h := lastIndex_any (strOf (linesT L ++ r)) (by omega) W
  have e : lastTen (strOf (linesT L ++ r)).data.toList (strOf (linesT L ++ r)).size = ((linesT L).length : Int) - 1 := by
   have := last_lines (L := L) hr
   rw [strOf_list, hn]; omega
  rw [e] at h
  exact h
 have HE : Hid (∀ m : Nat, m = (linesT L).length → (strOf (linesT L ++ r)).extract 0 m = strOf (linesT L)) := fun m h => by rw [strOf_take, h, List.take_left]
 obtain ⟨m, hm⟩ := nm ((linesT L).length)
 have HE' := hide (HE.out m hm)
 rw [← hm] at HL hle
 have h1 : (m : Int) ≤ ((strOf (linesT L ++ r)).size : Int) := by omega
 have h0 : (0 : Int) ≤ (m : Int) := by omega
 have h2 : (m : Int) ≤ 1000000 := by omega
 obtain ⟨s, hs⟩ := nm (strOf (linesT L ++ r))
 rw [← hs] at HL HE' h1 ⊢
 clear hs hm HE hn hle hz
 go_enter Tryz.func58, Tryz.ntmps58
 go_wp2_with (go_at_call 84; refine (HL.out _).mono ?_; rintro e w' ⟨rfl, rfl⟩)
 go_ret
 refine ⟨?_, rfl⟩
 rw [← HE'.out]
 first | rfl | (congr 1; congr 1; omega)
end Go.Proofs.YtnoohlibgaeklaaGreatDoor
