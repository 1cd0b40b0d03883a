/-
  Proved: what fields.Mask returns, of any row of signs; what was in memory is as it was (contracts that the statements lean on).
  Plain facts on a block of memory, whole: what lies in it, behind a call, behind a store; eight numbers and a world as blocks. (What the contracts of package fields lean on.)
  Plain facts on two numbers, as a block of memory (what the contracts of chapter 14 lean on).
  Proved: two numbers, the least and the most, are the same as themselves (the model's comparison of structs, at equal values).
  Plain facts on atoms (chapter 3): the fault of one, and whether it holds. No program is read here.
  Plain facts on formulas as atoms and rows of signs (chapter 4): how many formulas a row makes, its fault, the pile that it works out, its opposite, and two together. No program is read here.
  Plain facts on fields and formulas (chapter 6): whether a formula holds in a world hangs on how many things lie in each field alone. No program is read here.
-/
import Derived.Test.YtgkgbpbohgklhagDoorLibS3
import Derived.Test.YtgkgbpbohgklhagDoorLibS2
import Derived.Handy
import Derived.Laws.ResultCell
import Derived.ChangeKeysEq
import Derived.Laws.StructEq
import Derived.Test.YtgkgbpbohgklhagDoorLibS1
namespace Go.Proofs.YtgkgbpbohgklhagDoor
open Go.ChangeShapes Go.WideShapes Go.ChangeAt Go.RowKit

/-- where the term lies, 2^f for each field, added up; 0, if it is none. -/
def maskN (t : List Int) : Int := if faultN t = 0 then maskTo (liesB t) 8 else 0
theorem with_one (f : Nat) (hf : f < 8) (w : World) :
    Calls Tryd.prog 75 #[.agg #[.int .i64 0, .int .i64 0, .int .i64 0, .int .i64 0], .int .i64 f] w fun e w' => e = .returned (.agg #[.int .i64 1, .int .i64 (oneW f).a, .int .i64 (oneW f).b, .int .i64 (oneW f).c]) ∧ Below w.heap.size w w' :=
  with_field 0 0 0 0 f (by decide) (by omega) hf w
theorem one_value (t : List Int) (v : Value) (f : Nat) (w : World) (h : Reads w v t) :
    Calls Tryd.prog 20 #[v, .agg #[.int .i64 1, .int .i64 (oneW f).a, .int .i64 (oneW f).b, .int .i64 (oneW f).c]] w fun e w' => e = .returned (.tuple #[.int .i64 (if faultN t = 0 then oneB (liesB t f) else 0), errV (faultN t)]) ∧ Below w.heap.size w w' := by
  have hv := value_any t v 1 (oneW f).a (oneW f).b (oneW f).c w h
  have e : (Wd.mk 1 (oneW f).a (oneW f).b (oneW f).c) = oneW f := rfl
  rw [e] at hv
  have e1 : (oneW f).answer t = if faultN t = 0 then oneB (liesB t f) else 0 := by unfold Wd.answer; rw [if_pos (oneW_ok f), oneW_val]
  have e2 : (oneW f).fault t = faultN t := by
    unfold Wd.fault; rw [if_pos (oneW_ok f)]
    split
    · rename_i h0; exact h0.symm
    · rfl
  rw [e1, e2] at hv
  exact hv
theorem or_mask1 : ∀ k : Nat, k < 8 → ∀ m : Nat, m < 2 ^ k → ∀ x, bits .or .i64 (m : Int) (wrap64 (oneB x * 2 ^ k)) = (m : Int) + oneB x * pw k := by decide +kernel
theorem or_mask (L : Nat → Bool) {k : Nat} (hk : k < 8) : bits .or .i64 (maskTo L k) (wrap64 (oneB (L k) * 2 ^ k)) = maskTo L (k + 1) := by
  obtain ⟨m0, m1⟩ := maskTo_le L k
  obtain ⟨m, hm⟩ := Int.eq_ofNat_of_zero_le m0
  have hp : pw k = ((2 ^ k : Nat) : Int) := by unfold pw; simp
  have h := or_mask1 k hk m (by rw [hm, hp] at m1; omega) (L k)
  show _ = maskTo L k + oneB (L k) * pw k
  rw [hm]; exact h

set_option maxRecDepth 100000 in
set_option maxHeartbeats 4000000 in
theorem mask_any (t : List Int) (v : Value) (w : World) (h : Reads w v t) :
    Calls Tryd.prog 71 #[v] w fun e w' => e = .returned (.tuple #[.int .i64 (maskN t), errV (faultN t)]) ∧ Below w.heap.size w w' := by
  have HV : Hid (∀ f W, Below w.heap.size w W → Calls Tryd.prog 20 #[v, .agg #[.int .i64 1, .int .i64 (oneW f).a, .int .i64 (oneW f).b, .int .i64 (oneW f).c]] W fun e w' => e = .returned (.tuple #[.int .i64 (if faultN t = 0 then oneB (liesB t f) else 0), errV (faultN t)]) ∧ Below W.heap.size W w') := fun f W hb => one_value t v f W (h.below hb)
  clear h
  by_cases hf : faultN t = 0
  · have e1 : maskN t = maskTo (liesB t) 8 := by unfold maskN; rw [if_pos hf]
    have e2 : errV (faultN t) = .nilIface := by rw [hf]; rfl
    rw [e1, e2]
    rw [e2] at HV
    simp only [if_pos hf] at HV
    clear e1 e2 hf
    obtain ⟨L, hL⟩ : ∃ L, L = liesB t := ⟨_, rfl⟩
    rw [← hL] at HV ⊢
    clear hL
    go_enter Tryd.func71, Tryd.ntmps71
    go_wp2
    go_loopw [4, 8] (fun m i wr => ∃ k : Nat, k ≤ 8 ∧ i = .int .i64 k ∧ m = .int .i64 (maskTo L k) ∧ Below w.heap.size w wr) (fun _ i _ => 8 - (intOf i).toNat)
    case atStart => exact ⟨0, Nat.zero_le _, rfl, rfl, Below.refl _ _⟩
    case round =>
      obtain ⟨k, hk, rfl, rfl, hb⟩ := hrel
      have HB : Hid (Below w.heap.size w wr) := hb
      clear hb
      by_cases hlt : k < 8
      · have HS : Hid (bits .or .i64 (maskTo L k) (wrap64 (oneB (L k) * 2 ^ k)) = maskTo L (k + 1)) := or_mask L hlt
        go_wp2_with fail
        go_at_call 75
        refine (with_one k hlt _).mono ?_
        rintro e w2 ⟨rfl, hb2⟩
        have HB2 : Hid (Below w.heap.size w w2) := HB.out.trans (hb2.mono HB.out.size)
        clear hb2
        go_wp2_with fail
        go_at_call 20
        refine (HV.out k w2 HB2.out).mono ?_
        rintro e w3 ⟨rfl, hb3⟩
        have HB3 : Hid (Below w.heap.size w w3) := HB2.out.trans (hb3.mono HB2.out.size)
        clear hb3
        go_wp2
        go_roundw
        case rel => exact ⟨k + 1, by omega, by go_num, by rw [HS.out], HB3.out⟩
        case measure => simp [intOf]; omega
      · obtain rfl : k = 8 := by omega
        go_wp2
        go_ret2
        exact ⟨rfl, HB.out⟩
  · have e1 : maskN t = 0 := by unfold maskN; rw [if_neg hf]
    have e2 : errV (faultN t) = .iface 64 (.int .i64 (faultN t)) := by unfold errV; rw [if_neg hf]
    rw [e1, e2]
    rw [e2] at HV
    simp only [if_neg hf] at HV
    clear e1 e2 hf
    obtain ⟨F, hF⟩ : ∃ F, F = faultN t := ⟨_, rfl⟩
    rw [← hF] at HV ⊢
    clear hF
    go_enter Tryd.func71, Tryd.ntmps71
    go_wp2
    refine wp_loop_rounds 1 ?_
    rw [rounds_succ]
    go_wp2_with fail
    go_at_call 75
    refine (with_one 0 (by omega) _).mono ?_
    rintro e w2 ⟨rfl, hb2⟩
    have HB2 : Hid (Below w.heap.size w w2) := hb2
    clear hb2
    go_wp2_with fail
    go_at_call 20
    refine (HV.out 0 w2 HB2.out).mono ?_
    rintro e w3 ⟨rfl, hb3⟩
    have HB3 : Hid (Below w.heap.size w w3) := HB2.out.trans (hb3.mono HB2.out.size)
    clear hb3
    go_wp2
    go_ret2
    exact ⟨rfl, HB3.out⟩
end Go.Proofs.YtgkgbpbohgklhagDoor

namespace Go.Proofs.YtgkgbpbohgklhagDoor
open Go.ChangeShapes Go.WideShapes Go.ChangeAt Go.RowKit

/-- block G holds the cells cs, and all of them may be written. -/
def Blk (w : World) (G : Nat) (T : TypeId) (cs : Array Value) : Prop := w.heap[G]? = some (.cells cs T (0, 0))
theorem Blk.lt {w : World} {G : Nat} {T : TypeId} {cs : Array Value} (h : Blk w G T cs) : G < w.heap.size := (Array.getElem?_eq_some_iff.1 h).1
theorem Blk.below {w w' : World} {G : Nat} {T : TypeId} {cs : Array Value} (h : Blk w G T cs) (hb : Below w.heap.size w w') : Blk w' G T cs := by
  unfold Blk; rw [hb.block G h.lt]; exact h
theorem Blk.cell {w : World} {G : Nat} {T : TypeId} {cs : Array Value} (h : Blk w G T cs) (j : Nat) : w.cell? ⟨G, j, none⟩ = cs[j]? := cell_of_row w G j cs T (0, 0) h
theorem Blk.frozen {w : World} {G : Nat} {T : TypeId} {cs : Array Value} (h : Blk w G T cs) (j : Nat) : w.frozen? ⟨G, j, none⟩ = false := frozen_of_row w G j cs T h
theorem Blk.set {w : World} {G : Nat} {T : TypeId} {cs : Array Value} (h : Blk w G T cs) (j : Nat) (u : Value) : Blk (w.setCell ⟨G, j, none⟩ u) G T (cs.setIfInBounds j u) := heap_setCell_same w G j cs T u h
theorem Blk.far {w : World} {G : Nat} {T : TypeId} {cs : Array Value} (h : Blk w G T cs) {R : Nat} (hR : G ≠ R) (j : Nat) (u : Value) : Blk (w.setCell ⟨R, j, none⟩ u) G T cs := by
  unfold Blk; rw [heap_setCell_other w ⟨R, j, none⟩ G u hR]; exact h
theorem Blk.drew {w : World} {G : Nat} {T : TypeId} {cs : Array Value} (h : Blk w G T cs) : Blk w.drew G T cs := h
theorem Blk.new (w : World) (T : TypeId) (cs : Array Value) : Blk (w.alloc (.cells cs T)) w.heap.size T cs := heap_alloc_new w _
theorem Blk.old {w : World} {G : Nat} {T : TypeId} {cs : Array Value} (h : Blk w G T cs) (o : Obj) : Blk (w.alloc o) G T cs := by
  unfold Blk; rw [heap_alloc_old w o h.lt]; exact h

/-- eight numbers. -/
def arr8 (N : Nat → Int) : Array Value := #[.int .i64 (N 0), .int .i64 (N 1), .int .i64 (N 2), .int .i64 (N 3), .int .i64 (N 4), .int .i64 (N 5), .int .i64 (N 6), .int .i64 (N 7)]
theorem arr8_get (N : Nat → Int) {f : Nat} (hf : f < 8) : (arr8 N)[f]? = some (.int .i64 (N f)) := by
  rcases eight hf with rfl | rfl | rfl | rfl | rfl | rfl | rfl | rfl <;> rfl
theorem arr8_one (N : Nat → Int) {f : Nat} (hf : f < 8) : (arr8 N).setIfInBounds f (.int .i64 (N f + 1)) = arr8 (fun g => N g + if f = g then 1 else 0) := by
  rcases eight hf with rfl | rfl | rfl | rfl | rfl | rfl | rfl | rfl <;> simp [arr8]
theorem arr8_same {N M : Nat → Int} (h : ∀ f, f < 8 → N f = M f) : arr8 N = arr8 M := by
  unfold arr8
  rw [h 0 (by omega), h 1 (by omega), h 2 (by omega), h 3 (by omega), h 4 (by omega), h 5 (by omega), h 6 (by omega), h 7 (by omega)]
theorem arr8_all (N M : Nat → Int) : ((((((((arr8 N).setIfInBounds 0 (.int .i64 (M 0))).setIfInBounds 1 (.int .i64 (M 1))).setIfInBounds 2 (.int .i64 (M 2))).setIfInBounds 3 (.int .i64 (M 3))).setIfInBounds 4 (.int .i64 (M 4))).setIfInBounds 5 (.int .i64 (M 5))).setIfInBounds 6 (.int .i64 (M 6))).setIfInBounds 7 (.int .i64 (M 7)) = arr8 M := by
  simp [arr8]
/-- a world's four numbers. -/
def arrW (w : Wd) : Array Value := #[.int .i64 w.u, .int .i64 w.a, .int .i64 w.b, .int .i64 w.c]

theorem load8 {W : World} {R : Nat} {N : Nat → Int} (h : Blk W R 81 (arr8 N)) : (loadVar 81 ⟨R, 0, none⟩).run Tryd.prog W = .ok (.agg (arr8 N)) W := by
  have hl := run_loadCells_list (P := Tryd.prog) W ⟨R, 0, none⟩ (arr8 N).toList (fun j v hj => by
    have := h.cell j
    rw [← Array.getElem?_toList] at this
    rw [hj] at this
    have ha : (⟨R, 0, none⟩ : Addr).add j = ⟨R, j, none⟩ := by unfold Addr.add; split <;> simp_all
    rw [ha]; exact this)
  simp [loadVar, Tryd.isAgg81, Tryd.sizeOf81, Result.andThen, arr8] at hl ⊢
  simp [hl]
theorem Blk.cells8 {w : World} {G : Nat} {T : TypeId} {N : Nat → Int} (h : Blk w G T (arr8 N)) : w.cell? ⟨G, 0, none⟩ = some (.int .i64 (N 0)) ∧ w.cell? ⟨G, 1, none⟩ = some (.int .i64 (N 1)) ∧ w.cell? ⟨G, 2, none⟩ = some (.int .i64 (N 2)) ∧ w.cell? ⟨G, 3, none⟩ = some (.int .i64 (N 3)) ∧ w.cell? ⟨G, 4, none⟩ = some (.int .i64 (N 4)) ∧ w.cell? ⟨G, 5, none⟩ = some (.int .i64 (N 5)) ∧ w.cell? ⟨G, 6, none⟩ = some (.int .i64 (N 6)) ∧ w.cell? ⟨G, 7, none⟩ = some (.int .i64 (N 7)) :=
  ⟨h.cell 0, h.cell 1, h.cell 2, h.cell 3, h.cell 4, h.cell 5, h.cell 6, h.cell 7⟩
theorem Blk.frozen8 {w : World} {G : Nat} {T : TypeId} {cs : Array Value} (h : Blk w G T cs) : w.frozen? ⟨G, 0, none⟩ = false ∧ w.frozen? ⟨G, 1, none⟩ = false ∧ w.frozen? ⟨G, 2, none⟩ = false ∧ w.frozen? ⟨G, 3, none⟩ = false ∧ w.frozen? ⟨G, 4, none⟩ = false ∧ w.frozen? ⟨G, 5, none⟩ = false ∧ w.frozen? ⟨G, 6, none⟩ = false ∧ w.frozen? ⟨G, 7, none⟩ = false :=
  ⟨h.frozen 0, h.frozen 1, h.frozen 2, h.frozen 3, h.frozen 4, h.frozen 5, h.frozen 6, h.frozen 7⟩
theorem Blk.cells4 {w : World} {G : Nat} {T : TypeId} {W : Wd} (h : Blk w G T (arrW W)) : w.cell? ⟨G, 0, none⟩ = some (.int .i64 W.u) ∧ w.cell? ⟨G, 1, none⟩ = some (.int .i64 W.a) ∧ w.cell? ⟨G, 2, none⟩ = some (.int .i64 W.b) ∧ w.cell? ⟨G, 3, none⟩ = some (.int .i64 W.c) :=
  ⟨h.cell 0, h.cell 1, h.cell 2, h.cell 3⟩
theorem Blk.frozen4 {w : World} {G : Nat} {T : TypeId} {cs : Array Value} (h : Blk w G T cs) : w.frozen? ⟨G, 0, none⟩ = false ∧ w.frozen? ⟨G, 1, none⟩ = false ∧ w.frozen? ⟨G, 2, none⟩ = false ∧ w.frozen? ⟨G, 3, none⟩ = false :=
  ⟨h.frozen 0, h.frozen 1, h.frozen 2, h.frozen 3⟩
/-- eight numbers, and a world, written into a block. -/
def put8 (w : World) (R : Nat) (M : Nat → Int) : World := (((((((w.setCell ⟨R, 0, none⟩ (.int .i64 (M 0))).setCell ⟨R, 1, none⟩ (.int .i64 (M 1))).setCell ⟨R, 2, none⟩ (.int .i64 (M 2))).setCell ⟨R, 3, none⟩ (.int .i64 (M 3))).setCell ⟨R, 4, none⟩ (.int .i64 (M 4))).setCell ⟨R, 5, none⟩ (.int .i64 (M 5))).setCell ⟨R, 6, none⟩ (.int .i64 (M 6))).setCell ⟨R, 7, none⟩ (.int .i64 (M 7))
def putW (w : World) (R : Nat) (M : Wd) : World := (((w.setCell ⟨R, 0, none⟩ (.int .i64 M.u)).setCell ⟨R, 1, none⟩ (.int .i64 M.a)).setCell ⟨R, 2, none⟩ (.int .i64 M.b)).setCell ⟨R, 3, none⟩ (.int .i64 M.c)
theorem put8_blk {w : World} {R : Nat} {T : TypeId} {N : Nat → Int} (h : Blk w R T (arr8 N)) (M : Nat → Int) : Blk (put8 w R M) R T (arr8 M) := by
  have := (((((((h.set 0 (.int .i64 (M 0))).set 1 (.int .i64 (M 1))).set 2 (.int .i64 (M 2))).set 3 (.int .i64 (M 3))).set 4 (.int .i64 (M 4))).set 5 (.int .i64 (M 5))).set 6 (.int .i64 (M 6))).set 7 (.int .i64 (M 7))
  rw [arr8_all] at this
  exact this
theorem put8_far {w : World} {R : Nat} {G : Nat} {T : TypeId} {cs : Array Value} (h : Blk w G T cs) (hR : G ≠ R) (M : Nat → Int) : Blk (put8 w R M) G T cs :=
  (((((((h.far hR 0 _).far hR 1 _).far hR 2 _).far hR 3 _).far hR 4 _).far hR 5 _).far hR 6 _).far hR 7 _
theorem put8_below {B : Nat} {w w' : World} {R : Nat} (h : Below B w w') (hR : B ≤ R) (M : Nat → Int) : Below B w (put8 w' R M) :=
  (((((((h.setCell hR _).setCell hR _).setCell hR _).setCell hR _).setCell hR _).setCell hR _).setCell hR _).setCell hR _
theorem putW_blk {w : World} {R : Nat} {T : TypeId} {N : Wd} (h : Blk w R T (arrW N)) (M : Wd) : Blk (putW w R M) R T (arrW M) := by
  have := (((h.set 0 (.int .i64 M.u)).set 1 (.int .i64 M.a)).set 2 (.int .i64 M.b)).set 3 (.int .i64 M.c)
  have e : ((((arrW N).setIfInBounds 0 (.int .i64 M.u)).setIfInBounds 1 (.int .i64 M.a)).setIfInBounds 2 (.int .i64 M.b)).setIfInBounds 3 (.int .i64 M.c) = arrW M := by simp [arrW]
  rw [e] at this
  exact this
theorem putW_far {w : World} {R : Nat} {G : Nat} {T : TypeId} {cs : Array Value} (h : Blk w G T cs) (hR : G ≠ R) (M : Wd) : Blk (putW w R M) G T cs :=
  (((h.far hR 0 _).far hR 1 _).far hR 2 _).far hR 3 _
theorem putW_below {B : Nat} {w w' : World} {R : Nat} (h : Below B w w') (hR : B ≤ R) (M : Wd) : Below B w (putW w' R M) :=
  (((h.setCell hR _).setCell hR _).setCell hR _).setCell hR _
theorem loadW {W : World} {R : Nat} {M : Wd} (h : Blk W R 37 (arrW M)) : (loadVar 37 ⟨R, 0, none⟩).run Tryd.prog W = .ok (.agg (arrW M)) W := by
  have hl := run_loadCells_list (P := Tryd.prog) W ⟨R, 0, none⟩ (arrW M).toList (fun j v hj => by
    have := h.cell j
    rw [← Array.getElem?_toList] at this
    rw [hj] at this
    have ha : (⟨R, 0, none⟩ : Addr).add j = ⟨R, j, none⟩ := by unfold Addr.add; split <;> simp_all
    rw [ha]; exact this)
  simp [loadVar, Tryd.isAgg37, Tryd.sizeOf37, Result.andThen, arrW] at hl ⊢
  simp [hl]
end Go.Proofs.YtgkgbpbohgklhagDoor

namespace Go.Proofs.YtgkgbpbohgklhagDoor
open Go.ChangeShapes Go.WideShapes Go.ChangeAt Go.RowKit

/-- two numbers: the least, and the most. -/
def arrP (p : Int × Int) : Array Value := #[.int .i64 p.1, .int .i64 p.2]
def putP (w : World) (R : Nat) (p : Int × Int) : World := (w.setCell ⟨R, 0, none⟩ (.int .i64 p.1)).setCell ⟨R, 1, none⟩ (.int .i64 p.2)
theorem putP_blk {w : World} {R : Nat} {T : TypeId} {q : Int × Int} (h : Blk w R T (arrP q)) (p : Int × Int) : Blk (putP w R p) R T (arrP p) := by
  have := (h.set 0 (.int .i64 p.1)).set 1 (.int .i64 p.2)
  have e : ((arrP q).setIfInBounds 0 (.int .i64 p.1)).setIfInBounds 1 (.int .i64 p.2) = arrP p := by simp [arrP]
  rw [e] at this
  exact this
theorem putP_below {B : Nat} {w w' : World} {R : Nat} (h : Below B w w') (hR : B ≤ R) (p : Int × Int) : Below B w (putP w' R p) := (h.setCell hR _).setCell hR _
theorem loadP {W : World} {R : Nat} {p : Int × Int} (h : Blk W R 48 (arrP p)) : (loadVar 48 ⟨R, 0, none⟩).run Tryd.prog W = .ok (.agg (arrP p)) W := by
  have hl := run_loadCells_list (P := Tryd.prog) W ⟨R, 0, none⟩ (arrP p).toList (fun j v hj => by
    have := h.cell j
    rw [← Array.getElem?_toList] at this
    rw [hj] at this
    have ha : (⟨R, 0, none⟩ : Addr).add j = ⟨R, j, none⟩ := by unfold Addr.add; split <;> simp_all
    rw [ha]; exact this)
  simp [loadVar, Tryd.isAgg48, Tryd.sizeOf48, Result.andThen, arrP] at hl ⊢
  simp [hl]
theorem Blk.cells2 {w : World} {G : Nat} {T : TypeId} {p : Int × Int} (h : Blk w G T (arrP p)) : w.cell? ⟨G, 0, none⟩ = some (.int .i64 p.1) ∧ w.cell? ⟨G, 1, none⟩ = some (.int .i64 p.2) := ⟨h.cell 0, h.cell 1⟩
theorem Blk.frozen2 {w : World} {G : Nat} {T : TypeId} {cs : Array Value} (h : Blk w G T cs) : w.frozen? ⟨G, 0, none⟩ = false ∧ w.frozen? ⟨G, 1, none⟩ = false := ⟨h.frozen 0, h.frozen 1⟩
end Go.Proofs.YtgkgbpbohgklhagDoor

namespace Go.Proofs.YtgkgbpbohgklhagDoor
open Go.ChangeShapes Go.WideShapes Go.ChangeAt Go.RowKit
set_option maxRecDepth 100000

theorem guardP : Tryd.prog.eqGuardType Tryd.prog.depth 48 = false := by kernel_rfl
theorem stoodP : Tryd.prog.stoodInHeld 48 = false := by kernel_rfl
theorem plainP : Tryd.prog.plainKey 3 = true := by kernel_rfl
theorem equalInP (u a : Int) (d : Nat) (w : World) : (Op.equalIn (d + 3) 48 (.agg #[.int .i64 u, .int .i64 a]) (.agg #[.int .i64 u, .int .i64 a])).run Tryd.prog w = .ok true w := by
  have hs : Tryd.prog.underlying 48 = some (.struct (Tryd.prog.fieldsOf 48)) := by kernel_rfl
  rw [run_equalIn_struct w (d + 2) 48 _ _ hs stoodP]
  have p1 : (part 3 #[.int .i64 u, .int .i64 a] 0).run Tryd.prog w = .ok (.int .i64 u) w := run_part_plain w plainP rfl
  have q1 : (Op.equalIn (d + 2) 3 (.int .i64 u) (.int .i64 u)).run Tryd.prog w = .ok true w := by
    rw [run_equalIn_int w (d + 1) 3 .i64 .i64 u u Tryd.underlying3]; simp
  have p2 : (part 3 #[.int .i64 u, .int .i64 a] 1).run Tryd.prog w = .ok (.int .i64 a) w := run_part_plain w plainP rfl
  have q2 : (Op.equalIn (d + 2) 3 (.int .i64 a) (.int .i64 a)).run Tryd.prog w = .ok true w := by
    rw [run_equalIn_int w (d + 1) 3 .i64 .i64 a a Tryd.underlying3]; simp
  have ef : (Tryd.prog.fieldsOf 48).toList.map (fun f => (f.name, f.type, f.offset)) = [("Least", 3, 0), ("Most", 3, 1)] := by kernel_rfl
  generalize (Tryd.prog.fieldsOf 48).toList = fs at ef ⊢
  match fs, ef with
  | [f, g], ef =>
    simp only [List.map_cons, List.map_nil, List.cons.injEq, Prod.mk.injEq, and_true] at ef
    obtain ⟨⟨n1, t1, o1⟩, n2, t2, o2⟩ := ef
    simp [Op.eqFields, n1, n2, t1, t2, o1, o2, Sem.run_bind, p1, q1, p2, q2, Result.andThen_ok]
  | [], ef => simp at ef
  | [_], ef => simp at ef
  | _ :: _ :: _ :: _, ef => simp at ef
/-- x == x, of two numbers. -/
theorem sameP (u a : Int) (w : World) : (binOp .eql 48 (.agg #[.int .i64 u, .int .i64 a]) (.agg #[.int .i64 u, .int .i64 a])).run Tryd.prog w = .ok (.bool true) w := by
  rw [run_eql_struct]
  rw [equalInP u a 9997 w]
  simp
end Go.Proofs.YtgkgbpbohgklhagDoor

namespace Go.Proofs.YtgkgbpbohgklhagDoor
open Go.RowKit

/-- has a kind a second term? a number? -/
def secondB (k : Int) : Bool := decide (k = 1 ∨ k = 2 ∨ k = 5)
def numberB (k : Int) : Bool := decide (k = 3 ∨ k = 4 ∨ k = 5)
/-- what is wrong with the second term. -/
def secondFault (k : Int) (t : List Int) : Int := if secondB k = true then faultN t else if 0 < t.length then 3 else 0
/-- how great a number may be. -/
def mostN (k : Int) : Int := if numberB k = true then 20 else 0
/-- what is wrong with an atom. -/
def atomFault (k : Int) (s t : List Int) (n : Int) : Int :=
  if 1 ≤ k ∧ k ≤ 5 then (if faultN s = 0 then (if secondFault k t = 0 then (if - mostN k ≤ n ∧ n ≤ mostN k then 0 else 1) else secondFault k t) else faultN s) else 1
/-- what an atom says of two sets. -/
def saysB (k n x y : Int) : Bool :=
  if k = 1 then decide (lessN x y = 0) else if k = 2 then decide (x = y) else if k = 3 then decide (n ≤ pcN x) else if k = 4 then decide (pcN x ≤ n) else decide (pcN x ≤ pcN y + n)
/-- the set of the second term, where there is one. -/
def Wd.snd (w : Wd) (k : Int) (t : List Int) : Int := if secondB k = true then w.val t else 0
/-- does it hold? -/
def Wd.holds (w : Wd) (k : Int) (s t : List Int) (n : Int) : Bool := saysB k n (w.val s) (w.snd k t)
/-- what Holds tells: the number of the error, and the answer. -/
def Wd.holdsFault (w : Wd) (k : Int) (s t : List Int) (n : Int) : Int := if atomFault k s t n = 0 then (if w.ok = true then 0 else 1) else atomFault k s t n
def Wd.holdsIs (w : Wd) (k : Int) (s t : List Int) (n : Int) : Bool := if w.holdsFault k s t n = 0 then w.holds k s t n else false

theorem five {k : Int} (h0 : 1 ≤ k) (h1 : k ≤ 5) : k = 1 ∨ k = 2 ∨ k = 3 ∨ k = 4 ∨ k = 5 := by omega
theorem atomFault_kind {k : Int} (h : ¬ (1 ≤ k ∧ k ≤ 5)) (s t : List Int) (n : Int) : atomFault k s t n = 1 := by unfold atomFault; rw [if_neg h]
theorem atomFault_first {k : Int} (h : 1 ≤ k ∧ k ≤ 5) {s : List Int} (hs : ¬ faultN s = 0) (t : List Int) (n : Int) : atomFault k s t n = faultN s := by unfold atomFault; rw [if_pos h, if_neg hs]
theorem atomFault_second {k : Int} (h : 1 ≤ k ∧ k ≤ 5) {s : List Int} (hs : faultN s = 0) {t : List Int} (ht : ¬ secondFault k t = 0) (n : Int) : atomFault k s t n = secondFault k t := by unfold atomFault; rw [if_pos h, if_pos hs, if_neg ht]
theorem atomFault_third {k : Int} (h : 1 ≤ k ∧ k ≤ 5) {s : List Int} (hs : faultN s = 0) {t : List Int} (ht : secondFault k t = 0) (n : Int) : atomFault k s t n = if - mostN k ≤ n ∧ n ≤ mostN k then 0 else 1 := by unfold atomFault; rw [if_pos h, if_pos hs, if_pos ht]
theorem atomFault_zero {k : Int} {s t : List Int} {n : Int} : atomFault k s t n = 0 ↔ (1 ≤ k ∧ k ≤ 5) ∧ faultN s = 0 ∧ secondFault k t = 0 ∧ - mostN k ≤ n ∧ n ≤ mostN k := by
  by_cases h : 1 ≤ k ∧ k ≤ 5
  · by_cases hs : faultN s = 0
    · by_cases ht : secondFault k t = 0
      · rw [atomFault_third h hs ht]
        by_cases hn : - mostN k ≤ n ∧ n ≤ mostN k
        · rw [if_pos hn]; exact ⟨fun _ => ⟨h, hs, ht, hn⟩, fun _ => rfl⟩
        · rw [if_neg hn]; exact ⟨fun h => (by cases h), fun h' => absurd h'.2.2.2 hn⟩
      · rw [atomFault_second h hs ht]; exact ⟨fun h' => absurd h' ht, fun h' => absurd h'.2.2.1 ht⟩
    · rw [atomFault_first h hs]; exact ⟨fun h' => absurd h' hs, fun h' => absurd h'.2.1 hs⟩
  · rw [atomFault_kind h]; exact ⟨fun h' => (by cases h'), fun h' => absurd h'.1 h⟩
theorem second_reads {k : Int} {t : List Int} (ht : secondFault k t = 0) : secondB k = true → faultN t = 0 := by
  intro h'
  unfold secondFault at ht
  rw [if_pos h'] at ht
  exact ht

/-! ### none has fewer than none, nor more than all -/
theorem none_all {w : Wd} (hw : w.ok = true) (s : List Int) : lessN (w.val s) (allN w.u) = 0 := by
  have h := ok_val hw s
  exact uptoSets (P := fun u a _ => lessN a (allN u) = 0) (by decide +kernel) w.u (w.val s) (w.val s) h h
theorem none_size {w : Wd} (hw : w.ok = true) (s : List Int) : pcN (w.val s) ≤ w.u := by
  have h := ok_val hw s
  exact uptoSets (P := fun u a _ => pcN a ≤ u) (by decide +kernel) w.u (w.val s) (w.val s) h h
end Go.Proofs.YtgkgbpbohgklhagDoor

namespace Go.Proofs.YtgkgbpbohgklhagDoor
open Go.RowKit

/-- how many formulas a sign takes. -/
def takesF (s : Int) : Int := if s = 10 ∨ s = 11 ∨ s = 13 then 2 else if s = 12 then 1 else 0
/-- is it a sign, where there are so many atoms? -/
def signF (m : Nat) (s : Int) : Bool := !(decide (takesF s = 0) && (decide (s < 0) || decide ((m : Int) ≤ s)))
/-- how many formulas there are behind a row of signs; none: a sign takes more than there are. -/
def cntF : List Int → Int → Option Int
  | [], n => some n
  | s :: l, n => if n < takesF s then none else cntF l (n + 1 - takesF s)
/-- an atom. -/
structure At where
  k : Int
  s : List Int
  t : List Int
  n : Int
def At.fault (a : At) : Int := atomFault a.k a.s a.t a.n
/-- what is wrong with the first atom that is none. -/
def firstFault : List At → Int
  | [] => 0
  | a :: l => if a.fault = 0 then firstFault l else a.fault
/-- what is wrong with a formula: the number of the error, or 0. -/
def formFault (ats : List At) (c : List Int) : Int :=
  if ats.length = 0 ∨ c.length = 0 then 5 else if 6 < ats.length ∨ 20 < c.length then 4 else if firstFault ats = 0 then (if c.all (signF ats.length) = true then (if cntF c 0 = some 1 then 0 else 3) else 1) else firstFault ats

theorem takesF_range (s : Int) : 0 ≤ takesF s ∧ takesF s ≤ 2 := by unfold takesF; split <;> (try split) <;> omega
theorem takesF_leaf {s : Int} (h : takesF s = 0) : s ≠ 10 ∧ s ≠ 11 ∧ s ≠ 12 ∧ s ≠ 13 := by
  unfold takesF at h
  split at h
  · omega
  · split at h <;> omega
theorem takesF_low {s : Int} (h : s < 10) : takesF s = 0 := by unfold takesF; rw [if_neg (by omega), if_neg (by omega)]
theorem signF_iff {m : Nat} {s : Int} : signF m s = true ↔ (takesF s ≠ 0 ∨ (0 ≤ s ∧ s < m)) := by
  unfold signF
  by_cases h : takesF s = 0
  · simp [h]
  · simp [h]
theorem firstFault_zero {ats : List At} : firstFault ats = 0 ↔ ∀ a ∈ ats, a.fault = 0 := by
  induction ats with
  | nil => simp [firstFault]
  | cons a l ih =>
    unfold firstFault
    by_cases h : a.fault = 0
    · rw [if_pos h, ih]; simp [h]
    · rw [if_neg h]; simp [h]
theorem formFault_zero {ats : List At} {c : List Int} : formFault ats c = 0 ↔ (1 ≤ ats.length ∧ ats.length ≤ 6) ∧ (1 ≤ c.length ∧ c.length ≤ 20) ∧ (∀ a ∈ ats, a.fault = 0) ∧ c.all (signF ats.length) = true ∧ cntF c 0 = some 1 := by
  unfold formFault
  by_cases h1 : ats.length = 0 ∨ c.length = 0
  · rw [if_pos h1]; exact ⟨fun h => (by cases h), fun h => by omega⟩
  rw [if_neg h1]
  by_cases h2 : 6 < ats.length ∨ 20 < c.length
  · rw [if_pos h2]; exact ⟨fun h => (by cases h), fun h => by omega⟩
  rw [if_neg h2]
  by_cases h3 : firstFault ats = 0
  · rw [if_pos h3]
    by_cases h4 : c.all (signF ats.length) = true
    · rw [if_pos h4]
      by_cases h5 : cntF c 0 = some 1
      · rw [if_pos h5]; exact ⟨fun _ => ⟨by omega, by omega, firstFault_zero.1 h3, h4, h5⟩, fun _ => rfl⟩
      · rw [if_neg h5]; exact ⟨fun h => (by cases h), fun h => absurd h.2.2.2.2 h5⟩
    · rw [if_neg h4]; exact ⟨fun h => (by cases h), fun h => absurd h.2.2.2.1 h4⟩
  · rw [if_neg h3]; exact ⟨fun h => absurd h h3, fun h => absurd (firstFault_zero.2 h.2.2.1) h3⟩

theorem cntF_append (a b : List Int) (n : Int) : cntF (a ++ b) n = (cntF a n).bind (cntF b) := by
  induction a generalizing n with
  | nil => rfl
  | cons s l ih =>
    simp only [List.cons_append, cntF]
    split
    · rfl
    · exact ih _
theorem cntF_nonneg {l : List Int} {n m : Int} (hn : 0 ≤ n) (h : cntF l n = some m) : 0 ≤ m ∧ m ≤ n + l.length := by
  induction l generalizing n with
  | nil => simp [cntF] at h; subst h; simp; omega
  | cons s l ih =>
    have := takesF_range s
    unfold cntF at h
    split at h
    · cases h
    · have := ih (by omega) h
      simp; omega
theorem takeF_succ (t : List Int) {k : Nat} (h : k < t.length) : t.take (k + 1) = t.take k ++ [t.getD k 0] := by
  rw [List.take_add_one]; simp [List.getElem?_eq_getElem h]
theorem cntF_take_succ (t : List Int) {k : Nat} (h : k < t.length) {m : Int} (hm : cntF (t.take k) 0 = some m) : cntF (t.take (k + 1)) 0 = if m < takesF (t.getD k 0) then none else some (m + 1 - takesF (t.getD k 0)) := by
  rw [takeF_succ t h, cntF_append, hm]; rfl
theorem cntF_take_none (t : List Int) (k : Nat) (h : cntF (t.take k) 0 = none) : cntF t 0 = none := by
  have : cntF (t.take k ++ t.drop k) 0 = none := by rw [cntF_append, h]; rfl
  rwa [List.take_append_drop] at this
theorem cntF_take_some (t : List Int) (k : Nat) {n : Int} (h : cntF t 0 = some n) : ∃ m, cntF (t.take k) 0 = some m := by
  cases hc : cntF (t.take k) 0 with
  | none => rw [cntF_take_none t k hc] at h; cases h
  | some m => exact ⟨m, rfl⟩
theorem cntF_more (r : List Int) (n m : Int) (h : cntF r n = some m) : cntF r (n + 1) = some (m + 1) := by
  induction r generalizing n with
  | nil => simp [cntF] at h ⊢; exact h
  | cons s l ih =>
    unfold cntF at h ⊢
    split at h
    · cases h
    · rw [if_neg (by omega), show n + 1 + 1 - takesF s = n + 1 - takesF s + 1 by omega]
      exact ih _ h

/-! ### the pile -/
/-- whether what a sign makes of those it takes holds. -/
def madeF (held : List Bool) (s : Int) (l : List Bool) : Bool :=
  if s = 10 then l.getD 0 false && l.getD 1 false else if s = 11 then l.getD 0 false || l.getD 1 false else if s = 13 then !l.getD 0 false || l.getD 1 false else if s = 12 then !l.getD 0 false else held.getD s.toNat false
def restF (p : List Bool) (s : Int) : Nat := p.length - (takesF s).toNat
def stepF (held : List Bool) (p : List Bool) (s : Int) : List Bool := p.take (restF p s) ++ [madeF held s (p.drop (restF p s))]
def pileF (held : List Bool) (c : List Int) (p : List Bool) : List Bool := c.foldl (stepF held) p
/-- does a row of signs hold, where these atoms do? -/
def valF (held : List Bool) (c : List Int) : Bool := (pileF held c []).getD 0 false

theorem pileF_append (held : List Bool) (a b : List Int) (p : List Bool) : pileF held (a ++ b) p = pileF held b (pileF held a p) := by simp [pileF, List.foldl_append]
theorem pileF_succ (held : List Bool) (t : List Int) (p : List Bool) {k : Nat} (h : k < t.length) : pileF held (t.take (k + 1)) p = stepF held (pileF held (t.take k) p) (t.getD k 0) := by
  rw [takeF_succ t h, pileF_append]; rfl
theorem stepF_length (held : List Bool) (p : List Bool) (s : Int) (h : takesF s ≤ p.length) : ((stepF held p s).length : Int) = p.length + 1 - takesF s := by
  have := takesF_range s
  simp [stepF, restF]
  omega
theorem pileF_length (held : List Bool) (t : List Int) (p : List Bool) {n : Int} (h : cntF t p.length = some n) : ((pileF held t p).length : Int) = n := by
  induction t generalizing p with
  | nil => simp [cntF] at h; simpa [pileF] using h
  | cons s l ih =>
    unfold cntF at h
    split at h
    · cases h
    · rename_i hs
      have e := stepF_length held p s (by omega)
      exact ih (stepF held p s) (by rw [e]; exact h)
/-- a row of signs does not see what lies beneath what it takes. -/
theorem stepF_under (held q p : List Bool) (s : Int) (h : takesF s ≤ p.length) : stepF held (q ++ p) s = q ++ stepF held p s := by
  have hr := takesF_range s
  have e : restF (q ++ p) s = q.length + restF p s := by unfold restF; simp; omega
  unfold stepF
  rw [e, List.take_length_add_append, List.drop_length_add_append, List.append_assoc]
theorem pileF_under (held : List Bool) (t : List Int) (q p : List Bool) {n : Int} (h : cntF t p.length = some n) : pileF held t (q ++ p) = q ++ pileF held t p := by
  induction t generalizing p with
  | nil => rfl
  | cons s l ih =>
    unfold cntF at h
    split at h
    · cases h
    · rename_i hs
      have e := stepF_length held p s (by omega)
      have := ih (stepF held p s) (by rw [e]; exact h)
      show pileF held l (stepF held (q ++ p) s) = q ++ pileF held l (stepF held p s)
      rw [stepF_under held q p s (by omega)]; exact this
/-- one formula lays its answer on the pile. -/
theorem pileF_one (held : List Bool) {t : List Int} (h : cntF t 0 = some 1) (q : List Bool) : pileF held t q = q ++ [valF held t] := by
  have h1 := pileF_under held t q [] h
  rw [List.append_nil] at h1
  rw [h1]
  have h2 := pileF_length held t [] h
  match e : pileF held t [], h2 with
  | [x], _ => simp [valF, e]
  | [], h2 => simp at h2
  | _ :: _ :: _, h2 => simp at h2; omega
/-- where atoms hold alike, a formula does. -/
theorem pileF_alike {h1 h2 : List Bool} {t1 t2 : List Int} (ht : t1.length = t2.length) (hs : ∀ k, k < t1.length → takesF (t1.getD k 0) = takesF (t2.getD k 0) ∧ ∀ l, madeF h1 (t1.getD k 0) l = madeF h2 (t2.getD k 0) l) (p : List Bool) : pileF h1 t1 p = pileF h2 t2 p := by
  induction t1 generalizing t2 p with
  | nil =>
    cases t2 with
    | nil => rfl
    | cons => simp at ht
  | cons s l ih =>
    cases t2 with
    | nil => simp at ht
    | cons s2 l2 =>
      have e0 := hs 0 (by simp)
      simp only [List.getD_cons_zero] at e0
      have e1 : stepF h1 p s = stepF h2 p s2 := by unfold stepF restF; rw [e0.1, e0.2]
      show pileF h1 l (stepF h1 p s) = pileF h2 l2 (stepF h2 p s2)
      rw [e1]
      refine ih (by simpa using ht) (fun k hk => ?_) _
      have := hs (k + 1) (by simp; omega)
      simpa only [List.getD_cons_succ] using this

/-! ### the opposite -/
theorem good_no {ats : List At} {c : List Int} (h : formFault ats c = 0) (hl : c.length ≤ 19) : formFault ats (c ++ [12]) = 0 := by
  obtain ⟨h1, h2, h3, h4, h5⟩ := formFault_zero.1 h
  refine formFault_zero.2 ⟨h1, by simp; omega, h3, ?_, ?_⟩
  · rw [List.all_append, h4]; simp [signF, takesF]
  · rw [cntF_append, h5]; rfl
theorem val_no (held : List Bool) {c : List Int} (h : cntF c 0 = some 1) : valF held (c ++ [12]) = !valF held c := by
  have : pileF held (c ++ [12]) [] = [!valF held c] := by
    rw [pileF_append, pileF_one held h]; rfl
  rw [valF, this]; rfl
theorem cnt_no {c : List Int} (h : cntF c 0 = some 1) : cntF (c ++ [12]) 0 = some 1 := by rw [cntF_append, h]; rfl
/-- no twice is not at all. -/
theorem val_no_no (held : List Bool) {c : List Int} (h : cntF c 0 = some 1) : valF held ((c ++ [12]) ++ [12]) = valF held c := by
  rw [val_no held (cnt_no h), val_no held h, Bool.not_not]
/-- a formula then itself. -/
theorem good_then {ats : List At} {c : List Int} (h : formFault ats c = 0) (hl : c.length ≤ 9) : formFault ats (c ++ (c ++ [13])) = 0 := by
  obtain ⟨h1, h2, h3, h4, h5⟩ := formFault_zero.1 h
  refine formFault_zero.2 ⟨h1, by simp; omega, h3, ?_, ?_⟩
  · rw [List.all_append, List.all_append, h4]; simp [signF, takesF]
  · rw [cntF_append, h5]
    show cntF (c ++ [13]) 1 = _
    rw [cntF_append, show cntF c 1 = some 2 from cntF_more c 0 1 h5]; rfl
theorem val_then (held : List Bool) {c : List Int} (h : cntF c 0 = some 1) : valF held (c ++ (c ++ [13])) = true := by
  have : pileF held (c ++ (c ++ [13])) [] = [!valF held c || valF held c] := by
    rw [pileF_append, pileF_one held h, pileF_append, pileF_one held h]; rfl
  rw [valF, this]
  cases valF held c <;> rfl

/-! ### both -/
/-- a sign whose atoms have numbers greater by so many. -/
def movedF (m : Nat) (s : Int) : Int := if takesF s = 0 then s + m else s
theorem good_both {ats bs : List At} {c d : List Int} (h : formFault ats c = 0) (h' : formFault bs d = 0) (hl : ats.length + bs.length ≤ 6) (hc : c.length + d.length ≤ 19) : formFault (ats ++ bs) (c ++ (d.map (movedF ats.length) ++ [10])) = 0 := by
  obtain ⟨h1, h2, h3, h4, h5⟩ := formFault_zero.1 h
  obtain ⟨g1, g2, g3, g4, g5⟩ := formFault_zero.1 h'
  have hm : ∀ s ∈ d, takesF (movedF ats.length s) = takesF s ∧ signF (ats ++ bs).length (movedF ats.length s) = true := by
    intro s hs
    have := signF_iff.1 (List.all_eq_true.1 g4 s hs)
    unfold movedF
    by_cases h0 : takesF s = 0
    · rw [if_pos h0]
      have h6 : 0 ≤ s ∧ s < bs.length := this.resolve_left (by simp [h0])
      exact ⟨by rw [h0]; exact takesF_low (by omega), signF_iff.2 (Or.inr (by simp; omega))⟩
    · rw [if_neg h0]
      exact ⟨rfl, signF_iff.2 (Or.inl h0)⟩
  have hcnt : ∀ n, cntF (d.map (movedF ats.length)) n = cntF d n := by
    have : ∀ (l : List Int), (∀ s ∈ l, takesF (movedF ats.length s) = takesF s) → ∀ n, cntF (l.map (movedF ats.length)) n = cntF l n := by
      intro l
      induction l with
      | nil => intro _ n; rfl
      | cons s l ih =>
        intro hh n
        have e := hh s (by simp)
        simp only [List.map_cons, cntF, e]
        rw [ih (fun x hx => hh x (by simp [hx]))]
    exact this d (fun s hs => (hm s hs).1)
  refine formFault_zero.2 ⟨by simp; omega, by simp; omega, ?_, ?_, ?_⟩
  · intro a ha
    rcases List.mem_append.1 ha with ha | ha
    · exact h3 a ha
    · exact g3 a ha
  · rw [List.all_append, List.all_append]
    have e1 : c.all (signF (ats ++ bs).length) = true := by
      rw [List.all_eq_true]
      intro s hs
      rcases signF_iff.1 (List.all_eq_true.1 h4 s hs) with h | h
      · exact signF_iff.2 (Or.inl h)
      · exact signF_iff.2 (Or.inr (by simp; omega))
    have e2 : (d.map (movedF ats.length)).all (signF (ats ++ bs).length) = true := by
      rw [List.all_map, List.all_eq_true]
      intro s hs
      exact (hm s hs).2
    rw [e1, e2]; simp [signF, takesF]
  · rw [cntF_append, h5]
    show cntF (d.map (movedF ats.length) ++ [10]) 1 = _
    rw [cntF_append, hcnt, show cntF d 1 = some 2 from cntF_more d 0 1 g5]; rfl
theorem madeF_leaf (held : List Bool) {s : Int} (h : takesF s = 0) (l : List Bool) : madeF held s l = held.getD s.toNat false := by
  have := takesF_leaf h
  unfold madeF
  rw [if_neg this.1, if_neg this.2.1, if_neg this.2.2.2, if_neg this.2.2.1]
theorem madeF_op (h1 h2 : List Bool) {s : Int} (h : takesF s ≠ 0) (l : List Bool) : madeF h1 s l = madeF h2 s l := by
  have : s = 10 ∨ s = 11 ∨ s = 13 ∨ s = 12 := by
    unfold takesF at h
    split at h
    · omega
    · split at h <;> omega
  rcases this with rfl | rfl | rfl | rfl <;> rfl
theorem val_both {ats bs : List At} {c d : List Int} (ha hb : List Bool) (la : ha.length = ats.length) (h : formFault ats c = 0) (h' : formFault bs d = 0) (hl : ats.length + bs.length ≤ 6) : valF (ha ++ hb) (c ++ (d.map (movedF ats.length) ++ [10])) = (valF ha c && valF hb d) := by
  obtain ⟨h1, h2, h3, h4, h5⟩ := formFault_zero.1 h
  obtain ⟨g1, g2, g3, g4, g5⟩ := formFault_zero.1 h'
  have e1 : ∀ p, pileF (ha ++ hb) c p = pileF ha c p := fun p => by
    refine pileF_alike rfl (fun k hk => ⟨rfl, fun l => ?_⟩) p
    have hm : c.getD k 0 ∈ c := by rw [List.getD_eq_getElem?_getD, List.getElem?_eq_getElem hk]; exact List.getElem_mem hk
    rcases signF_iff.1 (List.all_eq_true.1 h4 _ hm) with h0 | h0
    · exact madeF_op _ _ h0 l
    · have t0 : takesF (c.getD k 0) = 0 := takesF_low (by omega)
      rw [madeF_leaf _ t0, madeF_leaf _ t0, List.getD_eq_getElem?_getD, List.getElem?_append_left (by omega), ← List.getD_eq_getElem?_getD]
  have e2 : ∀ p, pileF (ha ++ hb) (d.map (movedF ats.length)) p = pileF hb d p := fun p => by
    refine pileF_alike (by simp) (fun k hk => ?_) p
    have hk' : k < d.length := by simpa using hk
    have eg : (d.map (movedF ats.length)).getD k 0 = movedF ats.length (d.getD k 0) := by
      simp [List.getElem?_eq_getElem hk']
    rw [eg]
    have hm : d.getD k 0 ∈ d := by rw [List.getD_eq_getElem?_getD, List.getElem?_eq_getElem hk']; exact List.getElem_mem hk'
    generalize d.getD k 0 = s at hm
    unfold movedF
    rcases signF_iff.1 (List.all_eq_true.1 g4 s hm) with h0 | h0
    · rw [if_neg h0]; exact ⟨rfl, fun l => madeF_op _ _ h0 l⟩
    · have t0 : takesF s = 0 := takesF_low (by omega)
      have t1 : takesF (s + ats.length) = 0 := takesF_low (by omega)
      rw [if_pos t0]
      refine ⟨by rw [t0, t1], fun l => ?_⟩
      rw [madeF_leaf _ t0, madeF_leaf _ t1, show (s + (ats.length : Int)).toNat = ha.length + s.toNat by omega]
      rw [List.getD_eq_getElem?_getD, List.getElem?_append_right (by omega), Nat.add_sub_cancel_left, ← List.getD_eq_getElem?_getD]
  have hp : pileF (ha ++ hb) (c ++ (d.map (movedF ats.length) ++ [10])) [] = [valF ha c && valF hb d] := by
    rw [pileF_append, pileF_append, e1, e2, pileF_one ha h5, pileF_one hb g5]; rfl
  rw [valF, hp]; rfl

/-! ### Holds -/
def Wd.heldL (w : Wd) (ats : List At) : List Bool := ats.map fun a => w.holds a.k a.s a.t a.n
/-- what Holds tells. -/
def Wd.formFault (w : Wd) (ats : List At) (c : List Int) : Int := if YtgkgbpbohgklhagDoor.formFault ats c = 0 then (if w.ok = true then 0 else 1) else YtgkgbpbohgklhagDoor.formFault ats c
def Wd.formIs (w : Wd) (ats : List At) (c : List Int) : Bool := if w.formFault ats c = 0 then valF (w.heldL ats) c else false
theorem wdForm_zero {w : Wd} {ats : List At} {c : List Int} : w.formFault ats c = 0 ↔ YtgkgbpbohgklhagDoor.formFault ats c = 0 ∧ w.ok = true := by
  unfold Wd.formFault
  by_cases h : YtgkgbpbohgklhagDoor.formFault ats c = 0
  · rw [if_pos h]
    by_cases h' : w.ok = true
    · rw [if_pos h']; exact ⟨fun _ => ⟨h, h'⟩, fun _ => rfl⟩
    · rw [if_neg h']; exact ⟨fun h => (by cases h), fun h => absurd h.2 h'⟩
  · rw [if_neg h]; exact ⟨fun h' => absurd h' h, fun h' => absurd h'.1 h⟩
/-- what is wrong with the opposite of a formula. -/
def negFault (ats : List At) (c : List Int) : Int := if formFault ats c = 0 then (if 19 < c.length then 4 else 0) else formFault ats c
end Go.Proofs.YtgkgbpbohgklhagDoor

namespace Go.Proofs.YtgkgbpbohgklhagDoor
open Go.RowKit

theorem none_of_size {u x : Int} (h : okB u x = true) : (x = 0 ↔ pcN x = 0) :=
  uptoSets (P := fun _ x _ => x = 0 ↔ pcN x = 0) (by decide +kernel) u x x h h
theorem same_of_less {u x y : Int} (hx : okB u x = true) (hy : okB u y = true) : (x = y ↔ lessN x y = 0 ∧ lessN y x = 0) :=
  uptoSets (P := fun _ x y => x = y ↔ lessN x y = 0 ∧ lessN y x = 0) (by decide +kernel) u x y hx hy

/-- two right worlds with as many things in each field. -/
structure Alike (w w' : Wd) : Prop where
  ok : w.ok = true
  ok' : w'.ok = true
  fc : ∀ f, f < 8 → w'.fc w'.u.toNat f = w.fc w.u.toNat f

theorem Alike.size {w w' : Wd} (h : Alike w w') {n : Nat} {t : List Int} (ht : isTm n t) : pcN (w'.val t) = pcN (w.val t) := size_same h.ok h.ok' h.fc ht
theorem Alike.less {w w' : Wd} (h : Alike w w') {n m : Nat} {s t : List Int} (hs : isTm n s) (ht : isTm m t) : (lessN (w'.val s) (w'.val t) = 0 ↔ lessN (w.val s) (w.val t) = 0) := by
  have e : ∀ v : Wd, v.val (s ++ (t ++ [7])) = lessN (v.val s) (v.val t) := fun v => by rw [val_bin v (by omega) (by omega) hs ht, doN7]
  have hn : isTm (n + m + 1) (s ++ (t ++ [7])) := Or.inr (Or.inr ⟨7, s, t, by omega, by omega, isTm_mono (by omega) hs, isTm_mono (by omega) ht, rfl⟩)
  rw [← e, ← e, none_of_size (ok_val h.ok' _), none_of_size (ok_val h.ok _), h.size hn]
theorem one_term {t : List Int} (h : faultN t = 0) : ∃ n, isTm n t := tree t (fault_zero.1 h).2.2.1 (fault_zero.1 h).2.2.2
theorem Alike.holds {w w' : Wd} (h : Alike w w') {k : Int} {s t : List Int} {n : Int} (hf : atomFault k s t n = 0) : w'.holds k s t n = w.holds k s t n := by
  obtain ⟨hk, hs, ht, _⟩ := atomFault_zero.1 hf
  obtain ⟨i, hi⟩ := one_term hs
  unfold Wd.holds Wd.snd saysB
  rcases five hk.1 hk.2 with rfl | rfl | rfl | rfl | rfl
  · obtain ⟨j, hj⟩ := one_term (second_reads ht (by decide))
    rw [if_pos (show secondB 1 = true by decide), if_pos rfl, if_pos (show secondB 1 = true by decide), if_pos rfl]
    exact decide_eq_decide.2 (h.less hi hj)
  · obtain ⟨j, hj⟩ := one_term (second_reads ht (by decide))
    rw [if_pos (show secondB 2 = true by decide), if_pos (show secondB 2 = true by decide), if_neg (by decide), if_pos rfl, if_neg (by decide), if_pos rfl]
    refine decide_eq_decide.2 ?_
    rw [same_of_less (ok_val h.ok' s) (ok_val h.ok' t), same_of_less (ok_val h.ok s) (ok_val h.ok t), h.less hi hj, h.less hj hi]
  · rw [if_neg (by decide), if_neg (by decide), if_pos rfl, if_neg (by decide), if_neg (by decide), if_pos rfl, h.size hi]
  · rw [if_neg (by decide), if_neg (by decide), if_neg (by decide), if_pos rfl, if_neg (by decide), if_neg (by decide), if_neg (by decide), if_pos rfl, h.size hi]
  · obtain ⟨j, hj⟩ := one_term (second_reads ht (by decide))
    rw [if_pos (show secondB 5 = true by decide), if_pos (show secondB 5 = true by decide), if_neg (by decide), if_neg (by decide), if_neg (by decide), if_neg (by decide), if_neg (by decide), if_neg (by decide), if_neg (by decide), if_neg (by decide), h.size hi, h.size hj]
theorem Alike.fault {w w' : Wd} (h : Alike w w') (ats : List At) (c : List Int) : w'.formFault ats c = w.formFault ats c := by
  unfold Wd.formFault; rw [h.ok, h.ok']
/-- a formula holds in a world just if in one with as many things in each field. -/
theorem Alike.form {w w' : Wd} (h : Alike w w') (ats : List At) (c : List Int) : w'.formIs ats c = w.formIs ats c := by
  unfold Wd.formIs
  rw [h.fault]
  by_cases hf : w.formFault ats c = 0
  · rw [if_pos hf, if_pos hf]
    obtain ⟨_, _, hall, _⟩ := formFault_zero.1 (wdForm_zero.1 hf).1
    have e : w'.heldL ats = w.heldL ats := by
      unfold Wd.heldL
      exact List.map_congr_left fun a ha => h.holds (hall a ha)
    rw [e]
  · rw [if_neg hf, if_neg hf]
/-- the world of the counts of a world is like it. -/
theorem alike_made {w : Wd} (h : w.ok = true) : Alike w (madeN (w.fc w.u.toNat) 8) :=
  ⟨h, made_ok (counts_fc h), fun _ hf => made_fc (counts_fc h) hf⟩
theorem made_things {w : Wd} (h : w.ok = true) : (madeN (w.fc w.u.toNat) 8).u = w.u := by
  rw [made_u (counts_fc h), sum_fc]
  have := (ok_u h).1
  omega
end Go.Proofs.YtgkgbpbohgklhagDoor
