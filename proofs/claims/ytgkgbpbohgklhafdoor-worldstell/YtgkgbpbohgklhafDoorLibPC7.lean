/-
  Proved: what fields.Mask returns, of any row of signs; what was in memory is as it was (contracts that the statements lean on).
  Plain facts on a block of memory, whole: what lies in it, behind a call, behind a store; eight numbers and a world as blocks. (What the contracts of package fields lean on.)
  Proved: what worlds.check, worlds.All and worlds.alike return, of any number of things, and of right counts; what was in memory is as it was (contracts that the statements lean on).
  Proved: what fields.lies returns; what was in memory is as it was (a contract that the statements lean on).
  Proved: what fields.Of returns, of any world; what was in memory is as it was (a contract that the statements lean on).
  Proved: what fields.check returns, of any counts; what was in memory is as it was (a contract that the statements lean on).
-/
import Derived.Test.YtgkgbpbohgklhafDoorLibPC6
import Derived.Test.YtgkgbpbohgklhafDoorLibPC2
import Derived.Test.YtgkgbpbohgklhafDoorLibPC5
import Derived.Handy
namespace Go.Proofs.YtgkgbpbohgklhafDoor
open Go.ChangeShapes Go.WideShapes Go.ChangeAt Go.RowKit

/-- where the term lies, 2^f for each field, added up; 0, if it is none. -/
def maskN (t : List Int) : Int := if faultN t = 0 then maskTo (liesB t) 8 else 0
theorem with_one (f : Nat) (hf : f < 8) (w : World) :
    Calls Tryd.prog 74 #[.agg #[.int .i64 0, .int .i64 0, .int .i64 0, .int .i64 0], .int .i64 f] w fun e w' => e = .returned (.agg #[.int .i64 1, .int .i64 (oneW f).a, .int .i64 (oneW f).b, .int .i64 (oneW f).c]) ∧ Below w.heap.size w w' :=
  with_field 0 0 0 0 f (by decide) (by omega) hf w
theorem one_value (t : List Int) (v : Value) (f : Nat) (w : World) (h : Reads w v t) :
    Calls Tryd.prog 77 #[v, .agg #[.int .i64 1, .int .i64 (oneW f).a, .int .i64 (oneW f).b, .int .i64 (oneW f).c]] w fun e w' => e = .returned (.tuple #[.int .i64 (if faultN t = 0 then oneB (liesB t f) else 0), errV (faultN t)]) ∧ Below w.heap.size w w' := by
  have hv := value_any t v 1 (oneW f).a (oneW f).b (oneW f).c w h
  have e : (Wd.mk 1 (oneW f).a (oneW f).b (oneW f).c) = oneW f := rfl
  rw [e] at hv
  have e1 : (oneW f).answer t = if faultN t = 0 then oneB (liesB t f) else 0 := by unfold Wd.answer; rw [if_pos (oneW_ok f), oneW_val]
  have e2 : (oneW f).fault t = faultN t := by
    unfold Wd.fault; rw [if_pos (oneW_ok f)]
    split
    · rename_i h0; exact h0.symm
    · rfl
  rw [e1, e2] at hv
  exact hv
theorem or_mask1 : ∀ k : Nat, k < 8 → ∀ m : Nat, m < 2 ^ k → ∀ x, bits .or .i64 (m : Int) (wrap64 (oneB x * 2 ^ k)) = (m : Int) + oneB x * pw k := by decide +kernel
theorem or_mask (L : Nat → Bool) {k : Nat} (hk : k < 8) : bits .or .i64 (maskTo L k) (wrap64 (oneB (L k) * 2 ^ k)) = maskTo L (k + 1) := by
  obtain ⟨m0, m1⟩ := maskTo_le L k
  obtain ⟨m, hm⟩ := Int.eq_ofNat_of_zero_le m0
  have hp : pw k = ((2 ^ k : Nat) : Int) := by unfold pw; simp
  have h := or_mask1 k hk m (by rw [hm, hp] at m1; omega) (L k)
  show _ = maskTo L k + oneB (L k) * pw k
  rw [hm]; exact h

set_option maxRecDepth 100000 in
set_option maxHeartbeats 4000000 in
theorem mask_any (t : List Int) (v : Value) (w : World) (h : Reads w v t) :
    Calls Tryd.prog 60 #[v] w fun e w' => e = .returned (.tuple #[.int .i64 (maskN t), errV (faultN t)]) ∧ Below w.heap.size w w' := by
  have HV : Hid (∀ f W, Below w.heap.size w W → Calls Tryd.prog 77 #[v, .agg #[.int .i64 1, .int .i64 (oneW f).a, .int .i64 (oneW f).b, .int .i64 (oneW f).c]] W fun e w' => e = .returned (.tuple #[.int .i64 (if faultN t = 0 then oneB (liesB t f) else 0), errV (faultN t)]) ∧ Below W.heap.size W w') := fun f W hb => one_value t v f W (h.below hb)
  clear h
  by_cases hf : faultN t = 0
  · have e1 : maskN t = maskTo (liesB t) 8 := by unfold maskN; rw [if_pos hf]
    have e2 : errV (faultN t) = .nilIface := by rw [hf]; rfl
    rw [e1, e2]
    rw [e2] at HV
    simp only [if_pos hf] at HV
    clear e1 e2 hf
    obtain ⟨L, hL⟩ : ∃ L, L = liesB t := ⟨_, rfl⟩
    rw [← hL] at HV ⊢
    clear hL
    go_enter Tryd.func60, Tryd.ntmps60
    go_wp2
    go_loopw [4, 8] (fun m i wr => ∃ k : Nat, k ≤ 8 ∧ i = .int .i64 k ∧ m = .int .i64 (maskTo L k) ∧ Below w.heap.size w wr) (fun _ i _ => 8 - (intOf i).toNat)
    case atStart => exact ⟨0, Nat.zero_le _, rfl, rfl, Below.refl _ _⟩
    case round =>
      obtain ⟨k, hk, rfl, rfl, hb⟩ := hrel
      have HB : Hid (Below w.heap.size w wr) := hb
      clear hb
      by_cases hlt : k < 8
      · have HS : Hid (bits .or .i64 (maskTo L k) (wrap64 (oneB (L k) * 2 ^ k)) = maskTo L (k + 1)) := or_mask L hlt
        go_wp2_with fail
        go_at_call 74
        refine (with_one k hlt _).mono ?_
        rintro e w2 ⟨rfl, hb2⟩
        have HB2 : Hid (Below w.heap.size w w2) := HB.out.trans (hb2.mono HB.out.size)
        clear hb2
        go_wp2_with fail
        go_at_call 77
        refine (HV.out k w2 HB2.out).mono ?_
        rintro e w3 ⟨rfl, hb3⟩
        have HB3 : Hid (Below w.heap.size w w3) := HB2.out.trans (hb3.mono HB2.out.size)
        clear hb3
        go_wp2
        go_roundw
        case rel => exact ⟨k + 1, by omega, by go_num, by rw [HS.out], HB3.out⟩
        case measure => simp [intOf]; omega
      · obtain rfl : k = 8 := by omega
        go_wp2
        go_ret2
        exact ⟨rfl, HB.out⟩
  · have e1 : maskN t = 0 := by unfold maskN; rw [if_neg hf]
    have e2 : errV (faultN t) = .iface 59 (.int .i64 (faultN t)) := by unfold errV; rw [if_neg hf]
    rw [e1, e2]
    rw [e2] at HV
    simp only [if_neg hf] at HV
    clear e1 e2 hf
    obtain ⟨F, hF⟩ : ∃ F, F = faultN t := ⟨_, rfl⟩
    rw [← hF] at HV ⊢
    clear hF
    go_enter Tryd.func60, Tryd.ntmps60
    go_wp2
    refine wp_loop_rounds 1 ?_
    rw [rounds_succ]
    go_wp2_with fail
    go_at_call 74
    refine (with_one 0 (by omega) _).mono ?_
    rintro e w2 ⟨rfl, hb2⟩
    have HB2 : Hid (Below w.heap.size w w2) := hb2
    clear hb2
    go_wp2_with fail
    go_at_call 77
    refine (HV.out 0 w2 HB2.out).mono ?_
    rintro e w3 ⟨rfl, hb3⟩
    have HB3 : Hid (Below w.heap.size w w3) := HB2.out.trans (hb3.mono HB2.out.size)
    clear hb3
    go_wp2
    go_ret2
    exact ⟨rfl, HB3.out⟩
end Go.Proofs.YtgkgbpbohgklhafDoor

namespace Go.Proofs.YtgkgbpbohgklhafDoor
open Go.ChangeShapes Go.WideShapes Go.ChangeAt Go.RowKit

/-- block G holds the cells cs, and all of them may be written. -/
def Blk (w : World) (G : Nat) (T : TypeId) (cs : Array Value) : Prop := w.heap[G]? = some (.cells cs T (0, 0))
theorem Blk.lt {w : World} {G : Nat} {T : TypeId} {cs : Array Value} (h : Blk w G T cs) : G < w.heap.size := (Array.getElem?_eq_some_iff.1 h).1
theorem Blk.below {w w' : World} {G : Nat} {T : TypeId} {cs : Array Value} (h : Blk w G T cs) (hb : Below w.heap.size w w') : Blk w' G T cs := by
  unfold Blk; rw [hb.block G h.lt]; exact h
theorem Blk.cell {w : World} {G : Nat} {T : TypeId} {cs : Array Value} (h : Blk w G T cs) (j : Nat) : w.cell? ⟨G, j, none⟩ = cs[j]? := cell_of_row w G j cs T (0, 0) h
theorem Blk.frozen {w : World} {G : Nat} {T : TypeId} {cs : Array Value} (h : Blk w G T cs) (j : Nat) : w.frozen? ⟨G, j, none⟩ = false := frozen_of_row w G j cs T h
theorem Blk.set {w : World} {G : Nat} {T : TypeId} {cs : Array Value} (h : Blk w G T cs) (j : Nat) (u : Value) : Blk (w.setCell ⟨G, j, none⟩ u) G T (cs.setIfInBounds j u) := heap_setCell_same w G j cs T u h
theorem Blk.far {w : World} {G : Nat} {T : TypeId} {cs : Array Value} (h : Blk w G T cs) {R : Nat} (hR : G ≠ R) (j : Nat) (u : Value) : Blk (w.setCell ⟨R, j, none⟩ u) G T cs := by
  unfold Blk; rw [heap_setCell_other w ⟨R, j, none⟩ G u hR]; exact h
theorem Blk.drew {w : World} {G : Nat} {T : TypeId} {cs : Array Value} (h : Blk w G T cs) : Blk w.drew G T cs := h
theorem Blk.new (w : World) (T : TypeId) (cs : Array Value) : Blk (w.alloc (.cells cs T)) w.heap.size T cs := heap_alloc_new w _
theorem Blk.old {w : World} {G : Nat} {T : TypeId} {cs : Array Value} (h : Blk w G T cs) (o : Obj) : Blk (w.alloc o) G T cs := by
  unfold Blk; rw [heap_alloc_old w o h.lt]; exact h

/-- eight numbers. -/
def arr8 (N : Nat → Int) : Array Value := #[.int .i64 (N 0), .int .i64 (N 1), .int .i64 (N 2), .int .i64 (N 3), .int .i64 (N 4), .int .i64 (N 5), .int .i64 (N 6), .int .i64 (N 7)]
theorem arr8_get (N : Nat → Int) {f : Nat} (hf : f < 8) : (arr8 N)[f]? = some (.int .i64 (N f)) := by
  rcases eight hf with rfl | rfl | rfl | rfl | rfl | rfl | rfl | rfl <;> rfl
theorem arr8_one (N : Nat → Int) {f : Nat} (hf : f < 8) : (arr8 N).setIfInBounds f (.int .i64 (N f + 1)) = arr8 (fun g => N g + if f = g then 1 else 0) := by
  rcases eight hf with rfl | rfl | rfl | rfl | rfl | rfl | rfl | rfl <;> simp [arr8]
theorem arr8_same {N M : Nat → Int} (h : ∀ f, f < 8 → N f = M f) : arr8 N = arr8 M := by
  unfold arr8
  rw [h 0 (by omega), h 1 (by omega), h 2 (by omega), h 3 (by omega), h 4 (by omega), h 5 (by omega), h 6 (by omega), h 7 (by omega)]
theorem arr8_all (N M : Nat → Int) : ((((((((arr8 N).setIfInBounds 0 (.int .i64 (M 0))).setIfInBounds 1 (.int .i64 (M 1))).setIfInBounds 2 (.int .i64 (M 2))).setIfInBounds 3 (.int .i64 (M 3))).setIfInBounds 4 (.int .i64 (M 4))).setIfInBounds 5 (.int .i64 (M 5))).setIfInBounds 6 (.int .i64 (M 6))).setIfInBounds 7 (.int .i64 (M 7)) = arr8 M := by
  simp [arr8]
/-- a world's four numbers. -/
def arrW (w : Wd) : Array Value := #[.int .i64 w.u, .int .i64 w.a, .int .i64 w.b, .int .i64 w.c]

theorem load8 {W : World} {R : Nat} {N : Nat → Int} (h : Blk W R 36 (arr8 N)) : (loadVar 36 ⟨R, 0, none⟩).run Tryd.prog W = .ok (.agg (arr8 N)) W := by
  have hl := run_loadCells_list (P := Tryd.prog) W ⟨R, 0, none⟩ (arr8 N).toList (fun j v hj => by
    have := h.cell j
    rw [← Array.getElem?_toList] at this
    rw [hj] at this
    have ha : (⟨R, 0, none⟩ : Addr).add j = ⟨R, j, none⟩ := by unfold Addr.add; split <;> simp_all
    rw [ha]; exact this)
  simp [loadVar, Tryd.isAgg36, Tryd.sizeOf36, Result.andThen, arr8] at hl ⊢
  simp [hl]
theorem Blk.cells8 {w : World} {G : Nat} {T : TypeId} {N : Nat → Int} (h : Blk w G T (arr8 N)) : w.cell? ⟨G, 0, none⟩ = some (.int .i64 (N 0)) ∧ w.cell? ⟨G, 1, none⟩ = some (.int .i64 (N 1)) ∧ w.cell? ⟨G, 2, none⟩ = some (.int .i64 (N 2)) ∧ w.cell? ⟨G, 3, none⟩ = some (.int .i64 (N 3)) ∧ w.cell? ⟨G, 4, none⟩ = some (.int .i64 (N 4)) ∧ w.cell? ⟨G, 5, none⟩ = some (.int .i64 (N 5)) ∧ w.cell? ⟨G, 6, none⟩ = some (.int .i64 (N 6)) ∧ w.cell? ⟨G, 7, none⟩ = some (.int .i64 (N 7)) :=
  ⟨h.cell 0, h.cell 1, h.cell 2, h.cell 3, h.cell 4, h.cell 5, h.cell 6, h.cell 7⟩
theorem Blk.frozen8 {w : World} {G : Nat} {T : TypeId} {cs : Array Value} (h : Blk w G T cs) : w.frozen? ⟨G, 0, none⟩ = false ∧ w.frozen? ⟨G, 1, none⟩ = false ∧ w.frozen? ⟨G, 2, none⟩ = false ∧ w.frozen? ⟨G, 3, none⟩ = false ∧ w.frozen? ⟨G, 4, none⟩ = false ∧ w.frozen? ⟨G, 5, none⟩ = false ∧ w.frozen? ⟨G, 6, none⟩ = false ∧ w.frozen? ⟨G, 7, none⟩ = false :=
  ⟨h.frozen 0, h.frozen 1, h.frozen 2, h.frozen 3, h.frozen 4, h.frozen 5, h.frozen 6, h.frozen 7⟩
theorem Blk.cells4 {w : World} {G : Nat} {T : TypeId} {W : Wd} (h : Blk w G T (arrW W)) : w.cell? ⟨G, 0, none⟩ = some (.int .i64 W.u) ∧ w.cell? ⟨G, 1, none⟩ = some (.int .i64 W.a) ∧ w.cell? ⟨G, 2, none⟩ = some (.int .i64 W.b) ∧ w.cell? ⟨G, 3, none⟩ = some (.int .i64 W.c) :=
  ⟨h.cell 0, h.cell 1, h.cell 2, h.cell 3⟩
theorem Blk.frozen4 {w : World} {G : Nat} {T : TypeId} {cs : Array Value} (h : Blk w G T cs) : w.frozen? ⟨G, 0, none⟩ = false ∧ w.frozen? ⟨G, 1, none⟩ = false ∧ w.frozen? ⟨G, 2, none⟩ = false ∧ w.frozen? ⟨G, 3, none⟩ = false :=
  ⟨h.frozen 0, h.frozen 1, h.frozen 2, h.frozen 3⟩
/-- eight numbers, and a world, written into a block. -/
def put8 (w : World) (R : Nat) (M : Nat → Int) : World := (((((((w.setCell ⟨R, 0, none⟩ (.int .i64 (M 0))).setCell ⟨R, 1, none⟩ (.int .i64 (M 1))).setCell ⟨R, 2, none⟩ (.int .i64 (M 2))).setCell ⟨R, 3, none⟩ (.int .i64 (M 3))).setCell ⟨R, 4, none⟩ (.int .i64 (M 4))).setCell ⟨R, 5, none⟩ (.int .i64 (M 5))).setCell ⟨R, 6, none⟩ (.int .i64 (M 6))).setCell ⟨R, 7, none⟩ (.int .i64 (M 7))
def putW (w : World) (R : Nat) (M : Wd) : World := (((w.setCell ⟨R, 0, none⟩ (.int .i64 M.u)).setCell ⟨R, 1, none⟩ (.int .i64 M.a)).setCell ⟨R, 2, none⟩ (.int .i64 M.b)).setCell ⟨R, 3, none⟩ (.int .i64 M.c)
theorem put8_blk {w : World} {R : Nat} {T : TypeId} {N : Nat → Int} (h : Blk w R T (arr8 N)) (M : Nat → Int) : Blk (put8 w R M) R T (arr8 M) := by
  have := (((((((h.set 0 (.int .i64 (M 0))).set 1 (.int .i64 (M 1))).set 2 (.int .i64 (M 2))).set 3 (.int .i64 (M 3))).set 4 (.int .i64 (M 4))).set 5 (.int .i64 (M 5))).set 6 (.int .i64 (M 6))).set 7 (.int .i64 (M 7))
  rw [arr8_all] at this
  exact this
theorem put8_far {w : World} {R : Nat} {G : Nat} {T : TypeId} {cs : Array Value} (h : Blk w G T cs) (hR : G ≠ R) (M : Nat → Int) : Blk (put8 w R M) G T cs :=
  (((((((h.far hR 0 _).far hR 1 _).far hR 2 _).far hR 3 _).far hR 4 _).far hR 5 _).far hR 6 _).far hR 7 _
theorem put8_below {B : Nat} {w w' : World} {R : Nat} (h : Below B w w') (hR : B ≤ R) (M : Nat → Int) : Below B w (put8 w' R M) :=
  (((((((h.setCell hR _).setCell hR _).setCell hR _).setCell hR _).setCell hR _).setCell hR _).setCell hR _).setCell hR _
theorem putW_blk {w : World} {R : Nat} {T : TypeId} {N : Wd} (h : Blk w R T (arrW N)) (M : Wd) : Blk (putW w R M) R T (arrW M) := by
  have := (((h.set 0 (.int .i64 M.u)).set 1 (.int .i64 M.a)).set 2 (.int .i64 M.b)).set 3 (.int .i64 M.c)
  have e : ((((arrW N).setIfInBounds 0 (.int .i64 M.u)).setIfInBounds 1 (.int .i64 M.a)).setIfInBounds 2 (.int .i64 M.b)).setIfInBounds 3 (.int .i64 M.c) = arrW M := by simp [arrW]
  rw [e] at this
  exact this
theorem putW_far {w : World} {R : Nat} {G : Nat} {T : TypeId} {cs : Array Value} (h : Blk w G T cs) (hR : G ≠ R) (M : Wd) : Blk (putW w R M) G T cs :=
  (((h.far hR 0 _).far hR 1 _).far hR 2 _).far hR 3 _
theorem putW_below {B : Nat} {w w' : World} {R : Nat} (h : Below B w w') (hR : B ≤ R) (M : Wd) : Below B w (putW w' R M) :=
  (((h.setCell hR _).setCell hR _).setCell hR _).setCell hR _
theorem loadW {W : World} {R : Nat} {M : Wd} (h : Blk W R 28 (arrW M)) : (loadVar 28 ⟨R, 0, none⟩).run Tryd.prog W = .ok (.agg (arrW M)) W := by
  have hl := run_loadCells_list (P := Tryd.prog) W ⟨R, 0, none⟩ (arrW M).toList (fun j v hj => by
    have := h.cell j
    rw [← Array.getElem?_toList] at this
    rw [hj] at this
    have ha : (⟨R, 0, none⟩ : Addr).add j = ⟨R, j, none⟩ := by unfold Addr.add; split <;> simp_all
    rw [ha]; exact this)
  simp [loadVar, Tryd.isAgg28, Tryd.sizeOf28, Result.andThen, arrW] at hl ⊢
  simp [hl]
end Go.Proofs.YtgkgbpbohgklhafDoor

namespace Go.Proofs.YtgkgbpbohgklhafDoor
open Go.ChangeShapes Go.WideShapes Go.ChangeAt Go.RowKit
set_option maxRecDepth 100000

theorem wcheck_ok (n : Nat) (hn : n ≤ 6) (w : World) : Calls Tryd.prog 25 #[.int .i64 n] w fun e w' => e = .returned .nilIface ∧ w = w' := by
  have h : okB (n : Int) 0 = true := ok_zero (by omega) (by omega)
  go_enter Tryd.func25, Tryd.ntmps25
  go_wp2_with fail
  go_at_call 43
  refine (check_ok _ _ h _).mono ?_
  rintro e w' ⟨rfl, rfl⟩
  go_wp2
  go_ret
  exact ⟨rfl, rfl⟩
theorem wcheck_no (u : Int) (hu : ¬ (0 ≤ u ∧ u ≤ 6)) (w : World) : Calls Tryd.prog 25 #[.int .i64 u] w fun e w' => e = .returned (.iface 59 (.int .i64 1)) ∧ w = w' := by
  have h : okB u 0 = false := okB_not.2 fun h => hu ⟨h.1, h.2.1⟩
  go_enter Tryd.func25, Tryd.ntmps25
  go_wp2_with fail
  go_at_call 43
  refine (check_no _ _ h _).mono ?_
  rintro e w' ⟨rfl, rfl⟩
  go_wp2
  go_ret
  exact ⟨rfl, rfl⟩

theorem wall_right (n : Nat) (hn : n ≤ 6) (w : World) : Calls Tryd.prog 6 #[.int .i64 n] w fun e w' => e = .returned (.tuple #[.int .i64 (eightN n), .nilIface]) ∧ w' = w := by
  have hb : ∀ k, k ≤ 6 → 1 ≤ eightN k ∧ eightN k ≤ 262144 := by decide
  have HB : Hid (∀ k, k ≤ 6 → 1 ≤ eightN k ∧ eightN k ≤ 262144) := hb
  have HCk : Hid (∀ W, Calls Tryd.prog 25 #[.int .i64 n] W fun e w' => e = .returned .nilIface ∧ W = w') := fun W => wcheck_ok n hn W
  clear hb
  go_enter Tryd.func6, Tryd.ntmps6
  go_wp2_with fail
  go_at_call 25
  refine (HCk.out _).mono ?_
  rintro e w1 ⟨rfl, rfl⟩
  go_wp2
  go_loop [5, 12] (fun p i => ∃ k : Nat, k ≤ n ∧ i = .int .i64 k ∧ p = .int .i64 (eightN k)) (fun _ i => n - (intOf i).toNat)
  case atStart => exact ⟨0, Nat.zero_le _, rfl, rfl⟩
  case round =>
    obtain ⟨k, hk, rfl, rfl⟩ := hrel
    by_cases hlt : k < n
    · have h1 := HB.out (k + 1) (by omega)
      have h2 := HB.out k (by omega)
      have HS : Hid (eightN (k + 1) = eightN k * 8) := rfl
      rw [HS.out] at h1
      go_wp2
      go_round
      case rel => exact ⟨k + 1, by omega, by go_num, by rw [HS.out]⟩
      case measure => simp [intOf]; omega
    · obtain rfl : k = n := by omega
      go_wp2
      go_ret2
      exact ⟨rfl, rfl⟩
theorem wall_wrong (u : Int) (hu : ¬ (0 ≤ u ∧ u ≤ 6)) (w : World) : Calls Tryd.prog 6 #[.int .i64 u] w fun e w' => e = .returned (.tuple #[.int .i64 0, .iface 59 (.int .i64 1)]) ∧ w' = w := by
  have HCk : Hid (∀ W, Calls Tryd.prog 25 #[.int .i64 u] W fun e w' => e = .returned (.iface 59 (.int .i64 1)) ∧ W = w') := fun W => wcheck_no u hu W
  clear hu
  go_enter Tryd.func6, Tryd.ntmps6
  go_wp2_with fail
  go_at_call 25
  refine (HCk.out _).mono ?_
  rintro e w1 ⟨rfl, rfl⟩
  go_wp2
  go_ret2
  exact ⟨rfl, rfl⟩
/-- how many worlds there are. -/
theorem worldsAll_any (u : Int) (w : World) : Calls Tryd.prog 6 #[.int .i64 u] w fun e w' => e = .returned (.tuple #[.int .i64 (allW u), errV (allFault u)]) ∧ Below w.heap.size w w' := by
  by_cases hu : 0 ≤ u ∧ u ≤ 6
  · obtain ⟨n, rfl⟩ := Int.eq_ofNat_of_zero_le hu.1
    refine (wall_right n (by omega) w).mono ?_
    rintro e w' ⟨rfl, rfl⟩
    unfold allW allFault
    rw [if_pos hu, if_pos hu]
    exact ⟨rfl, Below.refl _ _⟩
  · refine (wall_wrong u hu w).mono ?_
    rintro e w' ⟨rfl, rfl⟩
    unfold allW allFault
    rw [if_neg hu, if_neg hu]
    exact ⟨rfl, Below.refl _ _⟩

set_option maxHeartbeats 4000000 in
/-- how many worlds have so many things in each field. -/
theorem walike_any (N : Nat → Int) (h0 : countsFault N = 0) (w : World) :
    Calls Tryd.prog 31 #[.agg #[.int .i64 (N 0), .int .i64 (N 1), .int .i64 (N 2), .int .i64 (N 3), .int .i64 (N 4), .int .i64 (N 5), .int .i64 (N 6), .int .i64 (N 7)]] w fun e w' => e = .returned (.int .i64 (likeN N)) ∧ Below w.heap.size w w' := by
  obtain ⟨hlk, hlay⟩ := lay_right h0
  have HLK : Hid (layTo N 8 = likeN N) := hlk
  have HLY : Hid (∀ i, i < 8 → 0 ≤ sumN N i ∧ sumN N i + N i ≤ 6 ∧ ∀ k : Nat, (k : Int) ≤ N i → 0 ≤ fillN (layTo N i) (sumN N i) k ∧ fillN (layTo N i) (sumN N i) k ≤ 720) := hlay
  have HN : Hid (∀ f, f < 8 → 0 ≤ N f ∧ N f ≤ 6) := (counts_zero.1 h0).1
  clear h0 hlk hlay
  obtain ⟨w1, hw1⟩ : ∃ w1, w1 = w.alloc (.cells #[.int .i64 (N 0), .int .i64 (N 1), .int .i64 (N 2), .int .i64 (N 3), .int .i64 (N 4), .int .i64 (N 5), .int .i64 (N 6), .int .i64 (N 7)] 36) := ⟨_, rfl⟩
  have HB1 : Hid (Below w.heap.size w w1) := by unfold Hid; rw [hw1]; exact below_alloc1 _ _
  have HK1 : Hid (∀ k, k < 8 → w1.cell? ⟨w.heap.size, k, none⟩ = some (.int .i64 (N k))) := fun k hk => by
    have hb : Blk w1 w.heap.size 36 (arr8 N) := by rw [hw1]; exact Blk.new _ _ _
    rw [hb.cell, arr8_get _ hk]
  go_enter Tryd.func31, Tryd.ntmps31
  go_wp2_with fail
  rw [← hw1]
  clear hw1
  go_loop [3, 4, 7] (fun m p i => ∃ k : Nat, k ≤ 8 ∧ i = .int .i64 k ∧ m = .int .i64 (layTo N k) ∧ p = .int .i64 (sumN N k)) (fun _ _ i => 8 - (intOf i).toNat)
  case atStart => exact ⟨0, Nat.zero_le _, rfl, rfl, rfl⟩
  case round =>
    obtain ⟨k, hk, rfl, rfl, rfl⟩ := hrel
    by_cases hlt : k < 8
    · have c := HK1.out k hlt
      have hN := HN.out k hlt
      obtain ⟨hp0, hp1, hf⟩ := HLY.out k hlt
      obtain ⟨n, hn⟩ : ∃ n : Nat, N k = n := ⟨(N k).toNat, by omega⟩
      have HLk : Hid (layTo N (k + 1) = fillN (layTo N k) (sumN N k) n) := by unfold Hid; rw [lay_step, hn]; rfl
      have HSk : Hid (sumN N (k + 1) = sumN N k + n) := by unfold Hid; rw [← hn]; rfl
      rw [hn] at c hN hp1 hf
      obtain ⟨m, hm⟩ : ∃ m, m = layTo N k := ⟨_, rfl⟩
      obtain ⟨p, hp⟩ : ∃ p, p = sumN N k := ⟨_, rfl⟩
      rw [← hm, ← hp] at HLk
      rw [← hp] at HSk hp0 hp1
      rw [← hm, ← hp] at hf ⊢
      have HF : Hid (∀ j : Nat, (j : Int) ≤ n → 0 ≤ fillN m p j ∧ fillN m p j ≤ 720) := hf
      have HF0 : Hid (fillN m p 0 = m) := rfl
      clear hm hp hn hN hf
      have hn6 : n ≤ 6 := by omega
      go_wp2
      go_loop [3, 4, 13] (fun x q i => ∃ j : Nat, j ≤ n ∧ i = .int .i64 j ∧ x = .int .i64 (fillN m p j) ∧ q = .int .i64 (p + j)) (fun _ _ i => n - (intOf i).toNat)
      case atStart => exact ⟨0, Nat.zero_le _, rfl, rfl, by simp⟩
      case round =>
        obtain ⟨j, hj, rfl, rfl, rfl⟩ := hrel
        by_cases hl2 : j < n
        · have h1 := HF.out j (by omega)
          have h2 := HF.out (j + 1) (by omega)
          have HS : Hid (fillN m p (j + 1) = (fillN m p j * (p + j + 1)).tdiv ((j : Int) + 1)) := rfl
          rw [HS.out] at h2
          obtain ⟨y, hy⟩ : ∃ y, y = fillN m p j := ⟨_, rfl⟩
          rw [← hy] at HS h1 h2 ⊢
          have hq : 0 ≤ y * (p + j + 1) := Int.mul_nonneg h1.1 (by omega)
          have hq2 : y * (p + j + 1) ≤ 720 * 6 := Int.mul_le_mul h1.2 (by omega) (by omega) (by omega)
          have hz : ¬ ((j : Int) + 1 = 0) := by omega
          clear hy
          go_wp2
          go_round
          case rel => exact ⟨j + 1, by omega, by go_num, by rw [HS.out], by go_num⟩
          case measure => simp [intOf]; omega
        · obtain rfl : j = n := by omega
          go_wp2
          go_round
          case rel => exact ⟨k + 1, by omega, by go_num, by rw [HLk.out], by rw [HSk.out]⟩
          case measure => simp [intOf]; omega
    · obtain rfl : k = 8 := by omega
      go_wp2
      go_ret
      exact ⟨back_i HLK.out, HB1.out⟩
end Go.Proofs.YtgkgbpbohgklhafDoor

namespace Go.Proofs.YtgkgbpbohgklhafDoor
open Go.ChangeShapes Go.WideShapes Go.ChangeAt Go.RowKit

theorem or_one (x : Bool) : bits .or .i64 0 (wrap64 (oneB x)) = oneB x := by cases x <;> decide +kernel
theorem or_two (x y : Bool) : bits .or .i64 (oneB x) (wrap64 (oneB y * 2)) = oneB x + 2 * oneB y := by cases x <;> cases y <;> decide +kernel
theorem or_three (x y z : Bool) : bits .or .i64 (oneB x + 2 * oneB y) (wrap64 (oneB z * 4)) = oneB x + 2 * oneB y + 4 * oneB z := by cases x <;> cases y <;> cases z <;> decide +kernel
theorem field_int (w : Wd) (i : Nat) : (w.field i : Int) = oneB (hasB w.a i) + 2 * oneB (hasB w.b i) + 4 * oneB (hasB w.c i) := by
  unfold Wd.field
  cases hasB w.a i <;> cases hasB w.b i <;> cases hasB w.c i <;> decide

set_option maxRecDepth 100000 in
set_option maxHeartbeats 4000000 in
theorem lies_any (u a b c : Int) (i : Nat) (hok : (Wd.mk u a b c).ok = true) (hi : (i : Int) < u) (w : World) :
    Calls Tryd.prog 46 #[.agg #[.int .i64 u, .int .i64 a, .int .i64 b, .int .i64 c], .int .i64 i] w fun e w' => e = .returned (.int .i64 ((Wd.mk u a b c).field i)) ∧ Below w.heap.size w w' := by
  obtain ⟨w1, hw1⟩ : ∃ w1, w1 = w.alloc (.cells #[.int .i64 u, .int .i64 a, .int .i64 b, .int .i64 c] 28) := ⟨_, rfl⟩
  have HW : Hid (Below w.heap.size w w1) := by unfold Hid; rw [hw1]; exact below_alloc1 _ _
  have x0 : w1.cell? ⟨w.heap.size, 0, none⟩ = some (.int .i64 u) := by rw [hw1]; simp
  have x1 : w1.cell? ⟨w.heap.size, 1, none⟩ = some (.int .i64 a) := by rw [hw1]; simp
  have x2 : w1.cell? ⟨w.heap.size, 2, none⟩ = some (.int .i64 b) := by rw [hw1]; simp
  have x3 : w1.cell? ⟨w.heap.size, 3, none⟩ = some (.int .i64 c) := by rw [hw1]; simp
  obtain ⟨h1, h2, h3⟩ := Wd.ok_iff.1 hok
  obtain ⟨u0, u6, a0, a6⟩ := okB_lt h1
  obtain ⟨_, _, b0, b6⟩ := okB_lt h2
  obtain ⟨_, _, c0, c6⟩ := okB_lt h3
  simp only at u0 u6 a0 a6 b0 b6 c0 c6
  have hi6 : i < 6 := by omega
  have HB : Hid (bits .and .i64 (a / 2 ^ i) 1 = oneB (hasB a i) ∧ bits .and .i64 (b / 2 ^ i) 1 = oneB (hasB b i) ∧ bits .and .i64 (c / 2 ^ i) 1 = oneB (hasB c i)) := ⟨bit_at a i a0 (by omega) (by omega), bit_at b i b0 (by omega) (by omega), bit_at c i c0 (by omega) (by omega)⟩
  have HF : Hid (((Wd.mk u a b c).field i : Int) = oneB (hasB a i) + 2 * oneB (hasB b i) + 4 * oneB (hasB c i)) := field_int _ _
  clear hok h1 h2 h3 hi
  go_enter Tryd.func46, Tryd.ntmps46
  go_wp2
  rw [← hw1]
  clear hw1
  go_loop [5, 7] (fun s j => (j = .int .i64 0 ∧ s = .int .i64 0) ∨ (j = .int .i64 1 ∧ s = .int .i64 (oneB (hasB a i))) ∨ (j = .int .i64 2 ∧ s = .int .i64 (oneB (hasB a i) + 2 * oneB (hasB b i))) ∨ (j = .int .i64 3 ∧ s = .int .i64 (oneB (hasB a i) + 2 * oneB (hasB b i) + 4 * oneB (hasB c i)))) (fun _ i => 3 - (intOf i).toNat)
  case atStart => exact Or.inl ⟨rfl, rfl⟩
  case round =>
    rcases hrel with ⟨rfl, rfl⟩ | ⟨rfl, rfl⟩ | ⟨rfl, rfl⟩ | ⟨rfl, rfl⟩
    · go_wp2
      go_round
      case rel => exact Or.inr (Or.inl ⟨rfl, by rw [HB.out.1, or_one]⟩)
      case measure => simp [intOf]
    · go_wp2
      go_round
      case rel => exact Or.inr (Or.inr (Or.inl ⟨rfl, by rw [HB.out.2.1, or_two]⟩))
      case measure => simp [intOf]
    · go_wp2
      go_round
      case rel => exact Or.inr (Or.inr (Or.inr ⟨rfl, by rw [HB.out.2.2, or_three]⟩))
      case measure => simp [intOf]
    · go_wp2
      go_ret
      exact ⟨back_i HF.out.symm, HW.out⟩

end Go.Proofs.YtgkgbpbohgklhafDoor

namespace Go.Proofs.YtgkgbpbohgklhafDoor
open Go.ChangeShapes Go.WideShapes Go.ChangeAt Go.RowKit

/-- how many lie in each field; none, if the world is wrong. -/
def Wd.cts (w : Wd) : Nat → Int := if w.ok = true then w.fc w.u.toNat else fun _ => 0
/-- what is wrong with a world. -/
def Wd.wrong (w : Wd) : Int := if w.ok = true then 0 else 1

set_option maxRecDepth 100000 in
set_option maxHeartbeats 4000000 in
theorem of_wrong (u a b c : Int) (w : World) (ho : (Wd.mk u a b c).ok = false) :
    Calls Tryd.prog 30 #[.agg #[.int .i64 u, .int .i64 a, .int .i64 b, .int .i64 c]] w fun e w' => e = .returned (.tuple #[.agg (arr8 fun _ => 0), .iface 59 (.int .i64 1)]) ∧ Below w.heap.size w w' := by
  obtain ⟨Z, hZ⟩ : ∃ Z : Nat → Int, Z = fun _ => 0 := ⟨_, rfl⟩
  rw [← hZ]
  obtain ⟨w1, hw1⟩ : ∃ w1, w1 = ((w.alloc (.cells #[.int .i64 u, .int .i64 a, .int .i64 b, .int .i64 c] 28)).alloc (.cells #[.int .i64 0, .int .i64 0, .int .i64 0, .int .i64 0, .int .i64 0, .int .i64 0, .int .i64 0, .int .i64 0] 36)).alloc (.cells #[.int .i64 0, .int .i64 0, .int .i64 0, .int .i64 0, .int .i64 0, .int .i64 0, .int .i64 0, .int .i64 0] 36) := ⟨_, rfl⟩
  have HW : Hid (Below w.heap.size w w1) := by unfold Hid; rw [hw1]; exact ((below_alloc1 _ _).alloc (by simp) _).alloc (by simp; omega) _
  have HK0 : Hid (Blk w1 w.heap.size 28 (arrW (Wd.mk u a b c))) := by unfold Hid; rw [hw1]; exact ((Blk.new _ _ _).old _).old _
  have HK1 : Hid (Blk w1 (w.heap.size + 1) 36 (arr8 Z)) := by
    unfold Hid; rw [hw1, hZ]
    have := Blk.new (w.alloc (.cells #[.int .i64 u, .int .i64 a, .int .i64 b, .int .i64 c] 28)) 36 (arr8 fun _ => 0)
    simp only [World.size_alloc] at this
    exact this.old _
  have HK2 : Hid (Blk w1 (w.heap.size + 1 + 1) 36 (arr8 Z)) := by
    unfold Hid; rw [hw1, hZ]
    have := Blk.new ((w.alloc (.cells #[.int .i64 u, .int .i64 a, .int .i64 b, .int .i64 c] 28)).alloc (.cells (arr8 fun _ => 0) 36)) 36 (arr8 fun _ => 0)
    simp only [World.size_alloc] at this
    exact this
  have HC : Hid (Calls Tryd.prog 45 #[.agg #[.int .i64 u, .int .i64 a, .int .i64 b, .int .i64 c]] w1 fun e w' => e = .returned (.iface 59 (.int .i64 1)) ∧ Below w1.heap.size w1 w') := by
    have := checkWorld_any u a b c w1
    rw [if_neg (by rw [ho]; decide)] at this
    exact this
  clear ho hZ
  obtain ⟨x0, x1, x2, x3⟩ := HK0.out.cells4
  go_enter Tryd.func30, Tryd.ntmps30
  go_wp2_with fail
  rw [← hw1]
  clear hw1
  go_wp2_with fail
  go_at_call 45
  refine HC.out.mono ?_
  rintro e w2 ⟨rfl, hb⟩
  have HB : Hid (Below w.heap.size w w2) := HW.out.trans (hb.mono HW.out.size)
  have HR : Hid (Blk w2 (w.heap.size + 1) 36 (arr8 Z)) := HK1.out.below hb
  have HN : Hid (Blk w2 (w.heap.size + 1 + 1) 36 (arr8 Z)) := HK2.out.below hb
  clear hb x0 x1 x2 x3
  obtain ⟨n0, n1, n2, n3, n4, n5, n6, n7⟩ := HN.out.cells8
  obtain ⟨r0, r1, r2, r3, r4, r5, r6, r7⟩ := HR.out.cells8
  obtain ⟨f0, f1, f2, f3, f4, f5, f6, f7⟩ := HR.out.frozen8
  go_wp2
  have hld := load8 (put8_blk HR.out Z)
  refine bodyPost_ret (v := .tuple #[.agg (arr8 Z), .iface 59 (.int .i64 1)]) ?_ rfl ⟨rfl, ?_⟩
  · rw [results_cell_tmp rfl]
    unfold put8 at hld
    simp [asAddr, Result.andThen, hld]
  · exact put8_below HB.out (by omega) _

set_option maxRecDepth 100000 in
set_option maxHeartbeats 4000000 in
theorem of_right (n : Nat) (a b c : Int) (w : World) (ho : (Wd.mk n a b c).ok = true) :
    Calls Tryd.prog 30 #[.agg #[.int .i64 n, .int .i64 a, .int .i64 b, .int .i64 c]] w fun e w' => e = .returned (.tuple #[.agg (arr8 ((Wd.mk n a b c).fc n)), .nilIface]) ∧ Below w.heap.size w w' := by
  obtain ⟨Z, hZ⟩ : ∃ Z : Nat → Int, Z = fun _ => 0 := ⟨_, rfl⟩
  obtain ⟨w1, hw1⟩ : ∃ w1, w1 = ((w.alloc (.cells #[.int .i64 n, .int .i64 a, .int .i64 b, .int .i64 c] 28)).alloc (.cells #[.int .i64 0, .int .i64 0, .int .i64 0, .int .i64 0, .int .i64 0, .int .i64 0, .int .i64 0, .int .i64 0] 36)).alloc (.cells #[.int .i64 0, .int .i64 0, .int .i64 0, .int .i64 0, .int .i64 0, .int .i64 0, .int .i64 0, .int .i64 0] 36) := ⟨_, rfl⟩
  have HW : Hid (Below w.heap.size w w1) := by unfold Hid; rw [hw1]; exact ((below_alloc1 _ _).alloc (by simp) _).alloc (by simp; omega) _
  have HK0 : Hid (Blk w1 w.heap.size 28 (arrW (Wd.mk n a b c))) := by unfold Hid; rw [hw1]; exact ((Blk.new _ _ _).old _).old _
  have HK1 : Hid (Blk w1 (w.heap.size + 1) 36 (arr8 Z)) := by
    unfold Hid; rw [hw1, hZ]
    have := Blk.new (w.alloc (.cells #[.int .i64 n, .int .i64 a, .int .i64 b, .int .i64 c] 28)) 36 (arr8 fun _ => 0)
    simp only [World.size_alloc] at this
    exact this.old _
  have HK2 : Hid (Blk w1 (w.heap.size + 1 + 1) 36 (arr8 Z)) := by
    unfold Hid; rw [hw1, hZ]
    have := Blk.new ((w.alloc (.cells #[.int .i64 n, .int .i64 a, .int .i64 b, .int .i64 c] 28)).alloc (.cells (arr8 fun _ => 0) 36)) 36 (arr8 fun _ => 0)
    simp only [World.size_alloc] at this
    exact this
  have HC : Hid (Calls Tryd.prog 45 #[.agg #[.int .i64 n, .int .i64 a, .int .i64 b, .int .i64 c]] w1 fun e w' => e = .returned .nilIface ∧ Below w1.heap.size w1 w') := by
    have := checkWorld_any n a b c w1
    rw [if_pos ho] at this
    exact this
  have hn6 : n ≤ 6 := by have := (ok_u ho).2; simp only at this; omega
  have HL : Hid (∀ (k : Nat) W, k < n → Calls Tryd.prog 46 #[.agg #[.int .i64 n, .int .i64 a, .int .i64 b, .int .i64 c], .int .i64 k] W fun e w' => e = .returned (.int .i64 ((Wd.mk n a b c).field k)) ∧ Below W.heap.size W w') := fun k W hk => lies_any n a b c k ho (by omega) W
  obtain ⟨D, hD⟩ : ∃ D, D = Wd.mk n a b c := ⟨_, rfl⟩
  rw [← hD] at HK0 HL ⊢
  have hDu : D.u = n := by rw [hD]
  have hDa : D.a = a := by rw [hD]
  have hDb : D.b = b := by rw [hD]
  have hDc : D.c = c := by rw [hD]
  have HDD : Hid (D.u = n ∧ D.a = a ∧ D.b = b ∧ D.c = c) := ⟨hDu, hDa, hDb, hDc⟩
  have HZ : Hid (arr8 Z = arr8 (D.fc 0)) := by unfold Hid; rw [hZ]; rfl
  clear ho hD hDu hDa hDb hDc hZ
  have HX : Hid (∀ W, Blk W w.heap.size 28 (arrW D) → W.cell? ⟨w.heap.size, 0, none⟩ = some (.int .i64 n) ∧ W.cell? ⟨w.heap.size, 1, none⟩ = some (.int .i64 a) ∧ W.cell? ⟨w.heap.size, 2, none⟩ = some (.int .i64 b) ∧ W.cell? ⟨w.heap.size, 3, none⟩ = some (.int .i64 c)) := fun W h => by
    have := h.cells4
    rw [HDD.out.1, HDD.out.2.1, HDD.out.2.2.1, HDD.out.2.2.2] at this
    exact this
  obtain ⟨x0, x1, x2, x3⟩ := HX.out _ HK0.out
  go_enter Tryd.func30, Tryd.ntmps30
  go_wp2_with fail
  rw [← hw1]
  clear hw1
  go_wp2_with fail
  go_at_call 45
  refine HC.out.mono ?_
  rintro e w2 ⟨rfl, hb⟩
  have HB : Hid (Below w.heap.size w w2) := HW.out.trans (hb.mono HW.out.size)
  have HP : Hid (Blk w2 w.heap.size 28 (arrW D)) := HK0.out.below hb
  have HR : Hid (Blk w2 (w.heap.size + 1) 36 (arr8 Z)) := HK1.out.below hb
  have HN : Hid (Blk w2 (w.heap.size + 1 + 1) 36 (arr8 Z)) := HK2.out.below hb
  clear hb x0 x1 x2 x3
  obtain ⟨x0, x1, x2, x3⟩ := HX.out _ HP.out
  go_wp2
  clear x0 x1 x2 x3
  go_loopw [15] (fun i wr => ∃ k : Nat, k ≤ n ∧ i = .int .i64 k ∧ Below w.heap.size w wr ∧ Blk wr w.heap.size 28 (arrW D) ∧ Blk wr (w.heap.size + 1) 36 (arr8 Z) ∧ Blk wr (w.heap.size + 1 + 1) 36 (arr8 (D.fc k))) (fun i _ => n - (intOf i).toNat)
  case atStart => exact ⟨0, Nat.zero_le _, rfl, HB.out, HP.out, HR.out, by rw [← HZ.out]; exact HN.out⟩
  case round =>
    obtain ⟨k, hk, rfl, hb, hp, hr, hn⟩ := hrel
    have HB1 : Hid (Below w.heap.size w wr) := hb
    have HP1 : Hid (Blk wr w.heap.size 28 (arrW D)) := hp
    have HR1 : Hid (Blk wr (w.heap.size + 1) 36 (arr8 Z)) := hr
    have HN1 : Hid (Blk wr (w.heap.size + 1 + 1) 36 (arr8 (D.fc k))) := hn
    clear hb hp hr hn
    by_cases hlt : k < n
    · obtain ⟨x0, x1, x2, x3⟩ := HX.out _ HP1.out
      have hf8 := field_lt D k
      have HLk : Hid (Calls Tryd.prog 46 #[.agg #[.int .i64 n, .int .i64 a, .int .i64 b, .int .i64 c], .int .i64 k] wr fun e w' => e = .returned (.int .i64 (D.field k)) ∧ Below wr.heap.size wr w') := HL.out k wr hlt
      obtain ⟨f, hf⟩ : ∃ f, f = D.field k := ⟨_, rfl⟩
      rw [← hf] at hf8 HLk
      have HF : Hid (f = D.field k) := hf
      clear hf
      go_wp2_with fail
      go_at_call 46
      refine HLk.out.mono ?_
      rintro e w3 ⟨rfl, hb⟩
      have HB3 : Hid (Below w.heap.size w w3) := HB1.out.trans (hb.mono HB1.out.size)
      have HP3 : Hid (Blk w3 w.heap.size 28 (arrW D)) := HP1.out.below hb
      have HR3 : Hid (Blk w3 (w.heap.size + 1) 36 (arr8 Z)) := HR1.out.below hb
      have hn3 : Blk w3 (w.heap.size + 1 + 1) 36 (arr8 (D.fc k)) := HN1.out.below hb
      clear hb x0 x1 x2 x3
      have c3 : w3.cell? ⟨w.heap.size + 1 + 1, f, none⟩ = some (.int .i64 (D.fc k f)) := by rw [hn3.cell, arr8_get _ hf8]
      have z3 := hn3.frozen f
      have p3 := fc_le D k f
      have HE : Hid (Blk (w3.setCell ⟨w.heap.size + 1 + 1, f, none⟩ (.int .i64 (D.fc k f + 1))) (w.heap.size + 1 + 1) 36 (arr8 (D.fc (k + 1)))) := by
        have := hn3.set f (.int .i64 (D.fc k f + 1))
        rw [arr8_one _ hf8] at this
        have e : (fun g => D.fc k g + if f = g then 1 else 0) = D.fc (k + 1) := by
          funext g; show _ = D.fc k g + _; rw [HF.out]
        rw [e] at this
        exact this
      clear hn3
      go_wp2
      go_roundw
      case rel => exact ⟨k + 1, by omega, by go_num, HB3.out.setCell (by simp; omega) _, HP3.out.far (by omega) _ _, HR3.out.far (by omega) _ _, HE.out⟩
      case measure => simp [intOf]; omega
    · obtain rfl : k = n := by omega
      obtain ⟨n0, n1, n2, n3, n4, n5, n6, n7⟩ := HN1.out.cells8
      obtain ⟨r0, r1, r2, r3, r4, r5, r6, r7⟩ := HR1.out.cells8
      obtain ⟨f0, f1, f2, f3, f4, f5, f6, f7⟩ := HR1.out.frozen8
      go_wp2
      have hld := load8 (put8_blk HR1.out (D.fc k))
      refine bodyPost_ret (v := .tuple #[.agg (arr8 (D.fc k)), .nilIface]) ?_ rfl ⟨rfl, ?_⟩
      · rw [results_cell_tmp rfl]
        unfold put8 at hld
        simp [asAddr, Result.andThen, hld]
      · exact put8_below HB1.out (by omega) _

/-- Of, whatever the world. -/
theorem fieldsOf_any (u a b c : Int) (w : World) :
    Calls Tryd.prog 30 #[.agg #[.int .i64 u, .int .i64 a, .int .i64 b, .int .i64 c]] w fun e w' => e = .returned (.tuple #[.agg (arr8 (Wd.mk u a b c).cts), errV (Wd.mk u a b c).wrong]) ∧ Below w.heap.size w w' := by
  rcases (Bool.eq_false_or_eq_true (Wd.mk u a b c).ok).symm with ho | ho
  · unfold Wd.cts Wd.wrong
    rw [if_neg (by rw [ho]; decide), if_neg (by rw [ho]; decide)]
    exact of_wrong u a b c w ho
  · unfold Wd.cts Wd.wrong
    rw [if_pos ho, if_pos ho]
    obtain ⟨n, rfl⟩ := Int.eq_ofNat_of_zero_le (ok_u ho).1
    exact of_right n a b c w ho
end Go.Proofs.YtgkgbpbohgklhafDoor

namespace Go.Proofs.YtgkgbpbohgklhafDoor
open Go.ChangeShapes Go.WideShapes Go.ChangeAt Go.RowKit

set_option maxRecDepth 100000 in
set_option maxHeartbeats 4000000 in
theorem fcounts_any (N : Nat → Int) (w : World) :
    Calls Tryd.prog 73 #[.agg #[.int .i64 (N 0), .int .i64 (N 1), .int .i64 (N 2), .int .i64 (N 3), .int .i64 (N 4), .int .i64 (N 5), .int .i64 (N 6), .int .i64 (N 7)]] w fun e w' => e = .returned (errV (countsFault N)) ∧ Below w.heap.size w w' := by
  obtain ⟨w1, hw1⟩ : ∃ w1, w1 = w.alloc (.cells #[.int .i64 (N 0), .int .i64 (N 1), .int .i64 (N 2), .int .i64 (N 3), .int .i64 (N 4), .int .i64 (N 5), .int .i64 (N 6), .int .i64 (N 7)] 36) := ⟨_, rfl⟩
  have HW : Hid (Below w.heap.size w w1) := by unfold Hid; rw [hw1]; exact below_alloc1 _ _
  have HX : Hid (∀ k, k < 8 → w1.cell? ⟨w.heap.size, k, none⟩ = some (.int .i64 (N k))) := fun k hk => by
    rw [hw1]
    rcases eight hk with rfl | rfl | rfl | rfl | rfl | rfl | rfl | rfl <;> simp
  obtain ⟨F, hF⟩ : ∃ F, F = countsFault N := ⟨_, rfl⟩
  have HF1 : Hid (∀ k, k < 8 → ¬ (0 ≤ N k ∧ N k ≤ 6) → errV F = .iface 59 (.int .i64 1)) := fun k hk h => by
    rw [hF]; unfold countsFault; rw [if_neg (by rw [eachB_no hk h]; decide)]; rfl
  have HF2 : Hid ((∀ f, f < 8 → 0 ≤ N f ∧ N f ≤ 6) → (sumN N 8 ≤ 6 → errV F = .nilIface) ∧ (6 < sumN N 8 → errV F = .iface 59 (.int .i64 4))) := fun h => by
    rw [hF]; unfold countsFault; rw [if_pos (eachB_iff.2 h)]
    exact ⟨fun h' => by rw [if_pos h']; rfl, fun h' => by rw [if_neg (by omega)]; rfl⟩
  rw [← hF]
  clear hF
  go_enter Tryd.func73, Tryd.ntmps73
  go_wp2
  rw [← hw1]
  clear hw1
  go_loop [6] (fun i => ∃ k : Nat, k ≤ 8 ∧ i = .int .i64 k ∧ ∀ f, f < k → 0 ≤ N f ∧ N f ≤ 6) (fun i => 8 - (intOf i).toNat)
  case atStart => exact ⟨0, Nat.zero_le _, rfl, fun f hf => by omega⟩
  case round =>
    obtain ⟨k, hk, rfl, hall⟩ := hrel
    have HA : Hid (∀ f, f < k → 0 ≤ N f ∧ N f ≤ 6) := hall
    clear hall
    by_cases hlt : k < 8
    · have hc := HX.out k hlt
      obtain ⟨x, hx⟩ : ∃ x, x = N k := ⟨_, rfl⟩
      rw [← hx] at hc
      have HXk : Hid (x = N k) := hx
      clear hx
      by_cases h0 : x < 0
      · have HE : Hid (errV F = .iface 59 (.int .i64 1)) := HF1.out k hlt (by rw [← HXk.out]; omega)
        go_wp2
        go_ret
        exact ⟨back_v HE.out.symm, HW.out⟩
      by_cases h6 : 6 < x
      · have HE : Hid (errV F = .iface 59 (.int .i64 1)) := HF1.out k hlt (by rw [← HXk.out]; omega)
        go_wp2
        go_ret
        exact ⟨back_v HE.out.symm, HW.out⟩
      · have HN : Hid (∀ f, f < k + 1 → 0 ≤ N f ∧ N f ≤ 6) := fun f hf => by
          rcases Nat.lt_or_ge f k with h' | h'
          · exact HA.out f h'
          · obtain rfl : f = k := by omega
            rw [← HXk.out]; omega
        go_wp2
        go_round
        case rel => exact ⟨k + 1, by omega, by go_num, HN.out⟩
        case measure => simp [intOf]; omega
    · obtain rfl : k = 8 := by omega
      go_wp2
      go_loop [4, 21] (fun s i => ∃ k : Nat, k ≤ 8 ∧ i = .int .i64 k ∧ s = .int .i64 (sumN N k)) (fun _ i => 8 - (intOf i).toNat)
      case atStart => exact ⟨0, Nat.zero_le _, rfl, rfl⟩
      case round =>
        obtain ⟨k, hk, rfl, rfl⟩ := hrel
        by_cases hlt2 : k < 8
        · have hc := HX.out k hlt2
          have p1 := sumN_le (N := N) (k := k) fun f hf => HA.out f (by omega)
          have p2 := HA.out k (by omega)
          have HS : Hid (sumN N (k + 1) = sumN N k + N k) := rfl
          go_wp2
          go_round
          case rel => exact ⟨k + 1, by omega, by go_num, by rw [HS.out]⟩
          case measure => simp [intOf]; omega
        · obtain rfl : k = 8 := by omega
          by_cases h6 : sumN N 8 ≤ 6
          · have HE : Hid (errV F = .nilIface) := (HF2.out HA.out).1 h6
            go_wp2
            go_ret
            exact ⟨back_v HE.out.symm, HW.out⟩
          · have h6' : 6 < sumN N 8 := by omega
            have HE : Hid (errV F = .iface 59 (.int .i64 4)) := (HF2.out HA.out).2 h6'
            go_wp2
            go_ret
            exact ⟨back_v HE.out.symm, HW.out⟩
end Go.Proofs.YtgkgbpbohgklhafDoor
