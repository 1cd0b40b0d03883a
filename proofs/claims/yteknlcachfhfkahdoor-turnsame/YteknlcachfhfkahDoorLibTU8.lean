/-
  Plain facts on a block of memory, whole: what lies in it, behind a call, behind a store; eight numbers and a world as blocks. (What the contracts of package fields lean on.)
  Proved: what vennref2.Once and vennref2.Renamed return; what was in memory is as it was (contracts that the statements of chapter 16 lean on).
  Proved: what takes, tooMany and isOne of package form return, and slices.ContainsFunc at the function of its Check; what was in memory is as it was (contracts that the statements lean on).
-/
import Derived.Test.YteknlcachfhfkahDoorLibTU7
import Derived.Test.YteknlcachfhfkahDoorLibTU2
import Derived.Test.YteknlcachfhfkahDoorLibTU6
import Derived.Handy
import Derived.Test.YteknlcachfhfkahDoorLibTU5
import Derived.Maps.AppendAt
import Derived.Deep.AppendLies
import Derived.Deep.CutRange
namespace Go.Proofs.YteknlcachfhfkahDoor
open Go.ChangeShapes Go.WideShapes Go.ChangeAt Go.RowKit

/-- block G holds the cells cs, and all of them may be written. -/
def Blk (w : World) (G : Nat) (T : TypeId) (cs : Array Value) : Prop := w.heap[G]? = some (.cells cs T (0, 0))
theorem Blk.lt {w : World} {G : Nat} {T : TypeId} {cs : Array Value} (h : Blk w G T cs) : G < w.heap.size := (Array.getElem?_eq_some_iff.1 h).1
theorem Blk.below {w w' : World} {G : Nat} {T : TypeId} {cs : Array Value} (h : Blk w G T cs) (hb : Below w.heap.size w w') : Blk w' G T cs := by
  unfold Blk; rw [hb.block G h.lt]; exact h
theorem Blk.cell {w : World} {G : Nat} {T : TypeId} {cs : Array Value} (h : Blk w G T cs) (j : Nat) : w.cell? ⟨G, j, none⟩ = cs[j]? := cell_of_row w G j cs T (0, 0) h
theorem Blk.frozen {w : World} {G : Nat} {T : TypeId} {cs : Array Value} (h : Blk w G T cs) (j : Nat) : w.frozen? ⟨G, j, none⟩ = false := frozen_of_row w G j cs T h
theorem Blk.set {w : World} {G : Nat} {T : TypeId} {cs : Array Value} (h : Blk w G T cs) (j : Nat) (u : Value) : Blk (w.setCell ⟨G, j, none⟩ u) G T (cs.setIfInBounds j u) := heap_setCell_same w G j cs T u h
theorem Blk.far {w : World} {G : Nat} {T : TypeId} {cs : Array Value} (h : Blk w G T cs) {R : Nat} (hR : G ≠ R) (j : Nat) (u : Value) : Blk (w.setCell ⟨R, j, none⟩ u) G T cs := by
  unfold Blk; rw [heap_setCell_other w ⟨R, j, none⟩ G u hR]; exact h
theorem Blk.drew {w : World} {G : Nat} {T : TypeId} {cs : Array Value} (h : Blk w G T cs) : Blk w.drew G T cs := h
theorem Blk.new (w : World) (T : TypeId) (cs : Array Value) : Blk (w.alloc (.cells cs T)) w.heap.size T cs := heap_alloc_new w _
theorem Blk.old {w : World} {G : Nat} {T : TypeId} {cs : Array Value} (h : Blk w G T cs) (o : Obj) : Blk (w.alloc o) G T cs := by
  unfold Blk; rw [heap_alloc_old w o h.lt]; exact h

/-- eight numbers. -/
def arr8 (N : Nat → Int) : Array Value := #[.int .i64 (N 0), .int .i64 (N 1), .int .i64 (N 2), .int .i64 (N 3), .int .i64 (N 4), .int .i64 (N 5), .int .i64 (N 6), .int .i64 (N 7)]
theorem arr8_get (N : Nat → Int) {f : Nat} (hf : f < 8) : (arr8 N)[f]? = some (.int .i64 (N f)) := by
  rcases eight hf with rfl | rfl | rfl | rfl | rfl | rfl | rfl | rfl <;> rfl
theorem arr8_one (N : Nat → Int) {f : Nat} (hf : f < 8) : (arr8 N).setIfInBounds f (.int .i64 (N f + 1)) = arr8 (fun g => N g + if f = g then 1 else 0) := by
  rcases eight hf with rfl | rfl | rfl | rfl | rfl | rfl | rfl | rfl <;> simp [arr8]
theorem arr8_same {N M : Nat → Int} (h : ∀ f, f < 8 → N f = M f) : arr8 N = arr8 M := by
  unfold arr8
  rw [h 0 (by omega), h 1 (by omega), h 2 (by omega), h 3 (by omega), h 4 (by omega), h 5 (by omega), h 6 (by omega), h 7 (by omega)]
theorem arr8_all (N M : Nat → Int) : ((((((((arr8 N).setIfInBounds 0 (.int .i64 (M 0))).setIfInBounds 1 (.int .i64 (M 1))).setIfInBounds 2 (.int .i64 (M 2))).setIfInBounds 3 (.int .i64 (M 3))).setIfInBounds 4 (.int .i64 (M 4))).setIfInBounds 5 (.int .i64 (M 5))).setIfInBounds 6 (.int .i64 (M 6))).setIfInBounds 7 (.int .i64 (M 7)) = arr8 M := by
  simp [arr8]
/-- a world's four numbers. -/
def arrW (w : Wd) : Array Value := #[.int .i64 w.u, .int .i64 w.a, .int .i64 w.b, .int .i64 w.c]

theorem load8 {W : World} {R : Nat} {N : Nat → Int} (h : Blk W R 63 (arr8 N)) : (loadVar 63 ⟨R, 0, none⟩).run Tryd.prog W = .ok (.agg (arr8 N)) W := by
  have hl := run_loadCells_list (P := Tryd.prog) W ⟨R, 0, none⟩ (arr8 N).toList (fun j v hj => by
    have := h.cell j
    rw [← Array.getElem?_toList] at this
    rw [hj] at this
    have ha : (⟨R, 0, none⟩ : Addr).add j = ⟨R, j, none⟩ := by unfold Addr.add; split <;> simp_all
    rw [ha]; exact this)
  simp [loadVar, Tryd.isAgg63, Tryd.sizeOf63, Result.andThen, arr8] at hl ⊢
  simp [hl]
theorem Blk.cells8 {w : World} {G : Nat} {T : TypeId} {N : Nat → Int} (h : Blk w G T (arr8 N)) : w.cell? ⟨G, 0, none⟩ = some (.int .i64 (N 0)) ∧ w.cell? ⟨G, 1, none⟩ = some (.int .i64 (N 1)) ∧ w.cell? ⟨G, 2, none⟩ = some (.int .i64 (N 2)) ∧ w.cell? ⟨G, 3, none⟩ = some (.int .i64 (N 3)) ∧ w.cell? ⟨G, 4, none⟩ = some (.int .i64 (N 4)) ∧ w.cell? ⟨G, 5, none⟩ = some (.int .i64 (N 5)) ∧ w.cell? ⟨G, 6, none⟩ = some (.int .i64 (N 6)) ∧ w.cell? ⟨G, 7, none⟩ = some (.int .i64 (N 7)) :=
  ⟨h.cell 0, h.cell 1, h.cell 2, h.cell 3, h.cell 4, h.cell 5, h.cell 6, h.cell 7⟩
theorem Blk.frozen8 {w : World} {G : Nat} {T : TypeId} {cs : Array Value} (h : Blk w G T cs) : w.frozen? ⟨G, 0, none⟩ = false ∧ w.frozen? ⟨G, 1, none⟩ = false ∧ w.frozen? ⟨G, 2, none⟩ = false ∧ w.frozen? ⟨G, 3, none⟩ = false ∧ w.frozen? ⟨G, 4, none⟩ = false ∧ w.frozen? ⟨G, 5, none⟩ = false ∧ w.frozen? ⟨G, 6, none⟩ = false ∧ w.frozen? ⟨G, 7, none⟩ = false :=
  ⟨h.frozen 0, h.frozen 1, h.frozen 2, h.frozen 3, h.frozen 4, h.frozen 5, h.frozen 6, h.frozen 7⟩
theorem Blk.cells4 {w : World} {G : Nat} {T : TypeId} {W : Wd} (h : Blk w G T (arrW W)) : w.cell? ⟨G, 0, none⟩ = some (.int .i64 W.u) ∧ w.cell? ⟨G, 1, none⟩ = some (.int .i64 W.a) ∧ w.cell? ⟨G, 2, none⟩ = some (.int .i64 W.b) ∧ w.cell? ⟨G, 3, none⟩ = some (.int .i64 W.c) :=
  ⟨h.cell 0, h.cell 1, h.cell 2, h.cell 3⟩
theorem Blk.frozen4 {w : World} {G : Nat} {T : TypeId} {cs : Array Value} (h : Blk w G T cs) : w.frozen? ⟨G, 0, none⟩ = false ∧ w.frozen? ⟨G, 1, none⟩ = false ∧ w.frozen? ⟨G, 2, none⟩ = false ∧ w.frozen? ⟨G, 3, none⟩ = false :=
  ⟨h.frozen 0, h.frozen 1, h.frozen 2, h.frozen 3⟩
/-- eight numbers, and a world, written into a block. -/
def put8 (w : World) (R : Nat) (M : Nat → Int) : World := (((((((w.setCell ⟨R, 0, none⟩ (.int .i64 (M 0))).setCell ⟨R, 1, none⟩ (.int .i64 (M 1))).setCell ⟨R, 2, none⟩ (.int .i64 (M 2))).setCell ⟨R, 3, none⟩ (.int .i64 (M 3))).setCell ⟨R, 4, none⟩ (.int .i64 (M 4))).setCell ⟨R, 5, none⟩ (.int .i64 (M 5))).setCell ⟨R, 6, none⟩ (.int .i64 (M 6))).setCell ⟨R, 7, none⟩ (.int .i64 (M 7))
def putW (w : World) (R : Nat) (M : Wd) : World := (((w.setCell ⟨R, 0, none⟩ (.int .i64 M.u)).setCell ⟨R, 1, none⟩ (.int .i64 M.a)).setCell ⟨R, 2, none⟩ (.int .i64 M.b)).setCell ⟨R, 3, none⟩ (.int .i64 M.c)
theorem put8_blk {w : World} {R : Nat} {T : TypeId} {N : Nat → Int} (h : Blk w R T (arr8 N)) (M : Nat → Int) : Blk (put8 w R M) R T (arr8 M) := by
  have := (((((((h.set 0 (.int .i64 (M 0))).set 1 (.int .i64 (M 1))).set 2 (.int .i64 (M 2))).set 3 (.int .i64 (M 3))).set 4 (.int .i64 (M 4))).set 5 (.int .i64 (M 5))).set 6 (.int .i64 (M 6))).set 7 (.int .i64 (M 7))
  rw [arr8_all] at this
  exact this
theorem put8_far {w : World} {R : Nat} {G : Nat} {T : TypeId} {cs : Array Value} (h : Blk w G T cs) (hR : G ≠ R) (M : Nat → Int) : Blk (put8 w R M) G T cs :=
  (((((((h.far hR 0 _).far hR 1 _).far hR 2 _).far hR 3 _).far hR 4 _).far hR 5 _).far hR 6 _).far hR 7 _
theorem put8_below {B : Nat} {w w' : World} {R : Nat} (h : Below B w w') (hR : B ≤ R) (M : Nat → Int) : Below B w (put8 w' R M) :=
  (((((((h.setCell hR _).setCell hR _).setCell hR _).setCell hR _).setCell hR _).setCell hR _).setCell hR _).setCell hR _
theorem putW_blk {w : World} {R : Nat} {T : TypeId} {N : Wd} (h : Blk w R T (arrW N)) (M : Wd) : Blk (putW w R M) R T (arrW M) := by
  have := (((h.set 0 (.int .i64 M.u)).set 1 (.int .i64 M.a)).set 2 (.int .i64 M.b)).set 3 (.int .i64 M.c)
  have e : ((((arrW N).setIfInBounds 0 (.int .i64 M.u)).setIfInBounds 1 (.int .i64 M.a)).setIfInBounds 2 (.int .i64 M.b)).setIfInBounds 3 (.int .i64 M.c) = arrW M := by simp [arrW]
  rw [e] at this
  exact this
theorem putW_far {w : World} {R : Nat} {G : Nat} {T : TypeId} {cs : Array Value} (h : Blk w G T cs) (hR : G ≠ R) (M : Wd) : Blk (putW w R M) G T cs :=
  (((h.far hR 0 _).far hR 1 _).far hR 2 _).far hR 3 _
theorem putW_below {B : Nat} {w w' : World} {R : Nat} (h : Below B w w') (hR : B ≤ R) (M : Wd) : Below B w (putW w' R M) :=
  (((h.setCell hR _).setCell hR _).setCell hR _).setCell hR _
theorem loadW {W : World} {R : Nat} {M : Wd} (h : Blk W R 38 (arrW M)) : (loadVar 38 ⟨R, 0, none⟩).run Tryd.prog W = .ok (.agg (arrW M)) W := by
  have hl := run_loadCells_list (P := Tryd.prog) W ⟨R, 0, none⟩ (arrW M).toList (fun j v hj => by
    have := h.cell j
    rw [← Array.getElem?_toList] at this
    rw [hj] at this
    have ha : (⟨R, 0, none⟩ : Addr).add j = ⟨R, j, none⟩ := by unfold Addr.add; split <;> simp_all
    rw [ha]; exact this)
  simp [loadVar, Tryd.isAgg38, Tryd.sizeOf38, Result.andThen, arrW] at hl ⊢
  simp [hl]
end Go.Proofs.YteknlcachfhfkahDoor

namespace Go.Proofs.YteknlcachfhfkahDoor
open Go.ChangeShapes Go.WideShapes Go.ChangeAt Go.RowKit
set_option maxRecDepth 100000

set_option maxHeartbeats 4000000 in
theorem refOnce_any (l : List Int) (v : Value) (w : World) (h : Reads w v l) :
    Calls Tryd.prog 22 #[v] w fun e w' => e = .returned (.bool (onceB l)) ∧ w' = w := by
  rcases h with ⟨ao, cap, rfl, rfl⟩ | ⟨b, off, cap, rfl, hB, h0, ⟨hl, _⟩, hc⟩
  · go_enter Tryd.func22, Tryd.ntmps22
    go_wp2
    refine wp_loop_rounds 1 ?_
    rw [rounds_succ]
    go_wp2
    go_ret
    exact ⟨rfl, rfl⟩
  · have HC : Hid (∀ k, k < l.length → w.cell? ⟨b, off + k, none⟩ = some (.int .i64 (l.getD k 0))) := hc
    have HAll : Hid ((∀ j, j < l.length → l.count (j : Int) = 1) → onceB l = true) := fun h => by
      unfold onceB
      rw [List.all_eq_true]
      exact fun i hi => decide_eq_true (h i (List.mem_range.1 hi))
    have HNot : Hid (∀ j, j < l.length → ¬ l.count (j : Int) = 1 → onceB l = false) := fun j hj h => by
      unfold onceB
      rw [List.all_eq_false]
      exact ⟨j, List.mem_range.2 hj, by simpa using h⟩
    have HTk : Hid (∀ m, m < l.length → ∀ i : Int, (l.take (m + 1)).count i = (l.take m).count i + if l.getD m 0 = i then 1 else 0) := fun m hm i => by
      rw [List.take_add_one, List.getElem?_eq_getElem hm, List.count_append, List.getD_eq_getElem?_getD, List.getElem?_eq_getElem hm]
      simp [List.count_cons]
    have HEnd : Hid (∀ i : Int, (l.take l.length).count i = l.count i) := fun i => by rw [List.take_length]
    have HLe : Hid (∀ m (i : Int), (l.take m).count i ≤ m) := fun m i => Nat.le_trans List.count_le_length (by rw [List.length_take]; omega)
    obtain ⟨R, hR⟩ : ∃ R, R = onceB l := ⟨_, rfl⟩
    rw [← hR] at HAll HNot ⊢
    obtain ⟨n, hn⟩ : ∃ n, n = l.length := ⟨_, rfl⟩
    rw [← hn] at hl h0 HC HAll HNot HTk HEnd ⊢
    clear hc hR hn hB
    go_enter Tryd.func22, Tryd.ntmps22
    go_wp2
    go_loop [3, 4, 5] (fun i _ _ => ∃ k : Nat, k ≤ n ∧ i = .int .i64 k ∧ ∀ j, j < k → l.count (j : Int) = 1) (fun i _ _ => n - (intOf i).toNat)
    case atStart => exact ⟨0, Nat.zero_le _, rfl, fun j hj => by omega⟩
    case round =>
      obtain ⟨k, hk, rfl, hall⟩ := hrel
      have HA : Hid (∀ j, j < k → l.count (j : Int) = 1) := hall
      clear hall
      by_cases hlt : k < n
      · have hkn : (k : Int) < (n : Int) := by omega
        go_wp2_with fail
        go_loop [4, 5] (fun c j => ∃ m : Nat, m ≤ n ∧ j = .int .i64 m ∧ c = .int .i64 ((l.take m).count (k : Int) : Nat)) (fun _ j => n - (intOf j).toNat)
        case atStart => exact ⟨0, Nat.zero_le _, rfl, rfl⟩
        case round =>
          obtain ⟨m, hm, rfl, rfl⟩ := hrel
          by_cases hmn : m < n
          · have c0 : w.cell? ⟨b, off + m, none⟩ = some (.int .i64 (l.getD m 0)) := HC.out m hmn
            have HT := HTk.out m hmn (k : Int)
            have HT' : Hid _ := HT
            have hle := HLe.out m (k : Int)
            clear HT
            obtain ⟨x, hx⟩ : ∃ x, x = l.getD m 0 := ⟨_, rfl⟩
            rw [← hx] at c0 HT'
            clear hx
            obtain ⟨q, hq⟩ : ∃ q, q = (l.take m).count (k : Int) := ⟨_, rfl⟩
            have HQ : Hid (q = (l.take m).count (k : Int)) := hq
            rw [← hq] at hle HT' ⊢
            clear hq
            have hmn' : (m : Int) < (n : Int) := by omega
            by_cases hxk : x = (k : Int)
            · have hT1 := HT'.out
              rw [if_pos hxk] at hT1
              have HT1 : Hid ((l.take (m + 1)).count (k : Int) = q + 1) := hT1
              have de : (x == (k : Int)) = true := by simp [hxk]
              clear hxk hT1 HT'
              go_wp2
              go_round
              case rel => exact ⟨m + 1, by omega, by go_num, by rw [HT1.out]; go_num⟩
              case measure => simp [intOf]; omega
            · have hT1 := HT'.out
              rw [if_neg hxk] at hT1
              have HT1 : Hid ((l.take (m + 1)).count (k : Int) = q) := hT1
              have de : (x == (k : Int)) = false := by simp [hxk]
              clear hxk hT1 HT'
              go_wp2
              go_round
              case rel => exact ⟨m + 1, by omega, by go_num, by rw [HT1.out]⟩
              case measure => simp [intOf]; omega
          · obtain rfl : m = n := by omega
            rw [HEnd.out]
            have hle := HLe.out m (k : Int)
            rw [HEnd.out] at hle
            obtain ⟨q, hq⟩ : ∃ q, q = l.count (k : Int) := ⟨_, rfl⟩
            have HQ : Hid (q = l.count (k : Int)) := hq
            rw [← hq] at hle ⊢
            clear hq
            by_cases h1 : q = 1
            · have HS : Hid (∀ j, j < k + 1 → l.count (j : Int) = 1) := fun j hj => by
                rcases Nat.lt_or_ge j k with h | h
                · exact HA.out j h
                · obtain rfl : j = k := by omega
                  rw [← HQ.out]; exact h1
              have dn : ((q : Int) != 1) = false := by simp [h1]
              clear h1
              go_wp2
              go_round
              case rel => exact ⟨k + 1, by omega, by go_num, HS.out⟩
              case measure => simp [intOf]; omega
            · have HRf : Hid (R = false) := HNot.out k hlt (by rw [← HQ.out]; exact h1)
              have dn : ((q : Int) != 1) = true := by simp; omega
              clear h1
              go_wp2
              go_ret
              exact ⟨by first | (rw [HRf.out]; done) | (rw [HRf.out]; rfl), rfl⟩
      · obtain rfl : k = n := by omega
        have HRt : Hid (R = true) := HAll.out HA.out
        go_wp2
        go_ret
        exact ⟨by first | (rw [HRt.out]; done) | (rw [HRt.out]; rfl), rfl⟩

theorem infoTu : (Tryd.prog.info? 3).isSome = true := by kernel_rfl
theorem zeroTu : (Tryd.prog.info? 3).bind (·.zero) = some (.int .i64 0) := by kernel_rfl
theorem sizeTu : (Tryd.prog.info? 3).map (·.size) = some 1 := by kernel_rfl
theorem bytesTu : (Tryd.prog.info? 3).map (·.bytes) = some 8 := by kernel_rfl
theorem append_turn {w : World} {ops : Array Oper} {rest : List Oper} {o : Oper} {a : Act} {Q : Exit → Act → World → Prop} (hgd : o.guard = none) (s x : Operand)
    (ho : o.op = .call { callee := .builtin .append, args := #[s, x], argTypes := #[23, 23] }) (K : Nat) (v : Value) (hs : a.eval s = v) (l : List Int) (r : Int) (B c : Nat) (hx : a.eval x = .slice (some ⟨B, 0, none⟩) 1 c)
    (hown : w.ownsRow K 3 1 v l.length (l.map (Value.int .i64))) (hB : w.heap[B]? = some (.cells #[.int .i64 r] 3 (0, 0))) (hK : K ≤ w.heap.size) (h12 : l.length ≤ 20)
    (h : ∀ v' w', w'.ownsRow K 3 1 v' (l.length + 1) ((l ++ [r]).map (Value.int .i64)) → w.grownBy w' v.ownBlock → wpList Tryd.prog ops Q rest (a.put o.dst v') w') :
    wpList Tryd.prog ops Q (o :: rest) a w := by
  obtain ⟨i1, hi⟩ : ∃ i, Tryd.prog.info? 3 = some i := Option.isSome_iff_exists.1 infoTu
  have hz0 : i1.zero = some (.int .i64 0) := by have := zeroTu; rw [hi] at this; simpa using this
  have hz1 : i1.size = 1 := by have := sizeTu; rw [hi] at this; simpa using this
  have hz2 : i1.bytes = 8 := by have := bytesTu; rw [hi] at this; simpa using this
  refine wpList_append_own_at w hgd s x 23 ho K 3 i1 _ 1 8 Tryd.underlying23 hi hz0 hz1 hz2 rfl (by decide) v l.length (l.map (Value.int .i64)) hs hown ⟨B, 0, none⟩ 1 c [.int .i64 r] hx rfl (World.news_of_block hB) (by simp [Value.oneCell']) (by unfold maxLen; omega) (by omega) hK ?_
  intro v' w' h1 h2 _ _
  refine h v' w' ?_ h2
  rw [List.map_append]
  exact h1
/-- three numbers. -/
def arr3 (p : Nat → Int) : Array Value := #[.int .i64 (p 0), .int .i64 (p 1), .int .i64 (p 2)]
theorem Blk.cells3 {w : World} {G : Nat} {T : TypeId} {p : Nat → Int} (h : Blk w G T (arr3 p)) : w.cell? ⟨G, 0, none⟩ = some (.int .i64 (p 0)) ∧ w.cell? ⟨G, 1, none⟩ = some (.int .i64 (p 1)) ∧ w.cell? ⟨G, 2, none⟩ = some (.int .i64 (p 2)) := ⟨h.cell 0, h.cell 1, h.cell 2⟩

set_option maxHeartbeats 4000000 in
theorem refRenamed_any (t : List Int) (p : Nat → Int) (hs : t.all signB = true) (h12 : t.length ≤ 12) (v : Value) (w : World) (h : Reads w v t) :
    Calls Tryd.prog 23 #[v, .agg #[.int .i64 (p 0), .int .i64 (p 1), .int .i64 (p 2)]] w fun e w' => ∃ v' K, e = .returned v' ∧ w.heap.size ≤ K ∧ w'.ownsRow K 3 1 v' t.length ((renT p t).map (Value.int .i64)) ∧ Below w.heap.size w w' := by
  obtain ⟨ao, cap, rfl, hl63⟩ : ∃ ao cap, v = .slice ao t.length cap ∧ t.length ≤ 9223372036854775807 := by
    rcases h with ⟨ao, cap, rfl, rfl⟩ | ⟨b, off, cap, rfl, _, _, h, _⟩
    · exact ⟨ao, cap, rfl, by decide⟩
    · exact ⟨_, cap, rfl, h.1⟩
  have HT : Hid (Reads w (.slice ao t.length cap) t) := h
  have HSg : Hid (∀ k, k < t.length → 0 ≤ t.getD k 0 ∧ t.getD k 0 ≤ 8) := fun k hk => by
    have := List.all_eq_true.1 hs (t.getD k 0) (by rw [List.getD_eq_getElem?_getD, List.getElem?_eq_getElem hk]; exact List.getElem_mem _)
    exact signB_iff.1 this
  obtain ⟨n, hn⟩ : ∃ n, n = t.length := ⟨_, rfl⟩
  rw [← hn] at HT HSg h12 ⊢
  have HN : Hid (n = t.length) := hn
  obtain ⟨w1, hw1⟩ : ∃ w1, w1 = w.alloc (.cells #[.int .i64 (p 0), .int .i64 (p 1), .int .i64 (p 2)] 36) := ⟨_, rfl⟩
  have HB1 : Hid (Below w.heap.size w w1) := by unfold Hid; rw [hw1]; exact below_alloc1 _ _
  have HP1 : Hid (Blk w1 w.heap.size 36 (arr3 p)) := by unfold Hid; rw [hw1]; exact Blk.new _ _ _
  clear h hs hn hl63
  go_enter Tryd.func23, Tryd.ntmps23
  go_wp2
  rw [← hw1]
  clear hw1
  go_loopw [5, 6, 7] (fun r i _ wr => ∃ k : Nat, k ≤ n ∧ i = .int .i64 k ∧ wr.ownsRow w1.heap.size 3 1 r k ((renT p (t.take k)).map (Value.int .i64)) ∧ Below w1.heap.size w1 wr) (fun _ i _ _ => n - (intOf i).toNat)
  case atStart => exact ⟨0, Nat.zero_le _, rfl, World.ownsRow_nil _ _ _ _, Below.refl _ _⟩
  case round =>
    obtain ⟨k, hk, rfl, hown, hbr⟩ := hrel
    have HBr : Hid (Below w1.heap.size w1 wr) := hbr
    have HBw : Hid (Below w.heap.size w wr) := HB1.out.trans (hbr.mono HB1.out.size)
    have HOw : Hid (wr.ownsRow w1.heap.size 3 1 u5 k ((renT p (t.take k)).map (Value.int .i64))) := hown
    clear hbr hown
    by_cases hlt : k < n
    · obtain ⟨b, off, hao, hcl⟩ : ∃ b off, ao = some ⟨b, off, none⟩ ∧ wr.cell? ⟨b, off + k, none⟩ = some (.int .i64 (t.getD k 0)) := by
        rcases HT.out with ⟨ao', cap', hv, h0⟩ | ⟨b, off, cap', hv, hb, _, _, hcell⟩
        · have := HN.out; rw [h0] at this; simp at this; omega
        · obtain ⟨h1, _, _⟩ := Value.slice.inj hv
          exact ⟨b, off, h1, (HBw.out.cell hb).trans (hcell k (by rw [← HN.out]; exact hlt))⟩
      subst hao
      obtain ⟨s0, s8⟩ := HSg.out k hlt
      obtain ⟨l, hl⟩ : ∃ l, l = renT p (t.take k) := ⟨_, rfl⟩
      have HLl : Hid (l.length = k) := by unfold Hid; rw [hl]; unfold renT; rw [List.length_map, List.length_take, ← HN.out]; omega
      have HO6 : Hid (wr.ownsRow w1.heap.size 3 1 u5 l.length (l.map (Value.int .i64))) := by unfold Hid; rw [HLl.out, hl]; exact HOw.out
      have HLs : Hid (renT p (t.take (k + 1)) = l ++ [renS p (t.getD k 0)]) := by
        unfold Hid
        have hk' : k < t.length := by rw [← HN.out]; exact hlt
        rw [List.take_add_one, List.getElem?_eq_getElem hk', hl]
        unfold renT
        rw [List.map_append, List.getD_eq_getElem?_getD, List.getElem?_eq_getElem hk']
        rfl
      have HS : Hid (w1.heap.size ≤ wr.heap.size) := HBr.out.size
      have hl20 : l.length ≤ 20 := by have := HLl.out; omega
      obtain ⟨s, hs⟩ : ∃ s, s = t.getD k 0 := ⟨_, rfl⟩
      rw [← hs] at hcl s0 s8 HLs
      clear hl hs
      have hkn : (k : Int) < (n : Int) := by omega
      by_cases h3 : s < 3
      · obtain ⟨j, rfl⟩ := Int.eq_ofNat_of_zero_le s0
        have hj3 : j < 3 := by omega
        have HLs' : Hid (renT p (t.take (k + 1)) = l ++ [p j]) := by
          unfold Hid
          rw [HLs.out]
          unfold renS
          rw [if_pos h3, Int.toNat_natCast]
        have y : wr.cell? ⟨w.heap.size, j, none⟩ = some (.int .i64 (p j)) := by
          rw [(HP1.out.below HBr.out).cell j]
          rcases (by omega : j = 0 ∨ j = 1 ∨ j = 2) with rfl | rfl | rfl <;> rfl
        clear HLs s0 s8
        go_wp2_with (at_builtin; refine append_turn rfl _ _ rfl w1.heap.size u5 rfl l (p j) wr.heap.size 1 rfl (HO6.out.alloc _) (heap_alloc_new wr _) (by have := HS.out; simp; omega) hl20 ?_)
        intro v9 w9 hown hgrow
        have HBa : Hid (Below w1.heap.size w1 (wr.alloc (.cells #[.int .i64 (p j)] 3))) := HBr.out.alloc HBr.out.size _
        have HB9 : Hid (Below w1.heap.size w1 w9) := HBa.out.grown hgrow HBa.out.size (fun x hx => (HO6.out.lt x hx).1)
        have HO9 : Hid (w9.ownsRow w1.heap.size 3 1 v9 (k + 1) ((renT p (t.take (k + 1))).map (Value.int .i64))) := by
          unfold Hid
          rw [HLs'.out]
          have hl := HLl.out
          rw [← hl, List.map_append]
          exact hown
        clear hown hgrow
        go_wp2
        go_roundw
        case rel => exact ⟨k + 1, by omega, by go_num, HO9.out, HB9.out⟩
        case measure => simp [intOf]; omega
      · have HLs' : Hid (renT p (t.take (k + 1)) = l ++ [s]) := by
          unfold Hid
          rw [HLs.out]
          unfold renS
          rw [if_neg h3]
        clear HLs
        go_wp2_with (at_builtin; refine append_turn rfl _ _ rfl w1.heap.size u5 rfl l s wr.heap.size 1 rfl (HO6.out.alloc _) (heap_alloc_new wr _) (by have := HS.out; simp; omega) hl20 ?_)
        intro v9 w9 hown hgrow
        have HBa : Hid (Below w1.heap.size w1 (wr.alloc (.cells #[.int .i64 s] 3))) := HBr.out.alloc HBr.out.size _
        have HB9 : Hid (Below w1.heap.size w1 w9) := HBa.out.grown hgrow HBa.out.size (fun x hx => (HO6.out.lt x hx).1)
        have HO9 : Hid (w9.ownsRow w1.heap.size 3 1 v9 (k + 1) ((renT p (t.take (k + 1))).map (Value.int .i64))) := by
          unfold Hid
          rw [HLs'.out]
          have hl := HLl.out
          rw [← hl, List.map_append]
          exact hown
        clear hown hgrow
        go_wp2
        go_roundw
        case rel => exact ⟨k + 1, by omega, by go_num, HO9.out, HB9.out⟩
        case measure => simp [intOf]; omega
    · obtain rfl : k = n := by omega
      have HOf : Hid (wr.ownsRow w1.heap.size 3 1 u5 k ((renT p t).map (Value.int .i64))) := by
        have h := HOw.out
        rw [HN.out, List.take_length] at h
        unfold Hid
        rw [HN.out]
        exact h
      have HSz : Hid (w.heap.size ≤ w1.heap.size) := HB1.out.size
      go_wp2
      go_ret
      exact ⟨u5, w1.heap.size, rfl, HSz.out, HOf.out, HBw.out⟩
theorem three_blocks (w : World) (o0 o1 o2 : Obj) :
    (((w.alloc o0).alloc o1).alloc o2).heap[w.heap.size]? = some o0 ∧
    (((w.alloc o0).alloc o1).alloc o2).heap[w.heap.size + 1]? = some o1 ∧
    (((w.alloc o0).alloc o1).alloc o2).heap[w.heap.size + 1 + 1]? = some o2 ∧
    Below w.heap.size w (((w.alloc o0).alloc o1).alloc o2) := by
  have s1 : (w.alloc o0).heap.size = w.heap.size + 1 := World.size_alloc _ _
  have s2 : ((w.alloc o0).alloc o1).heap.size = w.heap.size + 1 + 1 := by rw [World.size_alloc, s1]
  refine ⟨?_, ?_, ?_, ?_⟩
  · rw [Below.heap_alloc _ _ _ (by omega), Below.heap_alloc _ _ _ (by omega)]; exact heap_alloc_new _ _
  · rw [Below.heap_alloc _ _ _ (by omega), ← s1]; exact heap_alloc_new _ _
  · rw [← s2]; exact heap_alloc_new _ _
  · exact (((Below.refl _ w).alloc (Nat.le_refl _) _).alloc (by omega) _).alloc (by omega) _
theorem own_readsT {w : World} {K : Nat} {v : Value} {t : List Int} (h : w.ownsRow K 3 1 v t.length (t.map (Value.int .i64))) (hm : t.length ≤ 9223372036854775807) : Reads w v t := by
  rcases h.2 with ⟨rfl, h0⟩ | ⟨g, cap, cur, rfl, hb, hg, hc, _⟩
  · exact Or.inl ⟨none, 0, rfl, List.eq_nil_of_length_eq_zero h0⟩
  · rcases Nat.eq_zero_or_pos t.length with h0 | h0
    · have e : t = [] := List.eq_nil_of_length_eq_zero h0
      subst e
      exact Or.inl ⟨_, _, rfl, rfl⟩
    · refine Or.inr ⟨g, 0, cap, rfl, (Array.getElem?_eq_some_iff.1 hg).1, h0, ⟨hm, hc⟩, fun k hk => ?_⟩
      rw [Nat.zero_add, h.cellAt _ (by omega), List.getElem?_map, List.getElem?_eq_getElem hk, List.getD_eq_getElem?_getD, List.getElem?_eq_getElem hk]
      rfl
end Go.Proofs.YteknlcachfhfkahDoor

namespace Go.Proofs.YteknlcachfhfkahDoor
open Go.ChangeShapes Go.WideShapes Go.ChangeAt Go.RowKit
set_option maxRecDepth 100000

/-- an atom lies at a place. -/
def AtomAt (w : World) (b off : Nat) (a : At) : Prop :=
  ∃ vs vt, w.cell? ⟨b, off, none⟩ = some (.int .i64 a.k) ∧ w.cell? ⟨b, off + 1, none⟩ = some vs ∧ w.cell? ⟨b, off + 2, none⟩ = some vt ∧ w.cell? ⟨b, off + 3, none⟩ = some (.int .i64 a.n) ∧ Reads w vs a.s ∧ Reads w vt a.t
/-- the slice v reads, in the world w, ats these atoms. -/
def ReadsA (w : World) (v : Value) (ats : List At) : Prop :=
  (∃ ao cap, v = .slice ao 0 cap ∧ ats = []) ∨ (∃ b off cap, v = .slice (some ⟨b, off, none⟩) ats.length cap ∧ b < w.heap.size ∧ 0 < ats.length ∧ (ats.length ≤ 9223372036854775807 ∧ ats.length ≤ cap) ∧ ∀ i a, ats[i]? = some a → AtomAt w b (off + i * 4) a)
theorem AtomAt.below {w w' : World} {b off : Nat} {a : At} (h : AtomAt w b off a) (hB : b < w.heap.size) (hb : Below w.heap.size w w') : AtomAt w' b off a := by
  obtain ⟨vs, vt, h1, h2, h3, h4, h5, h6⟩ := h
  exact ⟨vs, vt, by rw [hb.cell hB]; exact h1, by rw [hb.cell hB]; exact h2, by rw [hb.cell hB]; exact h3, by rw [hb.cell hB]; exact h4, h5.below hb, h6.below hb⟩
theorem ReadsA.below {w w' : World} {v : Value} {ats : List At} (h : ReadsA w v ats) (hb : Below w.heap.size w w') : ReadsA w' v ats := by
  rcases h with h | ⟨b, off, cap, h1, h2, h3, h4, h5⟩
  · exact Or.inl h
  · exact Or.inr ⟨b, off, cap, h1, Nat.lt_of_lt_of_le h2 hb.size, h3, h4, fun i a ha => (h5 i a ha).below h2 hb⟩
theorem ReadsA.slice {w : World} {v : Value} {ats : List At} (h : ReadsA w v ats) : ∃ ao cap, v = .slice ao ats.length cap ∧ ats.length ≤ 9223372036854775807 := by
  rcases h with ⟨ao, cap, rfl, rfl⟩ | ⟨b, off, cap, rfl, _, _, h, _⟩
  · exact ⟨ao, cap, rfl, by decide⟩
  · exact ⟨_, cap, rfl, h.1⟩

theorem ftakes_any (s : Int) (w : World) :
    Calls Tryd.prog 70 #[.int .i64 s] w fun e w' => e = .returned (.int .i64 (takesF s)) ∧ w = w' := by
  by_cases h5 : s = 10
  · subst h5
    go_enter Tryd.func70, Tryd.ntmps70
    go_wp2
    go_ret
    exact ⟨rfl, rfl⟩
  by_cases h6 : s = 11
  · subst h6
    go_enter Tryd.func70, Tryd.ntmps70
    go_wp2
    go_ret
    exact ⟨rfl, rfl⟩
  by_cases h7 : s = 13
  · subst h7
    go_enter Tryd.func70, Tryd.ntmps70
    go_wp2
    go_ret
    exact ⟨rfl, rfl⟩
  by_cases h8 : s = 12
  · subst h8
    go_enter Tryd.func70, Tryd.ntmps70
    go_wp2
    go_ret
    exact ⟨rfl, rfl⟩
  have e : takesF s = 0 := by unfold takesF; rw [if_neg (by omega), if_neg h8]
  rw [e]
  clear e
  have h5' : (s == 10) = false := by simpa using h5
  have h6' : (s == 11) = false := by simpa using h6
  have h7' : (s == 13) = false := by simpa using h7
  have h8' : (s == 12) = false := by simpa using h8
  clear h5 h6 h7 h8
  go_enter Tryd.func70, Tryd.ntmps70
  go_wp2
  go_ret
  exact ⟨rfl, rfl⟩

theorem tooMany_any (a s : Int) (w : World) :
    Calls Tryd.prog 41 #[.int .i64 a, .int .i64 s] w fun e w' => e = .returned (.bool (decide (6 < a) || decide (20 < s))) ∧ w = w' := by
  by_cases h1 : 6 < a
  · go_enter Tryd.func41, Tryd.ntmps41
    go_wp2
    go_ret
    exact ⟨by simp [h1], rfl⟩
  · by_cases h2 : 20 < s
    · go_enter Tryd.func41, Tryd.ntmps41
      go_wp2
      go_ret
      exact ⟨by simp, rfl⟩
    · go_enter Tryd.func41, Tryd.ntmps41
      go_wp2
      go_ret
      exact ⟨by simp [h1, h2], rfl⟩

theorem fnoSign_any (m cap P : Nat) (ao : Option Addr) (s : Int) (w : World) (hP : w.cell? ⟨P, 0, none⟩ = some (.slice ao m cap)) :
    Calls Tryd.prog 69 #[.int .i64 s, .pointer (some ⟨P, 0, none⟩)] w fun e w' => e = .returned (.bool (!signF m s)) ∧ w = w' := by
  have HT : Hid (∀ W, Calls Tryd.prog 70 #[.int .i64 s] W fun e w' => e = .returned (.int .i64 (takesF s)) ∧ W = w') := fun W => ftakes_any s W
  by_cases h0 : takesF s = 0
  · rw [h0] at HT
    by_cases h1 : s < 0
    · have e : signF m s = false := by simp [signF, h0, h1]
      rw [e]
      clear e h0
      go_enter Tryd.func69, Tryd.ntmps69
      go_wp2_with (go_at_call 70; refine (HT.out _).mono ?_; rintro e w' ⟨rfl, rfl⟩)
      go_ret
      exact ⟨rfl, rfl⟩
    · by_cases h2 : (m : Int) ≤ s
      · have e : signF m s = false := by simp [signF, h0, h2]
        rw [e]
        clear e h0
        go_enter Tryd.func69, Tryd.ntmps69
        go_wp2_with (go_at_call 70; refine (HT.out _).mono ?_; rintro e w' ⟨rfl, rfl⟩)
        go_ret
        exact ⟨rfl, rfl⟩
      · have e : signF m s = true := by simp [signF, h1, h2]
        rw [e]
        clear e h0
        go_enter Tryd.func69, Tryd.ntmps69
        go_wp2_with (go_at_call 70; refine (HT.out _).mono ?_; rintro e w' ⟨rfl, rfl⟩)
        go_ret
        exact ⟨back_b (by simp; omega), rfl⟩
  · have e : signF m s = true := by simp [signF, h0]
    rw [e]
    clear e
    have h0' : (takesF s == 0) = false := by simpa using h0
    clear h0
    go_enter Tryd.func69, Tryd.ntmps69
    go_wp2_with (go_at_call 70; refine (HT.out _).mono ?_; rintro e w' ⟨rfl, rfl⟩)
    go_ret
    exact ⟨rfl, rfl⟩

/-- the first sign that is none, or -1. -/
def firstBadF (m : Nat) : List Int → Nat → Int
  | [], _ => -1
  | s :: l, k => if signF m s = true then firstBadF m l (k + 1) else k
theorem firstBadF_lt (m : Nat) (t : List Int) (k : Nat) : (firstBadF m t k < 0 ↔ t.all (signF m) = true) ∧ -1 ≤ firstBadF m t k := by
  induction t generalizing k with
  | nil => exact ⟨⟨fun _ => rfl, fun _ => show (-1 : Int) < 0 by decide⟩, Int.le_refl _⟩
  | cons s l ih =>
    unfold firstBadF
    by_cases h : signF m s = true
    · rw [if_pos h]; simpa [h] using ih (k + 1)
    · rw [if_neg h]; simp only [List.all_cons, h]; simp
theorem firstBadF_drop (m : Nat) (t : List Int) {k : Nat} (hk : k < t.length) : firstBadF m (t.drop k) k = if signF m (t.getD k 0) = true then firstBadF m (t.drop (k + 1)) (k + 1) else k := by
  rw [List.drop_eq_getElem_cons hk]
  simp [firstBadF, List.getElem?_eq_getElem hk]

theorem findexFunc_any (m mcap P : Nat) (ao : Option Addr) (b off cap : Nat) (t : List Int) (w : World) (hl : t.length ≤ 9223372036854775807) (hP : w.cell? ⟨P, 0, none⟩ = some (.slice ao m mcap)) (hc : ∀ k, k < t.length → w.cell? ⟨b, off + k, none⟩ = some (.int .i64 (t.getD k 0))) :
    Calls Tryd.prog 90 #[.slice (some ⟨b, off, none⟩) t.length cap, .func (.func 69) #[] #[.pointer (some ⟨P, 0, none⟩)]] w fun e w' => e = .returned (.int .i64 (firstBadF m t 0)) ∧ w = w' := by
  have HF : Hid (∀ {k : Nat}, k < t.length → firstBadF m (t.drop k) k = if signF m (t.getD k 0) = true then firstBadF m (t.drop (k + 1)) (k + 1) else k) := fun {_} h => firstBadF_drop m t h
  have HC : Hid (∀ k, k < t.length → w.cell? ⟨b, off + k, none⟩ = some (.int .i64 (t.getD k 0))) := hc
  clear hc
  have HP : Hid (w.cell? ⟨P, 0, none⟩ = some (.slice ao m mcap)) := hP
  clear hP
  obtain ⟨n, hn⟩ : ∃ n, n = t.length := ⟨_, rfl⟩
  rw [← hn] at hl ⊢
  have HN : Hid (n = t.length) := hn
  clear hn
  go_enter Tryd.func90, Tryd.ntmps90
  go_wp2
  go_loop [8] (fun i => ∃ k : Nat, k ≤ n ∧ i = .int .i64 k ∧ firstBadF m (t.drop k) k = firstBadF m t 0) (fun i => n - (intOf i).toNat)
  case atStart => exact ⟨0, Nat.zero_le _, rfl, rfl⟩
  case round =>
    obtain ⟨k, hk, rfl, hF⟩ := hrel
    have HK : Hid (firstBadF m (t.drop k) k = firstBadF m t 0) := hF
    clear hF
    by_cases hlt : k < n
    · obtain ⟨s, hs⟩ : ∃ s, s = t.getD k 0 := ⟨_, rfl⟩
      have hc := HC.out k (by rw [← HN.out]; exact hlt)
      rw [← hs] at hc
      have HS : Hid (s = t.getD k 0) := hs
      clear hs
      have HD : Hid (firstBadF m (t.drop k) k = if signF m s = true then firstBadF m (t.drop (k + 1)) (k + 1) else k) := by
        have := HF.out (k := k) (by rw [← HN.out]; exact hlt)
        rw [← HS.out] at this; exact this
      by_cases hb : signF m s = true
      · have HD' : Hid (firstBadF m (t.drop (k + 1)) (k + 1) = firstBadF m t 0) := by
          have h1 := HD.out
          rw [if_pos hb] at h1
          exact h1.symm.trans HK.out
        go_wp2_with (go_at_call 69; refine (fnoSign_any m mcap P ao _ _ HP.out).mono ?_; rintro e w' ⟨rfl, rfl⟩)
        go_round
        case rel => exact ⟨k + 1, by omega, by go_num, HD'.out⟩
        case measure => simp [intOf]; omega
      · have HD' : Hid ((k : Int) = firstBadF m t 0) := by
          have h1 := HD.out
          rw [if_neg hb] at h1
          exact h1.symm.trans HK.out
        have hb' : signF m s = false := by simpa using hb
        clear hb
        go_wp2_with (go_at_call 69; refine (fnoSign_any m mcap P ao _ _ HP.out).mono ?_; rintro e w' ⟨rfl, rfl⟩)
        go_ret
        exact ⟨back_i HD'.out, rfl⟩
    · have HE : Hid (firstBadF m t 0 = -1) := by
        have h1 := HK.out
        rw [List.drop_eq_nil_of_le (by have := HN.out; omega)] at h1
        exact h1.symm
      go_wp2
      go_ret
      exact ⟨back_i HE.out.symm, rfl⟩

theorem fcontainsFunc_any (m mcap P : Nat) (ao : Option Addr) (b off cap : Nat) (t : List Int) (w : World) (hl : t.length ≤ 9223372036854775807) (hP : w.cell? ⟨P, 0, none⟩ = some (.slice ao m mcap)) (hc : ∀ k, k < t.length → w.cell? ⟨b, off + k, none⟩ = some (.int .i64 (t.getD k 0))) :
    Calls Tryd.prog 71 #[.slice (some ⟨b, off, none⟩) t.length cap, .func (.func 69) #[] #[.pointer (some ⟨P, 0, none⟩)]] w fun e w' => e = .returned (.bool (!t.all (signF m))) ∧ w = w' := by
  have c := findexFunc_any m mcap P ao b off cap t w hl hP hc
  clear hc hP
  obtain ⟨h1, h2⟩ := firstBadF_lt m t 0
  obtain ⟨n, hn⟩ : ∃ n, n = firstBadF m t 0 := ⟨_, rfl⟩
  rw [← hn] at c h1 h2
  clear hn
  by_cases h : t.all (signF m) = true
  · obtain rfl : n = -1 := by have := h1.2 h; omega
    rw [h]
    clear h1 h2 h
    go_enter Tryd.func71, Tryd.ntmps71
    go_wp2_with (go_at_call 90; refine c.mono ?_; rintro e w' ⟨rfl, rfl⟩)
    go_ret
    exact ⟨rfl, rfl⟩
  · have h0 : 0 ≤ n := by
      rcases Int.lt_or_le n 0 with h' | h'
      · exact absurd (h1.1 h') h
      · exact h'
    have h' : t.all (signF m) = false := by simpa using h
    rw [h']
    clear h1 h2 h h'
    go_enter Tryd.func71, Tryd.ntmps71
    go_wp2_with (go_at_call 90; refine c.mono ?_; rintro e w' ⟨rfl, rfl⟩)
    go_ret
    exact ⟨rfl, rfl⟩

theorem fisOne_any (b off cap : Nat) (t : List Int) (w : World) (hl : t.length ≤ 20) (hc : ∀ k, k < t.length → w.cell? ⟨b, off + k, none⟩ = some (.int .i64 (t.getD k 0))) :
    Calls Tryd.prog 72 #[.slice (some ⟨b, off, none⟩) t.length cap] w fun e w' => e = .returned (.bool (decide (cntF t 0 = some 1))) ∧ w = w' := by
  have HC : Hid (∀ k, k < t.length → w.cell? ⟨b, off + k, none⟩ = some (.int .i64 (t.getD k 0))) := hc
  clear hc
  obtain ⟨n, hn⟩ : ∃ n, n = t.length := ⟨_, rfl⟩
  rw [← hn] at hl ⊢
  have HN : Hid (n = t.length) := hn
  clear hn
  obtain ⟨R, hR⟩ : ∃ R, R = decide (cntF t 0 = some 1) := ⟨_, rfl⟩
  rw [← hR]
  have HR : Hid (R = decide (cntF t 0 = some 1)) := hR
  clear hR
  go_enter Tryd.func72, Tryd.ntmps72
  go_wp2
  go_loop [3, 8] (fun c i => ∃ (k : Nat) (m : Int), k ≤ n ∧ i = .int .i64 k ∧ c = .int .i64 m ∧ cntF (t.take k) 0 = some m) (fun _ i => n - (intOf i).toNat)
  case atStart => exact ⟨0, 0, Nat.zero_le _, rfl, rfl, rfl⟩
  case round =>
    obtain ⟨k, m, hk, rfl, rfl, hm⟩ := hrel
    have HM : Hid (cntF (t.take k) 0 = some m) := hm
    have hm0 : 0 ≤ m ∧ m ≤ 20 := by
      have := cntF_nonneg (Int.le_refl 0) hm
      simp at this
      omega
    clear hm
    by_cases hlt : k < n
    · obtain ⟨s, hs⟩ : ∃ s, s = t.getD k 0 := ⟨_, rfl⟩
      have hc := HC.out k (by rw [← HN.out]; exact hlt)
      rw [← hs] at hc
      have HD : Hid (cntF (t.take (k + 1)) 0 = if m < takesF s then none else some (m + 1 - takesF s)) := by
        have := cntF_take_succ t (k := k) (by rw [← HN.out]; exact hlt) HM.out
        rw [← hs] at this; exact this
      clear hs
      have ht := takesF_range s
      by_cases hb : m < takesF s
      · have HE : Hid (R = false) := by
          have h1 := HD.out
          rw [if_pos hb] at h1
          have h2 := cntF_take_none t (k + 1) h1
          have h3 := HR.out
          rw [h2] at h3
          exact h3.trans (by decide)
        go_wp2_with (go_at_call 70; refine (ftakes_any _ _).mono ?_; rintro e w' ⟨rfl, rfl⟩)
        go_ret
        exact ⟨back_b HE.out.symm, rfl⟩
      · have HE : Hid (cntF (t.take (k + 1)) 0 = some (m + (1 - takesF s))) := by
          have h1 := HD.out
          rw [if_neg hb] at h1
          rw [show m + (1 - takesF s) = m + 1 - takesF s by omega]
          exact h1
        go_wp2_with (go_at_call 70; refine (ftakes_any _ _).mono ?_; rintro e w' ⟨rfl, rfl⟩)
        go_round
        case rel => exact ⟨k + 1, _, by omega, by go_num, rfl, HE.out⟩
        case measure => simp [intOf]; omega
    · have HE : Hid (R = (m == 1)) := by
        have h1 := HM.out
        rw [List.take_of_length_le (by have := HN.out; omega)] at h1
        have h3 := HR.out
        rw [h1] at h3
        rw [h3]
        by_cases h : m = 1
        · subst h; rfl
        · rw [decide_eq_false (by simpa using h)]; exact (beq_eq_false_iff_ne.2 h).symm
      go_wp2
      go_ret
      exact ⟨back_b HE.out.symm, rfl⟩
end Go.Proofs.YteknlcachfhfkahDoor
