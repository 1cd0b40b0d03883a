/-
  Plain facts on a row in memory: its nine cells, a store to one, all of them written, loaded. (What the contracts of package rows lean on.)
  Proved: what atom.Check (and checkSecond) returns, of any atom, where the table of kinds lies as the program's text lays it; what was in memory is as it was (a contract that the statements lean on).
  Proved: what turned, wrong, sum and mask of package rows return; what was in memory is as it was (contracts that the statements lean on). Written by program.
-/
import Derived.Test.YtjaedfjfcghgcabGreatDoorLibT7
import Derived.Test.YtjaedfjfcghgcabGreatDoorLibT11
import Derived.Test.YtjaedfjfcghgcabGreatDoorLibT9
import Derived.Deep.Cut
import Derived.Handy
namespace Go.Proofs.YtjaedfjfcghgcabGreatDoor
open Go.ChangeShapes Go.WideShapes Go.ChangeAt Go.RowKit

/-- the nine numbers of a row. -/
def arrR (T : Nat → Int) (m : Int) : Array Value := #[.int .i64 (T 0), .int .i64 (T 1), .int .i64 (T 2), .int .i64 (T 3), .int .i64 (T 4), .int .i64 (T 5), .int .i64 (T 6), .int .i64 (T 7), .int .i64 m]
theorem arrR_get (T : Nat → Int) (m : Int) {f : Nat} (hf : f < 8) : (arrR T m)[f]? = some (.int .i64 (T f)) := by
  rcases eight hf with rfl | rfl | rfl | rfl | rfl | rfl | rfl | rfl <;> rfl
theorem arrR_set (T : Nat → Int) (m x : Int) {f : Nat} (hf : f < 8) : (arrR T m).setIfInBounds f (.int .i64 x) = arrR (fun g => if g = f then x else T g) m := by
  rcases eight hf with rfl | rfl | rfl | rfl | rfl | rfl | rfl | rfl <;> simp [arrR]
theorem arrR_most (T : Nat → Int) (m x : Int) : (arrR T m).setIfInBounds 8 (.int .i64 x) = arrR T x := by simp [arrR]
theorem arrR_same {N M : Nat → Int} (h : ∀ f, f < 8 → N f = M f) (m : Int) : arrR N m = arrR M m := by
  unfold arrR
  rw [h 0 (by omega), h 1 (by omega), h 2 (by omega), h 3 (by omega), h 4 (by omega), h 5 (by omega), h 6 (by omega), h 7 (by omega)]
theorem arrR_all (N M : Nat → Int) (n m : Int) : (((((((((arrR N n).setIfInBounds 0 (.int .i64 (M 0))).setIfInBounds 1 (.int .i64 (M 1))).setIfInBounds 2 (.int .i64 (M 2))).setIfInBounds 3 (.int .i64 (M 3))).setIfInBounds 4 (.int .i64 (M 4))).setIfInBounds 5 (.int .i64 (M 5))).setIfInBounds 6 (.int .i64 (M 6))).setIfInBounds 7 (.int .i64 (M 7))).setIfInBounds 8 (.int .i64 m) = arrR M m := by
  simp [arrR]
theorem Blk.cells9 {w : World} {G : Nat} {T : TypeId} {N : Nat → Int} {m : Int} (h : Blk w G T (arrR N m)) : w.cell? ⟨G, 0, none⟩ = some (.int .i64 (N 0)) ∧ w.cell? ⟨G, 1, none⟩ = some (.int .i64 (N 1)) ∧ w.cell? ⟨G, 2, none⟩ = some (.int .i64 (N 2)) ∧ w.cell? ⟨G, 3, none⟩ = some (.int .i64 (N 3)) ∧ w.cell? ⟨G, 4, none⟩ = some (.int .i64 (N 4)) ∧ w.cell? ⟨G, 5, none⟩ = some (.int .i64 (N 5)) ∧ w.cell? ⟨G, 6, none⟩ = some (.int .i64 (N 6)) ∧ w.cell? ⟨G, 7, none⟩ = some (.int .i64 (N 7)) ∧ w.cell? ⟨G, 8, none⟩ = some (.int .i64 m) :=
  ⟨h.cell 0, h.cell 1, h.cell 2, h.cell 3, h.cell 4, h.cell 5, h.cell 6, h.cell 7, h.cell 8⟩
theorem Blk.frozen9 {w : World} {G : Nat} {T : TypeId} {cs : Array Value} (h : Blk w G T cs) : w.frozen? ⟨G, 0, none⟩ = false ∧ w.frozen? ⟨G, 1, none⟩ = false ∧ w.frozen? ⟨G, 2, none⟩ = false ∧ w.frozen? ⟨G, 3, none⟩ = false ∧ w.frozen? ⟨G, 4, none⟩ = false ∧ w.frozen? ⟨G, 5, none⟩ = false ∧ w.frozen? ⟨G, 6, none⟩ = false ∧ w.frozen? ⟨G, 7, none⟩ = false ∧ w.frozen? ⟨G, 8, none⟩ = false :=
  ⟨h.frozen 0, h.frozen 1, h.frozen 2, h.frozen 3, h.frozen 4, h.frozen 5, h.frozen 6, h.frozen 7, h.frozen 8⟩
/-- a row, written into a block. -/
def putR (w : World) (R : Nat) (M : Nat → Int) (m : Int) : World := ((((((((w.setCell ⟨R, 0, none⟩ (.int .i64 (M 0))).setCell ⟨R, 1, none⟩ (.int .i64 (M 1))).setCell ⟨R, 2, none⟩ (.int .i64 (M 2))).setCell ⟨R, 3, none⟩ (.int .i64 (M 3))).setCell ⟨R, 4, none⟩ (.int .i64 (M 4))).setCell ⟨R, 5, none⟩ (.int .i64 (M 5))).setCell ⟨R, 6, none⟩ (.int .i64 (M 6))).setCell ⟨R, 7, none⟩ (.int .i64 (M 7))).setCell ⟨R, 8, none⟩ (.int .i64 m)
theorem putR_blk {w : World} {R : Nat} {T : TypeId} {N : Nat → Int} {n : Int} (h : Blk w R T (arrR N n)) (M : Nat → Int) (m : Int) : Blk (putR w R M m) R T (arrR M m) := by
  have := ((((((((h.set 0 (.int .i64 (M 0))).set 1 (.int .i64 (M 1))).set 2 (.int .i64 (M 2))).set 3 (.int .i64 (M 3))).set 4 (.int .i64 (M 4))).set 5 (.int .i64 (M 5))).set 6 (.int .i64 (M 6))).set 7 (.int .i64 (M 7))).set 8 (.int .i64 m)
  rw [arrR_all] at this
  exact this
theorem putR_far {w : World} {R : Nat} {G : Nat} {T : TypeId} {cs : Array Value} (h : Blk w G T cs) (hR : G ≠ R) (M : Nat → Int) (m : Int) : Blk (putR w R M m) G T cs :=
  ((((((((h.far hR 0 _).far hR 1 _).far hR 2 _).far hR 3 _).far hR 4 _).far hR 5 _).far hR 6 _).far hR 7 _).far hR 8 _
theorem putR_below {B : Nat} {w w' : World} {R : Nat} (h : Below B w w') (hR : B ≤ R) (M : Nat → Int) (m : Int) : Below B w (putR w' R M m) :=
  ((((((((h.setCell hR _).setCell hR _).setCell hR _).setCell hR _).setCell hR _).setCell hR _).setCell hR _).setCell hR _).setCell hR _
theorem loadR {W : World} {R : Nat} {N : Nat → Int} {m : Int} (h : Blk W R 46 (arrR N m)) : (loadVar 46 ⟨R, 0, none⟩).run Tryz.prog W = .ok (.agg (arrR N m)) W := by
  have hl := run_loadCells_list (P := Tryz.prog) W ⟨R, 0, none⟩ (arrR N m).toList (fun j v hj => by
    have := h.cell j
    rw [← Array.getElem?_toList] at this
    rw [hj] at this
    have ha : (⟨R, 0, none⟩ : Addr).add j = ⟨R, j, none⟩ := by unfold Addr.add; split <;> simp_all
    rw [ha]; exact this)
  simp [loadVar, Tryz.isAgg46, Tryz.sizeOf46, Result.andThen, arrR] at hl ⊢
  simp [hl]
theorem infoR : (Tryz.prog.info? 46).map (·.size) = some 9 := by kernel_rfl
end Go.Proofs.YtjaedfjfcghgcabGreatDoor


namespace Go.Proofs.YtjaedfjfcghgcabGreatDoor
open Go.ChangeShapes Go.WideShapes Go.ChangeAt Go.RowKit

/-- the cells of the table of kinds. -/
def kindCells : List Value := [.string ⟨#[]⟩, .bool false, .bool false, .string ⟨#[115, 117, 98]⟩, .bool true, .bool false, .string ⟨#[115, 97, 109, 101]⟩, .bool true, .bool false, .string ⟨#[108, 101, 97, 115, 116]⟩, .bool false, .bool true, .string ⟨#[109, 111, 115, 116]⟩, .bool false, .bool true, .string ⟨#[110, 111, 109, 111, 114, 101]⟩, .bool true, .bool true]
/-- the table lies as it was laid. -/
def KindsLaid (w : World) : Prop := ∀ j, j < 18 → w.cell? ⟨2, j, none⟩ = some (kindCells.getD j .nilIface)
theorem KindsLaid.lt {w : World} (h : KindsLaid w) : 2 < w.heap.size := World.block_lt_of_cell? w ⟨2, 0, none⟩ (h 0 (by decide))
theorem KindsLaid.at {K : Nat} {w w' : World} (h : KindsLaid w) (hb : Below K w w') (hK : w.heap.size ≤ K) : KindsLaid w' := fun j hj => by
  rw [hb.cell (p := ⟨2, j, none⟩) (Nat.lt_of_lt_of_le h.lt hK)]; exact h j hj
theorem KindsLaid.below {w w' : World} (h : KindsLaid w) (hb : Below w.heap.size w w') : KindsLaid w' := h.at hb (Nat.le_refl _)

theorem Reads.slice {w : World} {v : Value} {t : List Int} (h : Reads w v t) : ∃ ao cap, v = .slice ao t.length cap ∧ t.length ≤ 9223372036854775807 := by
  rcases h with ⟨ao, cap, rfl, rfl⟩ | ⟨b, off, cap, rfl, _, _, h, _⟩
  · exact ⟨ao, cap, rfl, by simp⟩
  · exact ⟨_, cap, rfl, h.1⟩
theorem errV_0 : errV 0 = .nilIface := rfl

set_option maxRecDepth 100000
/-- what a kind has, in the table. -/
theorem kind_has {W : World} (h : KindsLaid W) {k : Nat} (h1 : 0 < k) (h6 : k < 6) : W.cell? ⟨2, k * 3 + 1, none⟩ = some (.bool (secondB k)) ∧ W.cell? ⟨2, k * 3 + 2, none⟩ = some (.bool (numberB k)) := by
  rcases (by omega : k = 1 ∨ k = 2 ∨ k = 3 ∨ k = 4 ∨ k = 5) with rfl | rfl | rfl | rfl | rfl <;> exact ⟨h _ (by decide), h _ (by decide)⟩
theorem csecond_in (k : Nat) (h6 : k < 6) (n : Int) (sao tao : Option Addr) (sl scap tl tcap : Nat) (b : Bool) (E : Value) (w : World) (hl : tl ≤ 9223372036854775807)
    (hq : ∀ W, Below w.heap.size w W → W.cell? ⟨2, k * 3 + 1, none⟩ = some (.bool b))
    (HC : Hid (b = true → ∀ W, Below w.heap.size w W → Calls Tryz.prog 58 #[.slice tao tl tcap] W fun e w' => e = .returned E ∧ W = w'))
    (HE : Hid (b = false → E = errV (if 0 < tl then 3 else 0))) :
    Calls Tryz.prog 81 #[.agg #[.int .i64 (k : Int), .slice sao sl scap, .slice tao tl tcap, .int .i64 n]] w fun e w' => e = .returned E ∧ Below w.heap.size w w' := by
  obtain ⟨w1, hw1⟩ : ∃ w1, w1 = w.alloc (.cells #[.int .i64 (k : Int), .slice sao sl scap, .slice tao tl tcap, .int .i64 n] 50) := ⟨_, rfl⟩
  have HB : Hid (Below w.heap.size w w1) := by unfold Hid; rw [hw1]; exact below_alloc1 w _
  have q := hq w1 HB.out
  obtain ⟨x0, x2⟩ : w1.cell? ⟨w.heap.size, 0, none⟩ = some (.int .i64 (k : Int)) ∧ w1.cell? ⟨w.heap.size, 2, none⟩ = some (.slice tao tl tcap) := by rw [hw1]; simp
  clear hq
  cases b
  · have he := HE.out rfl
    by_cases h : 0 < tl
    · rw [if_pos h] at he
      subst he
      go_enter Tryz.func81, Tryz.ntmps81
      go_upto_region 1 with fail
      rw [← hw1]
      clear hw1
      go_wp2
      go_ret
      exact ⟨rfl, HB.out⟩
    · rw [if_neg h] at he
      subst he
      obtain rfl : tl = 0 := by omega
      go_enter Tryz.func81, Tryz.ntmps81
      go_upto_region 1 with fail
      rw [← hw1]
      clear hw1
      go_wp2
      go_ret
      exact ⟨rfl, HB.out⟩
  · have HC' : Hid (Calls Tryz.prog 58 #[.slice tao tl tcap] w1 fun e w' => e = .returned E ∧ w1 = w') := HC.out rfl w1 HB.out
    go_enter Tryz.func81, Tryz.ntmps81
    go_upto_region 1 with fail
    rw [← hw1]
    clear hw1
    go_wp2_with (go_at_call 58; refine HC'.out.mono ?_; rintro e w' ⟨rfl, rfl⟩)
    go_ret
    exact ⟨rfl, HB.out⟩
theorem csecond_any (k n : Int) (vs vt : Value) (s t : List Int) (w : World) (hk : 1 ≤ k ∧ k ≤ 5) (hS : Reads w vs s) (hT : Reads w vt t) (hK : KindsLaid w) :
    Calls Tryz.prog 81 #[.agg #[.int .i64 k, vs, vt, .int .i64 n]] w fun e w' => e = .returned (errV (secondFault k t)) ∧ Below w.heap.size w w' := by
  obtain ⟨k, rfl⟩ := Int.eq_ofNat_of_zero_le (show 0 ≤ k by omega)
  have hC := fun W (hW : Below w.heap.size w W) => tcheck_any t vt W (hT.below hW)
  obtain ⟨sao, scap, rfl, _⟩ := hS.slice
  obtain ⟨tao, tcap, rfl, hl⟩ := hT.slice
  refine csecond_in k (by omega) n sao tao _ scap _ tcap (secondB k) _ w hl (fun W hW => (kind_has (hK.below hW) (by omega) (by omega)).1) (fun hb W hW => ?_) fun hb => ?_
  · have e : secondFault (k : Int) t = faultN t := by unfold secondFault; rw [if_pos hb]
    rw [e]; exact hC W hW
  · unfold secondFault; rw [hb]; rfl
theorem acheck_kind (k : Int) (n : Int) (sao tao : Option Addr) (sl scap tl tcap : Nat) (w : World) (hk : ¬ (1 ≤ k ∧ k ≤ 5)) :
    Calls Tryz.prog 35 #[.agg #[.int .i64 k, .slice sao sl scap, .slice tao tl tcap, .int .i64 n]] w fun e w' => e = .returned (.iface 75 (.int .i64 1)) ∧ Below w.heap.size w w' := by
  have HB : Hid (Below w.heap.size w (w.alloc (.cells #[.int .i64 k, .slice sao sl scap, .slice tao tl tcap, .int .i64 n] 50))) := below_alloc1 w _
  by_cases h : k < 1
  · clear hk
    go_enter Tryz.func35, Tryz.ntmps35
    go_wp2
    go_ret
    exact ⟨rfl, HB.out⟩
  · have h5 : 5 < k := by omega
    clear hk
    go_enter Tryz.func35, Tryz.ntmps35
    go_wp2
    go_ret
    exact ⟨rfl, HB.out⟩
theorem acheck_in (k : Nat) (h1 : 0 < k) (h6 : k < 6) (n : Int) (sao tao : Option Addr) (sl scap tl tcap : Nat) (b : Bool) (F1 F2 : Int) (w : World)
    (hq : ∀ W, Below w.heap.size w W → W.cell? ⟨2, k * 3 + 2, none⟩ = some (.bool b))
    (HC : Hid (∀ W, Below w.heap.size w W → Calls Tryz.prog 58 #[.slice sao sl scap] W fun e w' => e = .returned (errV F1) ∧ W = w'))
    (HS : Hid (∀ W, Below w.heap.size w W → Calls Tryz.prog 81 #[.agg #[.int .i64 (k : Int), .slice sao sl scap, .slice tao tl tcap, .int .i64 n]] W fun e w' => e = .returned (errV F2) ∧ Below W.heap.size W w')) :
    Calls Tryz.prog 35 #[.agg #[.int .i64 (k : Int), .slice sao sl scap, .slice tao tl tcap, .int .i64 n]] w fun e w' => e = .returned (errV (if F1 = 0 then (if F2 = 0 then (if - (if b = true then 20 else 0) ≤ n ∧ n ≤ (if b = true then 20 else 0) then 0 else 1) else F2) else F1)) ∧ Below w.heap.size w w' := by
  obtain ⟨w1, hw1⟩ : ∃ w1, w1 = w.alloc (.cells #[.int .i64 (k : Int), .slice sao sl scap, .slice tao tl tcap, .int .i64 n] 50) := ⟨_, rfl⟩
  have HB : Hid (Below w.heap.size w w1) := by unfold Hid; rw [hw1]; exact below_alloc1 w _
  have HQ : Hid (∀ W, Below w1.heap.size w1 W → W.cell? ⟨2, k * 3 + 2, none⟩ = some (.bool b)) := fun W hW => hq W (HB.out.trans (hW.mono HB.out.size))
  have HX : Hid (∀ W, Below w1.heap.size w1 W → W.cell? ⟨w.heap.size, 0, none⟩ = some (.int .i64 (k : Int)) ∧ W.cell? ⟨w.heap.size, 1, none⟩ = some (.slice sao sl scap) ∧ W.cell? ⟨w.heap.size, 2, none⟩ = some (.slice tao tl tcap) ∧ W.cell? ⟨w.heap.size, 3, none⟩ = some (.int .i64 n)) := fun W hW => by
    have hl : w.heap.size < w1.heap.size := by rw [hw1]; simp
    refine ⟨(hW.cell hl).trans ?_, (hW.cell hl).trans ?_, (hW.cell hl).trans ?_, (hW.cell hl).trans ?_⟩ <;> (rw [hw1]; simp)
  have HC1 : Hid (Calls Tryz.prog 58 #[.slice sao sl scap] w1 fun e w' => e = .returned (errV F1) ∧ w1 = w') := HC.out w1 HB.out
  have HS1 : Hid (Calls Tryz.prog 81 #[.agg #[.int .i64 (k : Int), .slice sao sl scap, .slice tao tl tcap, .int .i64 n]] w1 fun e w' => e = .returned (errV F2) ∧ Below w1.heap.size w1 w') := HS.out w1 HB.out
  obtain ⟨x0, x1, x2, x3⟩ := HX.out w1 (Below.refl _ _)
  obtain ⟨M, hM⟩ : ∃ M : Int, M = if b = true then 20 else 0 := ⟨_, rfl⟩
  rw [← hM]
  obtain ⟨R, hR⟩ : ∃ R, R = errV (if F1 = 0 then (if F2 = 0 then (if - M ≤ n ∧ n ≤ M then 0 else 1) else F2) else F1) := ⟨_, rfl⟩
  rw [← hR]
  have HR : Hid (R = errV (if F1 = 0 then (if F2 = 0 then (if - M ≤ n ∧ n ≤ M then 0 else 1) else F2) else F1)) := hR
  clear hq HC HS hR
  go_enter Tryz.func35, Tryz.ntmps35
  go_upto_region 1 with fail
  rw [← hw1]
  clear hw1
  go_wp2_with fail
  go_at_call 58
  refine HC1.out.mono ?_
  rintro e w' ⟨rfl, rfl⟩
  by_cases e1 : F1 = 0
  · have H1 : Hid (F1 = 0) := e1
    rw [show errV F1 = .nilIface by rw [e1]; rfl]
    clear e1
    go_wp2_with fail
    go_at_call 81
    refine HS1.out.mono ?_
    rintro e w2 ⟨rfl, hb⟩
    have HB2 : Hid (Below w.heap.size w w2) := HB.out.trans (hb.mono HB.out.size)
    have q := HQ.out w2 hb
    clear x0 x1 x2 x3
    obtain ⟨x0, x1, x2, x3⟩ := HX.out w2 hb
    clear hb
    by_cases e2 : F2 = 0
    · have H2 : Hid (F2 = 0) := e2
      rw [show errV F2 = .nilIface by rw [e2]; rfl]
      clear e2
      have H3 : Hid (R = errV (if - M ≤ n ∧ n ≤ M then 0 else 1)) := by unfold Hid; rw [HR.out, if_pos H1.out, if_pos H2.out]
      clear HR H1 H2
      by_cases g1 : n < - M
      · have H4 : Hid (.iface 75 (.int .i64 1) = R) := by unfold Hid; rw [H3.out, if_neg (by omega)]; rfl
        cases b <;> (simp at hM; subst hM; go_wp2; go_ret; exact ⟨back_v H4.out, HB2.out⟩)
      by_cases g2 : M < n
      · have H4 : Hid (.iface 75 (.int .i64 1) = R) := by unfold Hid; rw [H3.out, if_neg (by omega)]; rfl
        cases b <;> (simp at hM; subst hM; go_wp2; go_ret; exact ⟨back_v H4.out, HB2.out⟩)
      · have H4 : Hid (.nilIface = R) := by unfold Hid; rw [H3.out, if_pos (by omega)]; rfl
        cases b <;> (simp at hM; subst hM; go_wp2; go_ret; exact ⟨back_v H4.out, HB2.out⟩)
    · have H4 : Hid (.iface 75 (.int .i64 F2) = R) := by unfold Hid; rw [HR.out, if_pos H1.out, if_neg e2, errV_no e2]
      rw [errV_no e2]
      clear e2 hM
      go_wp2
      go_ret
      exact ⟨back_v H4.out, HB2.out⟩
  · have H4 : Hid (.iface 75 (.int .i64 F1) = R) := by unfold Hid; rw [HR.out, if_neg e1, errV_no e1]
    rw [errV_no e1]
    clear e1 hM
    go_wp2
    go_ret
    exact ⟨back_v H4.out, HB.out⟩
/-- Check, whatever the atom. -/
theorem acheck_any (k n : Int) (vs vt : Value) (s t : List Int) (w : World) (hS : Reads w vs s) (hT : Reads w vt t) (hK : KindsLaid w) :
    Calls Tryz.prog 35 #[.agg #[.int .i64 k, vs, vt, .int .i64 n]] w fun e w' => e = .returned (errV (atomFault k s t n)) ∧ Below w.heap.size w w' := by
  have hC := fun W (hW : Below w.heap.size w W) => tcheck_any s vs W (hS.below hW)
  have hS2 := fun h W (hW : Below w.heap.size w W) => csecond_any k n vs vt s t W h (hS.below hW) (hT.below hW) (hK.below hW)
  obtain ⟨sao, scap, rfl, _⟩ := hS.slice
  obtain ⟨tao, tcap, rfl, hl⟩ := hT.slice
  by_cases hk : 1 ≤ k ∧ k ≤ 5
  · unfold atomFault mostN
    rw [if_pos hk]
    obtain ⟨k, rfl⟩ := Int.eq_ofNat_of_zero_le (show 0 ≤ k by omega)
    exact acheck_in k (by omega) (by omega) n sao tao _ scap _ tcap (numberB k) _ _ w (fun W hW => (kind_has (hK.below hW) (by omega) (by omega)).2) hC (hS2 hk)
  · rw [atomFault_kind hk, errV_no (by decide)]
    exact acheck_kind k n sao tao _ scap _ tcap w hk
end Go.Proofs.YtjaedfjfcghgcabGreatDoor


namespace Go.Proofs.YtjaedfjfcghgcabGreatDoor
open Go.ChangeShapes Go.WideShapes Go.ChangeAt Go.RowKit

set_option maxRecDepth 100000 in
set_option maxHeartbeats 4000000 in
theorem rturned_any (T M : Nat → Int) (m p : Int) (hT : ∀ f, f < 8 → -2 ≤ T f ∧ T f ≤ 2) (hm : -100 ≤ m ∧ m ≤ 100) (hM : ∀ f, f < 8 → M f = - T f) (hp : p = -(m + 1)) (w : World) :
    Calls Tryz.prog 37 #[.agg #[.int .i64 (T 0), .int .i64 (T 1), .int .i64 (T 2), .int .i64 (T 3), .int .i64 (T 4), .int .i64 (T 5), .int .i64 (T 6), .int .i64 (T 7), .int .i64 m]] w fun e w' => e = .returned (.agg #[.int .i64 (M 0), .int .i64 (M 1), .int .i64 (M 2), .int .i64 (M 3), .int .i64 (M 4), .int .i64 (M 5), .int .i64 (M 6), .int .i64 (M 7), .int .i64 p]) ∧ Below w.heap.size w w' := by
  obtain ⟨Z, hZ⟩ : ∃ Z : Nat → Int, Z = fun _ => 0 := ⟨_, rfl⟩
  obtain ⟨w1, hw1⟩ : ∃ w1, w1 = (w.alloc (.cells #[.int .i64 (T 0), .int .i64 (T 1), .int .i64 (T 2), .int .i64 (T 3), .int .i64 (T 4), .int .i64 (T 5), .int .i64 (T 6), .int .i64 (T 7), .int .i64 m] 46)).alloc (.cells #[.int .i64 0, .int .i64 0, .int .i64 0, .int .i64 0, .int .i64 0, .int .i64 0, .int .i64 0, .int .i64 0, .int .i64 0] 46) := ⟨_, rfl⟩
  have HW : Hid (Below w.heap.size w w1) := by unfold Hid; rw [hw1]; exact (below_alloc1 _ _).alloc (by simp) _
  have HK0 : Hid (Blk w1 w.heap.size 46 (arrR T m)) := by unfold Hid; rw [hw1]; exact (Blk.new _ _ _).old _
  have HK1 : Hid (Blk w1 (w.heap.size + 1) 46 (arrR Z 0)) := by
    unfold Hid; rw [hw1, hZ]
    have := Blk.new (w.alloc (.cells #[.int .i64 (T 0), .int .i64 (T 1), .int .i64 (T 2), .int .i64 (T 3), .int .i64 (T 4), .int .i64 (T 5), .int .i64 (T 6), .int .i64 (T 7), .int .i64 m] 46)) 46 (arrR (fun _ => 0) 0)
    simp only [World.size_alloc] at this
    exact this
  have HT : Hid (∀ f, f < 8 → -2 ≤ T f ∧ T f ≤ 2) := hT
  have HM : Hid (∀ f, f < 8 → M f = - T f) := hM
  have HP : Hid (p = -(m + 1)) := hp
  clear hZ hT hM hp
  obtain ⟨m0, m1⟩ := hm
  go_enter Tryz.func37, Tryz.ntmps37
  go_wp2
  rw [← hw1]
  clear hw1
  go_loopw [4] (fun i wr => ∃ k : Nat, k ≤ 8 ∧ i = .int .i64 k ∧ Below w.heap.size w wr ∧ Blk wr w.heap.size 46 (arrR (fun f => if f < k then M f else T f) m) ∧ Blk wr (w.heap.size + 1) 46 (arrR Z 0)) (fun i _ => 8 - (intOf i).toNat)
  case atStart => exact ⟨0, Nat.zero_le _, rfl, HW.out, HK0.out, HK1.out⟩
  case round =>
    obtain ⟨k, hk, rfl, hb, h0, h1⟩ := hrel
    have HB1 : Hid (Below w.heap.size w wr) := hb
    have HR1 : Hid (Blk wr w.heap.size 46 (arrR (fun f => if f < k then M f else T f) m)) := h0
    have HZ1 : Hid (Blk wr (w.heap.size + 1) 46 (arrR Z 0)) := h1
    clear hb h0 h1
    by_cases hlt : k < 8
    · obtain ⟨x, hx⟩ : ∃ x, x = T k := ⟨_, rfl⟩
      have c : wr.cell? ⟨w.heap.size, k, none⟩ = some (.int .i64 x) := by rw [HR1.out.cell, arrR_get _ _ hlt, hx]; simp
      have z := HR1.out.frozen k
      have hxl := HT.out k hlt
      rw [← hx] at hxl
      obtain ⟨x0, x1⟩ := hxl
      have HE : Hid (Blk (wr.setCell ⟨w.heap.size, k, none⟩ (.int .i64 (-x))) w.heap.size 46 (arrR (fun f => if f < k + 1 then M f else T f) m)) := by
        have := HR1.out.set k (.int .i64 (-x))
        rw [arrR_set _ _ _ hlt] at this
        unfold Hid
        rw [arrR_same (M := fun g => if g = k then -x else if g < k then M g else T g)]
        · exact this
        · intro f hf
          by_cases e : f = k
          · subst e; rw [if_pos (by omega), if_pos rfl, HM.out f hf, hx]
          · simp only [if_neg e]
            by_cases e' : f < k
            · rw [if_pos (by omega), if_pos e']
            · rw [if_neg (by omega), if_neg e']
      clear hx
      go_wp2
      go_roundw
      case rel => exact ⟨k + 1, by omega, by go_num, HB1.out.setCell (by simp) _, HE.out, HZ1.out.far (by omega) _ _⟩
      case measure => simp [intOf]; omega
    · obtain rfl : k = 8 := by omega
      have HR2 : Hid (Blk wr w.heap.size 46 (arrR M m)) := by
        have := HR1.out
        unfold Hid
        rw [arrR_same (M := fun f => if f < 8 then M f else T f)]
        · exact this
        · intro f hf; rw [if_pos hf]
      clear HR1
      obtain ⟨n0, n1, n2, n3, n4, n5, n6, n7, n8⟩ := HR2.out.cells9
      have nz := HR2.out.frozen 8
      obtain ⟨r0, r1, r2, r3, r4, r5, r6, r7, r8⟩ := HZ1.out.cells9
      obtain ⟨f0, f1, f2, f3, f4, f5, f6, f7, f8⟩ := HZ1.out.frozen9
      go_wp2
      refine bodyPost_ret (v := .agg (arrR M (-(m + 1)))) ?_ rfl ⟨by rw [HP.out]; rfl, ?_⟩
      · exact results_cell_row rfl _ _ (w.heap.size + 1) 46 (arrR M (-(m + 1))) (0, 0) _ rfl (putR_blk (HZ1.out.far (by omega) 8 (.int .i64 (-(m + 1)))) M (-(m + 1))) Tryz.underlying46 rfl infoR
      · exact putR_below (HB1.out.setCell (Nat.le_refl _) _) (by omega) _ _
theorem ix8 (T : Nat → Int) {k : Nat} (hk : k < 8) (W : World) : (Instr.index 44 (.agg #[.int .i64 (T 0), .int .i64 (T 1), .int .i64 (T 2), .int .i64 (T 3), .int .i64 (T 4), .int .i64 (T 5), .int .i64 (T 6), .int .i64 (T 7)]) (.int .i64 k)).run Tryz.prog W = .ok (.int .i64 (T k)) W := by
  rcases eight hk with rfl | rfl | rfl | rfl | rfl | rfl | rfl | rfl <;> kernel_rfl

set_option maxRecDepth 100000 in
set_option maxHeartbeats 4000000 in
theorem wrong_any (T : Nat → Int) (m : Int) (w : World) :
    Calls Tryz.prog 84 #[.agg #[.int .i64 (T 0), .int .i64 (T 1), .int .i64 (T 2), .int .i64 (T 3), .int .i64 (T 4), .int .i64 (T 5), .int .i64 (T 6), .int .i64 (T 7), .int .i64 m]] w fun e w' => e = .returned (.bool (Rw.mk T m).wrong) ∧ Below w.heap.size w w' := by
  obtain ⟨w1, hw1⟩ : ∃ w1, w1 = w.alloc (.cells #[.int .i64 (T 0), .int .i64 (T 1), .int .i64 (T 2), .int .i64 (T 3), .int .i64 (T 4), .int .i64 (T 5), .int .i64 (T 6), .int .i64 (T 7), .int .i64 m] 46) := ⟨_, rfl⟩
  have HW : Hid (Below w.heap.size w w1) := by unfold Hid; rw [hw1]; exact below_alloc1 _ _
  have HK0 : Hid (Blk w1 w.heap.size 46 (arrR T m)) := by unfold Hid; rw [hw1]; exact Blk.new _ _ _
  obtain ⟨R, hR⟩ : ∃ R, R = (Rw.mk T m).wrong := ⟨_, rfl⟩
  have HR1 : Hid (∀ f, f < 8 → ¬ (-2 ≤ T f ∧ T f ≤ 2) → R = true) := fun f hf h => by rw [hR]; exact wrong_time hf h
  have HR2 : Hid (¬ (-100 ≤ m ∧ m ≤ 100) → R = true) := fun h => by rw [hR]; exact wrong_most h
  have HR3 : Hid ((∀ f, f < 8 → -2 ≤ T f ∧ T f ≤ 2) → (-100 ≤ m ∧ m ≤ 100) → R = false) := fun h h' => by rw [hR]; exact right_iff.2 ⟨h, h'⟩
  rw [← hR]
  clear hR
  obtain ⟨n0, n1, n2, n3, n4, n5, n6, n7, n8⟩ := HK0.out.cells9
  go_enter Tryz.func84, Tryz.ntmps84
  go_wp2_with fail
  rw [← hw1]
  clear hw1
  go_wp2_with fail
  go_loop [4, 7] (fun _ i => ∃ k : Nat, k ≤ 8 ∧ i = .int .i64 k ∧ ∀ f, f < k → -2 ≤ T f ∧ T f ≤ 2) (fun _ i => 8 - (intOf i).toNat)
  case atStart => exact ⟨0, Nat.zero_le _, rfl, fun f hf => by omega⟩
  case round =>
    obtain ⟨k, hk, rfl, hall⟩ := hrel
    have HA : Hid (∀ f, f < k → -2 ≤ T f ∧ T f ≤ 2) := hall
    clear hall
    by_cases hlt : k < 8
    · have hi := ix8 T hlt
      have HT1 : Hid (¬ (-2 ≤ T k ∧ T k ≤ 2) → R = true) := HR1.out k hlt
      have HN : Hid ((-2 ≤ T k ∧ T k ≤ 2) → ∀ f, f < k + 1 → -2 ≤ T f ∧ T f ≤ 2) := fun h f hf => by
        rcases Nat.lt_or_ge f k with h' | h'
        · exact HA.out f h'
        · obtain rfl : f = k := by omega
          exact h
      obtain ⟨x, hx⟩ : ∃ x, x = T k := ⟨_, rfl⟩
      rw [← hx] at hi HT1 HN
      clear hx
      by_cases h0 : x < -2
      · have HE : Hid (R = true) := HT1.out (by omega)
        go_wp2
        go_ret
        exact ⟨back_b HE.out.symm, HW.out⟩
      by_cases h2 : 2 < x
      · have HE : Hid (R = true) := HT1.out (by omega)
        go_wp2
        go_ret
        exact ⟨back_b HE.out.symm, HW.out⟩
      · have HE : Hid (∀ f, f < k + 1 → -2 ≤ T f ∧ T f ≤ 2) := HN.out (by omega)
        go_wp2
        go_round
        case rel => exact ⟨k + 1, by omega, by go_num, HE.out⟩
        case measure => simp [intOf]; omega
    · obtain rfl : k = 8 := by omega
      by_cases h0 : m < -100
      · have HE : Hid (R = true) := HR2.out (by omega)
        go_wp2
        go_ret
        exact ⟨back_b HE.out.symm, HW.out⟩
      by_cases h2 : 100 < m
      · have HE : Hid (R = true) := HR2.out (by omega)
        go_wp2
        go_ret
        exact ⟨back_b HE.out.symm, HW.out⟩
      · have HE : Hid (R = false) := HR3.out HA.out (by omega)
        go_wp2
        go_ret
        exact ⟨back_b HE.out.symm, HW.out⟩

set_option maxRecDepth 100000 in
set_option maxHeartbeats 4000000 in
theorem sum_any (T N : Nat → Int) (hT : ∀ f, f < 8 → -2 ≤ T f ∧ T f ≤ 2) (hN : ∀ f, f < 8 → 0 ≤ N f ∧ N f ≤ 6) (w : World) :
    Calls Tryz.prog 86 #[.agg #[.int .i64 (T 0), .int .i64 (T 1), .int .i64 (T 2), .int .i64 (T 3), .int .i64 (T 4), .int .i64 (T 5), .int .i64 (T 6), .int .i64 (T 7)], .agg #[.int .i64 (N 0), .int .i64 (N 1), .int .i64 (N 2), .int .i64 (N 3), .int .i64 (N 4), .int .i64 (N 5), .int .i64 (N 6), .int .i64 (N 7)]] w fun e w' => e = .returned (.int .i64 (sumT T N 8)) ∧ Below w.heap.size w w' := by
  obtain ⟨w1, hw1⟩ : ∃ w1, w1 = (w.alloc (.cells #[.int .i64 (T 0), .int .i64 (T 1), .int .i64 (T 2), .int .i64 (T 3), .int .i64 (T 4), .int .i64 (T 5), .int .i64 (T 6), .int .i64 (T 7)] 44)).alloc (.cells #[.int .i64 (N 0), .int .i64 (N 1), .int .i64 (N 2), .int .i64 (N 3), .int .i64 (N 4), .int .i64 (N 5), .int .i64 (N 6), .int .i64 (N 7)] 44) := ⟨_, rfl⟩
  have HW : Hid (Below w.heap.size w w1) := by unfold Hid; rw [hw1]; exact (below_alloc1 _ _).alloc (by simp) _
  have HK0 : Hid (Blk w1 w.heap.size 44 (arr8 T)) := by unfold Hid; rw [hw1]; exact (Blk.new _ _ _).old _
  have HK1 : Hid (Blk w1 (w.heap.size + 1) 44 (arr8 N)) := by
    unfold Hid; rw [hw1]
    have := Blk.new (w.alloc (.cells #[.int .i64 (T 0), .int .i64 (T 1), .int .i64 (T 2), .int .i64 (T 3), .int .i64 (T 4), .int .i64 (T 5), .int .i64 (T 6), .int .i64 (T 7)] 44)) 44 (arr8 N)
    simp only [World.size_alloc] at this
    exact this
  have HT : Hid (∀ f, f < 8 → -2 ≤ T f ∧ T f ≤ 2) := hT
  have HN : Hid (∀ f, f < 8 → 0 ≤ N f ∧ N f ≤ 6) := hN
  clear hT hN
  go_enter Tryz.func86, Tryz.ntmps86
  go_wp2
  rw [← hw1]
  clear hw1
  go_loopw [5, 7] (fun s i wr => ∃ k : Nat, k ≤ 8 ∧ i = .int .i64 k ∧ s = .int .i64 (sumT T N k) ∧ Below w1.heap.size w1 wr) (fun _ i _ => 8 - (intOf i).toNat)
  case atStart => exact ⟨0, Nat.zero_le _, rfl, rfl, Below.refl _ _⟩
  case round =>
    obtain ⟨k, hk, rfl, rfl, hb⟩ := hrel
    have HB1 : Hid (Below w1.heap.size w1 wr) := hb
    clear hb
    by_cases hlt : k < 8
    · have y : wr.cell? ⟨w.heap.size, k, none⟩ = some (.int .i64 (T k)) := by rw [(HK0.out.below HB1.out).cell, arr8_get _ hlt]
      have y' : wr.cell? ⟨w.heap.size + 1, k, none⟩ = some (.int .i64 (N k)) := by rw [(HK1.out.below HB1.out).cell, arr8_get _ hlt]
      have p1 := sumT_le (T := T) (N := N) (k := k) (fun f hf => HT.out f (by omega)) fun f hf => HN.out f (by omega)
      have p2 := mul_le (HT.out k hlt) (HN.out k hlt)
      have HS : Hid (sumT T N (k + 1) = sumT T N k + T k * N k) := rfl
      go_wp2
      go_region
      go_wp2
      go_roundw
      case rel => exact ⟨k + 1, by omega, by go_num, by rw [HS.out], HB1.out.drew⟩
      case measure => simp [intOf]; omega
    · obtain rfl : k = 8 := by omega
      go_wp2
      go_ret
      exact ⟨rfl, HW.out.trans (HB1.out.mono HW.out.size)⟩

/-- of no signs no field; else as Mask. -/
theorem rmask_right (t : List Int) (v : Value) (w : World) (h : Reads w v t) (hf : t = [] ∨ faultN t = 0) :
    Calls Tryz.prog 36 #[v] w fun e w' => e = .returned (.tuple #[.int .i64 (maskTo (liesB t) 8), .nilIface]) ∧ Below w.heap.size w w' := by
  by_cases h0 : t = []
  · subst h0
    obtain ⟨ao, cap, rfl, _⟩ := h.slice
    have e : maskTo (liesB []) 8 = 0 := by
      have : liesB [] = fun _ => false := by funext f; exact lies_none f
      rw [this]; decide
    rw [e]
    clear e h hf
    go_enter Tryz.func36, Tryz.ntmps36
    go_wp2
    go_ret2
    exact ⟨rfl, Below.refl _ _⟩
  · have hf' : faultN t = 0 := by rcases hf with h' | h'; exact absurd h' h0; exact h'
    have c := mask_any t v w h
    have e1 : maskN t = maskTo (liesB t) 8 := by unfold maskN; rw [if_pos hf']
    rw [e1, hf'] at c
    obtain ⟨ao, cap, rfl, hl⟩ := h.slice
    obtain ⟨M, hM⟩ : ∃ M, M = maskTo (liesB t) 8 := ⟨_, rfl⟩
    rw [← hM] at c ⊢
    have h1 : ¬ ((t.length : Int) = 0) := by
      have : t.length ≠ 0 := fun h' => h0 (List.length_eq_zero_iff.1 h')
      omega
    obtain ⟨n, hn⟩ : ∃ n, n = t.length := ⟨_, rfl⟩
    rw [← hn] at c hl h1 ⊢
    have C : Hid (Calls Tryz.prog 82 #[.slice ao n cap] w fun e w' => e = .returned (.tuple #[.int .i64 M, .nilIface]) ∧ Below w.heap.size w w') := c
    clear c hM hn h hf hf' e1 h0
    go_enter Tryz.func36, Tryz.ntmps36
    go_wp2_with fail
    go_at_call 82
    refine C.out.mono ?_
    rintro e w2 ⟨rfl, hb⟩
    have HB : Hid (Below w.heap.size w w2) := hb
    clear hb
    go_wp2
    go_ret2
    exact ⟨rfl, HB.out⟩
end Go.Proofs.YtjaedfjfcghgcabGreatDoor

