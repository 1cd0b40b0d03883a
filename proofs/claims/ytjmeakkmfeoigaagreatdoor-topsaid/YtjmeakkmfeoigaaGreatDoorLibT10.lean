/-
  Facts and contracts that the statement leans on.
-/
import Derived.Test.YtjmeakkmfeoigaaGreatDoorLibT9
import Derived.Test.YtjmeakkmfeoigaaGreatDoorLibT7
import Derived.Handy
import Derived.Deep.Cut
namespace Go.Proofs.YtjmeakkmfeoigaaGreatDoor
open Go.ChangeShapes Go.WideShapes Go.ChangeAt Go.RowKit
set_option maxRecDepth 100000 in
set_option maxHeartbeats 4000000 in
theorem rturned_any (T M : Nat → Int) (m p : Int) (hT : ∀ f, f < 8 → -2 ≤ T f ∧ T f ≤ 2) (hm : -100 ≤ m ∧ m ≤ 100) (hM : ∀ f, f < 8 → M f = - T f) (hp : p = -(m + 1)) (w : World) :
    Calls Tryz.prog 153 #[.agg #[.int .i64 (T 0), .int .i64 (T 1), .int .i64 (T 2), .int .i64 (T 3), .int .i64 (T 4), .int .i64 (T 5), .int .i64 (T 6), .int .i64 (T 7), .int .i64 m]] w (Bk w (.agg #[.int .i64 (M 0), .int .i64 (M 1), .int .i64 (M 2), .int .i64 (M 3), .int .i64 (M 4), .int .i64 (M 5), .int .i64 (M 6), .int .i64 (M 7), .int .i64 p])) := by
 obtain ⟨Z, hZ⟩ : ∃ Z : Nat → Int, Z = fun _ => 0 := ⟨_, rfl⟩
 obtain ⟨w1, hw1⟩ := nm ((w.alloc (.cells #[.int .i64 (T 0), .int .i64 (T 1), .int .i64 (T 2), .int .i64 (T 3), .int .i64 (T 4), .int .i64 (T 5), .int .i64 (T 6), .int .i64 (T 7), .int .i64 m] 183)).alloc (.cells #[.int .i64 0, .int .i64 0, .int .i64 0, .int .i64 0, .int .i64 0, .int .i64 0, .int .i64 0, .int .i64 0, .int .i64 0] 183))
 have HW : Hid (Below w.heap.size w w1) := by unfold Hid; rw [hw1]; exact (below_alloc1 _ _).alloc (by simp) _
 have HK0 : Hid (Blk w1 w.heap.size 183 (arrR T m)) := by unfold Hid; rw [hw1]; exact (Blk.new _ _ _).old _
 have HK1 : Hid (Blk w1 (w.heap.size + 1) 183 (arrR Z 0)) := by
  unfold Hid; rw [hw1, hZ]
  have := Blk.new (w.alloc (.cells #[.int .i64 (T 0), .int .i64 (T 1), .int .i64 (T 2), .int .i64 (T 3), .int .i64 (T 4), .int .i64 (T 5), .int .i64 (T 6), .int .i64 (T 7), .int .i64 m] 183)) 183 (arrR (fun _ => 0) 0)
  simp only [World.size_alloc] at this
  exact this
 have HT := hide hT
 have HM := hide hM
 have HP := hide hp
 clear hZ hT hM hp
 obtain ⟨m0, m1⟩ := hm
 go_enter Tryz.func153, Tryz.ntmps153
 go_wp2
 rw [← hw1]
 clear hw1
 go_loopw [4] (fun i wr => ∃ k : Nat, k ≤ 8 ∧ i = .int .i64 k ∧ Below w.heap.size w wr ∧ Blk wr w.heap.size 183 (arrR (fun f => if f < k then M f else T f) m) ∧ Blk wr (w.heap.size + 1) 183 (arrR Z 0)) (fun i _ => 8 - (intOf i).toNat)
 case atStart => exact ⟨0, Nat.zero_le _, rfl, HW.out, HK0.out, HK1.out⟩
 case round =>
  obtain ⟨k, hk, rfl, hb, h0, h1⟩ := hrel
  have HB1 := hide hb
  have HR1 : Hid (Blk wr w.heap.size 183 (arrR (fun f => if f < k then M f else T f) m)) := h0
  have HZ1 : Hid (Blk wr (w.heap.size + 1) 183 (arrR Z 0)) := h1
  clear hb h0 h1
  by_cases hlt : k < 8
  ·obtain ⟨x, hx⟩ := nm (T k)
   have c : wr.cell? ⟨w.heap.size, k, none⟩ = some (.int .i64 x) := by rw [HR1.out.cell, arrR_get _ _ hlt, hx]; simp
   have z := HR1.out.frozen k
   have hxl := HT.out k hlt
   rw [← hx] at hxl
   obtain ⟨x0, x1⟩ := hxl
   have HE : Hid (Blk (wr.setCell ⟨w.heap.size, k, none⟩ (.int .i64 (-x))) w.heap.size 183 (arrR (fun f => if f < k + 1 then M f else T f) m)) := by
    have := HR1.out.set k (.int .i64 (-x))
    rw [arrR_set _ _ _ hlt] at this
    unfold Hid
    rw [arrR_same (M := fun g => if g = k then -x else if g < k then M g else T g)]
    ·exact this
    ·intro f hf
     by_cases e : f = k
     ·subst e; rw [if_pos (by omega), if_pos rfl, HM.out f hf, hx]
     ·simp only [if_neg e]
      by_cases e' : f < k
      ·rw [if_pos (by omega), if_pos e']
      ·rw [if_neg (by omega), if_neg e']
   clear hx
   go_wp2
   go_roundw
   case rel => exact ⟨k + 1, by omega, by go_num, HB1.out.setCell (by simp) _, HE.out, HZ1.out.far (by omega) _ _⟩
   case measure => simp [intOf]; omega
  ·obtain rfl : k = 8 := by omega
   have HR2 : Hid (Blk wr w.heap.size 183 (arrR M m)) := by
    have := HR1.out
    unfold Hid
    rw [arrR_same (M := fun f => if f < 8 then M f else T f)]
    ·exact this
    ·intro f hf; rw [if_pos hf]
   clear HR1
   obtain ⟨n0, n1, n2, n3, n4, n5, n6, n7, n8⟩ := HR2.out.cells9
   have nz := HR2.out.frozen 8
   obtain ⟨r0, r1, r2, r3, r4, r5, r6, r7, r8⟩ := HZ1.out.cells9
   obtain ⟨f0, f1, f2, f3, f4, f5, f6, f7, f8⟩ := HZ1.out.frozen9
   go_wp2
   refine bodyPost_ret (v := .agg (arrR M (-(m + 1)))) ?_ rfl ⟨by rw [HP.out]; rfl, ?_⟩
   ·exact results_cell_row rfl _ _ (w.heap.size + 1) 183 (arrR M (-(m + 1))) (0, 0) _ rfl (putR_blk (HZ1.out.far (by omega) 8 (.int .i64 (-(m + 1)))) M (-(m + 1))) Tryz.underlying183 rfl infoR
   ·exact putR_below (HB1.out.setCell (Nat.le_refl _) _) (by omega) _ _
theorem ix8 (T : Nat → Int) {k : Nat} (hk : k < 8) (W : World) : (Instr.index 122 (.agg #[.int .i64 (T 0), .int .i64 (T 1), .int .i64 (T 2), .int .i64 (T 3), .int .i64 (T 4), .int .i64 (T 5), .int .i64 (T 6), .int .i64 (T 7)]) (.int .i64 k)).run Tryz.prog W = .ok (.int .i64 (T k)) W := by
 rcases eight hk with rfl | rfl | rfl | rfl | rfl | rfl | rfl | rfl <;> kernel_rfl
set_option maxRecDepth 100000 in
set_option maxHeartbeats 4000000 in
theorem wrong_any (T : Nat → Int) (m : Int) (w : World) :
    Calls Tryz.prog 155 #[.agg #[.int .i64 (T 0), .int .i64 (T 1), .int .i64 (T 2), .int .i64 (T 3), .int .i64 (T 4), .int .i64 (T 5), .int .i64 (T 6), .int .i64 (T 7), .int .i64 m]] w (Bk w (.bool (Rw.mk T m).wrong)) := by
 obtain ⟨w1, hw1⟩ := nm (w.alloc (.cells #[.int .i64 (T 0), .int .i64 (T 1), .int .i64 (T 2), .int .i64 (T 3), .int .i64 (T 4), .int .i64 (T 5), .int .i64 (T 6), .int .i64 (T 7), .int .i64 m] 183))
 have HW : Hid (Below w.heap.size w w1) := by unfold Hid; rw [hw1]; exact below_alloc1 _ _
 have HK0 : Hid (Blk w1 w.heap.size 183 (arrR T m)) := by unfold Hid; rw [hw1]; exact Blk.new _ _ _
 obtain ⟨R, hR⟩ := nm ((Rw.mk T m).wrong)
 have HR1 : Hid (∀ f, f < 8 → ¬ (-2 ≤ T f ∧ T f ≤ 2) → R = true) := fun f hf h => by rw [hR]; exact wrong_time hf h
 have HR2 : Hid (¬ (-100 ≤ m ∧ m ≤ 100) → R = true) := fun h => by rw [hR]; exact wrong_most h
 have HR3 : Hid ((∀ f, f < 8 → -2 ≤ T f ∧ T f ≤ 2) → (-100 ≤ m ∧ m ≤ 100) → R = false) := fun h h' => by rw [hR]; exact right_iff.2 ⟨h, h'⟩
 rw [← hR]
 clear hR
 obtain ⟨n0, n1, n2, n3, n4, n5, n6, n7, n8⟩ := HK0.out.cells9
 go_enter Tryz.func155, Tryz.ntmps155
 go_wp2_with fail
 rw [← hw1]
 clear hw1
 go_wp2_with fail
 go_loop [4, 7] (fun _ i => ∃ k : Nat, k ≤ 8 ∧ i = .int .i64 k ∧ ∀ f, f < k → -2 ≤ T f ∧ T f ≤ 2) (fun _ i => 8 - (intOf i).toNat)
 case atStart => exact ⟨0, Nat.zero_le _, rfl, fun f hf => by omega⟩
 case round =>
  obtain ⟨k, hk, rfl, hall⟩ := hrel
  have HA := hide hall
  clear hall
  by_cases hlt : k < 8
  ·have hi := ix8 T hlt
   have HT1 := hide (HR1.out k hlt)
   have HN : Hid ((-2 ≤ T k ∧ T k ≤ 2) → ∀ f, f < k + 1 → -2 ≤ T f ∧ T f ≤ 2) := fun h f hf => by
    rcases Nat.lt_or_ge f k with h' | h'
    ·exact HA.out f h'
    ·obtain rfl : f = k := by omega
     exact h
   obtain ⟨x, hx⟩ := nm (T k)
   rw [← hx] at hi HT1 HN
   clear hx
   by_cases h0 : x < -2
   ·have HE := hide (HT1.out (by omega))
    go_wp2
    go_ret
    exact ⟨back_b HE.out.symm, HW.out⟩
   by_cases h2 : 2 < x
   ·have HE := hide (HT1.out (by omega))
    go_wp2
    go_ret
    exact ⟨back_b HE.out.symm, HW.out⟩
   ·have HE := hide (HN.out (by omega))
    go_wp2
    go_round
    case rel => exact ⟨k + 1, by omega, by go_num, HE.out⟩
    case measure => simp [intOf]; omega
  ·obtain rfl : k = 8 := by omega
   by_cases h0 : m < -100
   ·have HE := hide (HR2.out (by omega))
    go_wp2
    go_ret
    exact ⟨back_b HE.out.symm, HW.out⟩
   by_cases h2 : 100 < m
   ·have HE := hide (HR2.out (by omega))
    go_wp2
    go_ret
    exact ⟨back_b HE.out.symm, HW.out⟩
   ·have HE := hide (HR3.out HA.out (by omega))
    go_wp2
    go_ret
    exact ⟨back_b HE.out.symm, HW.out⟩
set_option maxRecDepth 100000 in
set_option maxHeartbeats 4000000 in
theorem sum_any (T N : Nat → Int) (hT : ∀ f, f < 8 → -2 ≤ T f ∧ T f ≤ 2) (hN : ∀ f, f < 8 → 0 ≤ N f ∧ N f ≤ 6) (w : World) :
    Calls Tryz.prog 157 #[.agg #[.int .i64 (T 0), .int .i64 (T 1), .int .i64 (T 2), .int .i64 (T 3), .int .i64 (T 4), .int .i64 (T 5), .int .i64 (T 6), .int .i64 (T 7)], .agg #[.int .i64 (N 0), .int .i64 (N 1), .int .i64 (N 2), .int .i64 (N 3), .int .i64 (N 4), .int .i64 (N 5), .int .i64 (N 6), .int .i64 (N 7)]] w (Bk w (.int .i64 (sumT T N 8))) := by
 obtain ⟨w1, hw1⟩ := nm ((w.alloc (.cells #[.int .i64 (T 0), .int .i64 (T 1), .int .i64 (T 2), .int .i64 (T 3), .int .i64 (T 4), .int .i64 (T 5), .int .i64 (T 6), .int .i64 (T 7)] 122)).alloc (.cells #[.int .i64 (N 0), .int .i64 (N 1), .int .i64 (N 2), .int .i64 (N 3), .int .i64 (N 4), .int .i64 (N 5), .int .i64 (N 6), .int .i64 (N 7)] 122))
 have HW : Hid (Below w.heap.size w w1) := by unfold Hid; rw [hw1]; exact (below_alloc1 _ _).alloc (by simp) _
 have HK0 : Hid (Blk w1 w.heap.size 122 (arr8 T)) := by unfold Hid; rw [hw1]; exact (Blk.new _ _ _).old _
 have HK1 : Hid (Blk w1 (w.heap.size + 1) 122 (arr8 N)) := by
  unfold Hid; rw [hw1]
  have := Blk.new (w.alloc (.cells #[.int .i64 (T 0), .int .i64 (T 1), .int .i64 (T 2), .int .i64 (T 3), .int .i64 (T 4), .int .i64 (T 5), .int .i64 (T 6), .int .i64 (T 7)] 122)) 122 (arr8 N)
  simp only [World.size_alloc] at this
  exact this
 have HT := hide hT
 have HN := hide hN
 clear hT hN
 go_enter Tryz.func157, Tryz.ntmps157
 go_wp2
 rw [← hw1]
 clear hw1
 go_loopw [5, 7] (fun s i wr => ∃ k : Nat, k ≤ 8 ∧ i = .int .i64 k ∧ s = .int .i64 (sumT T N k) ∧ Below w1.heap.size w1 wr) (fun _ i _ => 8 - (intOf i).toNat)
 case atStart => exact ⟨0, Nat.zero_le _, rfl, rfl, Below.refl _ _⟩
 case round =>
  obtain ⟨k, hk, rfl, rfl, hb⟩ := hrel
  have HB1 := hide hb
  clear hb
  by_cases hlt : k < 8
  ·have y : wr.cell? ⟨w.heap.size, k, none⟩ = some (.int .i64 (T k)) := by rw [(HK0.out.below HB1.out).cell, arr8_get _ hlt]
   have y' : wr.cell? ⟨w.heap.size + 1, k, none⟩ = some (.int .i64 (N k)) := by rw [(HK1.out.below HB1.out).cell, arr8_get _ hlt]
   have p1 := sumT_le (T := T) (N := N) (k := k) (fun f hf => HT.out f (by omega)) fun f hf => HN.out f (by omega)
   have p2 := mul_le (HT.out k hlt) (HN.out k hlt)
   have HS : Hid (sumT T N (k + 1) = sumT T N k + T k * N k) := rfl
   go_wp2
   go_region
   go_wp2
   go_roundw
   case rel => exact ⟨k + 1, by omega, by go_num, by rw [HS.out], HB1.out.drew⟩
   case measure => simp [intOf]; omega
  ·obtain rfl : k = 8 := by omega
   go_wp2
   go_ret
   exact ⟨rfl, HW.out.trans (HB1.out.mono HW.out.size)⟩
theorem rmask_right (t : List Int) (v : Value) (w : World) (h : Reads w v t) (hf : t = [] ∨ faultN t = 0) :
    Calls Tryz.prog 152 #[v] w (Bk w (.tuple #[.int .i64 (maskTo (liesB t) 8), .nilIface])) := by
 by_cases h0 : t = []
 ·subst h0
  obtain ⟨ao, cap, rfl, _⟩ := h.slice
  have e : maskTo (liesB []) 8 = 0 := by
   have : liesB [] = fun _ => false := by funext f; exact lies_none f
   rw [this]; decide
  rw [e]
  clear e h hf
  go_enter Tryz.func152, Tryz.ntmps152
  go_wp2
  go_ret2
  exact ⟨rfl, Below.refl _ _⟩
 ·have hf' : faultN t = 0 := by rcases hf with h' | h'; exact absurd h' h0; exact h'
  have c := mask_any t v w h
  have e1 : maskN t = maskTo (liesB t) 8 := by unfold maskN; rw [if_pos hf']
  rw [e1, hf'] at c
  obtain ⟨ao, cap, rfl, hl⟩ := h.slice
  obtain ⟨M, hM⟩ := nm (maskTo (liesB t) 8)
  rw [← hM] at c ⊢
  have h1 : ¬ ((t.length : Int) = 0) := by
   have : t.length ≠ 0 := fun h' => h0 (List.length_eq_zero_iff.1 h')
   omega
  obtain ⟨n, hn⟩ := nm t.length
  rw [← hn] at c hl h1 ⊢
  have C := hide c
  clear c hM hn h hf hf' e1 h0
  go_enter Tryz.func152, Tryz.ntmps152
  go_wp2_with fail
  go_at_call 183
  refine C.out.mono ?_
  rintro e w2 ⟨rfl, hb⟩
  have HB := hide hb
  clear hb
  go_wp2
  go_ret2
  exact ⟨rfl, HB.out⟩
end Go.Proofs.YtjmeakkmfeoigaaGreatDoor
namespace Go.Proofs.YtjmeakkmfeoigaaGreatDoor
open Go.ChangeShapes Go.WideShapes Go.ChangeAt Go.RowKit
set_option maxRecDepth 100000
def timeCells : List Int := [0, 0, 0, 0, 0, 0, 1, 0, 0, 1, 1, 0, 0, 0, -1, 0, 0, 0, 1, 0, 0, -1, 1, 0]
def TimesLaid (w : World) : Prop := ∀ j, j < 24 → w.cell? ⟨3, j, none⟩ = some (.int .i64 (timeCells.getD j 0))
theorem TimesLaid.lt {w : World} (h : TimesLaid w) : 3 < w.heap.size := World.block_lt_of_cell? w ⟨3, 0, none⟩ (h 0 (by decide))
theorem TimesLaid.at {K : Nat} {w w' : World} (h : TimesLaid w) (hb : Below K w w') (hK : w.heap.size ≤ K) : TimesLaid w' := fun j hj => by
 rw [hb.cell (show (⟨3, j, none⟩ : Addr).block < K from Nat.lt_of_lt_of_le h.lt hK)]; exact h j hj
theorem TimesLaid.below {w w' : World} (h : TimesLaid w) (hb : Below w.heap.size w w') : TimesLaid w' := h.at hb (Nat.le_refl _)
theorem times_cell : ∀ k : Nat, 1 ≤ k → k ≤ 5 → ∀ x y : Bool, timeCells.getD (k * 4 + x.toNat * 2 + y.toNat) 0 = timesK k x y := by
 intro k h1 h5
 have d : k = 1 ∨ k = 2 ∨ k = 3 ∨ k = 4 ∨ k = 5 := by omega
 rcases d with rfl | rfl | rfl | rfl | rfl <;> decide
theorem toNat_one (x : Bool) : ((x.toNat : Nat) : Int) = oneB x := by cases x <;> rfl
theorem mask_bit8 (L : Nat → Bool) {k : Nat} (hk : k < 8) : bits .and .i64 (maskTo L 8 / 2 ^ k) 1 = (((L k).toNat : Nat) : Int) := by
 obtain ⟨m0, m1⟩ := maskTo_le L 8
 have : maskTo L 8 < 256 := m1
 rw [bit_at _ k m0 this hk, has_mask L (Nat.le_refl _) hk, toNat_one]
def noRow : Array Value := #[.int .i64 0, .int .i64 0, .int .i64 0, .int .i64 0, .int .i64 0, .int .i64 0, .int .i64 0, .int .i64 0, .int .i64 0]
set_option maxHeartbeats 4000000 in
theorem rowsOf_bad (k F : Int) (n : Int) (h : Bool) (sao tao : Option Addr) (sl scap tl tcap : Nat) (w : World)
    (HC : Hid (∀ W, Below w.heap.size w W → Calls Tryz.prog 36 #[.agg #[.int .i64 k, .slice sao sl scap, .slice tao tl tcap, .int .i64 n]] W (Bk W (.iface 64 (.int .i64 F))))) :
    Calls Tryz.prog 123 #[.agg #[.int .i64 k, .slice sao sl scap, .slice tao tl tcap, .int .i64 n], .bool h] w (Bk w (.tuple #[.agg #[.int .i64 0, .int .i64 0, .int .i64 0, .int .i64 0, .int .i64 0, .int .i64 0, .int .i64 0, .int .i64 0, .int .i64 0], .iface 64 (.int .i64 F)])) := by
 obtain ⟨Z, hZ⟩ : ∃ Z : Nat → Int, Z = fun _ => 0 := ⟨_, rfl⟩
 obtain ⟨w1, hw1⟩ := nm ((w.alloc (.cells #[.int .i64 k, .slice sao sl scap, .slice tao tl tcap, .int .i64 n] 29)).alloc (.cells #[.int .i64 0, .int .i64 0, .int .i64 0, .int .i64 0, .int .i64 0, .int .i64 0, .int .i64 0, .int .i64 0, .int .i64 0] 183))
 have HW : Hid (Below w.heap.size w w1) := by unfold Hid; rw [hw1]; exact (below_alloc1 _ _).alloc (by simp) _
 have HK0 : Hid (Blk w1 w.heap.size 29 #[.int .i64 k, .slice sao sl scap, .slice tao tl tcap, .int .i64 n]) := by unfold Hid; rw [hw1]; exact (Blk.new _ _ _).old _
 have HK1 : Hid (Blk w1 (w.heap.size + 1) 183 #[.int .i64 0, .int .i64 0, .int .i64 0, .int .i64 0, .int .i64 0, .int .i64 0, .int .i64 0, .int .i64 0, .int .i64 0]) := by
  unfold Hid; rw [hw1]
  have := Blk.new (w.alloc (.cells #[.int .i64 k, .slice sao sl scap, .slice tao tl tcap, .int .i64 n] 29)) 183 #[.int .i64 0, .int .i64 0, .int .i64 0, .int .i64 0, .int .i64 0, .int .i64 0, .int .i64 0, .int .i64 0, .int .i64 0]
  simp only [World.size_alloc] at this
  exact this
 have x0 : w1.cell? ⟨w.heap.size, 0, none⟩ = some (.int .i64 k) := HK0.out.cell 0
 have x1 : w1.cell? ⟨w.heap.size, 1, none⟩ = some (.slice sao sl scap) := HK0.out.cell 1
 have x2 : w1.cell? ⟨w.heap.size, 2, none⟩ = some (.slice tao tl tcap) := HK0.out.cell 2
 have x3 : w1.cell? ⟨w.heap.size, 3, none⟩ = some (.int .i64 n) := HK0.out.cell 3
 go_enter Tryz.func123, Tryz.ntmps123
 go_wp2_with fail
 rw [← hw1]
 clear hw1
 go_wp2_with fail
 go_at_call 36
 refine (HC.out _ HW.out).mono ?_
 rintro e w2 ⟨rfl, hb⟩
 have HB := hide (HW.out.trans (hb.mono HW.out.size))
 have HR := hide (HK1.out.below hb)
 clear hb x0 x1 x2 x3
 have HRZ : Hid (Blk w2 (w.heap.size + 1) 183 (arrR Z 0)) := by unfold Hid; rw [hZ]; exact HR.out
 obtain ⟨f0, f1, f2, f3, f4, f5, f6, f7, f8⟩ := HR.out.frozen9
 have r0 : w2.cell? ⟨w.heap.size + 1, 0, none⟩ = some (.int .i64 0) := HR.out.cell 0
 have r1 : w2.cell? ⟨w.heap.size + 1, 1, none⟩ = some (.int .i64 0) := HR.out.cell 1
 have r2 : w2.cell? ⟨w.heap.size + 1, 2, none⟩ = some (.int .i64 0) := HR.out.cell 2
 have r3 : w2.cell? ⟨w.heap.size + 1, 3, none⟩ = some (.int .i64 0) := HR.out.cell 3
 have r4 : w2.cell? ⟨w.heap.size + 1, 4, none⟩ = some (.int .i64 0) := HR.out.cell 4
 have r5 : w2.cell? ⟨w.heap.size + 1, 5, none⟩ = some (.int .i64 0) := HR.out.cell 5
 have r6 : w2.cell? ⟨w.heap.size + 1, 6, none⟩ = some (.int .i64 0) := HR.out.cell 6
 have r7 : w2.cell? ⟨w.heap.size + 1, 7, none⟩ = some (.int .i64 0) := HR.out.cell 7
 have r8 : w2.cell? ⟨w.heap.size + 1, 8, none⟩ = some (.int .i64 0) := HR.out.cell 8
 go_wp2
 have hld := loadR (putR_blk HRZ.out Z 0)
 have hbl := putR_below HB.out (show w.heap.size ≤ w.heap.size + 1 by omega) Z 0
 rw [hZ] at hld hbl
 refine bodyPost_ret (v := .tuple #[.agg #[.int .i64 0, .int .i64 0, .int .i64 0, .int .i64 0, .int .i64 0, .int .i64 0, .int .i64 0, .int .i64 0, .int .i64 0], .iface 64 (.int .i64 F)]) ?_ rfl ⟨rfl, ?_⟩
 ·rw [results_cell_tmp rfl]
  unfold putR arrR at hld
  simp only at hld
  simp [asAddr, Result.andThen, hld]
 ·exact hbl
set_option maxHeartbeats 8000000 in
theorem rowsOf_3 (n : Int) (h : Bool) (X Y : Nat → Bool) (M : Nat → Int) (p : Int) (n0 : -20 ≤ n) (n1 : n ≤ 20) (sao tao : Option Addr) (sl scap tl tcap : Nat) (w : World) (hL : TimesLaid w)
    (hM : ∀ f, f < 8 → M f = if h = true then timesK 3 (X f) (Y f) else - timesK 3 (X f) (Y f)) (hp : p = if h = true then (-n) else -((-n) + 1))
    (HC : Hid (∀ W, Below w.heap.size w W → Calls Tryz.prog 36 #[.agg #[.int .i64 3, .slice sao sl scap, .slice tao tl tcap, .int .i64 n]] W (Bk W .nilIface)))
    (HS : Hid (∀ W, Below w.heap.size w W → Calls Tryz.prog 152 #[.slice sao sl scap] W (Bk W (.tuple #[.int .i64 (maskTo X 8), .nilIface]))))
    (HT : Hid (∀ W, Below w.heap.size w W → Calls Tryz.prog 152 #[.slice tao tl tcap] W (Bk W (.tuple #[.int .i64 (maskTo Y 8), .nilIface])))) :
    Calls Tryz.prog 123 #[.agg #[.int .i64 3, .slice sao sl scap, .slice tao tl tcap, .int .i64 n], .bool h] w (Bk w (.tuple #[.agg #[.int .i64 (M 0), .int .i64 (M 1), .int .i64 (M 2), .int .i64 (M 3), .int .i64 (M 4), .int .i64 (M 5), .int .i64 (M 6), .int .i64 (M 7), .int .i64 p], .nilIface])) := by
 obtain ⟨Z, hZ⟩ : ∃ Z : Nat → Int, Z = fun _ => 0 := ⟨_, rfl⟩
 obtain ⟨w1, hw1⟩ := nm ((w.alloc (.cells #[.int .i64 3, .slice sao sl scap, .slice tao tl tcap, .int .i64 n] 29)).alloc (.cells #[.int .i64 0, .int .i64 0, .int .i64 0, .int .i64 0, .int .i64 0, .int .i64 0, .int .i64 0, .int .i64 0, .int .i64 0] 183))
 have HW : Hid (Below w.heap.size w w1) := by unfold Hid; rw [hw1]; exact (below_alloc1 _ _).alloc (by simp) _
 have HK0 : Hid (Blk w1 w.heap.size 29 #[.int .i64 3, .slice sao sl scap, .slice tao tl tcap, .int .i64 n]) := by unfold Hid; rw [hw1]; exact (Blk.new _ _ _).old _
 have HK1 : Hid (Blk w1 (w.heap.size + 1) 183 (arrR Z 0)) := by
  unfold Hid; rw [hw1, hZ]
  have := Blk.new (w.alloc (.cells #[.int .i64 3, .slice sao sl scap, .slice tao tl tcap, .int .i64 n] 29)) 183 #[.int .i64 0, .int .i64 0, .int .i64 0, .int .i64 0, .int .i64 0, .int .i64 0, .int .i64 0, .int .i64 0, .int .i64 0]
  simp only [World.size_alloc] at this
  exact this
 have HX : Hid (∀ W, Blk W w.heap.size 29 #[.int .i64 3, .slice sao sl scap, .slice tao tl tcap, .int .i64 n] → W.cell? ⟨w.heap.size, 0, none⟩ = some (.int .i64 3) ∧ W.cell? ⟨w.heap.size, 1, none⟩ = some (.slice sao sl scap) ∧ W.cell? ⟨w.heap.size, 2, none⟩ = some (.slice tao tl tcap) ∧ W.cell? ⟨w.heap.size, 3, none⟩ = some (.int .i64 n)) := fun W h => ⟨h.cell 0, h.cell 1, h.cell 2, h.cell 3⟩
 have HLW : Hid (∀ W, Below w.heap.size w W → TimesLaid W) := fun W hW => hL.below hW
 have HBx : Hid (∀ f, f < 8 → bits .and .i64 (maskTo X 8 / 2 ^ f) 1 = (((X f).toNat : Nat) : Int)) := fun f hf => mask_bit8 X hf
 have HBy : Hid (∀ f, f < 8 → bits .and .i64 (maskTo Y 8 / 2 ^ f) 1 = (((Y f).toNat : Nat) : Int)) := fun f hf => mask_bit8 Y hf
 have mx : 0 ≤ maskTo X 8 ∧ maskTo X 8 < 256 := maskTo_le X 8
 have my : 0 ≤ maskTo Y 8 ∧ maskTo Y 8 < 256 := maskTo_le Y 8
 obtain ⟨MX, hMX⟩ := nm (maskTo X 8)
 obtain ⟨MY, hMY⟩ := nm (maskTo Y 8)
 rw [← hMX] at HBx mx HS
 rw [← hMY] at HBy my HT
 clear hMX hMY
 obtain ⟨mx0, mx1⟩ := mx
 obtain ⟨my0, my1⟩ := my
 obtain ⟨D, hD⟩ : ∃ D : Nat → Int, D = fun f => timesK 3 (X f) (Y f) := ⟨_, rfl⟩
 have HDl : Hid (∀ f, f < 8 → -2 ≤ D f ∧ D f ≤ 2) := fun f _ => by
  have := timesK_le 3 (X f) (Y f)
  rw [hD]; show -2 ≤ timesK 3 (X f) (Y f) ∧ timesK 3 (X f) (Y f) ≤ 2; omega
 have HM : Hid (∀ f, f < 8 → M f = if h = true then D f else - D f) := fun f hf => by rw [hD]; exact hM f hf
 have HP := hide hp
 have HTC : Hid (∀ f, timeCells.getD (3 * 4 + (X f).toNat * 2 + (Y f).toNat) 0 = D f) := fun f => by rw [hD]; exact times_cell 3 (by omega) (by omega) _ _
 have HZ := hide hZ
 clear hM hp hD hL hZ
 obtain ⟨x0, x1, x2, x3⟩ := HX.out _ HK0.out
 go_enter Tryz.func123, Tryz.ntmps123
 go_wp2_with fail
 rw [← hw1]
 clear hw1
 go_wp2_with fail
 go_at_call 36
 refine (HC.out _ HW.out).mono ?_
 rintro e w2 ⟨rfl, hb⟩
 have HB2 := hide (HW.out.trans (hb.mono HW.out.size))
 have HA2 := hide (HK0.out.below hb)
 have HR2 := hide (HK1.out.below hb)
 clear hb x0 x1 x2 x3
 obtain ⟨x0, x1, x2, x3⟩ := HX.out _ HA2.out
 go_wp2_with fail
 go_at_call 152
 refine (HS.out _ HB2.out).mono ?_
 rintro e w3 ⟨rfl, hb⟩
 have HB3 := hide (HB2.out.trans (hb.mono HB2.out.size))
 have HA3 := hide (HA2.out.below hb)
 have HR3 := hide (HR2.out.below hb)
 clear hb x0 x1 x2 x3
 obtain ⟨x0, x1, x2, x3⟩ := HX.out _ HA3.out
 go_wp2_with fail
 go_at_call 152
 refine (HT.out _ HB3.out).mono ?_
 rintro e w4 ⟨rfl, hb⟩
 have HB4 := hide (HB3.out.trans (hb.mono HB3.out.size))
 have HA4 := hide (HA3.out.below hb)
 have HR4 := hide (HR3.out.below hb)
 clear hb x0 x1 x2 x3
 obtain ⟨x0, x1, x2, x3⟩ := HX.out _ HA4.out
 obtain ⟨w5, hw5⟩ := nm (w4.alloc (.cells #[.int .i64 0, .int .i64 0, .int .i64 0, .int .i64 0, .int .i64 0, .int .i64 0, .int .i64 0, .int .i64 0, .int .i64 n] 183))
 have HB5 : Hid (Below w.heap.size w w5) := by unfold Hid; rw [hw5]; exact HB4.out.alloc HB4.out.size _
 have HA5 : Hid (Blk w5 w.heap.size 29 #[.int .i64 3, .slice sao sl scap, .slice tao tl tcap, .int .i64 n]) := by unfold Hid; rw [hw5]; exact HA4.out.old _
 have HR5 : Hid (Blk w5 (w.heap.size + 1) 183 (arrR Z 0)) := by unfold Hid; rw [hw5]; exact HR4.out.old _
 have HP5 : Hid (Blk w5 w4.heap.size 183 (arrR Z n)) := by unfold Hid; rw [hw5, HZ.out]; exact Blk.new _ _ _
 have HL4 := hide (HR4.out.lt)
 obtain ⟨P, hP⟩ := nm w4.heap.size
 go_upto_region 11 with fail
 rw [← hw5, ← hP]
 rw [← hP] at HP5 HL4
 clear hw5 hP x0 x1 x2 x3
 obtain ⟨x0, x1, x2, x3⟩ := HX.out _ HA5.out
 have q0 : w5.cell? ⟨P, 8, none⟩ = some (.int .i64 n) := HP5.out.cell 8
 have q1 := HP5.out.frozen 8
 obtain ⟨w6, hw6⟩ := nm (w5.setCell ⟨P, 8, none⟩ (.int .i64 (-n)))
 have HB6 : Hid (Below w.heap.size w w6) := by unfold Hid; rw [hw6]; exact HB5.out.setCell (by show w.heap.size ≤ P; have := HL4.out; omega) _
 have HA6 : Hid (Blk w6 w.heap.size 29 #[.int .i64 3, .slice sao sl scap, .slice tao tl tcap, .int .i64 n]) := by unfold Hid; rw [hw6]; exact HA5.out.far (by have := HL4.out; omega) _ _
 have HR6 : Hid (Blk w6 (w.heap.size + 1) 183 (arrR Z 0)) := by unfold Hid; rw [hw6]; exact HR5.out.far (by have := HL4.out; omega) _ _
 have HP6 : Hid (Blk w6 P 183 (arrR Z (-n))) := by
  unfold Hid; rw [hw6]
  have := HP5.out.set 8 (.int .i64 (-n))
  rw [arrR_most] at this
  exact this
 go_wp2
 rw [← hw6]
 clear hw6 x0 x1 x2 x3 q0 q1
 clear HB5 HA5 HR5 HP5 HB4 HA4 HR4 HB3 HA3 HR3 HB2 HA2 HR2 HK0 HK1 HC HS HT HW
 go_loopw [48] (fun i wr => ∃ f : Nat, f ≤ 8 ∧ i = .int .i64 f ∧ Below w.heap.size w wr ∧ Blk wr w.heap.size 29 #[.int .i64 3, .slice sao sl scap, .slice tao tl tcap, .int .i64 n] ∧ Blk wr (w.heap.size + 1) 183 (arrR Z 0) ∧ Blk wr P 183 (arrR (fun g => if g < f then D g else 0) (-n))) (fun i _ => 8 - (intOf i).toNat)
 case atStart => exact ⟨0, Nat.zero_le _, rfl, HB6.out, HA6.out, HR6.out, by have := HP6.out; rw [HZ.out] at this; exact this⟩
 case round =>
  obtain ⟨f, hf, rfl, hb, ha, hr, hq⟩ := hrel
  have HB7 := hide hb
  have HA7 : Hid (Blk wr w.heap.size 29 #[.int .i64 3, .slice sao sl scap, .slice tao tl tcap, .int .i64 n]) := ha
  have HR7 : Hid (Blk wr (w.heap.size + 1) 183 (arrR Z 0)) := hr
  have HP7 : Hid (Blk wr P 183 (arrR (fun g => if g < f then D g else 0) (-n))) := hq
  clear hb ha hr hq
  by_cases hlt : f < 8
  ·have x0 := (HX.out _ HA7.out).1
   have bx := HBx.out f hlt
   have bY := HBy.out f hlt
   obtain ⟨x, hx⟩ := nm ((X f).toNat)
   obtain ⟨y, hy⟩ := nm ((Y f).toNat)
   have hx2 : x < 2 := by rw [hx]; cases X f <;> decide
   have hy2 : y < 2 := by rw [hy]; cases Y f <;> decide
   rw [← hx] at bx
   rw [← hy] at bY
   have g0 : wr.cell? ⟨3, 3 * 4 + x * 2 + y, none⟩ = some (.int .i64 (D f)) := by
    rw [HLW.out _ HB7.out _ (by omega), hx, hy, HTC.out]
   clear hx hy
   have c : wr.cell? ⟨P, f, none⟩ = some (.int .i64 0) := by rw [HP7.out.cell, arrR_get _ _ hlt]; simp
   have z := HP7.out.frozen f
   obtain ⟨d, hd⟩ := nm (D f)
   rw [← hd] at g0
   have HE : Hid (∀ W, Blk W P 183 (arrR (fun g => if g < f then D g else 0) (-n)) → Blk (W.setCell ⟨P, f, none⟩ (.int .i64 d)) P 183 (arrR (fun g => if g < f + 1 then D g else 0) (-n))) := fun W hW => by
    have := hW.set f (.int .i64 d)
    rw [arrR_set _ _ _ hlt] at this
    rw [arrR_same (M := fun g => if g = f then d else if g < f then D g else 0)]
    ·exact this
    ·intro g hg
     by_cases e : g = f
     ·subst e; rw [if_pos (by omega), if_pos rfl, hd]
     ·simp only [if_neg e]
      by_cases e' : g < f
      ·rw [if_pos (by omega), if_pos e']
      ·rw [if_neg (by omega), if_neg e']
   clear hd
   go_wp2
   go_region
   go_wp2
   go_roundw
   case rel => exact ⟨f + 1, by omega, by go_num, HB7.out.drew.setCell (by show w.heap.size ≤ P; have := HL4.out; omega) _, HA7.out.drew.far (by have := HL4.out; omega) _ _, HR7.out.drew.far (by have := HL4.out; omega) _ _, HE.out _ HP7.out.drew⟩
   case measure => simp [intOf]; omega
  ·obtain rfl : f = 8 := by omega
   have HP8 : Hid (Blk wr P 183 (arrR D (-n))) := by
    have := HP7.out
    unfold Hid
    rw [arrR_same (M := fun g => if g < 8 then D g else 0)]
    ·exact this
    ·intro g hg; rw [if_pos hg]
   clear HP7
   obtain ⟨n0', n1', n2', n3', n4', n5', n6', n7', n8'⟩ := HP8.out.cells9
   cases h with
   | true =>
    have HMD : Hid (arrR D (-n) = arrR M p) := by
     unfold Hid
     rw [HP.out]
     exact arrR_same (fun f hf => by rw [HM.out f hf]; rfl) _
    obtain ⟨r0, r1, r2, r3, r4, r5, r6, r7, r8⟩ := HR7.out.cells9
    obtain ⟨f0, f1, f2, f3, f4, f5, f6, f7, f8⟩ := HR7.out.frozen9
    go_wp2
    have hld := loadR (putR_blk HR7.out D (-n))
    refine bodyPost_ret (v := .tuple #[.agg (arrR D (-n)), .nilIface]) ?_ rfl ⟨by rw [HMD.out]; rfl, ?_⟩
    ·rw [results_cell_tmp rfl]
     unfold putR at hld
     simp [asAddr, Result.andThen, hld]
    ·exact putR_below HB7.out (by omega) _ _
   | false =>
    have HTu : Hid (∀ W, Calls Tryz.prog 153 #[.agg #[.int .i64 (D 0), .int .i64 (D 1), .int .i64 (D 2), .int .i64 (D 3), .int .i64 (D 4), .int .i64 (D 5), .int .i64 (D 6), .int .i64 (D 7), .int .i64 (-n)]] W (Bk W (.agg #[.int .i64 (M 0), .int .i64 (M 1), .int .i64 (M 2), .int .i64 (M 3), .int .i64 (M 4), .int .i64 (M 5), .int .i64 (M 6), .int .i64 (M 7), .int .i64 p]))) := fun W => rturned_any D M (-n) p HDl.out (by omega) (fun f hf => by rw [HM.out f hf]; rfl) HP.out W
    go_wp2_with fail
    go_at_call 153
    refine (HTu.out _).mono ?_
    rintro e w8 ⟨rfl, hb⟩
    have HB8 := hide (HB7.out.trans (hb.mono HB7.out.size))
    have HR8 := hide (HR7.out.below hb)
    have HP9 := hide (HP8.out.below hb)
    clear hb n0' n1' n2' n3' n4' n5' n6' n7' n8'
    obtain ⟨n0', n1', n2', n3', n4', n5', n6', n7', n8'⟩ := HP9.out.cells9
    obtain ⟨g0, g1, g2, g3, g4, g5, g6, g7, g8⟩ := HP9.out.frozen9
    obtain ⟨w9, hw9⟩ := nm (putR w8 P M p)
    have HB9 : Hid (Below w.heap.size w w9) := by unfold Hid; rw [hw9]; exact putR_below HB8.out (by have := HL4.out; omega) _ _
    have HR9 : Hid (Blk w9 (w.heap.size + 1) 183 (arrR Z 0)) := by unfold Hid; rw [hw9]; exact putR_far HR8.out (by have := HL4.out; omega) _ _
    have HP10 : Hid (Blk w9 P 183 (arrR M p)) := by unfold Hid; rw [hw9]; exact putR_blk HP9.out _ _
    unfold putR at hw9
    go_upto_region 20 with fail
    rw [← hw9]
    clear hw9 n0' n1' n2' n3' n4' n5' n6' n7' n8' g0 g1 g2 g3 g4 g5 g6 g7 g8
    obtain ⟨n0', n1', n2', n3', n4', n5', n6', n7', n8'⟩ := HP10.out.cells9
    obtain ⟨r0, r1, r2, r3, r4, r5, r6, r7, r8⟩ := HR9.out.cells9
    obtain ⟨f0, f1, f2, f3, f4, f5, f6, f7, f8⟩ := HR9.out.frozen9
    go_wp2
    have hld := loadR (putR_blk HR9.out M p)
    refine bodyPost_ret (v := .tuple #[.agg (arrR M p), .nilIface]) ?_ rfl ⟨rfl, ?_⟩
    ·rw [results_cell_tmp rfl]
     unfold putR at hld
     simp [asAddr, Result.andThen, hld]
    ·exact putR_below HB9.out (by omega) _ _
set_option maxHeartbeats 8000000 in
theorem rowsOf_N (k : Nat) (hk1 : 1 ≤ k) (hk5 : k ≤ 5) (hk3 : k ≠ 3) (n : Int) (h : Bool) (X Y : Nat → Bool) (M : Nat → Int) (p : Int) (n0 : -20 ≤ n) (n1 : n ≤ 20) (sao tao : Option Addr) (sl scap tl tcap : Nat) (w : World) (hL : TimesLaid w)
    (hM : ∀ f, f < 8 → M f = if h = true then timesK (k : Int) (X f) (Y f) else - timesK (k : Int) (X f) (Y f)) (hp : p = if h = true then n else -(n + 1))
    (HC : Hid (∀ W, Below w.heap.size w W → Calls Tryz.prog 36 #[.agg #[.int .i64 (k : Int), .slice sao sl scap, .slice tao tl tcap, .int .i64 n]] W (Bk W .nilIface)))
    (HS : Hid (∀ W, Below w.heap.size w W → Calls Tryz.prog 152 #[.slice sao sl scap] W (Bk W (.tuple #[.int .i64 (maskTo X 8), .nilIface]))))
    (HT : Hid (∀ W, Below w.heap.size w W → Calls Tryz.prog 152 #[.slice tao tl tcap] W (Bk W (.tuple #[.int .i64 (maskTo Y 8), .nilIface])))) :
    Calls Tryz.prog 123 #[.agg #[.int .i64 (k : Int), .slice sao sl scap, .slice tao tl tcap, .int .i64 n], .bool h] w (Bk w (.tuple #[.agg #[.int .i64 (M 0), .int .i64 (M 1), .int .i64 (M 2), .int .i64 (M 3), .int .i64 (M 4), .int .i64 (M 5), .int .i64 (M 6), .int .i64 (M 7), .int .i64 p], .nilIface])) := by
 obtain ⟨Z, hZ⟩ : ∃ Z : Nat → Int, Z = fun _ => 0 := ⟨_, rfl⟩
 obtain ⟨w1, hw1⟩ := nm ((w.alloc (.cells #[.int .i64 (k : Int), .slice sao sl scap, .slice tao tl tcap, .int .i64 n] 29)).alloc (.cells #[.int .i64 0, .int .i64 0, .int .i64 0, .int .i64 0, .int .i64 0, .int .i64 0, .int .i64 0, .int .i64 0, .int .i64 0] 183))
 have HW : Hid (Below w.heap.size w w1) := by unfold Hid; rw [hw1]; exact (below_alloc1 _ _).alloc (by simp) _
 have HK0 : Hid (Blk w1 w.heap.size 29 #[.int .i64 (k : Int), .slice sao sl scap, .slice tao tl tcap, .int .i64 n]) := by unfold Hid; rw [hw1]; exact (Blk.new _ _ _).old _
 have HK1 : Hid (Blk w1 (w.heap.size + 1) 183 (arrR Z 0)) := by
  unfold Hid; rw [hw1, hZ]
  have := Blk.new (w.alloc (.cells #[.int .i64 (k : Int), .slice sao sl scap, .slice tao tl tcap, .int .i64 n] 29)) 183 #[.int .i64 0, .int .i64 0, .int .i64 0, .int .i64 0, .int .i64 0, .int .i64 0, .int .i64 0, .int .i64 0, .int .i64 0]
  simp only [World.size_alloc] at this
  exact this
 have HX : Hid (∀ W, Blk W w.heap.size 29 #[.int .i64 (k : Int), .slice sao sl scap, .slice tao tl tcap, .int .i64 n] → W.cell? ⟨w.heap.size, 0, none⟩ = some (.int .i64 (k : Int)) ∧ W.cell? ⟨w.heap.size, 1, none⟩ = some (.slice sao sl scap) ∧ W.cell? ⟨w.heap.size, 2, none⟩ = some (.slice tao tl tcap) ∧ W.cell? ⟨w.heap.size, 3, none⟩ = some (.int .i64 n)) := fun W h => ⟨h.cell 0, h.cell 1, h.cell 2, h.cell 3⟩
 have HLW : Hid (∀ W, Below w.heap.size w W → TimesLaid W) := fun W hW => hL.below hW
 have HBx : Hid (∀ f, f < 8 → bits .and .i64 (maskTo X 8 / 2 ^ f) 1 = (((X f).toNat : Nat) : Int)) := fun f hf => mask_bit8 X hf
 have HBy : Hid (∀ f, f < 8 → bits .and .i64 (maskTo Y 8 / 2 ^ f) 1 = (((Y f).toNat : Nat) : Int)) := fun f hf => mask_bit8 Y hf
 have mx : 0 ≤ maskTo X 8 ∧ maskTo X 8 < 256 := maskTo_le X 8
 have my : 0 ≤ maskTo Y 8 ∧ maskTo Y 8 < 256 := maskTo_le Y 8
 obtain ⟨MX, hMX⟩ := nm (maskTo X 8)
 obtain ⟨MY, hMY⟩ := nm (maskTo Y 8)
 rw [← hMX] at HBx mx HS
 rw [← hMY] at HBy my HT
 clear hMX hMY
 obtain ⟨mx0, mx1⟩ := mx
 obtain ⟨my0, my1⟩ := my
 obtain ⟨D, hD⟩ : ∃ D : Nat → Int, D = fun f => timesK (k : Int) (X f) (Y f) := ⟨_, rfl⟩
 have HDl : Hid (∀ f, f < 8 → -2 ≤ D f ∧ D f ≤ 2) := fun f _ => by
  have := timesK_le (k : Int) (X f) (Y f)
  rw [hD]; show -2 ≤ timesK (k : Int) (X f) (Y f) ∧ timesK (k : Int) (X f) (Y f) ≤ 2; omega
 have HM : Hid (∀ f, f < 8 → M f = if h = true then D f else - D f) := fun f hf => by rw [hD]; exact hM f hf
 have HP := hide hp
 have HTC : Hid (∀ f, timeCells.getD (k * 4 + (X f).toNat * 2 + (Y f).toNat) 0 = D f) := fun f => by rw [hD]; exact times_cell k (by omega) (by omega) _ _
 have HZ := hide hZ
 clear hM hp hD hL hZ
 obtain ⟨x0, x1, x2, x3⟩ := HX.out _ HK0.out
 go_enter Tryz.func123, Tryz.ntmps123
 go_wp2_with fail
 rw [← hw1]
 clear hw1
 go_wp2_with fail
 go_at_call 36
 refine (HC.out _ HW.out).mono ?_
 rintro e w2 ⟨rfl, hb⟩
 have HB2 := hide (HW.out.trans (hb.mono HW.out.size))
 have HA2 := hide (HK0.out.below hb)
 have HR2 := hide (HK1.out.below hb)
 clear hb x0 x1 x2 x3
 obtain ⟨x0, x1, x2, x3⟩ := HX.out _ HA2.out
 go_wp2_with fail
 go_at_call 152
 refine (HS.out _ HB2.out).mono ?_
 rintro e w3 ⟨rfl, hb⟩
 have HB3 := hide (HB2.out.trans (hb.mono HB2.out.size))
 have HA3 := hide (HA2.out.below hb)
 have HR3 := hide (HR2.out.below hb)
 clear hb x0 x1 x2 x3
 obtain ⟨x0, x1, x2, x3⟩ := HX.out _ HA3.out
 go_wp2_with fail
 go_at_call 152
 refine (HT.out _ HB3.out).mono ?_
 rintro e w4 ⟨rfl, hb⟩
 have HB4 := hide (HB3.out.trans (hb.mono HB3.out.size))
 have HA4 := hide (HA3.out.below hb)
 have HR4 := hide (HR3.out.below hb)
 clear hb x0 x1 x2 x3
 obtain ⟨x0, x1, x2, x3⟩ := HX.out _ HA4.out
 obtain ⟨w5, hw5⟩ := nm (w4.alloc (.cells #[.int .i64 0, .int .i64 0, .int .i64 0, .int .i64 0, .int .i64 0, .int .i64 0, .int .i64 0, .int .i64 0, .int .i64 n] 183))
 have HB5 : Hid (Below w.heap.size w w5) := by unfold Hid; rw [hw5]; exact HB4.out.alloc HB4.out.size _
 have HA5 : Hid (Blk w5 w.heap.size 29 #[.int .i64 (k : Int), .slice sao sl scap, .slice tao tl tcap, .int .i64 n]) := by unfold Hid; rw [hw5]; exact HA4.out.old _
 have HR5 : Hid (Blk w5 (w.heap.size + 1) 183 (arrR Z 0)) := by unfold Hid; rw [hw5]; exact HR4.out.old _
 have HP5 : Hid (Blk w5 w4.heap.size 183 (arrR Z n)) := by unfold Hid; rw [hw5, HZ.out]; exact Blk.new _ _ _
 have HL4 := hide (HR4.out.lt)
 obtain ⟨P, hP⟩ := nm w4.heap.size
 go_upto_region 11 with fail
 rw [← hw5, ← hP]
 rw [← hP] at HP5 HL4
 clear hw5 hP x0 x1 x2 x3
 obtain ⟨x0, x1, x2, x3⟩ := HX.out _ HA5.out
 have hk3' : ¬ ((k : Int) = 3) := by omega
 obtain ⟨w6, hw6⟩ := nm w5
 rw [← hw6] at HB5 HA5 HR5 HP5 x0 x1 x2 x3 ⊢
 have HB6 : Hid (Below w.heap.size w w6) := HB5.out
 have HA6 : Hid (Blk w6 w.heap.size 29 #[.int .i64 (k : Int), .slice sao sl scap, .slice tao tl tcap, .int .i64 n]) := HA5.out
 have HR6 : Hid (Blk w6 (w.heap.size + 1) 183 (arrR Z 0)) := HR5.out
 have HP6 : Hid (Blk w6 P 183 (arrR Z n)) := HP5.out
 clear hw6
 go_wp2
 clear x0 x1 x2 x3
 clear HB5 HA5 HR5 HP5 HB4 HA4 HR4 HB3 HA3 HR3 HB2 HA2 HR2 HK0 HK1 HC HS HT HW
 go_loopw [48] (fun i wr => ∃ f : Nat, f ≤ 8 ∧ i = .int .i64 f ∧ Below w.heap.size w wr ∧ Blk wr w.heap.size 29 #[.int .i64 (k : Int), .slice sao sl scap, .slice tao tl tcap, .int .i64 n] ∧ Blk wr (w.heap.size + 1) 183 (arrR Z 0) ∧ Blk wr P 183 (arrR (fun g => if g < f then D g else 0) n)) (fun i _ => 8 - (intOf i).toNat)
 case atStart => exact ⟨0, Nat.zero_le _, rfl, HB6.out, HA6.out, HR6.out, by have := HP6.out; rw [HZ.out] at this; exact this⟩
 case round =>
  obtain ⟨f, hf, rfl, hb, ha, hr, hq⟩ := hrel
  have HB7 := hide hb
  have HA7 : Hid (Blk wr w.heap.size 29 #[.int .i64 (k : Int), .slice sao sl scap, .slice tao tl tcap, .int .i64 n]) := ha
  have HR7 : Hid (Blk wr (w.heap.size + 1) 183 (arrR Z 0)) := hr
  have HP7 : Hid (Blk wr P 183 (arrR (fun g => if g < f then D g else 0) n)) := hq
  clear hb ha hr hq
  by_cases hlt : f < 8
  ·have x0 := (HX.out _ HA7.out).1
   have bx := HBx.out f hlt
   have bY := HBy.out f hlt
   obtain ⟨x, hx⟩ := nm ((X f).toNat)
   obtain ⟨y, hy⟩ := nm ((Y f).toNat)
   have hx2 : x < 2 := by rw [hx]; cases X f <;> decide
   have hy2 : y < 2 := by rw [hy]; cases Y f <;> decide
   rw [← hx] at bx
   rw [← hy] at bY
   have g0 : wr.cell? ⟨3, k * 4 + x * 2 + y, none⟩ = some (.int .i64 (D f)) := by
    rw [HLW.out _ HB7.out _ (by omega), hx, hy, HTC.out]
   clear hx hy
   have c : wr.cell? ⟨P, f, none⟩ = some (.int .i64 0) := by rw [HP7.out.cell, arrR_get _ _ hlt]; simp
   have z := HP7.out.frozen f
   obtain ⟨d, hd⟩ := nm (D f)
   rw [← hd] at g0
   have HE : Hid (∀ W, Blk W P 183 (arrR (fun g => if g < f then D g else 0) n) → Blk (W.setCell ⟨P, f, none⟩ (.int .i64 d)) P 183 (arrR (fun g => if g < f + 1 then D g else 0) n)) := fun W hW => by
    have := hW.set f (.int .i64 d)
    rw [arrR_set _ _ _ hlt] at this
    rw [arrR_same (M := fun g => if g = f then d else if g < f then D g else 0)]
    ·exact this
    ·intro g hg
     by_cases e : g = f
     ·subst e; rw [if_pos (by omega), if_pos rfl, hd]
     ·simp only [if_neg e]
      by_cases e' : g < f
      ·rw [if_pos (by omega), if_pos e']
      ·rw [if_neg (by omega), if_neg e']
   clear hd
   go_wp2
   go_region
   go_wp2
   go_roundw
   case rel => exact ⟨f + 1, by omega, by go_num, HB7.out.drew.setCell (by show w.heap.size ≤ P; have := HL4.out; omega) _, HA7.out.drew.far (by have := HL4.out; omega) _ _, HR7.out.drew.far (by have := HL4.out; omega) _ _, HE.out _ HP7.out.drew⟩
   case measure => simp [intOf]; omega
  ·obtain rfl : f = 8 := by omega
   have HP8 : Hid (Blk wr P 183 (arrR D n)) := by
    have := HP7.out
    unfold Hid
    rw [arrR_same (M := fun g => if g < 8 then D g else 0)]
    ·exact this
    ·intro g hg; rw [if_pos hg]
   clear HP7
   obtain ⟨n0', n1', n2', n3', n4', n5', n6', n7', n8'⟩ := HP8.out.cells9
   cases h with
   | true =>
    have HMD : Hid (arrR D n = arrR M p) := by
     unfold Hid
     rw [HP.out]
     exact arrR_same (fun f hf => by rw [HM.out f hf]; rfl) _
    obtain ⟨r0, r1, r2, r3, r4, r5, r6, r7, r8⟩ := HR7.out.cells9
    obtain ⟨f0, f1, f2, f3, f4, f5, f6, f7, f8⟩ := HR7.out.frozen9
    go_wp2
    have hld := loadR (putR_blk HR7.out D n)
    refine bodyPost_ret (v := .tuple #[.agg (arrR D n), .nilIface]) ?_ rfl ⟨by rw [HMD.out]; rfl, ?_⟩
    ·rw [results_cell_tmp rfl]
     unfold putR at hld
     simp [asAddr, Result.andThen, hld]
    ·exact putR_below HB7.out (by omega) _ _
   | false =>
    have HTu : Hid (∀ W, Calls Tryz.prog 153 #[.agg #[.int .i64 (D 0), .int .i64 (D 1), .int .i64 (D 2), .int .i64 (D 3), .int .i64 (D 4), .int .i64 (D 5), .int .i64 (D 6), .int .i64 (D 7), .int .i64 n]] W (Bk W (.agg #[.int .i64 (M 0), .int .i64 (M 1), .int .i64 (M 2), .int .i64 (M 3), .int .i64 (M 4), .int .i64 (M 5), .int .i64 (M 6), .int .i64 (M 7), .int .i64 p]))) := fun W => rturned_any D M n p HDl.out (by omega) (fun f hf => by rw [HM.out f hf]; rfl) HP.out W
    go_wp2_with fail
    go_at_call 153
    refine (HTu.out _).mono ?_
    rintro e w8 ⟨rfl, hb⟩
    have HB8 := hide (HB7.out.trans (hb.mono HB7.out.size))
    have HR8 := hide (HR7.out.below hb)
    have HP9 := hide (HP8.out.below hb)
    clear hb n0' n1' n2' n3' n4' n5' n6' n7' n8'
    obtain ⟨n0', n1', n2', n3', n4', n5', n6', n7', n8'⟩ := HP9.out.cells9
    obtain ⟨g0, g1, g2, g3, g4, g5, g6, g7, g8⟩ := HP9.out.frozen9
    obtain ⟨w9, hw9⟩ := nm (putR w8 P M p)
    have HB9 : Hid (Below w.heap.size w w9) := by unfold Hid; rw [hw9]; exact putR_below HB8.out (by have := HL4.out; omega) _ _
    have HR9 : Hid (Blk w9 (w.heap.size + 1) 183 (arrR Z 0)) := by unfold Hid; rw [hw9]; exact putR_far HR8.out (by have := HL4.out; omega) _ _
    have HP10 : Hid (Blk w9 P 183 (arrR M p)) := by unfold Hid; rw [hw9]; exact putR_blk HP9.out _ _
    unfold putR at hw9
    go_upto_region 20 with fail
    rw [← hw9]
    clear hw9 n0' n1' n2' n3' n4' n5' n6' n7' n8' g0 g1 g2 g3 g4 g5 g6 g7 g8
    obtain ⟨n0', n1', n2', n3', n4', n5', n6', n7', n8'⟩ := HP10.out.cells9
    obtain ⟨r0, r1, r2, r3, r4, r5, r6, r7, r8⟩ := HR9.out.cells9
    obtain ⟨f0, f1, f2, f3, f4, f5, f6, f7, f8⟩ := HR9.out.frozen9
    go_wp2
    have hld := loadR (putR_blk HR9.out M p)
    refine bodyPost_ret (v := .tuple #[.agg (arrR M p), .nilIface]) ?_ rfl ⟨rfl, ?_⟩
    ·rw [results_cell_tmp rfl]
     unfold putR at hld
     simp [asAddr, Result.andThen, hld]
    ·exact putR_below HB9.out (by omega) _ _
def ofT (k : Int) (s t : List Int) (n : Int) (h : Bool) : Nat → Int := if atomFault k s t n = 0 then rowT k s t h else fun _ => 0
def ofM (k : Int) (s t : List Int) (n : Int) (h : Bool) : Int := if atomFault k s t n = 0 then rowM k n h else 0
theorem rowsOf_any (k n : Int) (h : Bool) (vs vt : Value) (s t : List Int) (w : World) (hS : Reads w vs s) (hT : Reads w vt t) (hK : KindsLaid w) (hL : TimesLaid w) :
    Calls Tryz.prog 123 #[.agg #[.int .i64 k, vs, vt, .int .i64 n], .bool h] w (Bk w (.tuple #[.agg (arrR (ofT k s t n h) (ofM k s t n h)), errV (atomFault k s t n)])) := by
 obtain ⟨sao, scap, rfl, _⟩ := hS.slice
 obtain ⟨tao, tcap, rfl, _⟩ := hT.slice
 have hc : ∀ W, Below w.heap.size w W → Calls Tryz.prog 36 #[.agg #[.int .i64 k, .slice sao s.length scap, .slice tao t.length tcap, .int .i64 n]] W (Bk W (errV (atomFault k s t n))) := fun W hW => acheck_any k n _ _ s t W (hS.below hW) (hT.below hW) (hK.below hW)
 by_cases hf : atomFault k s t n = 0
 ·have e1 : ofT k s t n h = rowT k s t h := by unfold ofT; rw [if_pos hf]
  have e2 : ofM k s t n h = rowM k n h := by unfold ofM; rw [if_pos hf]
  rw [e1, e2, hf]
  rw [hf] at hc
  obtain ⟨hk, hs, ht, n0, n1⟩ := atomFault_zero.1 hf
  have hm := mostN_le k
  have ht' : t = [] ∨ faultN t = 0 := by
   rcases (Bool.eq_false_or_eq_true (secondB k)).symm with q | q
   ·exact Or.inl (second_none ht q)
   ·exact Or.inr (second_reads ht q)
  obtain ⟨i, rfl⟩ := Int.eq_ofNat_of_zero_le (show 0 ≤ k by omega)
  by_cases h3 : i = 3
  ·subst h3
   exact rowsOf_3 n h (liesB s) (liesB t) (rowT _ s t h) _ (by omega) (by omega) sao tao s.length scap t.length tcap w hL (fun f _ => rfl) (by rfl) hc (fun W hW => rmask_right s _ W (hS.below hW) (Or.inr hs)) (fun W hW => rmask_right t _ W (hT.below hW) ht')
  ·refine rowsOf_N i (by omega) (by omega) h3 n h (liesB s) (liesB t) (rowT _ s t h) _ (by omega) (by omega) sao tao s.length scap t.length tcap w hL (fun f _ => rfl) ?_ hc (fun W hW => rmask_right s _ W (hS.below hW) (Or.inr hs)) (fun W hW => rmask_right t _ W (hT.below hW) ht')
   unfold rowM mostK
   rw [if_neg (show ¬ ((i : Int) = 3) by omega)]
 ·have e1 : ofT k s t n h = fun _ => 0 := by unfold ofT; rw [if_neg hf]
  have e2 : ofM k s t n h = 0 := by unfold ofM; rw [if_neg hf]
  rw [e1, e2, errV_no hf]
  rw [errV_no hf] at hc
  exact rowsOf_bad k _ n h sao tao s.length scap t.length tcap w hc
end Go.Proofs.YtjmeakkmfeoigaaGreatDoor