/-
  Proved: what turned, wrong, sum and mask of package rows return; what was in memory is as it was (contracts that the statements lean on). Written by program.
-/
import Derived.Test.YtedgbohobgnedadDoorRowsBlk
import Derived.Test.YtedgbohobgnedadDoorAtomCheck
import Derived.Test.YtedgbohobgnedadDoorTermCheck
import Derived.Handy
namespace Go.Proofs.YtedgbohobgnedadDoor
open Go.ChangeShapes Go.WideShapes Go.ChangeAt Go.RowKit

set_option maxRecDepth 100000 in
set_option maxHeartbeats 4000000 in
theorem rturned_any (T M : Nat → Int) (m p : Int) (hT : ∀ f, f < 8 → -2 ≤ T f ∧ T f ≤ 2) (hm : -100 ≤ m ∧ m ≤ 100) (hM : ∀ f, f < 8 → M f = - T f) (hp : p = -(m + 1)) (w : World) :
    Calls Tryd.prog 26 #[.agg #[.int .i64 (T 0), .int .i64 (T 1), .int .i64 (T 2), .int .i64 (T 3), .int .i64 (T 4), .int .i64 (T 5), .int .i64 (T 6), .int .i64 (T 7), .int .i64 m]] w fun e w' => e = .returned (.agg #[.int .i64 (M 0), .int .i64 (M 1), .int .i64 (M 2), .int .i64 (M 3), .int .i64 (M 4), .int .i64 (M 5), .int .i64 (M 6), .int .i64 (M 7), .int .i64 p]) ∧ Below w.heap.size w w' := by
  obtain ⟨Z, hZ⟩ : ∃ Z : Nat → Int, Z = fun _ => 0 := ⟨_, rfl⟩
  obtain ⟨w1, hw1⟩ : ∃ w1, w1 = (w.alloc (.cells #[.int .i64 (T 0), .int .i64 (T 1), .int .i64 (T 2), .int .i64 (T 3), .int .i64 (T 4), .int .i64 (T 5), .int .i64 (T 6), .int .i64 (T 7), .int .i64 m] 29)).alloc (.cells #[.int .i64 0, .int .i64 0, .int .i64 0, .int .i64 0, .int .i64 0, .int .i64 0, .int .i64 0, .int .i64 0, .int .i64 0] 29) := ⟨_, rfl⟩
  have HW : Hid (Below w.heap.size w w1) := by unfold Hid; rw [hw1]; exact (below_alloc1 _ _).alloc (by simp) _
  have HK0 : Hid (Blk w1 w.heap.size 29 (arrR T m)) := by unfold Hid; rw [hw1]; exact (Blk.new _ _ _).old _
  have HK1 : Hid (Blk w1 (w.heap.size + 1) 29 (arrR Z 0)) := by
    unfold Hid; rw [hw1, hZ]
    have := Blk.new (w.alloc (.cells #[.int .i64 (T 0), .int .i64 (T 1), .int .i64 (T 2), .int .i64 (T 3), .int .i64 (T 4), .int .i64 (T 5), .int .i64 (T 6), .int .i64 (T 7), .int .i64 m] 29)) 29 (arrR (fun _ => 0) 0)
    simp only [World.size_alloc] at this
    exact this
  have HT : Hid (∀ f, f < 8 → -2 ≤ T f ∧ T f ≤ 2) := hT
  have HM : Hid (∀ f, f < 8 → M f = - T f) := hM
  have HP : Hid (p = -(m + 1)) := hp
  clear hZ hT hM hp
  obtain ⟨m0, m1⟩ := hm
  go_enter Tryd.func26, Tryd.ntmps26
  go_wp2
  rw [← hw1]
  clear hw1
  go_loopw [4] (fun i wr => ∃ k : Nat, k ≤ 8 ∧ i = .int .i64 k ∧ Below w.heap.size w wr ∧ Blk wr w.heap.size 29 (arrR (fun f => if f < k then M f else T f) m) ∧ Blk wr (w.heap.size + 1) 29 (arrR Z 0)) (fun i _ => 8 - (intOf i).toNat)
  case atStart => exact ⟨0, Nat.zero_le _, rfl, HW.out, HK0.out, HK1.out⟩
  case round =>
    obtain ⟨k, hk, rfl, hb, h0, h1⟩ := hrel
    have HB1 : Hid (Below w.heap.size w wr) := hb
    have HR1 : Hid (Blk wr w.heap.size 29 (arrR (fun f => if f < k then M f else T f) m)) := h0
    have HZ1 : Hid (Blk wr (w.heap.size + 1) 29 (arrR Z 0)) := h1
    clear hb h0 h1
    by_cases hlt : k < 8
    · obtain ⟨x, hx⟩ : ∃ x, x = T k := ⟨_, rfl⟩
      have c : wr.cell? ⟨w.heap.size, k, none⟩ = some (.int .i64 x) := by rw [HR1.out.cell, arrR_get _ _ hlt, hx]; simp
      have z := HR1.out.frozen k
      have hxl := HT.out k hlt
      rw [← hx] at hxl
      obtain ⟨x0, x1⟩ := hxl
      have HE : Hid (Blk (wr.setCell ⟨w.heap.size, k, none⟩ (.int .i64 (-x))) w.heap.size 29 (arrR (fun f => if f < k + 1 then M f else T f) m)) := by
        have := HR1.out.set k (.int .i64 (-x))
        rw [arrR_set _ _ _ hlt] at this
        unfold Hid
        rw [arrR_same (M := fun g => if g = k then -x else if g < k then M g else T g)]
        · exact this
        · intro f hf
          by_cases e : f = k
          · subst e; rw [if_pos (by omega), if_pos rfl, HM.out f hf, hx]
          · simp only [if_neg e]
            by_cases e' : f < k
            · rw [if_pos (by omega), if_pos e']
            · rw [if_neg (by omega), if_neg e']
      clear hx
      go_wp2
      go_roundw
      case rel => exact ⟨k + 1, by omega, by go_num, HB1.out.setCell (by simp) _, HE.out, HZ1.out.far (by omega) _ _⟩
      case measure => simp [intOf]; omega
    · obtain rfl : k = 8 := by omega
      have HR2 : Hid (Blk wr w.heap.size 29 (arrR M m)) := by
        have := HR1.out
        unfold Hid
        rw [arrR_same (M := fun f => if f < 8 then M f else T f)]
        · exact this
        · intro f hf; rw [if_pos hf]
      clear HR1
      obtain ⟨n0, n1, n2, n3, n4, n5, n6, n7, n8⟩ := HR2.out.cells9
      have nz := HR2.out.frozen 8
      obtain ⟨r0, r1, r2, r3, r4, r5, r6, r7, r8⟩ := HZ1.out.cells9
      obtain ⟨f0, f1, f2, f3, f4, f5, f6, f7, f8⟩ := HZ1.out.frozen9
      go_wp2
      refine bodyPost_ret (v := .agg (arrR M (-(m + 1)))) ?_ rfl ⟨by rw [HP.out]; rfl, ?_⟩
      · exact results_cell_row rfl _ _ (w.heap.size + 1) 29 (arrR M (-(m + 1))) (0, 0) _ rfl (putR_blk (HZ1.out.far (by omega) 8 (.int .i64 (-(m + 1)))) M (-(m + 1))) Tryd.underlying29 rfl infoR
      · exact putR_below (HB1.out.setCell (Nat.le_refl _) _) (by omega) _ _
theorem ix8 (T : Nat → Int) {k : Nat} (hk : k < 8) (W : World) : (Instr.index 26 (.agg #[.int .i64 (T 0), .int .i64 (T 1), .int .i64 (T 2), .int .i64 (T 3), .int .i64 (T 4), .int .i64 (T 5), .int .i64 (T 6), .int .i64 (T 7)]) (.int .i64 k)).run Tryd.prog W = .ok (.int .i64 (T k)) W := by
  rcases eight hk with rfl | rfl | rfl | rfl | rfl | rfl | rfl | rfl <;> kernel_rfl

set_option maxRecDepth 100000 in
set_option maxHeartbeats 4000000 in
theorem wrong_any (T : Nat → Int) (m : Int) (w : World) :
    Calls Tryd.prog 29 #[.agg #[.int .i64 (T 0), .int .i64 (T 1), .int .i64 (T 2), .int .i64 (T 3), .int .i64 (T 4), .int .i64 (T 5), .int .i64 (T 6), .int .i64 (T 7), .int .i64 m]] w fun e w' => e = .returned (.bool (Rw.mk T m).wrong) ∧ Below w.heap.size w w' := by
  obtain ⟨w1, hw1⟩ : ∃ w1, w1 = w.alloc (.cells #[.int .i64 (T 0), .int .i64 (T 1), .int .i64 (T 2), .int .i64 (T 3), .int .i64 (T 4), .int .i64 (T 5), .int .i64 (T 6), .int .i64 (T 7), .int .i64 m] 29) := ⟨_, rfl⟩
  have HW : Hid (Below w.heap.size w w1) := by unfold Hid; rw [hw1]; exact below_alloc1 _ _
  have HK0 : Hid (Blk w1 w.heap.size 29 (arrR T m)) := by unfold Hid; rw [hw1]; exact Blk.new _ _ _
  obtain ⟨R, hR⟩ : ∃ R, R = (Rw.mk T m).wrong := ⟨_, rfl⟩
  have HR1 : Hid (∀ f, f < 8 → ¬ (-2 ≤ T f ∧ T f ≤ 2) → R = true) := fun f hf h => by rw [hR]; exact wrong_time hf h
  have HR2 : Hid (¬ (-100 ≤ m ∧ m ≤ 100) → R = true) := fun h => by rw [hR]; exact wrong_most h
  have HR3 : Hid ((∀ f, f < 8 → -2 ≤ T f ∧ T f ≤ 2) → (-100 ≤ m ∧ m ≤ 100) → R = false) := fun h h' => by rw [hR]; exact right_iff.2 ⟨h, h'⟩
  rw [← hR]
  clear hR
  obtain ⟨n0, n1, n2, n3, n4, n5, n6, n7, n8⟩ := HK0.out.cells9
  go_enter Tryd.func29, Tryd.ntmps29
  go_wp2_with fail
  rw [← hw1]
  clear hw1
  go_wp2_with fail
  go_loop [4, 7] (fun _ i => ∃ k : Nat, k ≤ 8 ∧ i = .int .i64 k ∧ ∀ f, f < k → -2 ≤ T f ∧ T f ≤ 2) (fun _ i => 8 - (intOf i).toNat)
  case atStart => exact ⟨0, Nat.zero_le _, rfl, fun f hf => by omega⟩
  case round =>
    obtain ⟨k, hk, rfl, hall⟩ := hrel
    have HA : Hid (∀ f, f < k → -2 ≤ T f ∧ T f ≤ 2) := hall
    clear hall
    by_cases hlt : k < 8
    · have hi := ix8 T hlt
      have HT1 : Hid (¬ (-2 ≤ T k ∧ T k ≤ 2) → R = true) := HR1.out k hlt
      have HN : Hid ((-2 ≤ T k ∧ T k ≤ 2) → ∀ f, f < k + 1 → -2 ≤ T f ∧ T f ≤ 2) := fun h f hf => by
        rcases Nat.lt_or_ge f k with h' | h'
        · exact HA.out f h'
        · obtain rfl : f = k := by omega
          exact h
      obtain ⟨x, hx⟩ : ∃ x, x = T k := ⟨_, rfl⟩
      rw [← hx] at hi HT1 HN
      clear hx
      by_cases h0 : x < -2
      · have HE : Hid (R = true) := HT1.out (by omega)
        go_wp2
        go_ret
        exact ⟨back_b HE.out.symm, HW.out⟩
      by_cases h2 : 2 < x
      · have HE : Hid (R = true) := HT1.out (by omega)
        go_wp2
        go_ret
        exact ⟨back_b HE.out.symm, HW.out⟩
      · have HE : Hid (∀ f, f < k + 1 → -2 ≤ T f ∧ T f ≤ 2) := HN.out (by omega)
        go_wp2
        go_round
        case rel => exact ⟨k + 1, by omega, by go_num, HE.out⟩
        case measure => simp [intOf]; omega
    · obtain rfl : k = 8 := by omega
      by_cases h0 : m < -100
      · have HE : Hid (R = true) := HR2.out (by omega)
        go_wp2
        go_ret
        exact ⟨back_b HE.out.symm, HW.out⟩
      by_cases h2 : 100 < m
      · have HE : Hid (R = true) := HR2.out (by omega)
        go_wp2
        go_ret
        exact ⟨back_b HE.out.symm, HW.out⟩
      · have HE : Hid (R = false) := HR3.out HA.out (by omega)
        go_wp2
        go_ret
        exact ⟨back_b HE.out.symm, HW.out⟩

set_option maxRecDepth 100000 in
set_option maxHeartbeats 4000000 in
theorem sum_any (T N : Nat → Int) (hT : ∀ f, f < 8 → -2 ≤ T f ∧ T f ≤ 2) (hN : ∀ f, f < 8 → 0 ≤ N f ∧ N f ≤ 6) (w : World) :
    Calls Tryd.prog 32 #[.agg #[.int .i64 (T 0), .int .i64 (T 1), .int .i64 (T 2), .int .i64 (T 3), .int .i64 (T 4), .int .i64 (T 5), .int .i64 (T 6), .int .i64 (T 7)], .agg #[.int .i64 (N 0), .int .i64 (N 1), .int .i64 (N 2), .int .i64 (N 3), .int .i64 (N 4), .int .i64 (N 5), .int .i64 (N 6), .int .i64 (N 7)]] w fun e w' => e = .returned (.int .i64 (sumT T N 8)) ∧ Below w.heap.size w w' := by
  obtain ⟨w1, hw1⟩ : ∃ w1, w1 = (w.alloc (.cells #[.int .i64 (T 0), .int .i64 (T 1), .int .i64 (T 2), .int .i64 (T 3), .int .i64 (T 4), .int .i64 (T 5), .int .i64 (T 6), .int .i64 (T 7)] 26)).alloc (.cells #[.int .i64 (N 0), .int .i64 (N 1), .int .i64 (N 2), .int .i64 (N 3), .int .i64 (N 4), .int .i64 (N 5), .int .i64 (N 6), .int .i64 (N 7)] 26) := ⟨_, rfl⟩
  have HW : Hid (Below w.heap.size w w1) := by unfold Hid; rw [hw1]; exact (below_alloc1 _ _).alloc (by simp) _
  have HK0 : Hid (Blk w1 w.heap.size 26 (arr8 T)) := by unfold Hid; rw [hw1]; exact (Blk.new _ _ _).old _
  have HK1 : Hid (Blk w1 (w.heap.size + 1) 26 (arr8 N)) := by
    unfold Hid; rw [hw1]
    have := Blk.new (w.alloc (.cells #[.int .i64 (T 0), .int .i64 (T 1), .int .i64 (T 2), .int .i64 (T 3), .int .i64 (T 4), .int .i64 (T 5), .int .i64 (T 6), .int .i64 (T 7)] 26)) 26 (arr8 N)
    simp only [World.size_alloc] at this
    exact this
  have HT : Hid (∀ f, f < 8 → -2 ≤ T f ∧ T f ≤ 2) := hT
  have HN : Hid (∀ f, f < 8 → 0 ≤ N f ∧ N f ≤ 6) := hN
  clear hT hN
  go_enter Tryd.func32, Tryd.ntmps32
  go_wp2
  rw [← hw1]
  clear hw1
  go_loopw [5, 7] (fun s i wr => ∃ k : Nat, k ≤ 8 ∧ i = .int .i64 k ∧ s = .int .i64 (sumT T N k) ∧ Below w1.heap.size w1 wr) (fun _ i _ => 8 - (intOf i).toNat)
  case atStart => exact ⟨0, Nat.zero_le _, rfl, rfl, Below.refl _ _⟩
  case round =>
    obtain ⟨k, hk, rfl, rfl, hb⟩ := hrel
    have HB1 : Hid (Below w1.heap.size w1 wr) := hb
    clear hb
    by_cases hlt : k < 8
    · have y : wr.cell? ⟨w.heap.size, k, none⟩ = some (.int .i64 (T k)) := by rw [(HK0.out.below HB1.out).cell, arr8_get _ hlt]
      have y' : wr.cell? ⟨w.heap.size + 1, k, none⟩ = some (.int .i64 (N k)) := by rw [(HK1.out.below HB1.out).cell, arr8_get _ hlt]
      have p1 := sumT_le (T := T) (N := N) (k := k) (fun f hf => HT.out f (by omega)) fun f hf => HN.out f (by omega)
      have p2 := mul_le (HT.out k hlt) (HN.out k hlt)
      have HS : Hid (sumT T N (k + 1) = sumT T N k + T k * N k) := rfl
      go_wp2
      go_region
      go_wp2
      go_roundw
      case rel => exact ⟨k + 1, by omega, by go_num, by rw [HS.out], HB1.out.drew⟩
      case measure => simp [intOf]; omega
    · obtain rfl : k = 8 := by omega
      go_wp2
      go_ret
      exact ⟨rfl, HW.out.trans (HB1.out.mono HW.out.size)⟩

/-- of no signs no field; else as Mask. -/
theorem rmask_right (t : List Int) (v : Value) (w : World) (h : Reads w v t) (hf : t = [] ∨ faultN t = 0) :
    Calls Tryd.prog 25 #[v] w fun e w' => e = .returned (.tuple #[.int .i64 (maskTo (liesB t) 8), .nilIface]) ∧ Below w.heap.size w w' := by
  by_cases h0 : t = []
  · subst h0
    obtain ⟨ao, cap, rfl, _⟩ := h.slice
    have e : maskTo (liesB []) 8 = 0 := by
      have : liesB [] = fun _ => false := by funext f; exact lies_none f
      rw [this]; decide
    rw [e]
    clear e h hf
    go_enter Tryd.func25, Tryd.ntmps25
    go_wp2
    go_ret2
    exact ⟨rfl, Below.refl _ _⟩
  · have hf' : faultN t = 0 := by rcases hf with h' | h'; exact absurd h' h0; exact h'
    have c := mask_any t v w h
    have e1 : maskN t = maskTo (liesB t) 8 := by unfold maskN; rw [if_pos hf']
    rw [e1, hf'] at c
    obtain ⟨ao, cap, rfl, hl⟩ := h.slice
    obtain ⟨M, hM⟩ : ∃ M, M = maskTo (liesB t) 8 := ⟨_, rfl⟩
    rw [← hM] at c ⊢
    have h1 : ¬ ((t.length : Int) = 0) := by
      have : t.length ≠ 0 := fun h' => h0 (List.length_eq_zero_iff.1 h')
      omega
    obtain ⟨n, hn⟩ : ∃ n, n = t.length := ⟨_, rfl⟩
    rw [← hn] at c hl h1 ⊢
    have C : Hid (Calls Tryd.prog 45 #[.slice ao n cap] w fun e w' => e = .returned (.tuple #[.int .i64 M, .nilIface]) ∧ Below w.heap.size w w') := c
    clear c hM hn h hf hf' e1 h0
    go_enter Tryd.func25, Tryd.ntmps25
    go_wp2_with fail
    go_at_call 45
    refine C.out.mono ?_
    rintro e w2 ⟨rfl, hb⟩
    have HB : Hid (Below w.heap.size w w2) := hb
    clear hb
    go_wp2
    go_ret2
    exact ⟨rfl, HB.out⟩
end Go.Proofs.YtedgbohobgnedadDoor
