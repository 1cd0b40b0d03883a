/-
  Proved: what fields.Count returns, of any row of signs and any counts; what was in memory is as it was (a contract that the statements lean on).
-/
import Derived.Test.YtenmheenieifpacDoorFieldsBlk
import Derived.Test.YtenmheenieifpacDoorFieldsCheck
namespace Go.Proofs.YtenmheenieifpacDoor
open Go.ChangeShapes Go.WideShapes Go.ChangeAt Go.RowKit

/-- what is wrong with a term, or else with counts; how many things the term has. -/
def countFault (t : List Int) (N : Nat → Int) : Int := if faultN t = 0 then countsFault N else faultN t
def countN (t : List Int) (N : Nat → Int) : Int := if countFault t N = 0 then sumIn (liesB t) N 8 else 0

theorem mask_bit (L : Nat → Bool) {k : Nat} (hk : k < 8) : bits .and .i64 (maskTo L 8 / 2 ^ k) 1 = oneB (L k) := by
  obtain ⟨m0, m1⟩ := maskTo_le L 8
  have : maskTo L 8 < 256 := m1
  rw [bit_at _ k m0 this hk, has_mask L (Nat.le_refl _) hk]

set_option maxRecDepth 100000 in
set_option maxHeartbeats 4000000 in
theorem count_any (t : List Int) (v : Value) (N : Nat → Int) (w : World) (h : Reads w v t) :
    Calls Tryd.prog 25 #[v, .agg #[.int .i64 (N 0), .int .i64 (N 1), .int .i64 (N 2), .int .i64 (N 3), .int .i64 (N 4), .int .i64 (N 5), .int .i64 (N 6), .int .i64 (N 7)]] w fun e w' => e = .returned (.tuple #[.int .i64 (countN t N), errV (countFault t N)]) ∧ Below w.heap.size w w' := by
  obtain ⟨w1, hw1⟩ : ∃ w1, w1 = w.alloc (.cells #[.int .i64 (N 0), .int .i64 (N 1), .int .i64 (N 2), .int .i64 (N 3), .int .i64 (N 4), .int .i64 (N 5), .int .i64 (N 6), .int .i64 (N 7)] 46) := ⟨_, rfl⟩
  have HW : Hid (Below w.heap.size w w1) := by unfold Hid; rw [hw1]; exact below_alloc1 _ _
  have HK0 : Hid (Blk w1 w.heap.size 46 (arr8 N)) := by unfold Hid; rw [hw1]; exact Blk.new _ _ _
  have HMa : Hid (Calls Tryd.prog 24 #[v] w1 fun e w' => e = .returned (.tuple #[.int .i64 (maskN t), errV (faultN t)]) ∧ Below w1.heap.size w1 w') := mask_any t v w1 (h.below HW.out)
  have HCa : Hid (∀ W, Calls Tryd.prog 48 #[.agg #[.int .i64 (N 0), .int .i64 (N 1), .int .i64 (N 2), .int .i64 (N 3), .int .i64 (N 4), .int .i64 (N 5), .int .i64 (N 6), .int .i64 (N 7)]] W fun e w' => e = .returned (errV (countsFault N)) ∧ Below W.heap.size W w') := fun W => fcounts_any N W
  clear h
  by_cases hf : faultN t = 0
  · have e0 : countFault t N = countsFault N := by unfold countFault; rw [if_pos hf]
    have e1 : maskN t = maskTo (liesB t) 8 := by unfold maskN; rw [if_pos hf]
    have HM : Hid (Calls Tryd.prog 24 #[v] w1 fun e w' => e = .returned (.tuple #[.int .i64 (maskTo (liesB t) 8), .nilIface]) ∧ Below w1.heap.size w1 w') := by
      have := HMa.out
      rw [hf, e1] at this
      exact this
    clear HMa
    by_cases hc : countsFault N = 0
    · have e2 : countN t N = sumIn (liesB t) N 8 := by unfold countN; rw [e0, if_pos hc]
      have HC : Hid (∀ W, Calls Tryd.prog 48 #[.agg #[.int .i64 (N 0), .int .i64 (N 1), .int .i64 (N 2), .int .i64 (N 3), .int .i64 (N 4), .int .i64 (N 5), .int .i64 (N 6), .int .i64 (N 7)]] W fun e w' => e = .returned .nilIface ∧ Below W.heap.size W w') := fun W => by
        have := HCa.out W
        rw [hc] at this
        exact this
      have e3 : errV (countFault t N) = .nilIface := by rw [e0, hc]; rfl
      rw [e2, e3]
      have HN : Hid (∀ k, k < 8 → 0 ≤ N k ∧ N k ≤ 6) := (counts_zero.1 hc).1
      clear HCa e0 e1 e2 e3 hf hc
      obtain ⟨L, hL⟩ : ∃ L, L = liesB t := ⟨_, rfl⟩
      rw [← hL] at HM ⊢
      clear hL
      have HBt : Hid (∀ k, k < 8 → bits .and .i64 (maskTo L 8 / 2 ^ k) 1 = oneB (L k)) := fun k hk => mask_bit L hk
      have HML : Hid (0 ≤ maskTo L 8 ∧ maskTo L 8 < 256) := maskTo_le L 8
      obtain ⟨M, hM⟩ : ∃ M, M = maskTo L 8 := ⟨_, rfl⟩
      rw [← hM] at HM HBt HML
      clear hM
      obtain ⟨m0, m1⟩ := HML.out
      go_enter Tryd.func25, Tryd.ntmps25
      go_wp2_with fail
      rw [← hw1]
      clear hw1
      go_wp2_with fail
      go_at_call 24
      refine HM.out.mono ?_
      rintro e w2 ⟨rfl, hb⟩
      have HB2 : Hid (Below w.heap.size w w2) := HW.out.trans (hb.mono HW.out.size)
      have HK2 : Hid (Blk w2 w.heap.size 46 (arr8 N)) := HK0.out.below hb
      clear hb
      obtain ⟨x0, x1, x2, x3, x4, x5, x6, x7⟩ := HK2.out.cells8
      go_wp2_with fail
      go_at_call 48
      refine (HC.out _).mono ?_
      rintro e w3 ⟨rfl, hb⟩
      have HB3 : Hid (Below w.heap.size w w3) := HB2.out.trans (hb.mono HB2.out.size)
      have HK3 : Hid (Blk w3 w.heap.size 46 (arr8 N)) := HK2.out.below hb
      clear hb x0 x1 x2 x3 x4 x5 x6 x7
      go_wp2
      go_loop [9, 24] (fun s i => ∃ k : Nat, k ≤ 8 ∧ i = .int .i64 k ∧ s = .int .i64 (sumIn L N k)) (fun _ i => 8 - (intOf i).toNat)
      case atStart => exact ⟨0, Nat.zero_le _, rfl, rfl⟩
      case round =>
        obtain ⟨k, hk, rfl, rfl⟩ := hrel
        by_cases hlt : k < 8
        · have y : w3.cell? ⟨w.heap.size, k, none⟩ = some (.int .i64 (N k)) := by rw [HK3.out.cell, arr8_get _ hlt]
          have p1 := sumIn_le (L := L) (N := N) (k := k) fun f hf => HN.out f (by omega)
          have p2 := sumN_le (N := N) (k := k) fun f hf => HN.out f (by omega)
          have p3 := HN.out k hlt
          have hb := HBt.out k hlt
          rcases (Bool.eq_false_or_eq_true (L k)).symm with l | l
          · have HS : Hid (sumIn L N (k + 1) = sumIn L N k) := by unfold Hid; show sumIn L N k + _ = _; rw [l]; simp
            rw [l] at hb
            replace hb : bits .and .i64 (M / 2 ^ k) 1 = 0 := hb
            clear l
            go_wp2
            go_round
            case rel => exact ⟨k + 1, by omega, by go_num, by rw [HS.out]⟩
            case measure => simp [intOf]; omega
          · have HS : Hid (sumIn L N (k + 1) = sumIn L N k + N k) := by unfold Hid; show sumIn L N k + _ = _; rw [l]; simp
            rw [l] at hb
            replace hb : bits .and .i64 (M / 2 ^ k) 1 = 1 := hb
            clear l
            go_wp2
            go_round
            case rel => exact ⟨k + 1, by omega, by go_num, by rw [HS.out]⟩
            case measure => simp [intOf]; omega
        · obtain rfl : k = 8 := by omega
          go_wp2
          go_ret2
          exact ⟨rfl, HB3.out⟩
    · have e2 : countN t N = 0 := by unfold countN; rw [e0, if_neg hc]
      have e3 : errV (countFault t N) = .iface 69 (.int .i64 (countsFault N)) := by rw [e0]; unfold errV; rw [if_neg hc]
      have HC : Hid (∀ W, Calls Tryd.prog 48 #[.agg #[.int .i64 (N 0), .int .i64 (N 1), .int .i64 (N 2), .int .i64 (N 3), .int .i64 (N 4), .int .i64 (N 5), .int .i64 (N 6), .int .i64 (N 7)]] W fun e w' => e = .returned (.iface 69 (.int .i64 (countsFault N))) ∧ Below W.heap.size W w') := fun W => by
        have := HCa.out W
        unfold errV at this
        rw [if_neg hc] at this
        exact this
      rw [e2, e3]
      clear HCa e0 e1 e2 e3 hf hc
      obtain ⟨M, hM⟩ : ∃ M, M = maskTo (liesB t) 8 := ⟨_, rfl⟩
      rw [← hM] at HM
      clear hM
      obtain ⟨F, hF⟩ : ∃ F, F = countsFault N := ⟨_, rfl⟩
      rw [← hF] at HC ⊢
      clear hF
      go_enter Tryd.func25, Tryd.ntmps25
      go_wp2_with fail
      rw [← hw1]
      clear hw1
      go_wp2_with fail
      go_at_call 24
      refine HM.out.mono ?_
      rintro e w2 ⟨rfl, hb⟩
      have HB2 : Hid (Below w.heap.size w w2) := HW.out.trans (hb.mono HW.out.size)
      have HK2 : Hid (Blk w2 w.heap.size 46 (arr8 N)) := HK0.out.below hb
      clear hb
      obtain ⟨x0, x1, x2, x3, x4, x5, x6, x7⟩ := HK2.out.cells8
      go_wp2_with fail
      go_at_call 48
      refine (HC.out _).mono ?_
      rintro e w3 ⟨rfl, hb⟩
      have HB3 : Hid (Below w.heap.size w w3) := HB2.out.trans (hb.mono HB2.out.size)
      clear hb x0 x1 x2 x3 x4 x5 x6 x7
      go_wp2
      go_ret2
      exact ⟨rfl, HB3.out⟩
  · have e0 : countFault t N = faultN t := by unfold countFault; rw [if_neg hf]
    have e1 : maskN t = 0 := by unfold maskN; rw [if_neg hf]
    have e2 : countN t N = 0 := by unfold countN; rw [e0, if_neg hf]
    have e3 : errV (faultN t) = .iface 69 (.int .i64 (faultN t)) := by unfold errV; rw [if_neg hf]
    have HM : Hid (Calls Tryd.prog 24 #[v] w1 fun e w' => e = .returned (.tuple #[.int .i64 0, .iface 69 (.int .i64 (faultN t))]) ∧ Below w1.heap.size w1 w') := by
      have := HMa.out
      rw [e1, e3] at this
      exact this
    rw [e2, e0, e3]
    clear HMa HCa e0 e1 e2 e3 hf
    obtain ⟨F, hF⟩ : ∃ F, F = faultN t := ⟨_, rfl⟩
    rw [← hF] at HM ⊢
    clear hF
    go_enter Tryd.func25, Tryd.ntmps25
    go_wp2_with fail
    rw [← hw1]
    clear hw1
    go_wp2_with fail
    go_at_call 24
    refine HM.out.mono ?_
    rintro e w2 ⟨rfl, hb⟩
    have HB2 : Hid (Below w.heap.size w w2) := HW.out.trans (hb.mono HW.out.size)
    clear hb
    go_wp2
    go_ret2
    exact ⟨rfl, HB2.out⟩
end Go.Proofs.YtenmheenieifpacDoor
