/-
  Proved: what vennsame.Ints returns, of any two rows of numbers, and what vennref1.Far returns, of a member of a cube (contracts that the statements lean on).
-/
import Derived.Test.YtenmheenieifpacGreatDoorCubesWith
namespace Go.Proofs.YtenmheenieifpacGreatDoor
open Go.ChangeShapes Go.WideShapes Go.ChangeAt Go.RowKit
set_option maxRecDepth 100000

theorem drewN_more {w wr : World} (h : ∃ q, wr = w.drewN q) (n : Nat) : ∃ q, wr.drewN n = w.drewN q := by
  obtain ⟨q, e⟩ := h
  exact ⟨q + n, by rw [e, World.drewN_drewN]⟩

set_option maxHeartbeats 2000000 in
theorem intsEq (s t : List Int) (v v' : Value) (w : World) (h : Reads w v s) (h' : Reads w v' t) :
    Calls Tryz.prog 21 #[v, v'] w fun e w' => e = .returned (.bool (s == t)) ∧ ∃ q, w' = w.drewN q := by
  obtain ⟨ao, acap, rfl, hm⟩ : ∃ ao cap, v = .slice ao s.length cap ∧ s.length ≤ 9223372036854775807 := (h.rs (S := fun _ => True) (fun _ _ => trivial)).slice
  obtain ⟨bo, bcap, rfl, hn⟩ : ∃ ao cap, v' = .slice ao t.length cap ∧ t.length ≤ 9223372036854775807 := (h'.rs (S := fun _ => True) (fun _ _ => trivial)).slice
  by_cases hl : s.length = t.length
  · rcases h with ⟨_, _, hv, rfl⟩ | ⟨b, off, cap, hv, hB, h0, _, hc⟩
    · obtain rfl : t = [] := List.eq_nil_of_length_eq_zero (by simpa using hl.symm)
      go_enter Tryz.func21, Tryz.ntmps21
      go_wp2
      refine wp_loop_rounds 1 ?_
      rw [rounds_succ]
      go_wp2
      go_ret
      exact ⟨rfl, 0, rfl⟩
    · rcases h' with ⟨_, _, _, rfl⟩ | ⟨b', off', cap', hv', hB', _, _, hc'⟩
      · simp at hl; rw [hl] at h0; simp at h0
      · obtain rfl : ao = some ⟨b, off, none⟩ := by cases hv; rfl
        obtain rfl : bo = some ⟨b', off', none⟩ := by cases hv'; rfl
        clear hv hv'
        have HC : Hid (∀ k, k < s.length → w.cell? ⟨b, off + k, none⟩ = some (.int .i64 (s.getD k 0))) := hc
        have HC' : Hid (∀ k, k < t.length → w.cell? ⟨b', off' + k, none⟩ = some (.int .i64 (t.getD k 0))) := hc'
        have HB : Hid (b < w.heap.size ∧ b' < w.heap.size) := ⟨hB, hB'⟩
        have HL : Hid (s.length = t.length) := hl
        clear hc hc' hB hB'
        obtain ⟨n, hn'⟩ : ∃ n, n = s.length := ⟨_, rfl⟩
        rw [← hl]
        rw [← hn'] at hm h0 ⊢
        have HN : Hid (n = s.length) := hn'
        clear hn' hn hl
        obtain ⟨R, hR⟩ : ∃ R, R = (s == t) := ⟨_, rfl⟩
        rw [← hR]
        have HR : Hid (R = (s == t)) := hR
        clear hR
        go_enter Tryz.func21, Tryz.ntmps21
        go_wp2
        go_loopw [5] (fun i wr => ∃ k : Nat, k ≤ n ∧ i = .int .i64 k ∧ Hid (∃ q, wr = w.drewN q) ∧ Hid (∀ j, j < k → s.getD j 0 = t.getD j 0)) (fun i _ => n - (intOf i).toNat)
        case atStart => exact ⟨0, Nat.zero_le _, rfl, ⟨0, rfl⟩, fun j hj => absurd hj (Nat.not_lt_zero _)⟩
        case round =>
          obtain ⟨k, hk, rfl, HW, A⟩ := hrel
          by_cases hlt : k < n
          · obtain ⟨x, hx⟩ : ∃ x, x = s.getD k 0 := ⟨_, rfl⟩
            obtain ⟨y, hy⟩ : ∃ y, y = t.getD k 0 := ⟨_, rfl⟩
            have hks : k < s.length := by rw [← HN.out]; exact hlt
            have hkt : k < t.length := by rw [← HL.out]; exact hks
            have c0 : wr.cell? ⟨b, off + k, none⟩ = some (.int .i64 x) := by obtain ⟨q, e⟩ := HW.out; rw [hx, e]; exact HC.out k hks
            have c1 : wr.cell? ⟨b', off' + k, none⟩ = some (.int .i64 y) := by obtain ⟨q, e⟩ := HW.out; rw [hy, e]; exact HC'.out k hkt
            have HXY : Hid (x = s.getD k 0 ∧ y = t.getD k 0) := ⟨hx, hy⟩
            have hlt' : (k : Int) < (n : Int) := by omega
            clear hx hy hks hkt
            by_cases hxy : x = y
            · have HE : Hid (s.getD k 0 = t.getD k 0) := by unfold Hid; rw [← HXY.out.1, ← HXY.out.2, hxy]
              have hb : (x != y) = false := by simp [hxy]
              clear hxy
              go_wp2_with fail
              go_quiet (fail)
              go_wp2
              go_roundw
              case rel =>
                refine ⟨k + 1, by omega, by go_num, drewN_more HW.out _, fun j hj => ?_⟩
                by_cases e : j = k
                · rw [e]; exact HE.out
                · exact A.out j (by omega)
              case measure => simp [intOf]; omega
            · have HE : Hid (R = false) := by
                unfold Hid
                rw [HR.out]
                have : s ≠ t := fun e => hxy (by rw [HXY.out.1, HXY.out.2, e])
                simpa using this
              have hb : (x != y) = true := by simpa using hxy
              clear hxy
              go_wp2_with fail
              go_quiet (fail)
              go_wp2
              go_ret
              exact ⟨back_b HE.out.symm, drewN_more HW.out _⟩
          · obtain rfl : k = n := by omega
            have HE : Hid (R = true) := by
              unfold Hid
              rw [HR.out]
              have : s = t := getD_eq_of_len HL.out (fun j hj => A.out j (by rw [HN.out]; exact hj))
              simp [this]
            go_wp2
            go_ret
            exact ⟨back_b HE.out.symm, HW.out⟩
  · have hne : ((s.length : Int) != (t.length : Int)) = true := by simp; omega
    have HE : Hid ((s == t) = false) := by
      unfold Hid
      have : s ≠ t := fun e => hl (by rw [e])
      simpa using this
    obtain ⟨R, hR⟩ : ∃ R, R = (s == t) := ⟨_, rfl⟩
    rw [← hR]
    rw [← hR] at HE
    clear hR hl
    go_enter Tryz.func21, Tryz.ntmps21
    go_wp2
    go_ret
    exact ⟨back_b HE.out.symm, 0, rfl⟩
theorem far_ref (x : Int) (hx : x.natAbs ≤ 6) (w : World) : Calls Tryz.prog 11 #[.int .i64 x] w fun e w' => e = .returned (.int .i64 x.natAbs) ∧ w' = w := by
  by_cases h : x < 0
  · have e : ((x.natAbs : Nat) : Int) = -x := by omega
    rw [e]
    have x1 : -9223372036854775808 ≤ -x := by omega
    have x2 : -x ≤ 9223372036854775807 := by omega
    clear e
    go_enter Tryz.func11, Tryz.ntmps11
    go_wp2
    go_ret
    exact ⟨rfl, rfl⟩
  · have e : ((x.natAbs : Nat) : Int) = x := by omega
    rw [e]
    clear e
    go_enter Tryz.func11, Tryz.ntmps11
    go_wp2
    go_ret
    exact ⟨rfl, rfl⟩
end Go.Proofs.YtenmheenieifpacGreatDoor
