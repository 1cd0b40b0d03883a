/-
  Proved: what the reference's Term and World return, of any row of signs and any world; what was in memory is as it was (contracts that the statements lean on).
-/
import Derived.Test.YtgkgbpbohgklhafDoorTermValue
import Derived.Test.YtgkgbpbohgklhafDoorTermRefMath
import Derived.Test.YtgkgbpbohgklhafDoorRefHas
namespace Go.Proofs.YtgkgbpbohgklhafDoor
open Go.ChangeShapes Go.WideShapes Go.ChangeAt Go.RowKit
set_option maxRecDepth 100000

theorem all_take_succ (t : List Int) {k : Nat} (h : k < t.length) : (t.take (k + 1)).all signB = ((t.take k).all signB && signB (t.getD k 0)) := by
  rw [take_succ_getD t h]; simp
theorem all_false_of {t : List Int} {k : Nat} (h : k < t.length) (hs : signB (t.getD k 0) = false) : ¬ t.all signB = true := by
  intro ha
  have := List.all_eq_true.1 ha (t.getD k 0) (by rw [List.getD_eq_getElem?_getD, List.getElem?_eq_getElem h]; exact List.getElem_mem h)
  rw [hs] at this; cases this

set_option maxRecDepth 100000 in
set_option maxHeartbeats 4000000 in
theorem refTerm_mid (b off cap : Nat) (t : List Int) (w : World) (h0 : 0 < t.length) (hl : t.length ≤ 12) (hc : ∀ k, k < t.length → w.cell? ⟨b, off + k, none⟩ = some (.int .i64 (t.getD k 0))) :
    Calls Tryd.prog 18 #[.slice (some ⟨b, off, none⟩) t.length cap] w fun e w' => e = .returned (.int .i64 (faultN t)) ∧ w = w' := by
  have HC : Hid (∀ k, k < t.length → w.cell? ⟨b, off + k, none⟩ = some (.int .i64 (t.getD k 0))) := hc
  clear hc
  obtain ⟨n, hn⟩ : ∃ n, n = t.length := ⟨_, rfl⟩
  rw [← hn] at h0 hl ⊢
  have HN : Hid (n = t.length) := hn
  obtain ⟨F, hF⟩ : ∃ F, F = faultN t := ⟨_, rfl⟩
  rw [← hF]
  have HF : Hid (F = if t.all signB = true then (if cnt t 0 = some 1 then 0 else 3) else 1) := by
    unfold Hid; rw [hF]; unfold faultN; rw [if_neg (by omega), if_neg (by omega)]
  clear hn hF
  go_enter Tryd.func18, Tryd.ntmps18
  go_wp2
  go_loop [3] (fun i => ∃ k : Nat, k ≤ n ∧ i = .int .i64 k ∧ (t.take k).all signB = true) (fun i => n - (intOf i).toNat)
  case atStart => exact ⟨0, Nat.zero_le _, rfl, by simp⟩
  case round =>
    obtain ⟨k, hk, rfl, hall⟩ := hrel
    have HA : Hid ((t.take k).all signB = true) := hall
    clear hall
    by_cases hlt : k < n
    · obtain ⟨s, hs⟩ : ∃ s, s = t.getD k 0 := ⟨_, rfl⟩
      have hkt : k < t.length := by rw [← HN.out]; exact hlt
      have hc := HC.out k hkt
      rw [← hs] at hc
      by_cases hlo : s < 0
      · have HE : Hid (1 = F) := by
          have := all_false_of hkt (by rw [← hs]; simp [signB]; omega)
          unfold Hid; rw [HF.out, if_neg this]
        clear hs hkt
        go_wp2
        go_ret
        exact ⟨back_i HE.out, rfl⟩
      by_cases hhi : 8 < s
      · have HE : Hid (1 = F) := by
          have := all_false_of hkt (by rw [← hs]; simp [signB]; omega)
          unfold Hid; rw [HF.out, if_neg this]
        clear hs hkt
        go_wp2
        go_ret
        exact ⟨back_i HE.out, rfl⟩
      have HA2 : Hid ((t.take (k + 1)).all signB = true) := by
        have : signB s = true := by simp [signB]; omega
        unfold Hid; rw [all_take_succ t hkt, HA.out, ← hs, this]; rfl
      clear hs hkt
      go_wp2
      go_round
      case rel => exact ⟨k + 1, by omega, by go_num, HA2.out⟩
      case measure => simp [intOf]; omega
    · have HAll : Hid (t.all signB = true) := by
        have := HA.out
        rw [List.take_of_length_le (by have := HN.out; omega)] at this
        exact this
      clear HA
      go_wp2
      go_loop [4, 5] (fun c i => ∃ (k : Nat) (m : Int), k ≤ n ∧ i = .int .i64 k ∧ c = .int .i64 m ∧ cnt (t.take k) 0 = some m) (fun _ i => n - (intOf i).toNat)
      case atStart => exact ⟨0, 0, Nat.zero_le _, rfl, rfl, rfl⟩
      case round =>
        clear hlt hk
        obtain ⟨k, m, hk, rfl, rfl, hm⟩ := hrel
        have HM : Hid (cnt (t.take k) 0 = some m) := hm
        have hm0 : 0 ≤ m ∧ m ≤ 12 := by
          have := cnt_nonneg (Int.le_refl 0) hm
          simp at this
          omega
        clear hm
        by_cases hlt : k < n
        · obtain ⟨s, hs⟩ : ∃ s, s = t.getD k 0 := ⟨_, rfl⟩
          have hkt : k < t.length := by rw [← HN.out]; exact hlt
          have hc := HC.out k hkt
          rw [← hs] at hc
          have hsg : 0 ≤ s ∧ s ≤ 8 := by
            refine signB_iff.1 (List.all_eq_true.1 HAll.out s ?_)
            rw [hs, List.getD_eq_getElem?_getD, List.getElem?_eq_getElem hkt]; exact List.getElem_mem hkt
          have HD : Hid (cnt (t.take (k + 1)) 0 = if m < takesN s then none else some (m + 1 - takesN s)) := by
            have := cnt_take_succ t hkt HM.out
            rw [← hs] at this; exact this
          have HNo : Hid (m < takesN s → 3 = F) := fun hb => by
            have h1 := HD.out
            rw [if_pos hb] at h1
            have h2 := cnt_take_none t (k + 1) h1
            rw [HF.out, if_pos HAll.out, if_neg (by rw [h2]; simp)]
          have HYes : Hid (¬ m < takesN s → cnt (t.take (k + 1)) 0 = some (m + 1 - takesN s)) := fun hb => by
            have h1 := HD.out
            rw [if_neg hb] at h1; exact h1
          clear hs hkt HD
          by_cases h5 : s < 5
          · have HE : Hid (cnt (t.take (k + 1)) 0 = some (m + 1)) := by
              have := HYes.out (by rw [takes5 s h5]; omega)
              rw [takes5 s h5] at this; rw [show m + 1 = m + 1 - 0 by omega]; exact this
            go_wp2
            go_round
            case rel => exact ⟨k + 1, _, by omega, by go_num, rfl, HE.out⟩
            case measure => simp [intOf]; omega
          by_cases h8 : s < 8
          · have ht := takes2 s (by omega) (by omega)
            by_cases hb : m < 2
            · have HE : Hid (3 = F) := HNo.out (by rw [ht]; exact hb)
              clear ht
              by_cases hb1 : m < 1
              · go_wp2
                go_ret
                exact ⟨back_i HE.out, rfl⟩
              · go_wp2
                go_ret
                exact ⟨back_i HE.out, rfl⟩
            · have HE : Hid (cnt (t.take (k + 1)) 0 = some (m - 1)) := by
                have := HYes.out (by rw [ht]; omega)
                rw [ht] at this; rw [show m - 1 = m + 1 - 2 by omega]; exact this
              have hb1 : ¬ m < 1 := by omega
              clear ht
              go_wp2
              go_round
              case rel => exact ⟨k + 1, _, by omega, by go_num, rfl, HE.out⟩
              case measure => simp [intOf]; omega
          · obtain rfl : s = 8 := by omega
            by_cases hb : m < 1
            · have HE : Hid (3 = F) := HNo.out (by rw [takes1]; exact hb)
              go_wp2
              go_ret
              exact ⟨back_i HE.out, rfl⟩
            · have HE : Hid (cnt (t.take (k + 1)) 0 = some m) := by
                have := HYes.out (by rw [takes1]; exact hb)
                rw [takes1] at this; rw [show m = m + 1 - 1 by omega]; exact this
              go_wp2
              go_round
              case rel => exact ⟨k + 1, _, by omega, by go_num, rfl, HE.out⟩
              case measure => simp [intOf]; omega
        · have HE : Hid (cnt t 0 = some m) := by
            have h1 := HM.out
            rw [List.take_of_length_le (by have := HN.out; omega)] at h1; exact h1
          by_cases h1 : m = 1
          · have HG : Hid (0 = F) := by unfold Hid; rw [HF.out, if_pos HAll.out, HE.out, if_pos (by rw [h1])]
            subst h1
            go_wp2
            go_ret
            exact ⟨back_i HG.out, rfl⟩
          · have HG : Hid (3 = F) := by unfold Hid; rw [HF.out, if_pos HAll.out, HE.out, if_neg (by simpa using h1)]
            have h1' : (m != 1) = true := by simpa using h1
            clear h1
            go_wp2
            go_ret
            exact ⟨back_i HG.out, rfl⟩

theorem refTerm_any (t : List Int) (v : Value) (w : World) (h : Reads w v t) :
    Calls Tryd.prog 18 #[v] w fun e w' => e = .returned (.int .i64 (faultN t)) ∧ w = w' := by
  rcases h with ⟨ao, cap, rfl, rfl⟩ | ⟨b, off, cap, rfl, -, h0, ⟨hl, _⟩, hc⟩
  · go_enter Tryd.func18, Tryd.ntmps18
    go_wp2
    go_ret
    exact ⟨rfl, rfl⟩
  · by_cases h12 : 12 < t.length
    · have e : faultN t = 4 := by unfold faultN; rw [if_neg (by omega), if_pos h12]
      rw [e]
      clear e hc
      obtain ⟨n, hn⟩ : ∃ n, n = t.length := ⟨_, rfl⟩
      rw [← hn] at h0 hl h12 ⊢
      clear hn
      go_enter Tryd.func18, Tryd.ntmps18
      go_wp2
      go_ret
      exact ⟨rfl, rfl⟩
    · exact refTerm_mid b off cap t w h0 (by omega) hc

theorem quiet_set_ok (u s : Int) (h : okB u s = true) (W : World) : Calls Tryd.prog 27 #[.int .i64 u, .int .i64 s] W fun e w' => e = .returned (.int .i64 0) ∧ w' = W := (refSet_ok u s h W).mono fun _ _ h => (And.intro h.1 h.2.symm)
theorem quiet_set_no (u s : Int) (h : okB u s = false) (W : World) : Calls Tryd.prog 27 #[.int .i64 u, .int .i64 s] W fun e w' => e = .returned (.int .i64 1) ∧ w' = W := (refSet_no u s h W).mono fun _ _ h => (And.intro h.1 h.2.symm)

set_option maxRecDepth 100000 in
set_option maxHeartbeats 4000000 in
theorem refWorld_any (u a b c : Int) (w : World) :
    Calls Tryd.prog 8 #[.agg #[.int .i64 u, .int .i64 a, .int .i64 b, .int .i64 c]] w fun e w' => e = .returned (.int .i64 (if (Wd.mk u a b c).ok = true then 0 else 1)) ∧ Below w.heap.size w w' := by
  obtain ⟨w1, hw1⟩ : ∃ w1, w1 = w.alloc (.cells #[.int .i64 u, .int .i64 a, .int .i64 b, .int .i64 c] 28) := ⟨_, rfl⟩
  obtain ⟨K, hK⟩ : ∃ K, K = w.heap.size + 1 := ⟨_, rfl⟩
  have HK1 : Hid (w1.heap.size = K) := by unfold Hid; rw [hw1, hK]; simp
  have HX : Hid (w1.cell? ⟨w.heap.size, 0, none⟩ = some (.int .i64 u) ∧ w1.cell? ⟨w.heap.size, 1, none⟩ = some (.int .i64 a) ∧ w1.cell? ⟨w.heap.size, 2, none⟩ = some (.int .i64 b) ∧ w1.cell? ⟨w.heap.size, 3, none⟩ = some (.int .i64 c)) := by
    unfold Hid; rw [hw1]; simp
  have HBK : Hid (w.heap.size < K) := by unfold Hid; omega
  have HW : Hid (Below w.heap.size w w1) := by unfold Hid; rw [hw1]; exact below_alloc1 _ _
  have HKs : Hid (w.heap.size ≤ K) := by unfold Hid; omega
  clear hK
  obtain ⟨R, hR⟩ : ∃ R : Int, R = if (Wd.mk u a b c).ok = true then 0 else 1 := ⟨_, rfl⟩
  rw [← hR]
  have HE : Hid ((okB u a = true → okB u b = true → okB u c = true → 0 = R) ∧ ((okB u a = false ∨ okB u b = false ∨ okB u c = false) → 1 = R)) := by
    refine ⟨fun h1 h2 h3 => ?_, fun h => ?_⟩
    · rw [hR, if_pos (Wd.ok_iff.2 ⟨h1, h2, h3⟩)]
    · have ho : ¬ (Wd.mk u a b c).ok = true := by
        intro ho
        obtain ⟨h1, h2, h3⟩ := Wd.ok_iff.1 ho
        simp only at h1 h2 h3
        rw [h1, h2, h3] at h
        simp at h
      rw [hR, if_neg ho]
  clear hR
  go_enter Tryd.func8, Tryd.ntmps8
  go_wp2
  rw [← hw1]
  clear hw1
  go_loopw [3] (fun i wr => ∃ k : Nat, k ≤ 3 ∧ i = .int .i64 k ∧ Below K w1 wr ∧ (1 ≤ k → okB u a = true) ∧ (2 ≤ k → okB u b = true) ∧ (3 ≤ k → okB u c = true)) (fun i _ => 3 - (intOf i).toNat)
  case atStart => exact ⟨0, Nat.zero_le _, rfl, Below.refl _ _, by omega, by omega, by omega⟩
  case round =>
    obtain ⟨k, hk, rfl, hbel, k1, k2, k3⟩ := hrel
    have x0 : wr.cell? ⟨w.heap.size, 0, none⟩ = some (.int .i64 u) := by rw [hbel.cell HBK.out]; exact HX.out.1
    have x1 : wr.cell? ⟨w.heap.size, 1, none⟩ = some (.int .i64 a) := by rw [hbel.cell HBK.out]; exact HX.out.2.1
    have x2 : wr.cell? ⟨w.heap.size, 2, none⟩ = some (.int .i64 b) := by rw [hbel.cell HBK.out]; exact HX.out.2.2.1
    have x3 : wr.cell? ⟨w.heap.size, 3, none⟩ = some (.int .i64 c) := by rw [hbel.cell HBK.out]; exact HX.out.2.2.2
    have HB : Hid (Below K w1 wr) := hbel
    have HKw : Hid (K ≤ wr.heap.size) := by unfold Hid; rw [← HK1.out]; exact hbel.size
    clear hbel
    obtain rfl | rfl | rfl | rfl : k = 0 ∨ k = 1 ∨ k = 2 ∨ k = 3 := by omega
    · clear k1 k2 k3 hk
      rcases (Bool.eq_false_or_eq_true (okB u a)).symm with ho | ho
      · have HO : Hid (okB u a = false) := ho
        clear ho
        go_wp2_with fail
        go_quiet (first | (go_at_call 27; exact Calls.quiet_of_same (quiet_set_no _ _ HO.out _)))
        go_wp2
        go_ret
        exact ⟨back_i (HE.out.2 (Or.inl HO.out)), HW.out.trans ((HB.out.mono HKs.out).trans ((below_drewNs _ _).mono (Nat.le_trans HKs.out HKw.out)))⟩
      · have HO : Hid (okB u a = true) := ho
        clear ho
        go_wp2_with fail
        go_quiet (first | (go_at_call 27; exact Calls.quiet_of_same (quiet_set_ok _ _ HO.out _)))
        go_wp2
        go_roundw
        case rel => exact ⟨1, by omega, by go_num, HB.out.trans ((below_drewNs _ _).mono HKw.out), fun _ => HO.out, fun h => by omega, fun h => by omega⟩
        case measure => simp [intOf]
    · have HO1 : Hid (okB u a = true) := k1 (by omega)
      clear k1 k2 k3 hk
      rcases (Bool.eq_false_or_eq_true (okB u b)).symm with ho | ho
      · have HO : Hid (okB u b = false) := ho
        clear ho
        go_wp2_with fail
        go_quiet (first | (go_at_call 27; exact Calls.quiet_of_same (quiet_set_no _ _ HO.out _)))
        go_wp2
        go_ret
        exact ⟨back_i (HE.out.2 (Or.inr (Or.inl HO.out))), HW.out.trans ((HB.out.mono HKs.out).trans ((below_drewNs _ _).mono (Nat.le_trans HKs.out HKw.out)))⟩
      · have HO : Hid (okB u b = true) := ho
        clear ho
        go_wp2_with fail
        go_quiet (first | (go_at_call 27; exact Calls.quiet_of_same (quiet_set_ok _ _ HO.out _)))
        go_wp2
        go_roundw
        case rel => exact ⟨2, by omega, by go_num, HB.out.trans ((below_drewNs _ _).mono HKw.out), fun _ => HO1.out, fun _ => HO.out, fun h => by omega⟩
        case measure => simp [intOf]
    · have HO1 : Hid (okB u a = true) := k1 (by omega)
      have HO2 : Hid (okB u b = true) := k2 (by omega)
      clear k1 k2 k3 hk
      rcases (Bool.eq_false_or_eq_true (okB u c)).symm with ho | ho
      · have HO : Hid (okB u c = false) := ho
        clear ho
        go_wp2_with fail
        go_quiet (first | (go_at_call 27; exact Calls.quiet_of_same (quiet_set_no _ _ HO.out _)))
        go_wp2
        go_ret
        exact ⟨back_i (HE.out.2 (Or.inr (Or.inr HO.out))), HW.out.trans ((HB.out.mono HKs.out).trans ((below_drewNs _ _).mono (Nat.le_trans HKs.out HKw.out)))⟩
      · have HO : Hid (okB u c = true) := ho
        clear ho
        go_wp2_with fail
        go_quiet (first | (go_at_call 27; exact Calls.quiet_of_same (quiet_set_ok _ _ HO.out _)))
        go_wp2
        go_roundw
        case rel => exact ⟨3, by omega, by go_num, HB.out.trans ((below_drewNs _ _).mono HKw.out), fun _ => HO1.out, fun _ => HO2.out, fun _ => HO.out⟩
        case measure => simp [intOf]
    · have HO : Hid (okB u a = true ∧ okB u b = true ∧ okB u c = true) := ⟨k1 (by omega), k2 (by omega), k3 (by omega)⟩
      clear k1 k2 k3 hk
      go_wp2
      go_ret
      exact ⟨back_i (HE.out.1 HO.out.1 HO.out.2.1 HO.out.2.2), HW.out.trans (HB.out.mono HKs.out)⟩
end Go.Proofs.YtgkgbpbohgklhafDoor
