/-
  Proved: what the reference's Term and World return, of any row of signs and any world; what was in memory is as it was (contracts that the statements lean on).
  Proved: what vennref1.Atom returns, of any atom; what was in memory is as it was (a contract that the statements lean on). Written by program.
-/
import Derived.Test.YthddegjnaigepagDoorLibC9
import Derived.Test.YthddegjnaigepagDoorLibC1
import Derived.Test.YthddegjnaigepagDoorLibC16
import Derived.Test.YthddegjnaigepagDoorLibC7
namespace Go.Proofs.YthddegjnaigepagDoor
open Go.ChangeShapes Go.WideShapes Go.ChangeAt Go.RowKit
set_option maxRecDepth 100000

theorem all_take_succ (t : List Int) {k : Nat} (h : k < t.length) : (t.take (k + 1)).all signB = ((t.take k).all signB && signB (t.getD k 0)) := by
  rw [take_succ_getD t h]; simp
theorem all_false_of {t : List Int} {k : Nat} (h : k < t.length) (hs : signB (t.getD k 0) = false) : ¬ t.all signB = true := by
  intro ha
  have := List.all_eq_true.1 ha (t.getD k 0) (by rw [List.getD_eq_getElem?_getD, List.getElem?_eq_getElem h]; exact List.getElem_mem h)
  rw [hs] at this; cases this

set_option maxRecDepth 100000 in
set_option maxHeartbeats 4000000 in
theorem refTerm_mid (b off cap : Nat) (t : List Int) (w : World) (h0 : 0 < t.length) (hl : t.length ≤ 12) (hc : ∀ k, k < t.length → w.cell? ⟨b, off + k, none⟩ = some (.int .i64 (t.getD k 0))) :
    Calls Tryd.prog 50 #[.slice (some ⟨b, off, none⟩) t.length cap] w fun e w' => e = .returned (.int .i64 (faultN t)) ∧ w = w' := by
  have HC : Hid (∀ k, k < t.length → w.cell? ⟨b, off + k, none⟩ = some (.int .i64 (t.getD k 0))) := hc
  clear hc
  obtain ⟨n, hn⟩ : ∃ n, n = t.length := ⟨_, rfl⟩
  rw [← hn] at h0 hl ⊢
  have HN : Hid (n = t.length) := hn
  obtain ⟨F, hF⟩ : ∃ F, F = faultN t := ⟨_, rfl⟩
  rw [← hF]
  have HF : Hid (F = if t.all signB = true then (if cnt t 0 = some 1 then 0 else 3) else 1) := by
    unfold Hid; rw [hF]; unfold faultN; rw [if_neg (by omega), if_neg (by omega)]
  clear hn hF
  go_enter Tryd.func50, Tryd.ntmps50
  go_wp2
  go_loop [3] (fun i => ∃ k : Nat, k ≤ n ∧ i = .int .i64 k ∧ (t.take k).all signB = true) (fun i => n - (intOf i).toNat)
  case atStart => exact ⟨0, Nat.zero_le _, rfl, by simp⟩
  case round =>
    obtain ⟨k, hk, rfl, hall⟩ := hrel
    have HA : Hid ((t.take k).all signB = true) := hall
    clear hall
    by_cases hlt : k < n
    · obtain ⟨s, hs⟩ : ∃ s, s = t.getD k 0 := ⟨_, rfl⟩
      have hkt : k < t.length := by rw [← HN.out]; exact hlt
      have hc := HC.out k hkt
      rw [← hs] at hc
      by_cases hlo : s < 0
      · have HE : Hid (1 = F) := by
          have := all_false_of hkt (by rw [← hs]; simp [signB]; omega)
          unfold Hid; rw [HF.out, if_neg this]
        clear hs hkt
        go_wp2
        go_ret
        exact ⟨back_i HE.out, rfl⟩
      by_cases hhi : 8 < s
      · have HE : Hid (1 = F) := by
          have := all_false_of hkt (by rw [← hs]; simp [signB]; omega)
          unfold Hid; rw [HF.out, if_neg this]
        clear hs hkt
        go_wp2
        go_ret
        exact ⟨back_i HE.out, rfl⟩
      have HA2 : Hid ((t.take (k + 1)).all signB = true) := by
        have : signB s = true := by simp [signB]; omega
        unfold Hid; rw [all_take_succ t hkt, HA.out, ← hs, this]; rfl
      clear hs hkt
      go_wp2
      go_round
      case rel => exact ⟨k + 1, by omega, by go_num, HA2.out⟩
      case measure => simp [intOf]; omega
    · have HAll : Hid (t.all signB = true) := by
        have := HA.out
        rw [List.take_of_length_le (by have := HN.out; omega)] at this
        exact this
      clear HA
      go_wp2
      go_loop [4, 5] (fun c i => ∃ (k : Nat) (m : Int), k ≤ n ∧ i = .int .i64 k ∧ c = .int .i64 m ∧ cnt (t.take k) 0 = some m) (fun _ i => n - (intOf i).toNat)
      case atStart => exact ⟨0, 0, Nat.zero_le _, rfl, rfl, rfl⟩
      case round =>
        clear hlt hk
        obtain ⟨k, m, hk, rfl, rfl, hm⟩ := hrel
        have HM : Hid (cnt (t.take k) 0 = some m) := hm
        have hm0 : 0 ≤ m ∧ m ≤ 12 := by
          have := cnt_nonneg (Int.le_refl 0) hm
          simp at this
          omega
        clear hm
        by_cases hlt : k < n
        · obtain ⟨s, hs⟩ : ∃ s, s = t.getD k 0 := ⟨_, rfl⟩
          have hkt : k < t.length := by rw [← HN.out]; exact hlt
          have hc := HC.out k hkt
          rw [← hs] at hc
          have hsg : 0 ≤ s ∧ s ≤ 8 := by
            refine signB_iff.1 (List.all_eq_true.1 HAll.out s ?_)
            rw [hs, List.getD_eq_getElem?_getD, List.getElem?_eq_getElem hkt]; exact List.getElem_mem hkt
          have HD : Hid (cnt (t.take (k + 1)) 0 = if m < takesN s then none else some (m + 1 - takesN s)) := by
            have := cnt_take_succ t hkt HM.out
            rw [← hs] at this; exact this
          have HNo : Hid (m < takesN s → 3 = F) := fun hb => by
            have h1 := HD.out
            rw [if_pos hb] at h1
            have h2 := cnt_take_none t (k + 1) h1
            rw [HF.out, if_pos HAll.out, if_neg (by rw [h2]; simp)]
          have HYes : Hid (¬ m < takesN s → cnt (t.take (k + 1)) 0 = some (m + 1 - takesN s)) := fun hb => by
            have h1 := HD.out
            rw [if_neg hb] at h1; exact h1
          clear hs hkt HD
          by_cases h5 : s < 5
          · have HE : Hid (cnt (t.take (k + 1)) 0 = some (m + 1)) := by
              have := HYes.out (by rw [takes5 s h5]; omega)
              rw [takes5 s h5] at this; rw [show m + 1 = m + 1 - 0 by omega]; exact this
            go_wp2
            go_round
            case rel => exact ⟨k + 1, _, by omega, by go_num, rfl, HE.out⟩
            case measure => simp [intOf]; omega
          by_cases h8 : s < 8
          · have ht := takes2 s (by omega) (by omega)
            by_cases hb : m < 2
            · have HE : Hid (3 = F) := HNo.out (by rw [ht]; exact hb)
              clear ht
              by_cases hb1 : m < 1
              · go_wp2
                go_ret
                exact ⟨back_i HE.out, rfl⟩
              · go_wp2
                go_ret
                exact ⟨back_i HE.out, rfl⟩
            · have HE : Hid (cnt (t.take (k + 1)) 0 = some (m - 1)) := by
                have := HYes.out (by rw [ht]; omega)
                rw [ht] at this; rw [show m - 1 = m + 1 - 2 by omega]; exact this
              have hb1 : ¬ m < 1 := by omega
              clear ht
              go_wp2
              go_round
              case rel => exact ⟨k + 1, _, by omega, by go_num, rfl, HE.out⟩
              case measure => simp [intOf]; omega
          · obtain rfl : s = 8 := by omega
            by_cases hb : m < 1
            · have HE : Hid (3 = F) := HNo.out (by rw [takes1]; exact hb)
              go_wp2
              go_ret
              exact ⟨back_i HE.out, rfl⟩
            · have HE : Hid (cnt (t.take (k + 1)) 0 = some m) := by
                have := HYes.out (by rw [takes1]; exact hb)
                rw [takes1] at this; rw [show m = m + 1 - 1 by omega]; exact this
              go_wp2
              go_round
              case rel => exact ⟨k + 1, _, by omega, by go_num, rfl, HE.out⟩
              case measure => simp [intOf]; omega
        · have HE : Hid (cnt t 0 = some m) := by
            have h1 := HM.out
            rw [List.take_of_length_le (by have := HN.out; omega)] at h1; exact h1
          by_cases h1 : m = 1
          · have HG : Hid (0 = F) := by unfold Hid; rw [HF.out, if_pos HAll.out, HE.out, if_pos (by rw [h1])]
            subst h1
            go_wp2
            go_ret
            exact ⟨back_i HG.out, rfl⟩
          · have HG : Hid (3 = F) := by unfold Hid; rw [HF.out, if_pos HAll.out, HE.out, if_neg (by simpa using h1)]
            have h1' : (m != 1) = true := by simpa using h1
            clear h1
            go_wp2
            go_ret
            exact ⟨back_i HG.out, rfl⟩

theorem refTerm_any (t : List Int) (v : Value) (w : World) (h : Reads w v t) :
    Calls Tryd.prog 50 #[v] w fun e w' => e = .returned (.int .i64 (faultN t)) ∧ w = w' := by
  rcases h with ⟨ao, cap, rfl, rfl⟩ | ⟨b, off, cap, rfl, -, h0, ⟨hl, _⟩, hc⟩
  · go_enter Tryd.func50, Tryd.ntmps50
    go_wp2
    go_ret
    exact ⟨rfl, rfl⟩
  · by_cases h12 : 12 < t.length
    · have e : faultN t = 4 := by unfold faultN; rw [if_neg (by omega), if_pos h12]
      rw [e]
      clear e hc
      obtain ⟨n, hn⟩ : ∃ n, n = t.length := ⟨_, rfl⟩
      rw [← hn] at h0 hl h12 ⊢
      clear hn
      go_enter Tryd.func50, Tryd.ntmps50
      go_wp2
      go_ret
      exact ⟨rfl, rfl⟩
    · exact refTerm_mid b off cap t w h0 (by omega) hc

end Go.Proofs.YthddegjnaigepagDoor

namespace Go.Proofs.YthddegjnaigepagDoor
open Go.ChangeShapes Go.WideShapes Go.ChangeAt Go.RowKit
set_option maxRecDepth 100000

set_option linter.unusedVariables false in
set_option maxHeartbeats 4000000 in
theorem refAtom_1 (n : Int) (sao tao : Option Addr) (sl scap tl tcap : Nat) (s t : List Int) (hl : tl = t.length) (w : World)
    (hS : ∀ W, Below w.heap.size w W → Calls Tryd.prog 50 #[.slice sao sl scap] W fun e w' => e = .returned (.int .i64 (faultN s)) ∧ W = w')
    (hT : ∀ W, Below w.heap.size w W → Calls Tryd.prog 50 #[.slice tao tl tcap] W fun e w' => e = .returned (.int .i64 (faultN t)) ∧ W = w') :
    Calls Tryd.prog 30 #[.agg #[.int .i64 1, .slice sao sl scap, .slice tao tl tcap, .int .i64 n]] w fun e w' => e = .returned (.int .i64 (atomFault 1 s t n)) ∧ Below w.heap.size w w' := by
  obtain ⟨w1, hw1⟩ : ∃ w1, w1 = w.alloc (.cells #[.int .i64 1, .slice sao sl scap, .slice tao tl tcap, .int .i64 n] 39) := ⟨_, rfl⟩
  have HB1 : Hid (Below w.heap.size w w1) := by unfold Hid; rw [hw1]; exact below_alloc1 w _
  obtain ⟨x0, x1, x2, x3⟩ : w1.cell? ⟨w.heap.size, 0, none⟩ = some (.int .i64 1) ∧ w1.cell? ⟨w.heap.size, 1, none⟩ = some (.slice sao sl scap) ∧ w1.cell? ⟨w.heap.size, 2, none⟩ = some (.slice tao tl tcap) ∧ w1.cell? ⟨w.heap.size, 3, none⟩ = some (.int .i64 n) := by rw [hw1]; simp
  have HS : Hid (Calls Tryd.prog 50 #[.slice sao sl scap] w1 fun e w' => e = .returned (.int .i64 (faultN s)) ∧ w1 = w') := hS w1 HB1.out
  have HT : Hid (Calls Tryd.prog 50 #[.slice tao tl tcap] w1 fun e w' => e = .returned (.int .i64 (faultN t)) ∧ w1 = w') := hT w1 HB1.out
  have HL : Hid (tl = t.length) := hl
  clear hS hT hl
  have hk : (1 : Int) ≤ 1 ∧ (1 : Int) ≤ 5 := by decide
  obtain ⟨F, hF⟩ : ∃ F, F = atomFault 1 s t n := ⟨_, rfl⟩
  rw [← hF]
  by_cases hs : faultN s = 0
  · rw [hs] at HS
    by_cases ht : faultN t = 0
    · rw [ht] at HT
      have hsf : secondFault 1 t = 0 := by unfold secondFault; rw [if_pos (by decide), ht]
      clear ht
      rw [atomFault_third hk hs hsf] at hF
      have hmo : mostN 1 = 0 := by decide
      rw [hmo] at hF
      clear hmo hs hsf
      by_cases h1 : n < -20
      · rw [if_neg (by omega)] at hF
        subst hF
        go_enter Tryd.func30, Tryd.ntmps30
        go_wp2_with fail
        rw [← hw1]
        clear hw1
        go_at_call 50
        refine HS.out.mono ?_
        rintro e w' ⟨rfl, rfl⟩
        go_wp2_with fail
        go_at_call 50
        refine HT.out.mono ?_
        rintro e w' ⟨rfl, rfl⟩
        go_wp2
        go_ret
        exact ⟨rfl, HB1.out⟩
      by_cases h2 : 20 < n
      · rw [if_neg (by omega)] at hF
        subst hF
        go_enter Tryd.func30, Tryd.ntmps30
        go_wp2_with fail
        rw [← hw1]
        clear hw1
        go_at_call 50
        refine HS.out.mono ?_
        rintro e w' ⟨rfl, rfl⟩
        go_wp2_with fail
        go_at_call 50
        refine HT.out.mono ?_
        rintro e w' ⟨rfl, rfl⟩
        go_wp2
        go_ret
        exact ⟨rfl, HB1.out⟩
      by_cases h3 : n = 0
      · rw [if_pos (by omega)] at hF
        subst hF h3
        go_enter Tryd.func30, Tryd.ntmps30
        go_wp2_with fail
        rw [← hw1]
        clear hw1
        go_at_call 50
        refine HS.out.mono ?_
        rintro e w' ⟨rfl, rfl⟩
        go_wp2_with fail
        go_at_call 50
        refine HT.out.mono ?_
        rintro e w' ⟨rfl, rfl⟩
        go_wp2
        go_ret
        exact ⟨rfl, HB1.out⟩
      · have h3' : (n != 0) = true := by simpa using h3
        rw [if_neg (by omega)] at hF
        subst hF
        go_enter Tryd.func30, Tryd.ntmps30
        go_wp2_with fail
        rw [← hw1]
        clear hw1
        go_at_call 50
        refine HS.out.mono ?_
        rintro e w' ⟨rfl, rfl⟩
        go_wp2_with fail
        go_at_call 50
        refine HT.out.mono ?_
        rintro e w' ⟨rfl, rfl⟩
        go_wp2
        go_ret
        exact ⟨rfl, HB1.out⟩
    · have hsf : secondFault 1 t = faultN t := by unfold secondFault; rw [if_pos (by decide)]
      rw [atomFault_second hk hs (by rw [hsf]; exact ht), hsf] at hF
      rw [← hF] at HT ht
      have ht' : (F != 0) = true := by simpa using ht
      clear hF ht hsf hs
      go_enter Tryd.func30, Tryd.ntmps30
      go_wp2_with fail
      rw [← hw1]
      clear hw1
      go_at_call 50
      refine HS.out.mono ?_
      rintro e w' ⟨rfl, rfl⟩
      go_wp2_with fail
      go_at_call 50
      refine HT.out.mono ?_
      rintro e w' ⟨rfl, rfl⟩
      go_wp2
      go_ret
      exact ⟨rfl, HB1.out⟩
  · rw [atomFault_first hk hs] at hF
    rw [← hF] at HS hs
    have hs' : (F != 0) = true := by simpa using hs
    clear hF hs
    go_enter Tryd.func30, Tryd.ntmps30
    go_wp2_with fail
    rw [← hw1]
    clear hw1
    go_at_call 50
    refine HS.out.mono ?_
    rintro e w' ⟨rfl, rfl⟩
    go_wp2
    go_ret
    exact ⟨rfl, HB1.out⟩

set_option linter.unusedVariables false in
set_option maxHeartbeats 4000000 in
theorem refAtom_2 (n : Int) (sao tao : Option Addr) (sl scap tl tcap : Nat) (s t : List Int) (hl : tl = t.length) (w : World)
    (hS : ∀ W, Below w.heap.size w W → Calls Tryd.prog 50 #[.slice sao sl scap] W fun e w' => e = .returned (.int .i64 (faultN s)) ∧ W = w')
    (hT : ∀ W, Below w.heap.size w W → Calls Tryd.prog 50 #[.slice tao tl tcap] W fun e w' => e = .returned (.int .i64 (faultN t)) ∧ W = w') :
    Calls Tryd.prog 30 #[.agg #[.int .i64 2, .slice sao sl scap, .slice tao tl tcap, .int .i64 n]] w fun e w' => e = .returned (.int .i64 (atomFault 2 s t n)) ∧ Below w.heap.size w w' := by
  obtain ⟨w1, hw1⟩ : ∃ w1, w1 = w.alloc (.cells #[.int .i64 2, .slice sao sl scap, .slice tao tl tcap, .int .i64 n] 39) := ⟨_, rfl⟩
  have HB1 : Hid (Below w.heap.size w w1) := by unfold Hid; rw [hw1]; exact below_alloc1 w _
  obtain ⟨x0, x1, x2, x3⟩ : w1.cell? ⟨w.heap.size, 0, none⟩ = some (.int .i64 2) ∧ w1.cell? ⟨w.heap.size, 1, none⟩ = some (.slice sao sl scap) ∧ w1.cell? ⟨w.heap.size, 2, none⟩ = some (.slice tao tl tcap) ∧ w1.cell? ⟨w.heap.size, 3, none⟩ = some (.int .i64 n) := by rw [hw1]; simp
  have HS : Hid (Calls Tryd.prog 50 #[.slice sao sl scap] w1 fun e w' => e = .returned (.int .i64 (faultN s)) ∧ w1 = w') := hS w1 HB1.out
  have HT : Hid (Calls Tryd.prog 50 #[.slice tao tl tcap] w1 fun e w' => e = .returned (.int .i64 (faultN t)) ∧ w1 = w') := hT w1 HB1.out
  have HL : Hid (tl = t.length) := hl
  clear hS hT hl
  have hk : (1 : Int) ≤ 2 ∧ (2 : Int) ≤ 5 := by decide
  obtain ⟨F, hF⟩ : ∃ F, F = atomFault 2 s t n := ⟨_, rfl⟩
  rw [← hF]
  by_cases hs : faultN s = 0
  · rw [hs] at HS
    by_cases ht : faultN t = 0
    · rw [ht] at HT
      have hsf : secondFault 2 t = 0 := by unfold secondFault; rw [if_pos (by decide), ht]
      clear ht
      rw [atomFault_third hk hs hsf] at hF
      have hmo : mostN 2 = 0 := by decide
      rw [hmo] at hF
      clear hmo hs hsf
      by_cases h1 : n < -20
      · rw [if_neg (by omega)] at hF
        subst hF
        go_enter Tryd.func30, Tryd.ntmps30
        go_wp2_with fail
        rw [← hw1]
        clear hw1
        go_at_call 50
        refine HS.out.mono ?_
        rintro e w' ⟨rfl, rfl⟩
        go_wp2_with fail
        go_at_call 50
        refine HT.out.mono ?_
        rintro e w' ⟨rfl, rfl⟩
        go_wp2
        go_ret
        exact ⟨rfl, HB1.out⟩
      by_cases h2 : 20 < n
      · rw [if_neg (by omega)] at hF
        subst hF
        go_enter Tryd.func30, Tryd.ntmps30
        go_wp2_with fail
        rw [← hw1]
        clear hw1
        go_at_call 50
        refine HS.out.mono ?_
        rintro e w' ⟨rfl, rfl⟩
        go_wp2_with fail
        go_at_call 50
        refine HT.out.mono ?_
        rintro e w' ⟨rfl, rfl⟩
        go_wp2
        go_ret
        exact ⟨rfl, HB1.out⟩
      by_cases h3 : n = 0
      · rw [if_pos (by omega)] at hF
        subst hF h3
        go_enter Tryd.func30, Tryd.ntmps30
        go_wp2_with fail
        rw [← hw1]
        clear hw1
        go_at_call 50
        refine HS.out.mono ?_
        rintro e w' ⟨rfl, rfl⟩
        go_wp2_with fail
        go_at_call 50
        refine HT.out.mono ?_
        rintro e w' ⟨rfl, rfl⟩
        go_wp2
        go_ret
        exact ⟨rfl, HB1.out⟩
      · have h3' : (n != 0) = true := by simpa using h3
        rw [if_neg (by omega)] at hF
        subst hF
        go_enter Tryd.func30, Tryd.ntmps30
        go_wp2_with fail
        rw [← hw1]
        clear hw1
        go_at_call 50
        refine HS.out.mono ?_
        rintro e w' ⟨rfl, rfl⟩
        go_wp2_with fail
        go_at_call 50
        refine HT.out.mono ?_
        rintro e w' ⟨rfl, rfl⟩
        go_wp2
        go_ret
        exact ⟨rfl, HB1.out⟩
    · have hsf : secondFault 2 t = faultN t := by unfold secondFault; rw [if_pos (by decide)]
      rw [atomFault_second hk hs (by rw [hsf]; exact ht), hsf] at hF
      rw [← hF] at HT ht
      have ht' : (F != 0) = true := by simpa using ht
      clear hF ht hsf hs
      go_enter Tryd.func30, Tryd.ntmps30
      go_wp2_with fail
      rw [← hw1]
      clear hw1
      go_at_call 50
      refine HS.out.mono ?_
      rintro e w' ⟨rfl, rfl⟩
      go_wp2_with fail
      go_at_call 50
      refine HT.out.mono ?_
      rintro e w' ⟨rfl, rfl⟩
      go_wp2
      go_ret
      exact ⟨rfl, HB1.out⟩
  · rw [atomFault_first hk hs] at hF
    rw [← hF] at HS hs
    have hs' : (F != 0) = true := by simpa using hs
    clear hF hs
    go_enter Tryd.func30, Tryd.ntmps30
    go_wp2_with fail
    rw [← hw1]
    clear hw1
    go_at_call 50
    refine HS.out.mono ?_
    rintro e w' ⟨rfl, rfl⟩
    go_wp2
    go_ret
    exact ⟨rfl, HB1.out⟩

set_option linter.unusedVariables false in
set_option maxHeartbeats 4000000 in
theorem refAtom_3 (n : Int) (sao tao : Option Addr) (sl scap tl tcap : Nat) (s t : List Int) (hl : tl = t.length) (w : World)
    (hS : ∀ W, Below w.heap.size w W → Calls Tryd.prog 50 #[.slice sao sl scap] W fun e w' => e = .returned (.int .i64 (faultN s)) ∧ W = w')
    (hT : ∀ W, Below w.heap.size w W → Calls Tryd.prog 50 #[.slice tao tl tcap] W fun e w' => e = .returned (.int .i64 (faultN t)) ∧ W = w') :
    Calls Tryd.prog 30 #[.agg #[.int .i64 3, .slice sao sl scap, .slice tao tl tcap, .int .i64 n]] w fun e w' => e = .returned (.int .i64 (atomFault 3 s t n)) ∧ Below w.heap.size w w' := by
  obtain ⟨w1, hw1⟩ : ∃ w1, w1 = w.alloc (.cells #[.int .i64 3, .slice sao sl scap, .slice tao tl tcap, .int .i64 n] 39) := ⟨_, rfl⟩
  have HB1 : Hid (Below w.heap.size w w1) := by unfold Hid; rw [hw1]; exact below_alloc1 w _
  obtain ⟨x0, x1, x2, x3⟩ : w1.cell? ⟨w.heap.size, 0, none⟩ = some (.int .i64 3) ∧ w1.cell? ⟨w.heap.size, 1, none⟩ = some (.slice sao sl scap) ∧ w1.cell? ⟨w.heap.size, 2, none⟩ = some (.slice tao tl tcap) ∧ w1.cell? ⟨w.heap.size, 3, none⟩ = some (.int .i64 n) := by rw [hw1]; simp
  have HS : Hid (Calls Tryd.prog 50 #[.slice sao sl scap] w1 fun e w' => e = .returned (.int .i64 (faultN s)) ∧ w1 = w') := hS w1 HB1.out
  have HT : Hid (Calls Tryd.prog 50 #[.slice tao tl tcap] w1 fun e w' => e = .returned (.int .i64 (faultN t)) ∧ w1 = w') := hT w1 HB1.out
  have HL : Hid (tl = t.length) := hl
  clear hS hT hl
  have hk : (1 : Int) ≤ 3 ∧ (3 : Int) ≤ 5 := by decide
  obtain ⟨F, hF⟩ : ∃ F, F = atomFault 3 s t n := ⟨_, rfl⟩
  rw [← hF]
  by_cases hs : faultN s = 0
  · rw [hs] at HS
    by_cases ht : 0 < t.length
    · have hsf : secondFault 3 t = 3 := by unfold secondFault; rw [if_neg (by decide), if_pos ht]
      rw [atomFault_second hk hs (by rw [hsf]; decide), hsf] at hF
      rw [← HL.out] at ht
      subst hF
      clear hsf hs
      go_enter Tryd.func30, Tryd.ntmps30
      go_wp2_with fail
      rw [← hw1]
      clear hw1
      go_at_call 50
      refine HS.out.mono ?_
      rintro e w' ⟨rfl, rfl⟩
      go_wp2
      go_ret
      exact ⟨rfl, HB1.out⟩
    · have hsf : secondFault 3 t = 0 := by unfold secondFault; rw [if_neg (by decide), if_neg ht]
      obtain rfl : tl = 0 := by have := HL.out; omega
      clear ht
      rw [atomFault_third hk hs hsf] at hF
      have hmo : mostN 3 = 20 := by decide
      rw [hmo] at hF
      clear hmo hs hsf
      by_cases h1 : n < -20
      · rw [if_neg (by omega)] at hF
        subst hF
        go_enter Tryd.func30, Tryd.ntmps30
        go_wp2_with fail
        rw [← hw1]
        clear hw1
        go_at_call 50
        refine HS.out.mono ?_
        rintro e w' ⟨rfl, rfl⟩
        go_wp2
        go_ret
        exact ⟨rfl, HB1.out⟩
      by_cases h2 : 20 < n
      · rw [if_neg (by omega)] at hF
        subst hF
        go_enter Tryd.func30, Tryd.ntmps30
        go_wp2_with fail
        rw [← hw1]
        clear hw1
        go_at_call 50
        refine HS.out.mono ?_
        rintro e w' ⟨rfl, rfl⟩
        go_wp2
        go_ret
        exact ⟨rfl, HB1.out⟩
      rw [if_pos (by omega)] at hF
      subst hF
      go_enter Tryd.func30, Tryd.ntmps30
      go_wp2_with fail
      rw [← hw1]
      clear hw1
      go_at_call 50
      refine HS.out.mono ?_
      rintro e w' ⟨rfl, rfl⟩
      go_wp2
      go_ret
      exact ⟨rfl, HB1.out⟩
  · rw [atomFault_first hk hs] at hF
    rw [← hF] at HS hs
    have hs' : (F != 0) = true := by simpa using hs
    clear hF hs
    go_enter Tryd.func30, Tryd.ntmps30
    go_wp2_with fail
    rw [← hw1]
    clear hw1
    go_at_call 50
    refine HS.out.mono ?_
    rintro e w' ⟨rfl, rfl⟩
    go_wp2
    go_ret
    exact ⟨rfl, HB1.out⟩

set_option linter.unusedVariables false in
set_option maxHeartbeats 4000000 in
theorem refAtom_4 (n : Int) (sao tao : Option Addr) (sl scap tl tcap : Nat) (s t : List Int) (hl : tl = t.length) (w : World)
    (hS : ∀ W, Below w.heap.size w W → Calls Tryd.prog 50 #[.slice sao sl scap] W fun e w' => e = .returned (.int .i64 (faultN s)) ∧ W = w')
    (hT : ∀ W, Below w.heap.size w W → Calls Tryd.prog 50 #[.slice tao tl tcap] W fun e w' => e = .returned (.int .i64 (faultN t)) ∧ W = w') :
    Calls Tryd.prog 30 #[.agg #[.int .i64 4, .slice sao sl scap, .slice tao tl tcap, .int .i64 n]] w fun e w' => e = .returned (.int .i64 (atomFault 4 s t n)) ∧ Below w.heap.size w w' := by
  obtain ⟨w1, hw1⟩ : ∃ w1, w1 = w.alloc (.cells #[.int .i64 4, .slice sao sl scap, .slice tao tl tcap, .int .i64 n] 39) := ⟨_, rfl⟩
  have HB1 : Hid (Below w.heap.size w w1) := by unfold Hid; rw [hw1]; exact below_alloc1 w _
  obtain ⟨x0, x1, x2, x3⟩ : w1.cell? ⟨w.heap.size, 0, none⟩ = some (.int .i64 4) ∧ w1.cell? ⟨w.heap.size, 1, none⟩ = some (.slice sao sl scap) ∧ w1.cell? ⟨w.heap.size, 2, none⟩ = some (.slice tao tl tcap) ∧ w1.cell? ⟨w.heap.size, 3, none⟩ = some (.int .i64 n) := by rw [hw1]; simp
  have HS : Hid (Calls Tryd.prog 50 #[.slice sao sl scap] w1 fun e w' => e = .returned (.int .i64 (faultN s)) ∧ w1 = w') := hS w1 HB1.out
  have HT : Hid (Calls Tryd.prog 50 #[.slice tao tl tcap] w1 fun e w' => e = .returned (.int .i64 (faultN t)) ∧ w1 = w') := hT w1 HB1.out
  have HL : Hid (tl = t.length) := hl
  clear hS hT hl
  have hk : (1 : Int) ≤ 4 ∧ (4 : Int) ≤ 5 := by decide
  obtain ⟨F, hF⟩ : ∃ F, F = atomFault 4 s t n := ⟨_, rfl⟩
  rw [← hF]
  by_cases hs : faultN s = 0
  · rw [hs] at HS
    by_cases ht : 0 < t.length
    · have hsf : secondFault 4 t = 3 := by unfold secondFault; rw [if_neg (by decide), if_pos ht]
      rw [atomFault_second hk hs (by rw [hsf]; decide), hsf] at hF
      rw [← HL.out] at ht
      subst hF
      clear hsf hs
      go_enter Tryd.func30, Tryd.ntmps30
      go_wp2_with fail
      rw [← hw1]
      clear hw1
      go_at_call 50
      refine HS.out.mono ?_
      rintro e w' ⟨rfl, rfl⟩
      go_wp2
      go_ret
      exact ⟨rfl, HB1.out⟩
    · have hsf : secondFault 4 t = 0 := by unfold secondFault; rw [if_neg (by decide), if_neg ht]
      obtain rfl : tl = 0 := by have := HL.out; omega
      clear ht
      rw [atomFault_third hk hs hsf] at hF
      have hmo : mostN 4 = 20 := by decide
      rw [hmo] at hF
      clear hmo hs hsf
      by_cases h1 : n < -20
      · rw [if_neg (by omega)] at hF
        subst hF
        go_enter Tryd.func30, Tryd.ntmps30
        go_wp2_with fail
        rw [← hw1]
        clear hw1
        go_at_call 50
        refine HS.out.mono ?_
        rintro e w' ⟨rfl, rfl⟩
        go_wp2
        go_ret
        exact ⟨rfl, HB1.out⟩
      by_cases h2 : 20 < n
      · rw [if_neg (by omega)] at hF
        subst hF
        go_enter Tryd.func30, Tryd.ntmps30
        go_wp2_with fail
        rw [← hw1]
        clear hw1
        go_at_call 50
        refine HS.out.mono ?_
        rintro e w' ⟨rfl, rfl⟩
        go_wp2
        go_ret
        exact ⟨rfl, HB1.out⟩
      rw [if_pos (by omega)] at hF
      subst hF
      go_enter Tryd.func30, Tryd.ntmps30
      go_wp2_with fail
      rw [← hw1]
      clear hw1
      go_at_call 50
      refine HS.out.mono ?_
      rintro e w' ⟨rfl, rfl⟩
      go_wp2
      go_ret
      exact ⟨rfl, HB1.out⟩
  · rw [atomFault_first hk hs] at hF
    rw [← hF] at HS hs
    have hs' : (F != 0) = true := by simpa using hs
    clear hF hs
    go_enter Tryd.func30, Tryd.ntmps30
    go_wp2_with fail
    rw [← hw1]
    clear hw1
    go_at_call 50
    refine HS.out.mono ?_
    rintro e w' ⟨rfl, rfl⟩
    go_wp2
    go_ret
    exact ⟨rfl, HB1.out⟩

set_option linter.unusedVariables false in
set_option maxHeartbeats 4000000 in
theorem refAtom_5 (n : Int) (sao tao : Option Addr) (sl scap tl tcap : Nat) (s t : List Int) (hl : tl = t.length) (w : World)
    (hS : ∀ W, Below w.heap.size w W → Calls Tryd.prog 50 #[.slice sao sl scap] W fun e w' => e = .returned (.int .i64 (faultN s)) ∧ W = w')
    (hT : ∀ W, Below w.heap.size w W → Calls Tryd.prog 50 #[.slice tao tl tcap] W fun e w' => e = .returned (.int .i64 (faultN t)) ∧ W = w') :
    Calls Tryd.prog 30 #[.agg #[.int .i64 5, .slice sao sl scap, .slice tao tl tcap, .int .i64 n]] w fun e w' => e = .returned (.int .i64 (atomFault 5 s t n)) ∧ Below w.heap.size w w' := by
  obtain ⟨w1, hw1⟩ : ∃ w1, w1 = w.alloc (.cells #[.int .i64 5, .slice sao sl scap, .slice tao tl tcap, .int .i64 n] 39) := ⟨_, rfl⟩
  have HB1 : Hid (Below w.heap.size w w1) := by unfold Hid; rw [hw1]; exact below_alloc1 w _
  obtain ⟨x0, x1, x2, x3⟩ : w1.cell? ⟨w.heap.size, 0, none⟩ = some (.int .i64 5) ∧ w1.cell? ⟨w.heap.size, 1, none⟩ = some (.slice sao sl scap) ∧ w1.cell? ⟨w.heap.size, 2, none⟩ = some (.slice tao tl tcap) ∧ w1.cell? ⟨w.heap.size, 3, none⟩ = some (.int .i64 n) := by rw [hw1]; simp
  have HS : Hid (Calls Tryd.prog 50 #[.slice sao sl scap] w1 fun e w' => e = .returned (.int .i64 (faultN s)) ∧ w1 = w') := hS w1 HB1.out
  have HT : Hid (Calls Tryd.prog 50 #[.slice tao tl tcap] w1 fun e w' => e = .returned (.int .i64 (faultN t)) ∧ w1 = w') := hT w1 HB1.out
  have HL : Hid (tl = t.length) := hl
  clear hS hT hl
  have hk : (1 : Int) ≤ 5 ∧ (5 : Int) ≤ 5 := by decide
  obtain ⟨F, hF⟩ : ∃ F, F = atomFault 5 s t n := ⟨_, rfl⟩
  rw [← hF]
  by_cases hs : faultN s = 0
  · rw [hs] at HS
    by_cases ht : faultN t = 0
    · rw [ht] at HT
      have hsf : secondFault 5 t = 0 := by unfold secondFault; rw [if_pos (by decide), ht]
      clear ht
      rw [atomFault_third hk hs hsf] at hF
      have hmo : mostN 5 = 20 := by decide
      rw [hmo] at hF
      clear hmo hs hsf
      by_cases h1 : n < -20
      · rw [if_neg (by omega)] at hF
        subst hF
        go_enter Tryd.func30, Tryd.ntmps30
        go_wp2_with fail
        rw [← hw1]
        clear hw1
        go_at_call 50
        refine HS.out.mono ?_
        rintro e w' ⟨rfl, rfl⟩
        go_wp2_with fail
        go_at_call 50
        refine HT.out.mono ?_
        rintro e w' ⟨rfl, rfl⟩
        go_wp2
        go_ret
        exact ⟨rfl, HB1.out⟩
      by_cases h2 : 20 < n
      · rw [if_neg (by omega)] at hF
        subst hF
        go_enter Tryd.func30, Tryd.ntmps30
        go_wp2_with fail
        rw [← hw1]
        clear hw1
        go_at_call 50
        refine HS.out.mono ?_
        rintro e w' ⟨rfl, rfl⟩
        go_wp2_with fail
        go_at_call 50
        refine HT.out.mono ?_
        rintro e w' ⟨rfl, rfl⟩
        go_wp2
        go_ret
        exact ⟨rfl, HB1.out⟩
      rw [if_pos (by omega)] at hF
      subst hF
      go_enter Tryd.func30, Tryd.ntmps30
      go_wp2_with fail
      rw [← hw1]
      clear hw1
      go_at_call 50
      refine HS.out.mono ?_
      rintro e w' ⟨rfl, rfl⟩
      go_wp2_with fail
      go_at_call 50
      refine HT.out.mono ?_
      rintro e w' ⟨rfl, rfl⟩
      go_wp2
      go_ret
      exact ⟨rfl, HB1.out⟩
    · have hsf : secondFault 5 t = faultN t := by unfold secondFault; rw [if_pos (by decide)]
      rw [atomFault_second hk hs (by rw [hsf]; exact ht), hsf] at hF
      rw [← hF] at HT ht
      have ht' : (F != 0) = true := by simpa using ht
      clear hF ht hsf hs
      go_enter Tryd.func30, Tryd.ntmps30
      go_wp2_with fail
      rw [← hw1]
      clear hw1
      go_at_call 50
      refine HS.out.mono ?_
      rintro e w' ⟨rfl, rfl⟩
      go_wp2_with fail
      go_at_call 50
      refine HT.out.mono ?_
      rintro e w' ⟨rfl, rfl⟩
      go_wp2
      go_ret
      exact ⟨rfl, HB1.out⟩
  · rw [atomFault_first hk hs] at hF
    rw [← hF] at HS hs
    have hs' : (F != 0) = true := by simpa using hs
    clear hF hs
    go_enter Tryd.func30, Tryd.ntmps30
    go_wp2_with fail
    rw [← hw1]
    clear hw1
    go_at_call 50
    refine HS.out.mono ?_
    rintro e w' ⟨rfl, rfl⟩
    go_wp2
    go_ret
    exact ⟨rfl, HB1.out⟩

/-- Atom, whatever the atom. -/
theorem refAtom_any (k n : Int) (vs vt : Value) (s t : List Int) (w : World) (hS : Reads w vs s) (hT : Reads w vt t) :
    Calls Tryd.prog 30 #[.agg #[.int .i64 k, vs, vt, .int .i64 n]] w fun e w' => e = .returned (.int .i64 (atomFault k s t n)) ∧ Below w.heap.size w w' := by
  have h1 := fun (W : World) (hW : Below w.heap.size w W) => refTerm_any s vs W (hS.below hW)
  have h2 := fun (W : World) (hW : Below w.heap.size w W) => refTerm_any t vt W (hT.below hW)
  obtain ⟨sao, scap, rfl, _⟩ := hS.slice
  obtain ⟨tao, tcap, rfl, _⟩ := hT.slice
  by_cases hk : 1 ≤ k ∧ k ≤ 5
  · rcases five hk.1 hk.2 with rfl | rfl | rfl | rfl | rfl
    · exact refAtom_1 n sao tao _ scap _ tcap s t rfl w h1 h2
    · exact refAtom_2 n sao tao _ scap _ tcap s t rfl w h1 h2
    · exact refAtom_3 n sao tao _ scap _ tcap s t rfl w h1 h2
    · exact refAtom_4 n sao tao _ scap _ tcap s t rfl w h1 h2
    · exact refAtom_5 n sao tao _ scap _ tcap s t rfl w h1 h2
  · rw [atomFault_kind hk]
    obtain ⟨sl, hsl⟩ : ∃ sl, sl = s.length := ⟨_, rfl⟩
    obtain ⟨tl, htl⟩ : ∃ tl, tl = t.length := ⟨_, rfl⟩
    rw [← hsl, ← htl]
    clear hS hT h1 h2 hsl htl
    by_cases h1 : k < 1
    · go_enter Tryd.func30, Tryd.ntmps30
      go_wp2
      go_ret
      exact ⟨rfl, below_alloc1 _ _⟩
    · have h2 : 5 < k := by omega
      go_enter Tryd.func30, Tryd.ntmps30
      go_wp2
      go_ret
      exact ⟨rfl, below_alloc1 _ _⟩
end Go.Proofs.YthddegjnaigepagDoor
