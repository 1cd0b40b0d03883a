/-
  Facts and contracts that the statement leans on.
-/
import Derived.Test.YtnoohlibgaeklaaGreatDoorLibQ2
import Derived.Test.YtnoohlibgaeklaaGreatDoorLibQ10
import Derived.Test.YtnoohlibgaeklaaGreatDoorLibQ4
import Derived.Test.YtnoohlibgaeklaaGreatDoorLibQ11
import Derived.WalkKit
import Derived.ProofKit
import Derived.OpenShut
namespace Go.Proofs.YtnoohlibgaeklaaGreatDoor
open Go.ChangeShapes Go.WideShapes Go.ChangeAt Go.RowKit
set_option maxRecDepth 100000
set_option maxHeartbeats 16000000
theorem all_take_succ (t : List Int) {k : Nat} (h : k < t.length) : (t.take (k + 1)).all signB = ((t.take k).all signB && signB (t.getD k 0)) := by
 rw [take_succ_getD t h]; simp
theorem all_false_of {t : List Int} {k : Nat} (h : k < t.length) (hs : signB (t.getD k 0) = false) : ¬ t.all signB = true := by
 intro ha
 have := List.all_eq_true.1 ha (t.getD k 0) (by rw [List.getD_eq_getElem?_getD, List.getElem?_eq_getElem h]; exact List.getElem_mem h)
 rw [hs] at this; cases this
theorem refTerm_mid (b off cap : Nat) (t : List Int) (w : World) (h0 : 0 < t.length) (hl : t.length ≤ 12) (hc : ∀ k, k < t.length → w.cell? ⟨b, off + k, none⟩ = some (.int .i64 (t.getD k 0))) :
    Calls Tryz.prog 22 #[.slice (some ⟨b, off, none⟩) t.length cap] w (Sk w (.int .i64 (faultN t))) := by
 have HC := hide hc
 clear hc
 obtain ⟨n, hn⟩ := nm t.length
 rw [← hn] at h0 hl ⊢
 have HN := hide hn
 obtain ⟨F, hF⟩ := nm (faultN t)
 rw [← hF]
 have HF : Hid (F = if t.all signB = true then (if cnt t 0 = some 1 then 0 else 3) else 1) := by
  unfold Hid; rw [hF]; unfold faultN; rw [if_neg (by omega), if_neg (by omega)]
 clear hn hF
 go_enter Tryz.func22, Tryz.ntmps22
 go_wp2
 go_loop [3] (fun i => ∃ k : Nat, k ≤ n ∧ i = .int .i64 k ∧ (t.take k).all signB = true) (fun i => n - (intOf i).toNat)
 case atStart => exact ⟨0, Nat.zero_le _, rfl, by simp⟩
 case round =>
  obtain ⟨k, hk, rfl, hall⟩ := hrel
  have HA := hide hall
  clear hall
  by_cases hlt : k < n
  ·obtain ⟨s, hs⟩ := nm (t.getD k 0)
   have hkt : k < t.length := by rw [← HN.out]; exact hlt
   have hc := HC.out k hkt
   rw [← hs] at hc
   by_cases hlo : s < 0
   ·have HE : Hid (1 = F) := by
     have := all_false_of hkt (by rw [← hs]; simp [signB]; omega)
     unfold Hid; rw [HF.out, if_neg this]
    clear hs hkt
    go_wp2
    go_ret
    exact ⟨back_i HE.out, rfl⟩
   by_cases hhi : 8 < s
   ·have HE : Hid (1 = F) := by
     have := all_false_of hkt (by rw [← hs]; simp [signB]; omega)
     unfold Hid; rw [HF.out, if_neg this]
    clear hs hkt
    go_wp2
    go_ret
    exact ⟨back_i HE.out, rfl⟩
   have HA2 : Hid ((t.take (k + 1)).all signB = true) := by
    have : signB s = true := by simp [signB]; omega
    unfold Hid; rw [all_take_succ t hkt, HA.out, ← hs, this]; rfl
   clear hs hkt
   go_wp2
   go_round
   case rel => exact ⟨k + 1, by omega, by go_num, HA2.out⟩
   case measure => simp [intOf]; omega
  ·have HAll : Hid (t.all signB = true) := by
    have := HA.out
    rw [List.take_of_length_le (by have := HN.out; omega)] at this
    exact this
   clear HA
   go_wp2
   go_loop [4, 5] (fun c i => ∃ (k : Nat) (m : Int), k ≤ n ∧ i = .int .i64 k ∧ c = .int .i64 m ∧ cnt (t.take k) 0 = some m) (fun _ i => n - (intOf i).toNat)
   case atStart => exact ⟨0, 0, Nat.zero_le _, rfl, rfl, rfl⟩
   case round =>
    clear hlt hk
    obtain ⟨k, m, hk, rfl, rfl, hm⟩ := hrel
    have HM := hide hm
    have hm0 : 0 ≤ m ∧ m ≤ 12 := by
     have := cnt_nonneg (Int.le_refl 0) hm
     simp at this
     omega
    clear hm
    by_cases hlt : k < n
    ·obtain ⟨s, hs⟩ := nm (t.getD k 0)
     have hkt : k < t.length := by rw [← HN.out]; exact hlt
     have hc := HC.out k hkt
     rw [← hs] at hc
     have hsg : 0 ≤ s ∧ s ≤ 8 := by
      refine signB_iff.1 (List.all_eq_true.1 HAll.out s ?_)
      rw [hs, List.getD_eq_getElem?_getD, List.getElem?_eq_getElem hkt]; exact List.getElem_mem hkt
     have HD : Hid (cnt (t.take (k + 1)) 0 = if m < takesN s then none else some (m + 1 - takesN s)) := by
      have := cnt_take_succ t hkt HM.out
      rw [← hs] at this; exact this
     have HNo : Hid (m < takesN s → 3 = F) := fun hb => by
      have h1 := HD.out
      rw [if_pos hb] at h1
      have h2 := cnt_take_none t (k + 1) h1
      rw [HF.out, if_pos HAll.out, if_neg (by rw [h2]; simp)]
     have HYes : Hid (¬ m < takesN s → cnt (t.take (k + 1)) 0 = some (m + 1 - takesN s)) := fun hb => by
      have h1 := HD.out
      rw [if_neg hb] at h1; exact h1
     clear hs hkt HD
     by_cases h5 : s < 5
     ·have HE : Hid (cnt (t.take (k + 1)) 0 = some (m + 1)) := by
       have := HYes.out (by rw [takes5 s h5]; omega)
       rw [takes5 s h5] at this; rw [show m + 1 = m + 1 - 0 by omega]; exact this
      go_wp2
      go_round
      case rel => exact ⟨k + 1, _, by omega, by go_num, rfl, HE.out⟩
      case measure => simp [intOf]; omega
     by_cases h8 : s < 8
     ·have ht := takes2 s (by omega) (by omega)
      by_cases hb : m < 2
      ·have HE : Hid (3 = F) := HNo.out (by rw [ht]; exact hb)
       clear ht
       by_cases hb1 : m < 1
       ·go_wp2
        go_ret
        exact ⟨back_i HE.out, rfl⟩
       ·go_wp2
        go_ret
        exact ⟨back_i HE.out, rfl⟩
      ·have HE : Hid (cnt (t.take (k + 1)) 0 = some (m - 1)) := by
        have := HYes.out (by rw [ht]; omega)
        rw [ht] at this; rw [show m - 1 = m + 1 - 2 by omega]; exact this
       have hb1 : ¬ m < 1 := by omega
       clear ht
       go_wp2
       go_round
       case rel => exact ⟨k + 1, _, by omega, by go_num, rfl, HE.out⟩
       case measure => simp [intOf]; omega
     ·obtain rfl : s = 8 := by omega
      by_cases hb : m < 1
      ·have HE : Hid (3 = F) := HNo.out (by rw [takes1]; exact hb)
       go_wp2
       go_ret
       exact ⟨back_i HE.out, rfl⟩
      ·have HE : Hid (cnt (t.take (k + 1)) 0 = some m) := by
        have := HYes.out (by rw [takes1]; exact hb)
        rw [takes1] at this; rw [show m = m + 1 - 1 by omega]; exact this
       go_wp2
       go_round
       case rel => exact ⟨k + 1, _, by omega, by go_num, rfl, HE.out⟩
       case measure => simp [intOf]; omega
    ·have HE : Hid (cnt t 0 = some m) := by
      have h1 := HM.out
      rw [List.take_of_length_le (by have := HN.out; omega)] at h1; exact h1
     by_cases h1 : m = 1
     ·have HG : Hid (0 = F) := by unfold Hid; rw [HF.out, if_pos HAll.out, HE.out, if_pos (by rw [h1])]
      subst h1
      go_wp2
      go_ret
      exact ⟨back_i HG.out, rfl⟩
     ·have HG : Hid (3 = F) := by unfold Hid; rw [HF.out, if_pos HAll.out, HE.out, if_neg (by simpa using h1)]
      have h1' : (m != 1) = true := by simpa using h1
      clear h1
      go_wp2
      go_ret
      exact ⟨back_i HG.out, rfl⟩
theorem refTerm_any (t : List Int) (v : Value) (w : World) (h : Reads w v t) :
    Calls Tryz.prog 22 #[v] w (Sk w (.int .i64 (faultN t))) := by
 rcases h with ⟨ao, cap, rfl, rfl⟩ | ⟨b, off, cap, rfl, -, h0, ⟨hl, _⟩, hc⟩
 ·go_enter Tryz.func22, Tryz.ntmps22
  go_wp2
  go_ret
  exact ⟨rfl, rfl⟩
 ·by_cases h12 : 12 < t.length
  ·have e : faultN t = 4 := by unfold faultN; rw [if_neg (by omega), if_pos h12]
   rw [e]
   clear e hc
   obtain ⟨n, hn⟩ := nm t.length
   rw [← hn] at h0 hl h12 ⊢
   clear hn
   go_enter Tryz.func22, Tryz.ntmps22
   go_wp2
   go_ret
   exact ⟨rfl, rfl⟩
  ·exact refTerm_mid b off cap t w h0 (by omega) hc
set_option linter.unusedVariables false in
theorem refAtom_1 (n : Int) (sao tao : Option Addr) (sl scap tl tcap : Nat) (s t : List Int) (hl : tl = t.length) (w : World)
    (hS : ∀ W, Bw w W → Calls Tryz.prog 22 #[.slice sao sl scap] W (Sk W (.int .i64 (faultN s))))
    (hT : ∀ W, Bw w W → Calls Tryz.prog 22 #[.slice tao tl tcap] W (Sk W (.int .i64 (faultN t)))) :
    Calls Tryz.prog 52 #[.agg #[.int .i64 1, .slice sao sl scap, .slice tao tl tcap, .int .i64 n]] w (Bk w (.int .i64 (atomFault 1 s t n))) := by
 obtain ⟨w1, hw1⟩ := nm (w.alloc (.cells #[.int .i64 1, .slice sao sl scap, .slice tao tl tcap, .int .i64 n] 71))
 have HB1 : Hid (Bw w w1) := by unfold Hid; rw [hw1]; exact below_alloc1 w _
 obtain ⟨x0, x1, x2, x3⟩ : w1.cell? ⟨w.heap.size, 0, none⟩ = some (.int .i64 1) ∧ w1.cell? ⟨w.heap.size, 1, none⟩ = some (.slice sao sl scap) ∧ w1.cell? ⟨w.heap.size, 2, none⟩ = some (.slice tao tl tcap) ∧ w1.cell? ⟨w.heap.size, 3, none⟩ = some (.int .i64 n) := by rw [hw1]; simp
 have HS := hide (hS w1 HB1.out)
 have HT := hide (hT w1 HB1.out)
 have HL := hide hl
 clear hS hT hl
 have hk : (1 : Int) ≤ 1 ∧ (1 : Int) ≤ 5 := by decide
 obtain ⟨F, hF⟩ := nm (atomFault 1 s t n)
 rw [← hF]
 by_cases hs : faultN s = 0
 ·rw [hs] at HS
  by_cases ht : faultN t = 0
  ·rw [ht] at HT
   have hsf : secondFault 1 t = 0 := by unfold secondFault; rw [if_pos (by decide), ht]
   clear ht
   rw [atomFault_third hk hs hsf] at hF
   have hmo : mostN 1 = 0 := by decide
   rw [hmo] at hF
   clear hmo hs hsf
   by_cases h1 : n < -20
   ·rw [if_neg (by omega)] at hF
    subst hF
    go_enter Tryz.func52, Tryz.ntmps52
    go_wp2_with fail
    rw [← hw1]
    clear hw1
    go_at_call 22
    refine HS.out.mono ?_
    rintro e w' ⟨rfl, rfl⟩
    go_wp2_with fail
    go_at_call 22
    refine HT.out.mono ?_
    rintro e w' ⟨rfl, rfl⟩
    go_wp2
    go_ret
    exact ⟨rfl, HB1.out⟩
   by_cases h2 : 20 < n
   ·rw [if_neg (by omega)] at hF
    subst hF
    go_enter Tryz.func52, Tryz.ntmps52
    go_wp2_with fail
    rw [← hw1]
    clear hw1
    go_at_call 22
    refine HS.out.mono ?_
    rintro e w' ⟨rfl, rfl⟩
    go_wp2_with fail
    go_at_call 22
    refine HT.out.mono ?_
    rintro e w' ⟨rfl, rfl⟩
    go_wp2
    go_ret
    exact ⟨rfl, HB1.out⟩
   by_cases h3 : n = 0
   ·rw [if_pos (by omega)] at hF
    subst hF h3
    go_enter Tryz.func52, Tryz.ntmps52
    go_wp2_with fail
    rw [← hw1]
    clear hw1
    go_at_call 22
    refine HS.out.mono ?_
    rintro e w' ⟨rfl, rfl⟩
    go_wp2_with fail
    go_at_call 22
    refine HT.out.mono ?_
    rintro e w' ⟨rfl, rfl⟩
    go_wp2
    go_ret
    exact ⟨rfl, HB1.out⟩
   ·have h3' : (n != 0) = true := by simpa using h3
    rw [if_neg (by omega)] at hF
    subst hF
    go_enter Tryz.func52, Tryz.ntmps52
    go_wp2_with fail
    rw [← hw1]
    clear hw1
    go_at_call 22
    refine HS.out.mono ?_
    rintro e w' ⟨rfl, rfl⟩
    go_wp2_with fail
    go_at_call 22
    refine HT.out.mono ?_
    rintro e w' ⟨rfl, rfl⟩
    go_wp2
    go_ret
    exact ⟨rfl, HB1.out⟩
  ·have hsf : secondFault 1 t = faultN t := by unfold secondFault; rw [if_pos (by decide)]
   rw [atomFault_second hk hs (by rw [hsf]; exact ht), hsf] at hF
   rw [← hF] at HT ht
   have ht' : (F != 0) = true := by simpa using ht
   clear hF ht hsf hs
   go_enter Tryz.func52, Tryz.ntmps52
   go_wp2_with fail
   rw [← hw1]
   clear hw1
   go_at_call 22
   refine HS.out.mono ?_
   rintro e w' ⟨rfl, rfl⟩
   go_wp2_with fail
   go_at_call 22
   refine HT.out.mono ?_
   rintro e w' ⟨rfl, rfl⟩
   go_wp2
   go_ret
   exact ⟨rfl, HB1.out⟩
 ·rw [atomFault_first hk hs] at hF
  rw [← hF] at HS hs
  have hs' : (F != 0) = true := by simpa using hs
  clear hF hs
  go_enter Tryz.func52, Tryz.ntmps52
  go_wp2_with fail
  rw [← hw1]
  clear hw1
  go_at_call 22
  refine HS.out.mono ?_
  rintro e w' ⟨rfl, rfl⟩
  go_wp2
  go_ret
  exact ⟨rfl, HB1.out⟩
set_option linter.unusedVariables false in
theorem refAtom_2 (n : Int) (sao tao : Option Addr) (sl scap tl tcap : Nat) (s t : List Int) (hl : tl = t.length) (w : World)
    (hS : ∀ W, Bw w W → Calls Tryz.prog 22 #[.slice sao sl scap] W (Sk W (.int .i64 (faultN s))))
    (hT : ∀ W, Bw w W → Calls Tryz.prog 22 #[.slice tao tl tcap] W (Sk W (.int .i64 (faultN t)))) :
    Calls Tryz.prog 52 #[.agg #[.int .i64 2, .slice sao sl scap, .slice tao tl tcap, .int .i64 n]] w (Bk w (.int .i64 (atomFault 2 s t n))) := by
 obtain ⟨w1, hw1⟩ := nm (w.alloc (.cells #[.int .i64 2, .slice sao sl scap, .slice tao tl tcap, .int .i64 n] 71))
 have HB1 : Hid (Bw w w1) := by unfold Hid; rw [hw1]; exact below_alloc1 w _
 obtain ⟨x0, x1, x2, x3⟩ : w1.cell? ⟨w.heap.size, 0, none⟩ = some (.int .i64 2) ∧ w1.cell? ⟨w.heap.size, 1, none⟩ = some (.slice sao sl scap) ∧ w1.cell? ⟨w.heap.size, 2, none⟩ = some (.slice tao tl tcap) ∧ w1.cell? ⟨w.heap.size, 3, none⟩ = some (.int .i64 n) := by rw [hw1]; simp
 have HS := hide (hS w1 HB1.out)
 have HT := hide (hT w1 HB1.out)
 have HL := hide hl
 clear hS hT hl
 have hk : (1 : Int) ≤ 2 ∧ (2 : Int) ≤ 5 := by decide
 obtain ⟨F, hF⟩ := nm (atomFault 2 s t n)
 rw [← hF]
 by_cases hs : faultN s = 0
 ·rw [hs] at HS
  by_cases ht : faultN t = 0
  ·rw [ht] at HT
   have hsf : secondFault 2 t = 0 := by unfold secondFault; rw [if_pos (by decide), ht]
   clear ht
   rw [atomFault_third hk hs hsf] at hF
   have hmo : mostN 2 = 0 := by decide
   rw [hmo] at hF
   clear hmo hs hsf
   by_cases h1 : n < -20
   ·rw [if_neg (by omega)] at hF
    subst hF
    go_enter Tryz.func52, Tryz.ntmps52
    go_wp2_with fail
    rw [← hw1]
    clear hw1
    go_at_call 22
    refine HS.out.mono ?_
    rintro e w' ⟨rfl, rfl⟩
    go_wp2_with fail
    go_at_call 22
    refine HT.out.mono ?_
    rintro e w' ⟨rfl, rfl⟩
    go_wp2
    go_ret
    exact ⟨rfl, HB1.out⟩
   by_cases h2 : 20 < n
   ·rw [if_neg (by omega)] at hF
    subst hF
    go_enter Tryz.func52, Tryz.ntmps52
    go_wp2_with fail
    rw [← hw1]
    clear hw1
    go_at_call 22
    refine HS.out.mono ?_
    rintro e w' ⟨rfl, rfl⟩
    go_wp2_with fail
    go_at_call 22
    refine HT.out.mono ?_
    rintro e w' ⟨rfl, rfl⟩
    go_wp2
    go_ret
    exact ⟨rfl, HB1.out⟩
   by_cases h3 : n = 0
   ·rw [if_pos (by omega)] at hF
    subst hF h3
    go_enter Tryz.func52, Tryz.ntmps52
    go_wp2_with fail
    rw [← hw1]
    clear hw1
    go_at_call 22
    refine HS.out.mono ?_
    rintro e w' ⟨rfl, rfl⟩
    go_wp2_with fail
    go_at_call 22
    refine HT.out.mono ?_
    rintro e w' ⟨rfl, rfl⟩
    go_wp2
    go_ret
    exact ⟨rfl, HB1.out⟩
   ·have h3' : (n != 0) = true := by simpa using h3
    rw [if_neg (by omega)] at hF
    subst hF
    go_enter Tryz.func52, Tryz.ntmps52
    go_wp2_with fail
    rw [← hw1]
    clear hw1
    go_at_call 22
    refine HS.out.mono ?_
    rintro e w' ⟨rfl, rfl⟩
    go_wp2_with fail
    go_at_call 22
    refine HT.out.mono ?_
    rintro e w' ⟨rfl, rfl⟩
    go_wp2
    go_ret
    exact ⟨rfl, HB1.out⟩
  ·have hsf : secondFault 2 t = faultN t := by unfold secondFault; rw [if_pos (by decide)]
   rw [atomFault_second hk hs (by rw [hsf]; exact ht), hsf] at hF
   rw [← hF] at HT ht
   have ht' : (F != 0) = true := by simpa using ht
   clear hF ht hsf hs
   go_enter Tryz.func52, Tryz.ntmps52
   go_wp2_with fail
   rw [← hw1]
   clear hw1
   go_at_call 22
   refine HS.out.mono ?_
   rintro e w' ⟨rfl, rfl⟩
   go_wp2_with fail
   go_at_call 22
   refine HT.out.mono ?_
   rintro e w' ⟨rfl, rfl⟩
   go_wp2
   go_ret
   exact ⟨rfl, HB1.out⟩
 ·rw [atomFault_first hk hs] at hF
  rw [← hF] at HS hs
  have hs' : (F != 0) = true := by simpa using hs
  clear hF hs
  go_enter Tryz.func52, Tryz.ntmps52
  go_wp2_with fail
  rw [← hw1]
  clear hw1
  go_at_call 22
  refine HS.out.mono ?_
  rintro e w' ⟨rfl, rfl⟩
  go_wp2
  go_ret
  exact ⟨rfl, HB1.out⟩
set_option linter.unusedVariables false in
theorem refAtom_3 (n : Int) (sao tao : Option Addr) (sl scap tl tcap : Nat) (s t : List Int) (hl : tl = t.length) (w : World)
    (hS : ∀ W, Bw w W → Calls Tryz.prog 22 #[.slice sao sl scap] W (Sk W (.int .i64 (faultN s))))
    (hT : ∀ W, Bw w W → Calls Tryz.prog 22 #[.slice tao tl tcap] W (Sk W (.int .i64 (faultN t)))) :
    Calls Tryz.prog 52 #[.agg #[.int .i64 3, .slice sao sl scap, .slice tao tl tcap, .int .i64 n]] w (Bk w (.int .i64 (atomFault 3 s t n))) := by
 obtain ⟨w1, hw1⟩ := nm (w.alloc (.cells #[.int .i64 3, .slice sao sl scap, .slice tao tl tcap, .int .i64 n] 71))
 have HB1 : Hid (Bw w w1) := by unfold Hid; rw [hw1]; exact below_alloc1 w _
 obtain ⟨x0, x1, x2, x3⟩ : w1.cell? ⟨w.heap.size, 0, none⟩ = some (.int .i64 3) ∧ w1.cell? ⟨w.heap.size, 1, none⟩ = some (.slice sao sl scap) ∧ w1.cell? ⟨w.heap.size, 2, none⟩ = some (.slice tao tl tcap) ∧ w1.cell? ⟨w.heap.size, 3, none⟩ = some (.int .i64 n) := by rw [hw1]; simp
 have HS := hide (hS w1 HB1.out)
 have HT := hide (hT w1 HB1.out)
 have HL := hide hl
 clear hS hT hl
 have hk : (1 : Int) ≤ 3 ∧ (3 : Int) ≤ 5 := by decide
 obtain ⟨F, hF⟩ := nm (atomFault 3 s t n)
 rw [← hF]
 by_cases hs : faultN s = 0
 ·rw [hs] at HS
  by_cases ht : 0 < t.length
  ·have hsf : secondFault 3 t = 3 := by unfold secondFault; rw [if_neg (by decide), if_pos ht]
   rw [atomFault_second hk hs (by rw [hsf]; decide), hsf] at hF
   rw [← HL.out] at ht
   subst hF
   clear hsf hs
   go_enter Tryz.func52, Tryz.ntmps52
   go_wp2_with fail
   rw [← hw1]
   clear hw1
   go_at_call 22
   refine HS.out.mono ?_
   rintro e w' ⟨rfl, rfl⟩
   go_wp2
   go_ret
   exact ⟨rfl, HB1.out⟩
  ·have hsf : secondFault 3 t = 0 := by unfold secondFault; rw [if_neg (by decide), if_neg ht]
   obtain rfl : tl = 0 := by have := HL.out; omega
   clear ht
   rw [atomFault_third hk hs hsf] at hF
   have hmo : mostN 3 = 20 := by decide
   rw [hmo] at hF
   clear hmo hs hsf
   by_cases h1 : n < -20
   ·rw [if_neg (by omega)] at hF
    subst hF
    go_enter Tryz.func52, Tryz.ntmps52
    go_wp2_with fail
    rw [← hw1]
    clear hw1
    go_at_call 22
    refine HS.out.mono ?_
    rintro e w' ⟨rfl, rfl⟩
    go_wp2
    go_ret
    exact ⟨rfl, HB1.out⟩
   by_cases h2 : 20 < n
   ·rw [if_neg (by omega)] at hF
    subst hF
    go_enter Tryz.func52, Tryz.ntmps52
    go_wp2_with fail
    rw [← hw1]
    clear hw1
    go_at_call 22
    refine HS.out.mono ?_
    rintro e w' ⟨rfl, rfl⟩
    go_wp2
    go_ret
    exact ⟨rfl, HB1.out⟩
   rw [if_pos (by omega)] at hF
   subst hF
   go_enter Tryz.func52, Tryz.ntmps52
   go_wp2_with fail
   rw [← hw1]
   clear hw1
   go_at_call 22
   refine HS.out.mono ?_
   rintro e w' ⟨rfl, rfl⟩
   go_wp2
   go_ret
   exact ⟨rfl, HB1.out⟩
 ·rw [atomFault_first hk hs] at hF
  rw [← hF] at HS hs
  have hs' : (F != 0) = true := by simpa using hs
  clear hF hs
  go_enter Tryz.func52, Tryz.ntmps52
  go_wp2_with fail
  rw [← hw1]
  clear hw1
  go_at_call 22
  refine HS.out.mono ?_
  rintro e w' ⟨rfl, rfl⟩
  go_wp2
  go_ret
  exact ⟨rfl, HB1.out⟩
set_option linter.unusedVariables false in
theorem refAtom_4 (n : Int) (sao tao : Option Addr) (sl scap tl tcap : Nat) (s t : List Int) (hl : tl = t.length) (w : World)
    (hS : ∀ W, Bw w W → Calls Tryz.prog 22 #[.slice sao sl scap] W (Sk W (.int .i64 (faultN s))))
    (hT : ∀ W, Bw w W → Calls Tryz.prog 22 #[.slice tao tl tcap] W (Sk W (.int .i64 (faultN t)))) :
    Calls Tryz.prog 52 #[.agg #[.int .i64 4, .slice sao sl scap, .slice tao tl tcap, .int .i64 n]] w (Bk w (.int .i64 (atomFault 4 s t n))) := by
 obtain ⟨w1, hw1⟩ := nm (w.alloc (.cells #[.int .i64 4, .slice sao sl scap, .slice tao tl tcap, .int .i64 n] 71))
 have HB1 : Hid (Bw w w1) := by unfold Hid; rw [hw1]; exact below_alloc1 w _
 obtain ⟨x0, x1, x2, x3⟩ : w1.cell? ⟨w.heap.size, 0, none⟩ = some (.int .i64 4) ∧ w1.cell? ⟨w.heap.size, 1, none⟩ = some (.slice sao sl scap) ∧ w1.cell? ⟨w.heap.size, 2, none⟩ = some (.slice tao tl tcap) ∧ w1.cell? ⟨w.heap.size, 3, none⟩ = some (.int .i64 n) := by rw [hw1]; simp
 have HS := hide (hS w1 HB1.out)
 have HT := hide (hT w1 HB1.out)
 have HL := hide hl
 clear hS hT hl
 have hk : (1 : Int) ≤ 4 ∧ (4 : Int) ≤ 5 := by decide
 obtain ⟨F, hF⟩ := nm (atomFault 4 s t n)
 rw [← hF]
 by_cases hs : faultN s = 0
 ·rw [hs] at HS
  by_cases ht : 0 < t.length
  ·have hsf : secondFault 4 t = 3 := by unfold secondFault; rw [if_neg (by decide), if_pos ht]
   rw [atomFault_second hk hs (by rw [hsf]; decide), hsf] at hF
   rw [← HL.out] at ht
   subst hF
   clear hsf hs
   go_enter Tryz.func52, Tryz.ntmps52
   go_wp2_with fail
   rw [← hw1]
   clear hw1
   go_at_call 22
   refine HS.out.mono ?_
   rintro e w' ⟨rfl, rfl⟩
   go_wp2
   go_ret
   exact ⟨rfl, HB1.out⟩
  ·have hsf : secondFault 4 t = 0 := by unfold secondFault; rw [if_neg (by decide), if_neg ht]
   obtain rfl : tl = 0 := by have := HL.out; omega
   clear ht
   rw [atomFault_third hk hs hsf] at hF
   have hmo : mostN 4 = 20 := by decide
   rw [hmo] at hF
   clear hmo hs hsf
   by_cases h1 : n < -20
   ·rw [if_neg (by omega)] at hF
    subst hF
    go_enter Tryz.func52, Tryz.ntmps52
    go_wp2_with fail
    rw [← hw1]
    clear hw1
    go_at_call 22
    refine HS.out.mono ?_
    rintro e w' ⟨rfl, rfl⟩
    go_wp2
    go_ret
    exact ⟨rfl, HB1.out⟩
   by_cases h2 : 20 < n
   ·rw [if_neg (by omega)] at hF
    subst hF
    go_enter Tryz.func52, Tryz.ntmps52
    go_wp2_with fail
    rw [← hw1]
    clear hw1
    go_at_call 22
    refine HS.out.mono ?_
    rintro e w' ⟨rfl, rfl⟩
    go_wp2
    go_ret
    exact ⟨rfl, HB1.out⟩
   rw [if_pos (by omega)] at hF
   subst hF
   go_enter Tryz.func52, Tryz.ntmps52
   go_wp2_with fail
   rw [← hw1]
   clear hw1
   go_at_call 22
   refine HS.out.mono ?_
   rintro e w' ⟨rfl, rfl⟩
   go_wp2
   go_ret
   exact ⟨rfl, HB1.out⟩
 ·rw [atomFault_first hk hs] at hF
  rw [← hF] at HS hs
  have hs' : (F != 0) = true := by simpa using hs
  clear hF hs
  go_enter Tryz.func52, Tryz.ntmps52
  go_wp2_with fail
  rw [← hw1]
  clear hw1
  go_at_call 22
  refine HS.out.mono ?_
  rintro e w' ⟨rfl, rfl⟩
  go_wp2
  go_ret
  exact ⟨rfl, HB1.out⟩
set_option linter.unusedVariables false in
theorem refAtom_5 (n : Int) (sao tao : Option Addr) (sl scap tl tcap : Nat) (s t : List Int) (hl : tl = t.length) (w : World)
    (hS : ∀ W, Bw w W → Calls Tryz.prog 22 #[.slice sao sl scap] W (Sk W (.int .i64 (faultN s))))
    (hT : ∀ W, Bw w W → Calls Tryz.prog 22 #[.slice tao tl tcap] W (Sk W (.int .i64 (faultN t)))) :
    Calls Tryz.prog 52 #[.agg #[.int .i64 5, .slice sao sl scap, .slice tao tl tcap, .int .i64 n]] w (Bk w (.int .i64 (atomFault 5 s t n))) := by
 obtain ⟨w1, hw1⟩ := nm (w.alloc (.cells #[.int .i64 5, .slice sao sl scap, .slice tao tl tcap, .int .i64 n] 71))
 have HB1 : Hid (Bw w w1) := by unfold Hid; rw [hw1]; exact below_alloc1 w _
 obtain ⟨x0, x1, x2, x3⟩ : w1.cell? ⟨w.heap.size, 0, none⟩ = some (.int .i64 5) ∧ w1.cell? ⟨w.heap.size, 1, none⟩ = some (.slice sao sl scap) ∧ w1.cell? ⟨w.heap.size, 2, none⟩ = some (.slice tao tl tcap) ∧ w1.cell? ⟨w.heap.size, 3, none⟩ = some (.int .i64 n) := by rw [hw1]; simp
 have HS := hide (hS w1 HB1.out)
 have HT := hide (hT w1 HB1.out)
 have HL := hide hl
 clear hS hT hl
 have hk : (1 : Int) ≤ 5 ∧ (5 : Int) ≤ 5 := by decide
 obtain ⟨F, hF⟩ := nm (atomFault 5 s t n)
 rw [← hF]
 by_cases hs : faultN s = 0
 ·rw [hs] at HS
  by_cases ht : faultN t = 0
  ·rw [ht] at HT
   have hsf : secondFault 5 t = 0 := by unfold secondFault; rw [if_pos (by decide), ht]
   clear ht
   rw [atomFault_third hk hs hsf] at hF
   have hmo : mostN 5 = 20 := by decide
   rw [hmo] at hF
   clear hmo hs hsf
   by_cases h1 : n < -20
   ·rw [if_neg (by omega)] at hF
    subst hF
    go_enter Tryz.func52, Tryz.ntmps52
    go_wp2_with fail
    rw [← hw1]
    clear hw1
    go_at_call 22
    refine HS.out.mono ?_
    rintro e w' ⟨rfl, rfl⟩
    go_wp2_with fail
    go_at_call 22
    refine HT.out.mono ?_
    rintro e w' ⟨rfl, rfl⟩
    go_wp2
    go_ret
    exact ⟨rfl, HB1.out⟩
   by_cases h2 : 20 < n
   ·rw [if_neg (by omega)] at hF
    subst hF
    go_enter Tryz.func52, Tryz.ntmps52
    go_wp2_with fail
    rw [← hw1]
    clear hw1
    go_at_call 22
    refine HS.out.mono ?_
    rintro e w' ⟨rfl, rfl⟩
    go_wp2_with fail
    go_at_call 22
    refine HT.out.mono ?_
    rintro e w' ⟨rfl, rfl⟩
    go_wp2
    go_ret
    exact ⟨rfl, HB1.out⟩
   rw [if_pos (by omega)] at hF
   subst hF
   go_enter Tryz.func52, Tryz.ntmps52
   go_wp2_with fail
   rw [← hw1]
   clear hw1
   go_at_call 22
   refine HS.out.mono ?_
   rintro e w' ⟨rfl, rfl⟩
   go_wp2_with fail
   go_at_call 22
   refine HT.out.mono ?_
   rintro e w' ⟨rfl, rfl⟩
   go_wp2
   go_ret
   exact ⟨rfl, HB1.out⟩
  ·have hsf : secondFault 5 t = faultN t := by unfold secondFault; rw [if_pos (by decide)]
   rw [atomFault_second hk hs (by rw [hsf]; exact ht), hsf] at hF
   rw [← hF] at HT ht
   have ht' : (F != 0) = true := by simpa using ht
   clear hF ht hsf hs
   go_enter Tryz.func52, Tryz.ntmps52
   go_wp2_with fail
   rw [← hw1]
   clear hw1
   go_at_call 22
   refine HS.out.mono ?_
   rintro e w' ⟨rfl, rfl⟩
   go_wp2_with fail
   go_at_call 22
   refine HT.out.mono ?_
   rintro e w' ⟨rfl, rfl⟩
   go_wp2
   go_ret
   exact ⟨rfl, HB1.out⟩
 ·rw [atomFault_first hk hs] at hF
  rw [← hF] at HS hs
  have hs' : (F != 0) = true := by simpa using hs
  clear hF hs
  go_enter Tryz.func52, Tryz.ntmps52
  go_wp2_with fail
  rw [← hw1]
  clear hw1
  go_at_call 22
  refine HS.out.mono ?_
  rintro e w' ⟨rfl, rfl⟩
  go_wp2
  go_ret
  exact ⟨rfl, HB1.out⟩
theorem refAtom_any (k n : Int) (vs vt : Value) (s t : List Int) (w : World) (hS : Reads w vs s) (hT : Reads w vt t) :
    Calls Tryz.prog 52 #[.agg #[.int .i64 k, vs, vt, .int .i64 n]] w (Bk w (.int .i64 (atomFault k s t n))) := by
 have h1 := fun (W : World) (hW : Bw w W) => refTerm_any s vs W (hS.below hW)
 have h2 := fun (W : World) (hW : Bw w W) => refTerm_any t vt W (hT.below hW)
 obtain ⟨sao, scap, rfl, _⟩ := hS.slice
 obtain ⟨tao, tcap, rfl, _⟩ := hT.slice
 by_cases hk : 1 ≤ k ∧ k ≤ 5
 ·rcases five hk.1 hk.2 with rfl | rfl | rfl | rfl | rfl
  ·exact refAtom_1 n sao tao _ scap _ tcap s t rfl w h1 h2
  ·exact refAtom_2 n sao tao _ scap _ tcap s t rfl w h1 h2
  ·exact refAtom_3 n sao tao _ scap _ tcap s t rfl w h1 h2
  ·exact refAtom_4 n sao tao _ scap _ tcap s t rfl w h1 h2
  ·exact refAtom_5 n sao tao _ scap _ tcap s t rfl w h1 h2
 ·rw [atomFault_kind hk]
  obtain ⟨sl, hsl⟩ := nm s.length
  obtain ⟨tl, htl⟩ := nm t.length
  rw [← hsl, ← htl]
  clear hS hT h1 h2 hsl htl
  by_cases h1 : k < 1
  ·go_enter Tryz.func52, Tryz.ntmps52
   go_wp2
   go_ret
   exact ⟨rfl, below_alloc1 _ _⟩
  ·have h2 : 5 < k := by omega
   go_enter Tryz.func52, Tryz.ntmps52
   go_wp2
   go_ret
   exact ⟨rfl, below_alloc1 _ _⟩
def Lies (w : World) (B off : Nat) (q : List Int) : Prop := B < w.heap.size ∧ ∀ k, k < q.length → w.cell? ⟨B, off + k, none⟩ = some (.int .i64 (q.getD k 0))
theorem Lies.below {w w' : World} {B off : Nat} {q : List Int} (h : Lies w B off q) (hb : Bw w w') : Lies w' B off q :=
 ⟨Nat.lt_of_lt_of_le h.1 hb.size, fun k hk => by rw [hb.cell h.1]; exact h.2 k hk⟩
theorem Lies.front {w : World} {B off : Nat} {q l : List Int} (h : Lies w B off (q ++ l)) : Lies w B off q :=
 ⟨h.1, fun k hk => by
  rw [h.2 k (by rw [List.length_append]; omega)]
  simp [List.getElem?_append_left hk]⟩
theorem Lies.last {w : World} {B off : Nat} {q : List Int} {s : Int} (h : Lies w B off (q ++ [s])) : w.cell? ⟨B, off + q.length, none⟩ = some (.int .i64 s) := by
 rw [h.2 q.length (by simp)]; simp
theorem name_le {w : Wd} (h : w.ok = true) (s : Int) : 0 ≤ w.name s ∧ w.name s < 64 := by
 obtain ⟨_, _, h1, h2⟩ := okB_lt (ok_name h s); exact ⟨h1, h2⟩
theorem back_bs {a b : Bool} {v : Value} (h : a = b) : Ending.returned (.tuple #[.bool a, v]) = .returned (.tuple #[.bool b, v]) := by rw [h]
theorem in_leaf (s : Int) (h0 : 0 ≤ s) (h4 : s ≤ 4) (m B off cap i : Nat) (u a b c : Int) (w : World) (hok : (Wd.mk u a b c).ok = true) (hi : (i : Int) < u) (hm : m ≤ 12) (hcap : m + 1 ≤ cap) (hB : B < w.heap.size) (hc : w.cell? ⟨B, off + m, none⟩ = some (.int .i64 s)) :
    Calls Tryz.prog 75 #[.slice (some ⟨B, off, none⟩) (m + 1) cap, .agg #[.int .i64 u, .int .i64 a, .int .i64 b, .int .i64 c], .int .i64 i] w (Bk w (.tuple #[.bool (hasB ((Wd.mk u a b c).val [s]) i), .slice (some ⟨B, off, none⟩) m cap])) := by
 have HL : Hid (hasB ((Wd.mk u a b c).val [s]) i = if s < 3 then hasB ((Wd.mk u a b c).name s) i else s == 4) := has_leaf hok s h0 h4 i hi
 have hu := ok_u hok
 simp only at hu
 have hi6 : i ≤ 6 := by omega
 have HH : Hid (∀ s W, Calls Tryz.prog 48 #[.int .i64 ((Wd.mk u a b c).name s), .int .i64 i] W (Sk W (.bool (hasB ((Wd.mk u a b c).name s) i)))) := fun s W => refHas_any _ i (name_le hok s).1 (by have := (name_le hok s).2; omega) (by omega) W
 have d0 : (w.alloc (.cells #[.int .i64 u, .int .i64 a, .int .i64 b, .int .i64 c] 58)).cell? ⟨B, off + m, none⟩ = some (.int .i64 s) := by
  rw [World.cell?_alloc_lt _ _ ⟨B, off + m, none⟩ hB]; exact hc
 have hle : (m : Int) ≤ (cap : Int) := by omega
 obtain ⟨V, hV⟩ := nm (hasB ((Wd.mk u a b c).val [s]) i)
 rw [← hV] at HL ⊢
 clear hV hc hB hok hu hi
 have hd : s = 0 ∨ s = 1 ∨ s = 2 ∨ s = 3 ∨ s = 4 := by omega
 clear h0 h4
 rcases hd with rfl | rfl | rfl | rfl | rfl
 ·have HA : Hid (∀ W, Calls Tryz.prog 48 #[.int .i64 a, .int .i64 i] W (Sk W (.bool V))) := fun W => by rw [HL.out]; exact HH.out 0 W
  go_enter Tryz.func75, Tryz.ntmps75
  go_wp2_with (go_at_call 48; refine (HA.out _).mono ?_; rintro e w' ⟨rfl, rfl⟩)
  go_ret2
  exact ⟨rfl, below_alloc1 _ _⟩
 ·have HA : Hid (∀ W, Calls Tryz.prog 48 #[.int .i64 b, .int .i64 i] W (Sk W (.bool V))) := fun W => by rw [HL.out]; exact HH.out 1 W
  go_enter Tryz.func75, Tryz.ntmps75
  go_wp2_with (go_at_call 48; refine (HA.out _).mono ?_; rintro e w' ⟨rfl, rfl⟩)
  go_ret2
  exact ⟨rfl, below_alloc1 _ _⟩
 ·have HA : Hid (∀ W, Calls Tryz.prog 48 #[.int .i64 c, .int .i64 i] W (Sk W (.bool V))) := fun W => by rw [HL.out]; exact HH.out 2 W
  go_enter Tryz.func75, Tryz.ntmps75
  go_wp2_with (go_at_call 48; refine (HA.out _).mono ?_; rintro e w' ⟨rfl, rfl⟩)
  go_ret2
  exact ⟨rfl, below_alloc1 _ _⟩
 ·go_enter Tryz.func75, Tryz.ntmps75
  go_wp2_with fail
  go_ret2
  exact ⟨back_bs HL.out.symm, below_alloc1 _ _⟩
 ·go_enter Tryz.func75, Tryz.ntmps75
  go_wp2_with fail
  go_ret2
  exact ⟨back_bs HL.out.symm, below_alloc1 _ _⟩
theorem in_opp (m p B off cap i : Nat) (u a b c : Int) (x : Bool) (w : World) (hm : m ≤ 12) (hcap : m + 1 ≤ cap) (hB : B < w.heap.size) (hc : w.cell? ⟨B, off + m, none⟩ = some (.int .i64 8))
    (ih : ∀ W, Bw w W → Calls Tryz.prog 75 #[.slice (some ⟨B, off, none⟩) m cap, .agg #[.int .i64 u, .int .i64 a, .int .i64 b, .int .i64 c], .int .i64 i] W (Bk W (.tuple #[.bool x, .slice (some ⟨B, off, none⟩) p cap]))) :
    Calls Tryz.prog 75 #[.slice (some ⟨B, off, none⟩) (m + 1) cap, .agg #[.int .i64 u, .int .i64 a, .int .i64 b, .int .i64 c], .int .i64 i] w (Bk w (.tuple #[.bool (!x), .slice (some ⟨B, off, none⟩) p cap])) := by
 have HI : Hid (Calls Tryz.prog 75 #[.slice (some ⟨B, off, none⟩) m cap, .agg #[.int .i64 u, .int .i64 a, .int .i64 b, .int .i64 c], .int .i64 i] (w.alloc (.cells #[.int .i64 u, .int .i64 a, .int .i64 b, .int .i64 c] 58)) fun e w' => e = .returned (.tuple #[.bool x, .slice (some ⟨B, off, none⟩) p cap]) ∧ Below (w.alloc (.cells #[.int .i64 u, .int .i64 a, .int .i64 b, .int .i64 c] 58)).heap.size (w.alloc (.cells #[.int .i64 u, .int .i64 a, .int .i64 b, .int .i64 c] 58)) w') := ih _ (below_alloc1 _ _)
 have HA : Hid (Bw w (w.alloc (.cells #[.int .i64 u, .int .i64 a, .int .i64 b, .int .i64 c] 58))) := below_alloc1 _ _
 have d0 : (w.alloc (.cells #[.int .i64 u, .int .i64 a, .int .i64 b, .int .i64 c] 58)).cell? ⟨B, off + m, none⟩ = some (.int .i64 8) := by
  rw [World.cell?_alloc_lt _ _ ⟨B, off + m, none⟩ hB]; exact hc
 have hle : (m : Int) ≤ (cap : Int) := by omega
 clear hc hB ih
 go_enter Tryz.func75, Tryz.ntmps75
 go_wp2_with (go_at_call 75; refine HI.out.mono ?_; rintro e w2 ⟨rfl, hb⟩)
 go_ret2
 exact ⟨rfl, HA.out.trans (hb.mono HA.out.size)⟩
theorem in_two (s : Int) (h5 : 5 ≤ s) (h7 : s ≤ 7) (m p q B off cap i : Nat) (u a b c : Int) (x y : Bool) (w : World) (hm : m ≤ 12) (hcap : m + 1 ≤ cap) (hB : B < w.heap.size) (hc : w.cell? ⟨B, off + m, none⟩ = some (.int .i64 s))
    (ihy : ∀ W, Bw w W → Calls Tryz.prog 75 #[.slice (some ⟨B, off, none⟩) m cap, .agg #[.int .i64 u, .int .i64 a, .int .i64 b, .int .i64 c], .int .i64 i] W (Bk W (.tuple #[.bool y, .slice (some ⟨B, off, none⟩) q cap])))
    (ihx : ∀ W, Bw w W → Calls Tryz.prog 75 #[.slice (some ⟨B, off, none⟩) q cap, .agg #[.int .i64 u, .int .i64 a, .int .i64 b, .int .i64 c], .int .i64 i] W (Bk W (.tuple #[.bool x, .slice (some ⟨B, off, none⟩) p cap]))) :
    Calls Tryz.prog 75 #[.slice (some ⟨B, off, none⟩) (m + 1) cap, .agg #[.int .i64 u, .int .i64 a, .int .i64 b, .int .i64 c], .int .i64 i] w (Bk w (.tuple #[.bool (inB s x y), .slice (some ⟨B, off, none⟩) p cap])) := by
 obtain ⟨w1, hw1⟩ := nm (w.alloc (.cells #[.int .i64 u, .int .i64 a, .int .i64 b, .int .i64 c] 58))
 have HA : Hid (Bw w w1) := by unfold Hid; rw [hw1]; exact below_alloc1 _ _
 have HI : Hid (Calls Tryz.prog 75 #[.slice (some ⟨B, off, none⟩) m cap, .agg #[.int .i64 u, .int .i64 a, .int .i64 b, .int .i64 c], .int .i64 i] w1 (Bk w1 (.tuple #[.bool y, .slice (some ⟨B, off, none⟩) q cap]))) := ihy _ HA.out
 have HX := hide ihx
 have HC : Hid (∀ W, Bw w1 W → W.cell? ⟨w.heap.size, 0, none⟩ = some (.int .i64 u) ∧ W.cell? ⟨w.heap.size, 1, none⟩ = some (.int .i64 a) ∧ W.cell? ⟨w.heap.size, 2, none⟩ = some (.int .i64 b) ∧ W.cell? ⟨w.heap.size, 3, none⟩ = some (.int .i64 c)) := fun W hc => by
  have hlt : w.heap.size < w1.heap.size := by rw [hw1]; simp
  rw [hc.cell (p := ⟨w.heap.size, 0, none⟩) hlt, hc.cell (p := ⟨w.heap.size, 1, none⟩) hlt, hc.cell (p := ⟨w.heap.size, 2, none⟩) hlt, hc.cell (p := ⟨w.heap.size, 3, none⟩) hlt, hw1]
  simp
 have d0 : w1.cell? ⟨B, off + m, none⟩ = some (.int .i64 s) := by
  rw [hw1, World.cell?_alloc_lt _ _ ⟨B, off + m, none⟩ hB]; exact hc
 have hle : (m : Int) ≤ (cap : Int) := by omega
 clear hc hB ihx ihy
 have hd : s = 5 ∨ s = 6 ∨ s = 7 := by omega
 clear h5 h7
 rcases hd with rfl | rfl | rfl
 all_goals
  rw [hw1] at d0
  go_enter Tryz.func75, Tryz.ntmps75
  go_wp2_with fail
  rw [← hw1]
  rw [← hw1] at d0
  clear hw1
  go_at_call 75
  refine HI.out.mono ?_
  rintro e w2 ⟨rfl, hb⟩
  have HB2 := bt HA hb
  obtain ⟨x0, x1, x2, x3⟩ := HC.out _ hb
  clear hb
  go_wp2_with fail
  go_at_call 75
  refine (HX.out _ HB2.out).mono ?_
  rintro e w3 ⟨rfl, hb3⟩
  have HB3 := bt HB2 hb3
  clear hb3 x0 x1 x2 x3
  cases x <;> cases y
  all_goals
   go_wp2
   go_ret2
   exact ⟨rfl, HB3.out⟩
theorem in_any (i : Nat) (u a b c : Int) (hok : (Wd.mk u a b c).ok = true) (hi : (i : Int) < u) (B off cap : Nat) (n : Nat) :
    ∀ (q : List Int), isTm n q → ∀ (pre : List Int) (w : World), (pre ++ q).length ≤ 12 → (pre ++ q).length ≤ cap → Lies w B off (pre ++ q) →
    Calls Tryz.prog 75 #[.slice (some ⟨B, off, none⟩) (pre ++ q).length cap, .agg #[.int .i64 u, .int .i64 a, .int .i64 b, .int .i64 c], .int .i64 i] w (Bk w (.tuple #[.bool (hasB ((Wd.mk u a b c).val q) i), .slice (some ⟨B, off, none⟩) pre.length cap])) := by
 induction n with
 | zero => intro q h; exact h.elim
 | succ n ih =>
  intro q h pre w h12 hcap hL
  rcases h with ⟨s, h0, h4, rfl⟩ | ⟨t, ht, rfl⟩ | ⟨s, A, C, h5, h7, hA, hC, rfl⟩
  ·have e : (pre ++ [s]).length = pre.length + 1 := by simp
   rw [e] at h12 hcap ⊢
   exact in_leaf s h0 h4 pre.length B off cap i u a b c w hok hi (by omega) hcap hL.1 hL.last
  ·have e0 : pre ++ (t ++ [8]) = (pre ++ t) ++ [8] := by simp
   have e : (pre ++ (t ++ [8])).length = (pre ++ t).length + 1 := by rw [e0, List.length_append]; rfl
   rw [e] at h12 hcap ⊢
   rw [e0] at hL
   rw [has_opp hok ht i hi]
   exact in_opp (pre ++ t).length pre.length B off cap i u a b c _ w (by omega) hcap hL.1 hL.last (fun W hb => ih t ht pre W (by omega) (by omega) (hL.front.below hb))
  ·have e0 : pre ++ (A ++ (C ++ [s])) = ((pre ++ A) ++ C) ++ [s] := by simp
   have e : (pre ++ (A ++ (C ++ [s]))).length = ((pre ++ A) ++ C).length + 1 := by rw [e0, List.length_append]; rfl
   have e2 : ((pre ++ A) ++ C).length = (pre ++ A).length + C.length := by rw [List.length_append]
   rw [e] at h12 hcap ⊢
   rw [e0] at hL
   rw [has_two hok h5 h7 hA hC i hi]
   exact in_two s h5 h7 ((pre ++ A) ++ C).length pre.length (pre ++ A).length B off cap i u a b c _ _ w (by omega) hcap hL.1 hL.last
    (fun W hb => ih C hC (pre ++ A) W (by omega) (by omega) (hL.front.below hb)) (fun W hb => ih A hA pre W (by omega) (by omega) (hL.front.front.below hb))
theorem In_any (t : List Int) (hf : faultN t = 0) (i : Nat) (u a b c : Int) (hok : (Wd.mk u a b c).ok = true) (hi : (i : Int) < u) (B off cap : Nat) (hcap : t.length ≤ cap) (w : World) (hL : Lies w B off t) :
    Calls Tryz.prog 50 #[.slice (some ⟨B, off, none⟩) t.length cap, .agg #[.int .i64 u, .int .i64 a, .int .i64 b, .int .i64 c], .int .i64 i] w (Bk w (.bool (hasB ((Wd.mk u a b c).val t) i))) := by
 obtain ⟨_, h12, hs, h1⟩ := fault_zero.1 hf
 obtain ⟨k, hk⟩ := tree t hs h1
 have HI : Hid (Calls Tryz.prog 75 #[.slice (some ⟨B, off, none⟩) t.length cap, .agg #[.int .i64 u, .int .i64 a, .int .i64 b, .int .i64 c], .int .i64 i] (w.alloc (.cells #[.int .i64 u, .int .i64 a, .int .i64 b, .int .i64 c] 58)) fun e w' => e = .returned (.tuple #[.bool (hasB ((Wd.mk u a b c).val t) i), .slice (some ⟨B, off, none⟩) 0 cap]) ∧ Below (w.alloc (.cells #[.int .i64 u, .int .i64 a, .int .i64 b, .int .i64 c] 58)).heap.size (w.alloc (.cells #[.int .i64 u, .int .i64 a, .int .i64 b, .int .i64 c] 58)) w') := by
  have hL' := hL.below (below_alloc1 w (.cells #[.int .i64 u, .int .i64 a, .int .i64 b, .int .i64 c] 58))
  exact in_any i u a b c hok hi B off cap k t hk [] _ h12 hcap hL'
 have HA : Hid (Bw w (w.alloc (.cells #[.int .i64 u, .int .i64 a, .int .i64 b, .int .i64 c] 58))) := below_alloc1 _ _
 obtain ⟨V, hV⟩ := nm (hasB ((Wd.mk u a b c).val t) i)
 rw [← hV] at HI ⊢
 obtain ⟨n, hn⟩ := nm t.length
 rw [← hn] at HI ⊢
 clear hV hn hk hL hcap hi hok h1 hs h12 hf
 go_enter Tryz.func50, Tryz.ntmps50
 go_wp2_with (go_at_call 75; refine HI.out.mono ?_; rintro e w2 ⟨rfl, hb⟩)
 go_ret
 exact ⟨rfl, HA.out.trans (hb.mono HA.out.size)⟩
theorem refSize_any (s : Int) (hs : 0 ≤ s) (hm : s < 64) (w : World) :
    Calls Tryz.prog 24 #[.int .i64 s] w (Sk w (.int .i64 (pcN s))) := by
 have HE : Hid (pcTo s 6 = pcN s) := pcTo_six s hs hm
 go_enter Tryz.func24, Tryz.ntmps24
 go_wp2
 go_loop [3, 4] (fun n i => ∃ k : Nat, k ≤ 6 ∧ i = .int .i64 k ∧ n = .int .i64 (pcTo s k)) (fun _ i => 6 - (intOf i).toNat)
 case atStart => exact ⟨0, Nat.zero_le _, rfl, rfl⟩
 case round =>
  obtain ⟨k, hk, rfl, rfl⟩ := hrel
  have p1 := pcTo_le s k
  by_cases hlt : k < 6
  ·by_cases hh : hasB s k = true
   ·have HS : Hid (pcTo s (k + 1) = pcTo s k + 1) := by unfold Hid; rw [pcTo, if_pos hh]
    go_wp2_with (go_at_call 48; refine (refHas_any _ _ hs ?_ ?_ _).mono ?_; omega; omega; rintro e w' ⟨rfl, rfl⟩)
    go_round
    case rel => exact ⟨k + 1, by omega, by go_num, by rw [HS.out]⟩
    case measure => simp [intOf]; omega
   ·have hh' : hasB s k = false := by simpa using hh
    have HS : Hid (pcTo s (k + 1) = pcTo s k) := by unfold Hid; rw [pcTo, if_neg hh]; omega
    clear hh
    go_wp2_with (go_at_call 48; refine (refHas_any _ _ hs ?_ ?_ _).mono ?_; omega; omega; rintro e w' ⟨rfl, rfl⟩)
    go_round
    case rel => exact ⟨k + 1, by omega, by go_num, by rw [HS.out]⟩
    case measure => simp [intOf]; omega
  ·obtain rfl : k = 6 := by omega
   go_wp2
   go_ret
   exact ⟨ret_i HE.out, rfl⟩
theorem in5 (x y : Bool) : inB 5 x y = (x || y) := rfl
theorem in6 (x y : Bool) : inB 6 x y = (x && y) := rfl
theorem in7 (x y : Bool) : inB 7 x y = (x && !y) := rfl
theorem in8 (x y : Bool) : inB 8 x y = !x := rfl
theorem refDo_any (what u a b : Int) (hl : 5 ≤ what) (hm : what ≤ 8) (ha : okB u a = true) (hb : okB u b = true) (w : World) :
    Calls Tryz.prog 149 #[.int .i64 what, .int .i64 u, .int .i64 a, .int .i64 b] w (Sk w (.int .i64 (doN what u a b))) := by
 obtain ⟨u0, u1, a0, a1⟩ := okB_lt ha
 obtain ⟨_, _, b0, b1⟩ := okB_lt hb
 have HE : Hid (doTo what a b u.toNat = doN what u a b) := doTo_do what u a b hl hm ha hb
 clear ha hb
 obtain ⟨n, rfl⟩ := Int.eq_ofNat_of_zero_le u0
 clear u0
 have hd : what = 5 ∨ what = 6 ∨ what = 7 ∨ what = 8 := by omega
 clear hl hm
 go_enter Tryz.func149, Tryz.ntmps149
 go_wp2
 go_loop [9, 10] (fun s i => ∃ k : Nat, k ≤ n ∧ i = .int .i64 k ∧ s = .int .i64 (doTo what a b k)) (fun _ i => n - (intOf i).toNat)
 case atStart => exact ⟨0, Nat.zero_le _, rfl, rfl⟩
 case round =>
  obtain ⟨k, hk, rfl, rfl⟩ := hrel
  have p1 := doTo_le what a b k
  by_cases hlt : k < n
  ·have p2 := pw_le6 (k := k) (by omega)
   have p3 := pw_pos k
   have HS : Hid (doTo what a b (k + 1) = doTo what a b k + if inB what (hasB a k) (hasB b k) = true then pw k else 0) := rfl
   rcases hd with rfl | rfl | rfl | rfl
   all_goals
    cases hx : hasB a k <;> cases hy : hasB b k
    all_goals
     go_wp2_with (first | (go_at_call 48; refine (refHas_any _ _ ?_ ?_ ?_ _).mono ?_; omega; omega; omega; rintro e w' ⟨rfl, rfl⟩) | (go_at_call 49; refine (refPower_any _ ?_ _).mono ?_; omega; rintro e w' ⟨rfl, rfl⟩))
     go_round
     case rel => exact ⟨k + 1, by omega, by go_num, by rw [HS.out, hx, hy]; simp [in5, in6, in7, in8]⟩
     case measure => simp [intOf]; omega
  ·obtain rfl : k = n := by omega
   go_wp2
   go_ret
   exact ⟨ret_i HE.out, rfl⟩
theorem refValue_any (t : List Int) (hf : faultN t = 0) (u a b c : Int) (hok : (Wd.mk u a b c).ok = true) (B off cap : Nat) (hcap : t.length ≤ cap) (w : World) (hL : Lies w B off t) :
    Calls Tryz.prog 25 #[.slice (some ⟨B, off, none⟩) t.length cap, .agg #[.int .i64 u, .int .i64 a, .int .i64 b, .int .i64 c]] w (Bk w (.int .i64 ((Wd.mk u a b c).val t))) := by
 have hv := ok_val hok t
 simp only at hv
 obtain ⟨hu0, hu6, _, _⟩ := okB_lt hv
 have HS : Hid (sumTo ((Wd.mk u a b c).val t) u.toNat = (Wd.mk u a b c).val t) := sumTo_all hv
 have HIn : Hid (∀ i : Nat, (i : Int) < u → ∀ W, Bw w W → Calls Tryz.prog 50 #[.slice (some ⟨B, off, none⟩) t.length cap, .agg #[.int .i64 u, .int .i64 a, .int .i64 b, .int .i64 c], .int .i64 i] W (Bk W (.bool (hasB ((Wd.mk u a b c).val t) i)))) := fun i hi W hb => In_any t hf i u a b c hok hi B off cap hcap W (hL.below hb)
 obtain ⟨V, hV⟩ := nm ((Wd.mk u a b c).val t)
 rw [← hV] at HS HIn ⊢
 obtain ⟨n, hn⟩ := nm t.length
 rw [← hn] at HIn ⊢
 clear hV hn hv hL hcap hok hf
 obtain ⟨U, rfl⟩ := Int.eq_ofNat_of_zero_le hu0
 rw [Int.toNat_natCast] at HS
 clear hu0
 obtain ⟨w1, hw1⟩ := nm (w.alloc (.cells #[.int .i64 (U : Int), .int .i64 a, .int .i64 b, .int .i64 c] 58))
 have HX : Hid (∀ W, Bw w1 W → W.cell? ⟨w.heap.size, 0, none⟩ = some (.int .i64 (U : Int)) ∧ W.cell? ⟨w.heap.size, 1, none⟩ = some (.int .i64 a) ∧ W.cell? ⟨w.heap.size, 2, none⟩ = some (.int .i64 b) ∧ W.cell? ⟨w.heap.size, 3, none⟩ = some (.int .i64 c)) := fun W hc => by
  have hlt : w.heap.size < w1.heap.size := by rw [hw1]; simp
  rw [hc.cell (p := ⟨w.heap.size, 0, none⟩) hlt, hc.cell (p := ⟨w.heap.size, 1, none⟩) hlt, hc.cell (p := ⟨w.heap.size, 2, none⟩) hlt, hc.cell (p := ⟨w.heap.size, 3, none⟩) hlt, hw1]
  simp
 have HW : Hid (Bw w w1 ∧ w.heap.size ≤ w1.heap.size) := by
  refine ⟨?_, ?_⟩
  ·rw [hw1]; exact below_alloc1 _ _
  ·rw [hw1]; simp
 go_enter Tryz.func25, Tryz.ntmps25
 go_wp2
 rw [← hw1]
 clear hw1
 go_loopw [5, 6] (fun s i wr => ∃ k : Nat, k ≤ U ∧ i = .int .i64 k ∧ s = .int .i64 (sumTo V k) ∧ Bw w1 wr) (fun _ i _ => U - (intOf i).toNat)
 case atStart => exact ⟨0, Nat.zero_le _, rfl, rfl, Below.refl _ _⟩
 case round =>
  obtain ⟨k, hk, rfl, rfl, hbel⟩ := hrel
  obtain ⟨x0, x1, x2, x3⟩ := HX.out _ hbel
  have HB := hide hbel
  have HB0 := hide (HW.out.1.trans (hbel.mono HW.out.2))
  clear hbel
  have p1 := sumTo_le V k
  by_cases hlt : k < U
  ·have p2 := pw_le6 (k := k) (by omega)
   have p3 := pw_pos k
   have HI := HIn.out k (by omega) wr HB0.out
   have HI' := hide HI
   clear HI
   have HT : Hid (sumTo V (k + 1) = sumTo V k + if hasB V k = true then pw k else 0) := rfl
   cases hx : hasB V k
   ·rw [hx] at HI'
    have HE : Hid (sumTo V (k + 1) = sumTo V k) := by unfold Hid; rw [HT.out, hx]; simp
    clear hx HT
    go_wp2_with (go_at_call 50; refine HI'.out.mono ?_; rintro e w2 ⟨rfl, hb⟩)
    go_roundw
    case rel => exact ⟨k + 1, by omega, by go_num, by rw [HE.out], HB.out.trans (hb.mono HB.out.size)⟩
    case measure => simp [intOf]; omega
   ·rw [hx] at HI'
    have HE : Hid (sumTo V (k + 1) = sumTo V k + pw k) := by unfold Hid; rw [HT.out, hx]; simp
    clear hx HT
    go_wp2_with (first | (go_at_call 50; refine HI'.out.mono ?_; rintro e w2 ⟨rfl, hb⟩) | (go_at_call 49; refine (refPower_any _ ?_ _).mono ?_; omega; rintro e w' ⟨rfl, rfl⟩))
    go_roundw
    case rel => exact ⟨k + 1, by omega, by go_num, by rw [HE.out], HB.out.trans (hb.mono HB.out.size)⟩
    case measure => simp [intOf]; omega
  ·obtain rfl : k = U := by omega
   go_wp2
   go_ret
   exact ⟨back_i HS.out, HB0.out⟩
end Go.Proofs.YtnoohlibgaeklaaGreatDoor
