/-
  Proved: what vennref1.Atom returns, of any atom; what was in memory is as it was (a contract that the statements lean on). Written by program.
  Proved: what the reference's ReadTerm returns, of a text of at most 1048576 bytes; what was in memory is as it was (a contract that the statements lean on).
-/
import Derived.Test.YtfnkbbpjfjendaiGreatDoorLibTX12
import Derived.Test.YtfnkbbpjfjendaiGreatDoorLibTX6
namespace Go.Proofs.YtfnkbbpjfjendaiGreatDoor
open Go.ChangeShapes Go.WideShapes Go.ChangeAt Go.RowKit
set_option maxRecDepth 100000

set_option linter.unusedVariables false in
set_option maxHeartbeats 4000000 in
theorem refAtom_1 (n : Int) (sao tao : Option Addr) (sl scap tl tcap : Nat) (s t : List Int) (hl : tl = t.length) (w : World)
    (hS : ∀ W, Below w.heap.size w W → Calls Tryz.prog 35 #[.slice sao sl scap] W fun e w' => e = .returned (.int .i64 (faultN s)) ∧ W = w')
    (hT : ∀ W, Below w.heap.size w W → Calls Tryz.prog 35 #[.slice tao tl tcap] W fun e w' => e = .returned (.int .i64 (faultN t)) ∧ W = w') :
    Calls Tryz.prog 14 #[.agg #[.int .i64 1, .slice sao sl scap, .slice tao tl tcap, .int .i64 n]] w fun e w' => e = .returned (.int .i64 (atomFault 1 s t n)) ∧ Below w.heap.size w w' := by
  obtain ⟨w1, hw1⟩ : ∃ w1, w1 = w.alloc (.cells #[.int .i64 1, .slice sao sl scap, .slice tao tl tcap, .int .i64 n] 40) := ⟨_, rfl⟩
  have HB1 : Hid (Below w.heap.size w w1) := by unfold Hid; rw [hw1]; exact below_alloc1 w _
  obtain ⟨x0, x1, x2, x3⟩ : w1.cell? ⟨w.heap.size, 0, none⟩ = some (.int .i64 1) ∧ w1.cell? ⟨w.heap.size, 1, none⟩ = some (.slice sao sl scap) ∧ w1.cell? ⟨w.heap.size, 2, none⟩ = some (.slice tao tl tcap) ∧ w1.cell? ⟨w.heap.size, 3, none⟩ = some (.int .i64 n) := by rw [hw1]; simp
  have HS : Hid (Calls Tryz.prog 35 #[.slice sao sl scap] w1 fun e w' => e = .returned (.int .i64 (faultN s)) ∧ w1 = w') := hS w1 HB1.out
  have HT : Hid (Calls Tryz.prog 35 #[.slice tao tl tcap] w1 fun e w' => e = .returned (.int .i64 (faultN t)) ∧ w1 = w') := hT w1 HB1.out
  have HL : Hid (tl = t.length) := hl
  clear hS hT hl
  have hk : (1 : Int) ≤ 1 ∧ (1 : Int) ≤ 5 := by decide
  obtain ⟨F, hF⟩ : ∃ F, F = atomFault 1 s t n := ⟨_, rfl⟩
  rw [← hF]
  by_cases hs : faultN s = 0
  · rw [hs] at HS
    by_cases ht : faultN t = 0
    · rw [ht] at HT
      have hsf : secondFault 1 t = 0 := by unfold secondFault; rw [if_pos (by decide), ht]
      clear ht
      rw [atomFault_third hk hs hsf] at hF
      have hmo : mostN 1 = 0 := by decide
      rw [hmo] at hF
      clear hmo hs hsf
      by_cases h1 : n < -20
      · rw [if_neg (by omega)] at hF
        subst hF
        go_enter Tryz.func14, Tryz.ntmps14
        go_wp2_with fail
        rw [← hw1]
        clear hw1
        go_at_call 35
        refine HS.out.mono ?_
        rintro e w' ⟨rfl, rfl⟩
        go_wp2_with fail
        go_at_call 35
        refine HT.out.mono ?_
        rintro e w' ⟨rfl, rfl⟩
        go_wp2
        go_ret
        exact ⟨rfl, HB1.out⟩
      by_cases h2 : 20 < n
      · rw [if_neg (by omega)] at hF
        subst hF
        go_enter Tryz.func14, Tryz.ntmps14
        go_wp2_with fail
        rw [← hw1]
        clear hw1
        go_at_call 35
        refine HS.out.mono ?_
        rintro e w' ⟨rfl, rfl⟩
        go_wp2_with fail
        go_at_call 35
        refine HT.out.mono ?_
        rintro e w' ⟨rfl, rfl⟩
        go_wp2
        go_ret
        exact ⟨rfl, HB1.out⟩
      by_cases h3 : n = 0
      · rw [if_pos (by omega)] at hF
        subst hF h3
        go_enter Tryz.func14, Tryz.ntmps14
        go_wp2_with fail
        rw [← hw1]
        clear hw1
        go_at_call 35
        refine HS.out.mono ?_
        rintro e w' ⟨rfl, rfl⟩
        go_wp2_with fail
        go_at_call 35
        refine HT.out.mono ?_
        rintro e w' ⟨rfl, rfl⟩
        go_wp2
        go_ret
        exact ⟨rfl, HB1.out⟩
      · have h3' : (n != 0) = true := by simpa using h3
        rw [if_neg (by omega)] at hF
        subst hF
        go_enter Tryz.func14, Tryz.ntmps14
        go_wp2_with fail
        rw [← hw1]
        clear hw1
        go_at_call 35
        refine HS.out.mono ?_
        rintro e w' ⟨rfl, rfl⟩
        go_wp2_with fail
        go_at_call 35
        refine HT.out.mono ?_
        rintro e w' ⟨rfl, rfl⟩
        go_wp2
        go_ret
        exact ⟨rfl, HB1.out⟩
    · have hsf : secondFault 1 t = faultN t := by unfold secondFault; rw [if_pos (by decide)]
      rw [atomFault_second hk hs (by rw [hsf]; exact ht), hsf] at hF
      rw [← hF] at HT ht
      have ht' : (F != 0) = true := by simpa using ht
      clear hF ht hsf hs
      go_enter Tryz.func14, Tryz.ntmps14
      go_wp2_with fail
      rw [← hw1]
      clear hw1
      go_at_call 35
      refine HS.out.mono ?_
      rintro e w' ⟨rfl, rfl⟩
      go_wp2_with fail
      go_at_call 35
      refine HT.out.mono ?_
      rintro e w' ⟨rfl, rfl⟩
      go_wp2
      go_ret
      exact ⟨rfl, HB1.out⟩
  · rw [atomFault_first hk hs] at hF
    rw [← hF] at HS hs
    have hs' : (F != 0) = true := by simpa using hs
    clear hF hs
    go_enter Tryz.func14, Tryz.ntmps14
    go_wp2_with fail
    rw [← hw1]
    clear hw1
    go_at_call 35
    refine HS.out.mono ?_
    rintro e w' ⟨rfl, rfl⟩
    go_wp2
    go_ret
    exact ⟨rfl, HB1.out⟩

set_option linter.unusedVariables false in
set_option maxHeartbeats 4000000 in
theorem refAtom_2 (n : Int) (sao tao : Option Addr) (sl scap tl tcap : Nat) (s t : List Int) (hl : tl = t.length) (w : World)
    (hS : ∀ W, Below w.heap.size w W → Calls Tryz.prog 35 #[.slice sao sl scap] W fun e w' => e = .returned (.int .i64 (faultN s)) ∧ W = w')
    (hT : ∀ W, Below w.heap.size w W → Calls Tryz.prog 35 #[.slice tao tl tcap] W fun e w' => e = .returned (.int .i64 (faultN t)) ∧ W = w') :
    Calls Tryz.prog 14 #[.agg #[.int .i64 2, .slice sao sl scap, .slice tao tl tcap, .int .i64 n]] w fun e w' => e = .returned (.int .i64 (atomFault 2 s t n)) ∧ Below w.heap.size w w' := by
  obtain ⟨w1, hw1⟩ : ∃ w1, w1 = w.alloc (.cells #[.int .i64 2, .slice sao sl scap, .slice tao tl tcap, .int .i64 n] 40) := ⟨_, rfl⟩
  have HB1 : Hid (Below w.heap.size w w1) := by unfold Hid; rw [hw1]; exact below_alloc1 w _
  obtain ⟨x0, x1, x2, x3⟩ : w1.cell? ⟨w.heap.size, 0, none⟩ = some (.int .i64 2) ∧ w1.cell? ⟨w.heap.size, 1, none⟩ = some (.slice sao sl scap) ∧ w1.cell? ⟨w.heap.size, 2, none⟩ = some (.slice tao tl tcap) ∧ w1.cell? ⟨w.heap.size, 3, none⟩ = some (.int .i64 n) := by rw [hw1]; simp
  have HS : Hid (Calls Tryz.prog 35 #[.slice sao sl scap] w1 fun e w' => e = .returned (.int .i64 (faultN s)) ∧ w1 = w') := hS w1 HB1.out
  have HT : Hid (Calls Tryz.prog 35 #[.slice tao tl tcap] w1 fun e w' => e = .returned (.int .i64 (faultN t)) ∧ w1 = w') := hT w1 HB1.out
  have HL : Hid (tl = t.length) := hl
  clear hS hT hl
  have hk : (1 : Int) ≤ 2 ∧ (2 : Int) ≤ 5 := by decide
  obtain ⟨F, hF⟩ : ∃ F, F = atomFault 2 s t n := ⟨_, rfl⟩
  rw [← hF]
  by_cases hs : faultN s = 0
  · rw [hs] at HS
    by_cases ht : faultN t = 0
    · rw [ht] at HT
      have hsf : secondFault 2 t = 0 := by unfold secondFault; rw [if_pos (by decide), ht]
      clear ht
      rw [atomFault_third hk hs hsf] at hF
      have hmo : mostN 2 = 0 := by decide
      rw [hmo] at hF
      clear hmo hs hsf
      by_cases h1 : n < -20
      · rw [if_neg (by omega)] at hF
        subst hF
        go_enter Tryz.func14, Tryz.ntmps14
        go_wp2_with fail
        rw [← hw1]
        clear hw1
        go_at_call 35
        refine HS.out.mono ?_
        rintro e w' ⟨rfl, rfl⟩
        go_wp2_with fail
        go_at_call 35
        refine HT.out.mono ?_
        rintro e w' ⟨rfl, rfl⟩
        go_wp2
        go_ret
        exact ⟨rfl, HB1.out⟩
      by_cases h2 : 20 < n
      · rw [if_neg (by omega)] at hF
        subst hF
        go_enter Tryz.func14, Tryz.ntmps14
        go_wp2_with fail
        rw [← hw1]
        clear hw1
        go_at_call 35
        refine HS.out.mono ?_
        rintro e w' ⟨rfl, rfl⟩
        go_wp2_with fail
        go_at_call 35
        refine HT.out.mono ?_
        rintro e w' ⟨rfl, rfl⟩
        go_wp2
        go_ret
        exact ⟨rfl, HB1.out⟩
      by_cases h3 : n = 0
      · rw [if_pos (by omega)] at hF
        subst hF h3
        go_enter Tryz.func14, Tryz.ntmps14
        go_wp2_with fail
        rw [← hw1]
        clear hw1
        go_at_call 35
        refine HS.out.mono ?_
        rintro e w' ⟨rfl, rfl⟩
        go_wp2_with fail
        go_at_call 35
        refine HT.out.mono ?_
        rintro e w' ⟨rfl, rfl⟩
        go_wp2
        go_ret
        exact ⟨rfl, HB1.out⟩
      · have h3' : (n != 0) = true := by simpa using h3
        rw [if_neg (by omega)] at hF
        subst hF
        go_enter Tryz.func14, Tryz.ntmps14
        go_wp2_with fail
        rw [← hw1]
        clear hw1
        go_at_call 35
        refine HS.out.mono ?_
        rintro e w' ⟨rfl, rfl⟩
        go_wp2_with fail
        go_at_call 35
        refine HT.out.mono ?_
        rintro e w' ⟨rfl, rfl⟩
        go_wp2
        go_ret
        exact ⟨rfl, HB1.out⟩
    · have hsf : secondFault 2 t = faultN t := by unfold secondFault; rw [if_pos (by decide)]
      rw [atomFault_second hk hs (by rw [hsf]; exact ht), hsf] at hF
      rw [← hF] at HT ht
      have ht' : (F != 0) = true := by simpa using ht
      clear hF ht hsf hs
      go_enter Tryz.func14, Tryz.ntmps14
      go_wp2_with fail
      rw [← hw1]
      clear hw1
      go_at_call 35
      refine HS.out.mono ?_
      rintro e w' ⟨rfl, rfl⟩
      go_wp2_with fail
      go_at_call 35
      refine HT.out.mono ?_
      rintro e w' ⟨rfl, rfl⟩
      go_wp2
      go_ret
      exact ⟨rfl, HB1.out⟩
  · rw [atomFault_first hk hs] at hF
    rw [← hF] at HS hs
    have hs' : (F != 0) = true := by simpa using hs
    clear hF hs
    go_enter Tryz.func14, Tryz.ntmps14
    go_wp2_with fail
    rw [← hw1]
    clear hw1
    go_at_call 35
    refine HS.out.mono ?_
    rintro e w' ⟨rfl, rfl⟩
    go_wp2
    go_ret
    exact ⟨rfl, HB1.out⟩

set_option linter.unusedVariables false in
set_option maxHeartbeats 4000000 in
theorem refAtom_3 (n : Int) (sao tao : Option Addr) (sl scap tl tcap : Nat) (s t : List Int) (hl : tl = t.length) (w : World)
    (hS : ∀ W, Below w.heap.size w W → Calls Tryz.prog 35 #[.slice sao sl scap] W fun e w' => e = .returned (.int .i64 (faultN s)) ∧ W = w')
    (hT : ∀ W, Below w.heap.size w W → Calls Tryz.prog 35 #[.slice tao tl tcap] W fun e w' => e = .returned (.int .i64 (faultN t)) ∧ W = w') :
    Calls Tryz.prog 14 #[.agg #[.int .i64 3, .slice sao sl scap, .slice tao tl tcap, .int .i64 n]] w fun e w' => e = .returned (.int .i64 (atomFault 3 s t n)) ∧ Below w.heap.size w w' := by
  obtain ⟨w1, hw1⟩ : ∃ w1, w1 = w.alloc (.cells #[.int .i64 3, .slice sao sl scap, .slice tao tl tcap, .int .i64 n] 40) := ⟨_, rfl⟩
  have HB1 : Hid (Below w.heap.size w w1) := by unfold Hid; rw [hw1]; exact below_alloc1 w _
  obtain ⟨x0, x1, x2, x3⟩ : w1.cell? ⟨w.heap.size, 0, none⟩ = some (.int .i64 3) ∧ w1.cell? ⟨w.heap.size, 1, none⟩ = some (.slice sao sl scap) ∧ w1.cell? ⟨w.heap.size, 2, none⟩ = some (.slice tao tl tcap) ∧ w1.cell? ⟨w.heap.size, 3, none⟩ = some (.int .i64 n) := by rw [hw1]; simp
  have HS : Hid (Calls Tryz.prog 35 #[.slice sao sl scap] w1 fun e w' => e = .returned (.int .i64 (faultN s)) ∧ w1 = w') := hS w1 HB1.out
  have HT : Hid (Calls Tryz.prog 35 #[.slice tao tl tcap] w1 fun e w' => e = .returned (.int .i64 (faultN t)) ∧ w1 = w') := hT w1 HB1.out
  have HL : Hid (tl = t.length) := hl
  clear hS hT hl
  have hk : (1 : Int) ≤ 3 ∧ (3 : Int) ≤ 5 := by decide
  obtain ⟨F, hF⟩ : ∃ F, F = atomFault 3 s t n := ⟨_, rfl⟩
  rw [← hF]
  by_cases hs : faultN s = 0
  · rw [hs] at HS
    by_cases ht : 0 < t.length
    · have hsf : secondFault 3 t = 3 := by unfold secondFault; rw [if_neg (by decide), if_pos ht]
      rw [atomFault_second hk hs (by rw [hsf]; decide), hsf] at hF
      rw [← HL.out] at ht
      subst hF
      clear hsf hs
      go_enter Tryz.func14, Tryz.ntmps14
      go_wp2_with fail
      rw [← hw1]
      clear hw1
      go_at_call 35
      refine HS.out.mono ?_
      rintro e w' ⟨rfl, rfl⟩
      go_wp2
      go_ret
      exact ⟨rfl, HB1.out⟩
    · have hsf : secondFault 3 t = 0 := by unfold secondFault; rw [if_neg (by decide), if_neg ht]
      obtain rfl : tl = 0 := by have := HL.out; omega
      clear ht
      rw [atomFault_third hk hs hsf] at hF
      have hmo : mostN 3 = 20 := by decide
      rw [hmo] at hF
      clear hmo hs hsf
      by_cases h1 : n < -20
      · rw [if_neg (by omega)] at hF
        subst hF
        go_enter Tryz.func14, Tryz.ntmps14
        go_wp2_with fail
        rw [← hw1]
        clear hw1
        go_at_call 35
        refine HS.out.mono ?_
        rintro e w' ⟨rfl, rfl⟩
        go_wp2
        go_ret
        exact ⟨rfl, HB1.out⟩
      by_cases h2 : 20 < n
      · rw [if_neg (by omega)] at hF
        subst hF
        go_enter Tryz.func14, Tryz.ntmps14
        go_wp2_with fail
        rw [← hw1]
        clear hw1
        go_at_call 35
        refine HS.out.mono ?_
        rintro e w' ⟨rfl, rfl⟩
        go_wp2
        go_ret
        exact ⟨rfl, HB1.out⟩
      rw [if_pos (by omega)] at hF
      subst hF
      go_enter Tryz.func14, Tryz.ntmps14
      go_wp2_with fail
      rw [← hw1]
      clear hw1
      go_at_call 35
      refine HS.out.mono ?_
      rintro e w' ⟨rfl, rfl⟩
      go_wp2
      go_ret
      exact ⟨rfl, HB1.out⟩
  · rw [atomFault_first hk hs] at hF
    rw [← hF] at HS hs
    have hs' : (F != 0) = true := by simpa using hs
    clear hF hs
    go_enter Tryz.func14, Tryz.ntmps14
    go_wp2_with fail
    rw [← hw1]
    clear hw1
    go_at_call 35
    refine HS.out.mono ?_
    rintro e w' ⟨rfl, rfl⟩
    go_wp2
    go_ret
    exact ⟨rfl, HB1.out⟩

set_option linter.unusedVariables false in
set_option maxHeartbeats 4000000 in
theorem refAtom_4 (n : Int) (sao tao : Option Addr) (sl scap tl tcap : Nat) (s t : List Int) (hl : tl = t.length) (w : World)
    (hS : ∀ W, Below w.heap.size w W → Calls Tryz.prog 35 #[.slice sao sl scap] W fun e w' => e = .returned (.int .i64 (faultN s)) ∧ W = w')
    (hT : ∀ W, Below w.heap.size w W → Calls Tryz.prog 35 #[.slice tao tl tcap] W fun e w' => e = .returned (.int .i64 (faultN t)) ∧ W = w') :
    Calls Tryz.prog 14 #[.agg #[.int .i64 4, .slice sao sl scap, .slice tao tl tcap, .int .i64 n]] w fun e w' => e = .returned (.int .i64 (atomFault 4 s t n)) ∧ Below w.heap.size w w' := by
  obtain ⟨w1, hw1⟩ : ∃ w1, w1 = w.alloc (.cells #[.int .i64 4, .slice sao sl scap, .slice tao tl tcap, .int .i64 n] 40) := ⟨_, rfl⟩
  have HB1 : Hid (Below w.heap.size w w1) := by unfold Hid; rw [hw1]; exact below_alloc1 w _
  obtain ⟨x0, x1, x2, x3⟩ : w1.cell? ⟨w.heap.size, 0, none⟩ = some (.int .i64 4) ∧ w1.cell? ⟨w.heap.size, 1, none⟩ = some (.slice sao sl scap) ∧ w1.cell? ⟨w.heap.size, 2, none⟩ = some (.slice tao tl tcap) ∧ w1.cell? ⟨w.heap.size, 3, none⟩ = some (.int .i64 n) := by rw [hw1]; simp
  have HS : Hid (Calls Tryz.prog 35 #[.slice sao sl scap] w1 fun e w' => e = .returned (.int .i64 (faultN s)) ∧ w1 = w') := hS w1 HB1.out
  have HT : Hid (Calls Tryz.prog 35 #[.slice tao tl tcap] w1 fun e w' => e = .returned (.int .i64 (faultN t)) ∧ w1 = w') := hT w1 HB1.out
  have HL : Hid (tl = t.length) := hl
  clear hS hT hl
  have hk : (1 : Int) ≤ 4 ∧ (4 : Int) ≤ 5 := by decide
  obtain ⟨F, hF⟩ : ∃ F, F = atomFault 4 s t n := ⟨_, rfl⟩
  rw [← hF]
  by_cases hs : faultN s = 0
  · rw [hs] at HS
    by_cases ht : 0 < t.length
    · have hsf : secondFault 4 t = 3 := by unfold secondFault; rw [if_neg (by decide), if_pos ht]
      rw [atomFault_second hk hs (by rw [hsf]; decide), hsf] at hF
      rw [← HL.out] at ht
      subst hF
      clear hsf hs
      go_enter Tryz.func14, Tryz.ntmps14
      go_wp2_with fail
      rw [← hw1]
      clear hw1
      go_at_call 35
      refine HS.out.mono ?_
      rintro e w' ⟨rfl, rfl⟩
      go_wp2
      go_ret
      exact ⟨rfl, HB1.out⟩
    · have hsf : secondFault 4 t = 0 := by unfold secondFault; rw [if_neg (by decide), if_neg ht]
      obtain rfl : tl = 0 := by have := HL.out; omega
      clear ht
      rw [atomFault_third hk hs hsf] at hF
      have hmo : mostN 4 = 20 := by decide
      rw [hmo] at hF
      clear hmo hs hsf
      by_cases h1 : n < -20
      · rw [if_neg (by omega)] at hF
        subst hF
        go_enter Tryz.func14, Tryz.ntmps14
        go_wp2_with fail
        rw [← hw1]
        clear hw1
        go_at_call 35
        refine HS.out.mono ?_
        rintro e w' ⟨rfl, rfl⟩
        go_wp2
        go_ret
        exact ⟨rfl, HB1.out⟩
      by_cases h2 : 20 < n
      · rw [if_neg (by omega)] at hF
        subst hF
        go_enter Tryz.func14, Tryz.ntmps14
        go_wp2_with fail
        rw [← hw1]
        clear hw1
        go_at_call 35
        refine HS.out.mono ?_
        rintro e w' ⟨rfl, rfl⟩
        go_wp2
        go_ret
        exact ⟨rfl, HB1.out⟩
      rw [if_pos (by omega)] at hF
      subst hF
      go_enter Tryz.func14, Tryz.ntmps14
      go_wp2_with fail
      rw [← hw1]
      clear hw1
      go_at_call 35
      refine HS.out.mono ?_
      rintro e w' ⟨rfl, rfl⟩
      go_wp2
      go_ret
      exact ⟨rfl, HB1.out⟩
  · rw [atomFault_first hk hs] at hF
    rw [← hF] at HS hs
    have hs' : (F != 0) = true := by simpa using hs
    clear hF hs
    go_enter Tryz.func14, Tryz.ntmps14
    go_wp2_with fail
    rw [← hw1]
    clear hw1
    go_at_call 35
    refine HS.out.mono ?_
    rintro e w' ⟨rfl, rfl⟩
    go_wp2
    go_ret
    exact ⟨rfl, HB1.out⟩

set_option linter.unusedVariables false in
set_option maxHeartbeats 4000000 in
theorem refAtom_5 (n : Int) (sao tao : Option Addr) (sl scap tl tcap : Nat) (s t : List Int) (hl : tl = t.length) (w : World)
    (hS : ∀ W, Below w.heap.size w W → Calls Tryz.prog 35 #[.slice sao sl scap] W fun e w' => e = .returned (.int .i64 (faultN s)) ∧ W = w')
    (hT : ∀ W, Below w.heap.size w W → Calls Tryz.prog 35 #[.slice tao tl tcap] W fun e w' => e = .returned (.int .i64 (faultN t)) ∧ W = w') :
    Calls Tryz.prog 14 #[.agg #[.int .i64 5, .slice sao sl scap, .slice tao tl tcap, .int .i64 n]] w fun e w' => e = .returned (.int .i64 (atomFault 5 s t n)) ∧ Below w.heap.size w w' := by
  obtain ⟨w1, hw1⟩ : ∃ w1, w1 = w.alloc (.cells #[.int .i64 5, .slice sao sl scap, .slice tao tl tcap, .int .i64 n] 40) := ⟨_, rfl⟩
  have HB1 : Hid (Below w.heap.size w w1) := by unfold Hid; rw [hw1]; exact below_alloc1 w _
  obtain ⟨x0, x1, x2, x3⟩ : w1.cell? ⟨w.heap.size, 0, none⟩ = some (.int .i64 5) ∧ w1.cell? ⟨w.heap.size, 1, none⟩ = some (.slice sao sl scap) ∧ w1.cell? ⟨w.heap.size, 2, none⟩ = some (.slice tao tl tcap) ∧ w1.cell? ⟨w.heap.size, 3, none⟩ = some (.int .i64 n) := by rw [hw1]; simp
  have HS : Hid (Calls Tryz.prog 35 #[.slice sao sl scap] w1 fun e w' => e = .returned (.int .i64 (faultN s)) ∧ w1 = w') := hS w1 HB1.out
  have HT : Hid (Calls Tryz.prog 35 #[.slice tao tl tcap] w1 fun e w' => e = .returned (.int .i64 (faultN t)) ∧ w1 = w') := hT w1 HB1.out
  have HL : Hid (tl = t.length) := hl
  clear hS hT hl
  have hk : (1 : Int) ≤ 5 ∧ (5 : Int) ≤ 5 := by decide
  obtain ⟨F, hF⟩ : ∃ F, F = atomFault 5 s t n := ⟨_, rfl⟩
  rw [← hF]
  by_cases hs : faultN s = 0
  · rw [hs] at HS
    by_cases ht : faultN t = 0
    · rw [ht] at HT
      have hsf : secondFault 5 t = 0 := by unfold secondFault; rw [if_pos (by decide), ht]
      clear ht
      rw [atomFault_third hk hs hsf] at hF
      have hmo : mostN 5 = 20 := by decide
      rw [hmo] at hF
      clear hmo hs hsf
      by_cases h1 : n < -20
      · rw [if_neg (by omega)] at hF
        subst hF
        go_enter Tryz.func14, Tryz.ntmps14
        go_wp2_with fail
        rw [← hw1]
        clear hw1
        go_at_call 35
        refine HS.out.mono ?_
        rintro e w' ⟨rfl, rfl⟩
        go_wp2_with fail
        go_at_call 35
        refine HT.out.mono ?_
        rintro e w' ⟨rfl, rfl⟩
        go_wp2
        go_ret
        exact ⟨rfl, HB1.out⟩
      by_cases h2 : 20 < n
      · rw [if_neg (by omega)] at hF
        subst hF
        go_enter Tryz.func14, Tryz.ntmps14
        go_wp2_with fail
        rw [← hw1]
        clear hw1
        go_at_call 35
        refine HS.out.mono ?_
        rintro e w' ⟨rfl, rfl⟩
        go_wp2_with fail
        go_at_call 35
        refine HT.out.mono ?_
        rintro e w' ⟨rfl, rfl⟩
        go_wp2
        go_ret
        exact ⟨rfl, HB1.out⟩
      rw [if_pos (by omega)] at hF
      subst hF
      go_enter Tryz.func14, Tryz.ntmps14
      go_wp2_with fail
      rw [← hw1]
      clear hw1
      go_at_call 35
      refine HS.out.mono ?_
      rintro e w' ⟨rfl, rfl⟩
      go_wp2_with fail
      go_at_call 35
      refine HT.out.mono ?_
      rintro e w' ⟨rfl, rfl⟩
      go_wp2
      go_ret
      exact ⟨rfl, HB1.out⟩
    · have hsf : secondFault 5 t = faultN t := by unfold secondFault; rw [if_pos (by decide)]
      rw [atomFault_second hk hs (by rw [hsf]; exact ht), hsf] at hF
      rw [← hF] at HT ht
      have ht' : (F != 0) = true := by simpa using ht
      clear hF ht hsf hs
      go_enter Tryz.func14, Tryz.ntmps14
      go_wp2_with fail
      rw [← hw1]
      clear hw1
      go_at_call 35
      refine HS.out.mono ?_
      rintro e w' ⟨rfl, rfl⟩
      go_wp2_with fail
      go_at_call 35
      refine HT.out.mono ?_
      rintro e w' ⟨rfl, rfl⟩
      go_wp2
      go_ret
      exact ⟨rfl, HB1.out⟩
  · rw [atomFault_first hk hs] at hF
    rw [← hF] at HS hs
    have hs' : (F != 0) = true := by simpa using hs
    clear hF hs
    go_enter Tryz.func14, Tryz.ntmps14
    go_wp2_with fail
    rw [← hw1]
    clear hw1
    go_at_call 35
    refine HS.out.mono ?_
    rintro e w' ⟨rfl, rfl⟩
    go_wp2
    go_ret
    exact ⟨rfl, HB1.out⟩

/-- Atom, whatever the atom. -/
theorem refAtom_any (k n : Int) (vs vt : Value) (s t : List Int) (w : World) (hS : Reads w vs s) (hT : Reads w vt t) :
    Calls Tryz.prog 14 #[.agg #[.int .i64 k, vs, vt, .int .i64 n]] w fun e w' => e = .returned (.int .i64 (atomFault k s t n)) ∧ Below w.heap.size w w' := by
  have h1 := fun (W : World) (hW : Below w.heap.size w W) => refTerm_any s vs W (hS.below hW)
  have h2 := fun (W : World) (hW : Below w.heap.size w W) => refTerm_any t vt W (hT.below hW)
  obtain ⟨sao, scap, rfl, _⟩ := hS.slice
  obtain ⟨tao, tcap, rfl, _⟩ := hT.slice
  by_cases hk : 1 ≤ k ∧ k ≤ 5
  · rcases five hk.1 hk.2 with rfl | rfl | rfl | rfl | rfl
    · exact refAtom_1 n sao tao _ scap _ tcap s t rfl w h1 h2
    · exact refAtom_2 n sao tao _ scap _ tcap s t rfl w h1 h2
    · exact refAtom_3 n sao tao _ scap _ tcap s t rfl w h1 h2
    · exact refAtom_4 n sao tao _ scap _ tcap s t rfl w h1 h2
    · exact refAtom_5 n sao tao _ scap _ tcap s t rfl w h1 h2
  · rw [atomFault_kind hk]
    obtain ⟨sl, hsl⟩ : ∃ sl, sl = s.length := ⟨_, rfl⟩
    obtain ⟨tl, htl⟩ : ∃ tl, tl = t.length := ⟨_, rfl⟩
    rw [← hsl, ← htl]
    clear hS hT h1 h2 hsl htl
    by_cases h1 : k < 1
    · go_enter Tryz.func14, Tryz.ntmps14
      go_wp2
      go_ret
      exact ⟨rfl, below_alloc1 _ _⟩
    · have h2 : 5 < k := by omega
      go_enter Tryz.func14, Tryz.ntmps14
      go_wp2
      go_ret
      exact ⟨rfl, below_alloc1 _ _⟩
end Go.Proofs.YtfnkbbpjfjendaiGreatDoor

namespace Go.Proofs.YtfnkbbpjfjendaiGreatDoor
open Go.ChangeShapes Go.WideShapes Go.ChangeAt Go.RowKit
set_option maxRecDepth 100000

theorem letter_eq (j : Nat) (hj : j < 9) (b : UInt8) : (((((ByteArray.mk #[65, 66, 67, 48, 49, 43, 42, 45, 126])[j]'(by show j < 9; exact hj)).toNat : Nat) : Int) == ((b.toNat : Nat) : Int)) = decide (signOf b = (j : Int)) := by
  have h : ∀ j : Fin 9, ∀ n : Fin 256, (((((ByteArray.mk #[65, 66, 67, 48, 49, 43, 42, 45, 126])[j.val]'(by show j.val < 9; exact j.isLt)).toNat : Nat) : Int) == (((⟨⟨n⟩⟩ : UInt8).toNat : Nat) : Int)) = decide (signOf ⟨⟨n⟩⟩ = (j.val : Int)) := by decide +kernel
  exact h ⟨j, hj⟩ b.toBitVec.toFin
/-- what has been found of a byte among the first j letters. -/
def part (b : UInt8) (j : Nat) : Int := if 0 ≤ signOf b ∧ signOf b < j then signOf b else -1
theorem part_zero (b : UInt8) : part b 0 = -1 := by unfold part; rw [if_neg (by omega)]
theorem part_hit {b : UInt8} {j : Nat} (h : signOf b = j) : part b (j + 1) = j := by unfold part; rw [if_pos (by omega), h]
theorem part_miss {b : UInt8} {j : Nat} (h : ¬ signOf b = j) : part b (j + 1) = part b j := by
  unfold part
  by_cases h' : 0 ≤ signOf b ∧ signOf b < (j : Int)
  · rw [if_pos h', if_pos (by omega)]
  · rw [if_neg h', if_neg (by omega)]
theorem part_nine (b : UInt8) : part b 9 = signOf b := by
  unfold part
  rcases byte_all b with h | h
  · rw [h]; rfl
  · have := signB_iff.1 h.1
    rw [if_pos (by omega)]

theorem own_ints_big {w : World} {base : Nat} {e : TypeId} {v : Value} {n : Nat} {xs : List Value} {t : List Int} (h : w.ownsRow base e 1 v n xs) (hx : xs = t.map (Value.int .i64)) (hm : n ≤ 9223372036854775807) : Reads w v t := by
  have hn : t.length = n := by have := h.1; rw [hx] at this; simpa using this
  rcases h.2 with ⟨rfl, h0⟩ | ⟨g, cap, cur, rfl, _⟩
  · exact Or.inl ⟨_, _, rfl, List.eq_nil_of_length_eq_zero (by omega)⟩
  · rcases Nat.eq_zero_or_pos n with h0 | h0
    · exact Or.inl ⟨_, cap, by rw [h0], List.eq_nil_of_length_eq_zero (by omega)⟩
    · refine Or.inr ⟨g, 0, cap, by rw [hn], (ownsRow_block h).2.1, by omega, ⟨by omega, by have := (ownsRow_block h).2.2; omega⟩, fun k hk => ?_⟩
      rw [Nat.zero_add, h.cellAt k (by omega), hx]
      simp [List.getElem?_eq_getElem hk]
theorem one_new (W : World) (X : Int) : ∀ j y, [Value.int .i64 X][j]? = some y → (W.alloc (.cells #[.int .i64 X] 3)).cell? ((⟨W.heap.size, 0, none⟩ : Addr).add j) = some y := by
  intro j y hj
  match j, hj with
  | 0, hj => simp at hj; subst hj; simp [Addr.add]
theorem one_cell (X : Int) : ∀ y ∈ [Value.int .i64 X], y.oneCell' = true := by
  intro y hy; simp at hy; subst hy; rfl
theorem take_bytes (s : ByteArray) {k : Nat} (h : k < s.size) : s.data.toList.take (k + 1) = s.data.toList.take k ++ [s[k]'h] := by
  have hk' : k < s.data.toList.length := by rw [Array.length_toList]; exact h
  rw [List.take_add_one, List.getElem?_eq_getElem hk']
  rfl
theorem letters_stop (s : ByteArray) {k : Nat} (h : k < s.size) (hb : signOf (s[k]'h) = -1) : lettersB s.data.toList = false := by
  have hk' : k < s.data.toList.length := by rw [Array.length_toList]; exact h
  have : ¬ lettersB s.data.toList = true := by
    intro hl
    have := List.all_eq_true.1 hl (s[k]'h) (List.getElem_mem hk')
    rw [hb] at this; exact absurd this (by decide)
  simpa using this

theorem newV_own {w : World} {base : Nat} {e : TypeId} {v : Value} {n : Nat} {xs : List Value} (h : w.ownsRow base e 1 v n xs) : NewV base v := by
  rcases h.2 with ⟨rfl, h0⟩ | ⟨g, cap, cur, rfl, hg, _⟩
  · exact ⟨_, _, _, rfl, fun p hp => by cases hp⟩
  · exact ⟨_, _, _, rfl, fun p hp => by cases hp; exact hg⟩
set_option maxRecDepth 100000 in
set_option maxHeartbeats 8000000 in
theorem readTerm_fresh (s : ByteArray) (hz : s.size ≤ 1048576) (w : World) :
    Calls Tryz.prog 42 #[.string s] w fun e w' => (lettersB s.data.toList = true → ∃ v, e = .returned (.tuple #[v, .bool true]) ∧ Reads w' v (readN s.data.toList) ∧ NewV w.heap.size v) ∧ (lettersB s.data.toList = false → e = .returned (.tuple #[.slice none 0 0, .bool false])) ∧ Below w.heap.size w w' := by
  obtain ⟨i0, hi, hz0, hz1, hz2⟩ := info_parts infoInt
  obtain ⟨K, hK⟩ : ∃ K, K = w.heap.size := ⟨_, rfl⟩
  have HK : Hid (K = w.heap.size) := hK
  clear hK
  obtain ⟨QL, hQL⟩ : ∃ QL : Ending → World → Prop, QL = fun e w' => (lettersB s.data.toList = true → ∃ v, e = .returned (.tuple #[v, .bool true]) ∧ Reads w' v (readN s.data.toList) ∧ NewV w.heap.size v) ∧ (lettersB s.data.toList = false → e = .returned (.tuple #[.slice none 0 0, .bool false])) ∧ Below w.heap.size w w' := ⟨_, rfl⟩
  have HQ : Hid (∀ e w', ((lettersB s.data.toList = true → ∃ v, e = .returned (.tuple #[v, .bool true]) ∧ Reads w' v (readN s.data.toList) ∧ NewV w.heap.size v) ∧ (lettersB s.data.toList = false → e = .returned (.tuple #[.slice none 0 0, .bool false])) ∧ Below w.heap.size w w') → QL e w') := fun e w' h => by rw [hQL]; exact h
  have hgoal : Calls Tryz.prog 42 #[.string s] w QL := by
    clear hQL
    go_enter Tryz.func42, Tryz.ntmps42
    go_wp2
    go_loopw [4, 5] (fun v i wr => ∃ k : Nat, k ≤ s.size ∧ i = .int .i64 k ∧ wr.ownsRow K 3 1 v k ((readN (s.data.toList.take k)).map (Value.int .i64)) ∧ Below K w wr ∧ K ≤ wr.heap.size ∧ lettersB (s.data.toList.take k) = true) (fun _ i _ => s.size - (intOf i).toNat)
    case atStart => exact ⟨0, Nat.zero_le _, rfl, World.ownsRow_nil _ _ _ _, Below.refl _ _, by rw [HK.out]; exact Nat.le_refl _, rfl⟩
    case round =>
      obtain ⟨k, hk, rfl, hown, hbel, hKw, hlet⟩ := hrel
      by_cases hlt : k < s.size
      · have hlt' : (k : Int) < (s.size : Int) := by omega
        have HOW : Hid (wr.ownsRow K 3 1 _ k ((readN (s.data.toList.take k)).map (Value.int .i64))) := hown
        have HBE : Hid (Below K w wr ∧ K ≤ wr.heap.size) := ⟨hbel, hKw⟩
        have HLT : Hid (lettersB (s.data.toList.take k) = true) := hlet
        clear hown hbel hKw hlet
        go_wp2_with fail
        go_loopw [6, 7] (fun kk jj wx => ∃ j : Nat, j ≤ 9 ∧ jj = .int .i64 j ∧ kk = .int .i64 (part (s[k]'hlt) j) ∧ Below wr.heap.size wr wx) (fun _ j _ => 9 - (intOf j).toNat)
        case atStart => exact ⟨0, Nat.zero_le _, rfl, by rw [part_zero], Below.refl _ _⟩
        case round =>
          obtain ⟨j, hj, rfl, rfl, hbx⟩ := hrel
          have HBX : Hid (Below _ _ wr) := hbx
          clear hbx
          by_cases hj9 : j < 9
          · by_cases hq : signOf (s[k]'hlt) = (j : Int)
            · have HP : Hid (part (s[k]'hlt) (j + 1) = j) := part_hit hq
              have hle := letter_eq j hj9 (s[k]'hlt)
              rw [decide_eq_true hq] at hle
              clear hq
              obtain ⟨pp, hpp⟩ : ∃ pp, pp = part (s[k]'hlt) j := ⟨_, rfl⟩
              rw [← hpp]
              clear hpp
              have hj' : j = 0 ∨ j = 1 ∨ j = 2 ∨ j = 3 ∨ j = 4 ∨ j = 5 ∨ j = 6 ∨ j = 7 ∨ j = 8 := by omega
              clear hj
              rcases hj' with rfl | rfl | rfl | rfl | rfl | rfl | rfl | rfl | rfl
              all_goals
                go_wp2_with fail
                go_quiet (fail)
                go_wp2
                go_roundw
                case rel => refine ⟨_, ?_, ?_, congrArg (Value.int .i64) HP.out.symm, HBX.out.trans ((below_drewNs _ _).mono HBX.out.size)⟩; decide; go_num
                case measure => simp [intOf]
            · have HP : Hid (part (s[k]'hlt) (j + 1) = part (s[k]'hlt) j) := part_miss hq
              have hle := letter_eq j hj9 (s[k]'hlt)
              rw [decide_eq_false hq] at hle
              clear hq
              have hj' : j = 0 ∨ j = 1 ∨ j = 2 ∨ j = 3 ∨ j = 4 ∨ j = 5 ∨ j = 6 ∨ j = 7 ∨ j = 8 := by omega
              clear hj
              rcases hj' with rfl | rfl | rfl | rfl | rfl | rfl | rfl | rfl | rfl
              all_goals
                go_wp2_with fail
                go_quiet (fail)
                go_wp2
                go_roundw
                case rel => refine ⟨_, ?_, ?_, congrArg (Value.int .i64) HP.out.symm, HBX.out.trans ((below_drewNs _ _).mono HBX.out.size)⟩; decide; go_num
                case measure => simp [intOf]
          · obtain rfl : j = 9 := by omega
            rw [part_nine]
            clear hj hj9
            obtain ⟨S, hS⟩ : ∃ S, S = signOf (s[k]'hlt) := ⟨_, rfl⟩
            rw [← hS]
            have HOX := ownsRow_below HOW.out HBX.out
            have HO2 : Hid (wr.ownsRow K 3 1 _ k ((readN (s.data.toList.take k)).map (Value.int .i64))) := HOX
            have HB2 : Hid (Below K w wr ∧ K ≤ wr.heap.size) := ⟨HBE.out.1.trans (HBX.out.mono HBE.out.2), Nat.le_trans HBE.out.2 HBX.out.size⟩
            clear HOX
            by_cases hneg : S < 0
            · have HNo : Hid (lettersB s.data.toList = false) := letters_stop s hlt (by rw [← hS]; rcases byte_all (s[k]'hlt) with h | h
                                                                                        · rw [hS]; exact h
                                                                                        · have := signB_iff.1 h.1; omega)
              clear hS
              go_wp2
              try go_ret2
              refine HQ.out _ _ ⟨fun h => ?_, fun _ => rfl, ?_⟩
              · rw [HNo.out] at h; cases h
              · rw [← HK.out]; exact HB2.out.1
            · have HYes : Hid (lettersB (s.data.toList.take (k + 1)) = true ∧ readN (s.data.toList.take (k + 1)) = readN (s.data.toList.take k) ++ [S]) := by
                refine ⟨?_, ?_⟩
                · rw [take_bytes s hlt]; unfold lettersB; rw [List.all_append]
                  have h1 := HLT.out
                  unfold lettersB at h1
                  rw [h1]
                  simp only [List.all_cons, List.all_nil, Bool.and_true, Bool.true_and, bne_iff_ne, ne_eq]
                  rw [← hS]; omega
                · rw [take_bytes s hlt]; unfold readN; rw [List.map_append]; simp [hS]
              clear hS
              go_wp2_with (first | (at_builtin; refine wpList_append_own _ rfl (.tmp 27) (.tmp 29) 23 rfl K 3 i0 (.int .i64 0) 1 8 Tryz.underlying23 hi hz0 hz1 hz2 rfl (by decide) _ k _ rfl (HO2.out.alloc _) ⟨wr.heap.size, 0, none⟩ 1 1 [.int .i64 S] rfl rfl (one_new _ _) (one_cell _) ?p3 ?p4 ?p5 ?_))
              case p3 => unfold maxLen; omega
              case p4 => omega
              case p5 => have := HB2.out.2; simp; omega
              intro v' w2 hown' hgrow _
              have HR : Hid (w2.ownsRow K 3 1 v' (k + 1) ((readN (s.data.toList.take (k + 1))).map (Value.int .i64)) ∧ Below K w w2 ∧ K ≤ w2.heap.size) := by
                refine ⟨?_, ?_, ?_⟩
                · rw [HYes.out.2, List.map_append]; exact hown'
                · exact (HB2.out.1.alloc HB2.out.2 _).grown hgrow (by have := HB2.out.2; simp; omega) (fun g hg => (HO2.out.lt g hg).1)
                · have := hgrow.size; have := HB2.out.2; simp at *; omega
              clear hown' hgrow
              go_wp2
              go_roundw
              case rel => exact ⟨k + 1, by omega, by go_num, HR.out.1, HR.out.2.1, HR.out.2.2, HYes.out.1⟩
              case measure => simp [intOf]; omega
      · have hkn : k = s.size := by omega
        have hlen : s.data.toList.length = s.size := Array.length_toList
        have HAll : Hid (lettersB s.data.toList = true) := by
          rw [List.take_of_length_le (by omega)] at hlet; exact hlet
        have hnv := newV_own hown
        rw [HK.out] at hnv
        have HNv : Hid (NewV w.heap.size _) := hnv
        clear hnv
        have hrd := own_ints_big hown rfl (by omega)
        rw [List.take_of_length_le (by omega)] at hrd
        have HRd : Hid (Reads wr _ (readN s.data.toList)) := hrd
        clear hrd
        have HBw : Hid (Below w.heap.size w wr) := by unfold Hid; rw [← HK.out]; exact hbel
        have hge : ¬ (k : Int) < (s.size : Int) := by omega
        clear hown hbel hKw hlet hkn hlen
        go_wp2
        try go_ret2
        refine HQ.out _ _ ⟨fun _ => ⟨_, rfl, HRd.out, HNv.out⟩, fun h => ?_, HBw.out⟩
        rw [HAll.out] at h; cases h
  rw [hQL] at hgoal
  exact hgoal
/-- ReadTerm, without the place of what it lays. -/
theorem readTerm_any (s : ByteArray) (hz : s.size ≤ 1048576) (w : World) :
    Calls Tryz.prog 42 #[.string s] w fun e w' => (lettersB s.data.toList = true → ∃ v, e = .returned (.tuple #[v, .bool true]) ∧ Reads w' v (readN s.data.toList)) ∧ (lettersB s.data.toList = false → e = .returned (.tuple #[.slice none 0 0, .bool false])) ∧ Below w.heap.size w w' :=
  (readTerm_fresh s hz w).mono fun _ _ h => ⟨fun hl => by obtain ⟨v, h1, h2, _⟩ := h.1 hl; exact ⟨v, h1, h2⟩, h.2.1, h.2.2⟩
end Go.Proofs.YtfnkbbpjfjendaiGreatDoor
