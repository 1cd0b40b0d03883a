/-
  Proved: what vennref1.Atom returns, of any atom; what was in memory is as it was (a contract that the statements lean on). Written by program.
-/
import Derived.Test.YtgkgbpbohgklhafDoorTermRefs
import Derived.Test.YtgkgbpbohgklhafDoorAtomCheck
namespace Go.Proofs.YtgkgbpbohgklhafDoor
open Go.ChangeShapes Go.WideShapes Go.ChangeAt Go.RowKit
set_option maxRecDepth 100000

set_option linter.unusedVariables false in
set_option maxHeartbeats 4000000 in
theorem refAtom_1 (n : Int) (sao tao : Option Addr) (sl scap tl tcap : Nat) (s t : List Int) (hl : tl = t.length) (w : World)
    (hS : ∀ W, Below w.heap.size w W → Calls Tryd.prog 18 #[.slice sao sl scap] W fun e w' => e = .returned (.int .i64 (faultN s)) ∧ W = w')
    (hT : ∀ W, Below w.heap.size w W → Calls Tryd.prog 18 #[.slice tao tl tcap] W fun e w' => e = .returned (.int .i64 (faultN t)) ∧ W = w') :
    Calls Tryd.prog 32 #[.agg #[.int .i64 1, .slice sao sl scap, .slice tao tl tcap, .int .i64 n]] w fun e w' => e = .returned (.int .i64 (atomFault 1 s t n)) ∧ Below w.heap.size w w' := by
  obtain ⟨w1, hw1⟩ : ∃ w1, w1 = w.alloc (.cells #[.int .i64 1, .slice sao sl scap, .slice tao tl tcap, .int .i64 n] 47) := ⟨_, rfl⟩
  have HB1 : Hid (Below w.heap.size w w1) := by unfold Hid; rw [hw1]; exact below_alloc1 w _
  obtain ⟨x0, x1, x2, x3⟩ : w1.cell? ⟨w.heap.size, 0, none⟩ = some (.int .i64 1) ∧ w1.cell? ⟨w.heap.size, 1, none⟩ = some (.slice sao sl scap) ∧ w1.cell? ⟨w.heap.size, 2, none⟩ = some (.slice tao tl tcap) ∧ w1.cell? ⟨w.heap.size, 3, none⟩ = some (.int .i64 n) := by rw [hw1]; simp
  have HS : Hid (Calls Tryd.prog 18 #[.slice sao sl scap] w1 fun e w' => e = .returned (.int .i64 (faultN s)) ∧ w1 = w') := hS w1 HB1.out
  have HT : Hid (Calls Tryd.prog 18 #[.slice tao tl tcap] w1 fun e w' => e = .returned (.int .i64 (faultN t)) ∧ w1 = w') := hT w1 HB1.out
  have HL : Hid (tl = t.length) := hl
  clear hS hT hl
  have hk : (1 : Int) ≤ 1 ∧ (1 : Int) ≤ 5 := by decide
  obtain ⟨F, hF⟩ : ∃ F, F = atomFault 1 s t n := ⟨_, rfl⟩
  rw [← hF]
  by_cases hs : faultN s = 0
  · rw [hs] at HS
    by_cases ht : faultN t = 0
    · rw [ht] at HT
      have hsf : secondFault 1 t = 0 := by unfold secondFault; rw [if_pos (by decide), ht]
      clear ht
      rw [atomFault_third hk hs hsf] at hF
      have hmo : mostN 1 = 0 := by decide
      rw [hmo] at hF
      clear hmo hs hsf
      by_cases h1 : n < -20
      · rw [if_neg (by omega)] at hF
        subst hF
        go_enter Tryd.func32, Tryd.ntmps32
        go_wp2_with fail
        rw [← hw1]
        clear hw1
        go_at_call 18
        refine HS.out.mono ?_
        rintro e w' ⟨rfl, rfl⟩
        go_wp2_with fail
        go_at_call 18
        refine HT.out.mono ?_
        rintro e w' ⟨rfl, rfl⟩
        go_wp2
        go_ret
        exact ⟨rfl, HB1.out⟩
      by_cases h2 : 20 < n
      · rw [if_neg (by omega)] at hF
        subst hF
        go_enter Tryd.func32, Tryd.ntmps32
        go_wp2_with fail
        rw [← hw1]
        clear hw1
        go_at_call 18
        refine HS.out.mono ?_
        rintro e w' ⟨rfl, rfl⟩
        go_wp2_with fail
        go_at_call 18
        refine HT.out.mono ?_
        rintro e w' ⟨rfl, rfl⟩
        go_wp2
        go_ret
        exact ⟨rfl, HB1.out⟩
      by_cases h3 : n = 0
      · rw [if_pos (by omega)] at hF
        subst hF h3
        go_enter Tryd.func32, Tryd.ntmps32
        go_wp2_with fail
        rw [← hw1]
        clear hw1
        go_at_call 18
        refine HS.out.mono ?_
        rintro e w' ⟨rfl, rfl⟩
        go_wp2_with fail
        go_at_call 18
        refine HT.out.mono ?_
        rintro e w' ⟨rfl, rfl⟩
        go_wp2
        go_ret
        exact ⟨rfl, HB1.out⟩
      · have h3' : (n != 0) = true := by simpa using h3
        rw [if_neg (by omega)] at hF
        subst hF
        go_enter Tryd.func32, Tryd.ntmps32
        go_wp2_with fail
        rw [← hw1]
        clear hw1
        go_at_call 18
        refine HS.out.mono ?_
        rintro e w' ⟨rfl, rfl⟩
        go_wp2_with fail
        go_at_call 18
        refine HT.out.mono ?_
        rintro e w' ⟨rfl, rfl⟩
        go_wp2
        go_ret
        exact ⟨rfl, HB1.out⟩
    · have hsf : secondFault 1 t = faultN t := by unfold secondFault; rw [if_pos (by decide)]
      rw [atomFault_second hk hs (by rw [hsf]; exact ht), hsf] at hF
      rw [← hF] at HT ht
      have ht' : (F != 0) = true := by simpa using ht
      clear hF ht hsf hs
      go_enter Tryd.func32, Tryd.ntmps32
      go_wp2_with fail
      rw [← hw1]
      clear hw1
      go_at_call 18
      refine HS.out.mono ?_
      rintro e w' ⟨rfl, rfl⟩
      go_wp2_with fail
      go_at_call 18
      refine HT.out.mono ?_
      rintro e w' ⟨rfl, rfl⟩
      go_wp2
      go_ret
      exact ⟨rfl, HB1.out⟩
  · rw [atomFault_first hk hs] at hF
    rw [← hF] at HS hs
    have hs' : (F != 0) = true := by simpa using hs
    clear hF hs
    go_enter Tryd.func32, Tryd.ntmps32
    go_wp2_with fail
    rw [← hw1]
    clear hw1
    go_at_call 18
    refine HS.out.mono ?_
    rintro e w' ⟨rfl, rfl⟩
    go_wp2
    go_ret
    exact ⟨rfl, HB1.out⟩

set_option linter.unusedVariables false in
set_option maxHeartbeats 4000000 in
theorem refAtom_2 (n : Int) (sao tao : Option Addr) (sl scap tl tcap : Nat) (s t : List Int) (hl : tl = t.length) (w : World)
    (hS : ∀ W, Below w.heap.size w W → Calls Tryd.prog 18 #[.slice sao sl scap] W fun e w' => e = .returned (.int .i64 (faultN s)) ∧ W = w')
    (hT : ∀ W, Below w.heap.size w W → Calls Tryd.prog 18 #[.slice tao tl tcap] W fun e w' => e = .returned (.int .i64 (faultN t)) ∧ W = w') :
    Calls Tryd.prog 32 #[.agg #[.int .i64 2, .slice sao sl scap, .slice tao tl tcap, .int .i64 n]] w fun e w' => e = .returned (.int .i64 (atomFault 2 s t n)) ∧ Below w.heap.size w w' := by
  obtain ⟨w1, hw1⟩ : ∃ w1, w1 = w.alloc (.cells #[.int .i64 2, .slice sao sl scap, .slice tao tl tcap, .int .i64 n] 47) := ⟨_, rfl⟩
  have HB1 : Hid (Below w.heap.size w w1) := by unfold Hid; rw [hw1]; exact below_alloc1 w _
  obtain ⟨x0, x1, x2, x3⟩ : w1.cell? ⟨w.heap.size, 0, none⟩ = some (.int .i64 2) ∧ w1.cell? ⟨w.heap.size, 1, none⟩ = some (.slice sao sl scap) ∧ w1.cell? ⟨w.heap.size, 2, none⟩ = some (.slice tao tl tcap) ∧ w1.cell? ⟨w.heap.size, 3, none⟩ = some (.int .i64 n) := by rw [hw1]; simp
  have HS : Hid (Calls Tryd.prog 18 #[.slice sao sl scap] w1 fun e w' => e = .returned (.int .i64 (faultN s)) ∧ w1 = w') := hS w1 HB1.out
  have HT : Hid (Calls Tryd.prog 18 #[.slice tao tl tcap] w1 fun e w' => e = .returned (.int .i64 (faultN t)) ∧ w1 = w') := hT w1 HB1.out
  have HL : Hid (tl = t.length) := hl
  clear hS hT hl
  have hk : (1 : Int) ≤ 2 ∧ (2 : Int) ≤ 5 := by decide
  obtain ⟨F, hF⟩ : ∃ F, F = atomFault 2 s t n := ⟨_, rfl⟩
  rw [← hF]
  by_cases hs : faultN s = 0
  · rw [hs] at HS
    by_cases ht : faultN t = 0
    · rw [ht] at HT
      have hsf : secondFault 2 t = 0 := by unfold secondFault; rw [if_pos (by decide), ht]
      clear ht
      rw [atomFault_third hk hs hsf] at hF
      have hmo : mostN 2 = 0 := by decide
      rw [hmo] at hF
      clear hmo hs hsf
      by_cases h1 : n < -20
      · rw [if_neg (by omega)] at hF
        subst hF
        go_enter Tryd.func32, Tryd.ntmps32
        go_wp2_with fail
        rw [← hw1]
        clear hw1
        go_at_call 18
        refine HS.out.mono ?_
        rintro e w' ⟨rfl, rfl⟩
        go_wp2_with fail
        go_at_call 18
        refine HT.out.mono ?_
        rintro e w' ⟨rfl, rfl⟩
        go_wp2
        go_ret
        exact ⟨rfl, HB1.out⟩
      by_cases h2 : 20 < n
      · rw [if_neg (by omega)] at hF
        subst hF
        go_enter Tryd.func32, Tryd.ntmps32
        go_wp2_with fail
        rw [← hw1]
        clear hw1
        go_at_call 18
        refine HS.out.mono ?_
        rintro e w' ⟨rfl, rfl⟩
        go_wp2_with fail
        go_at_call 18
        refine HT.out.mono ?_
        rintro e w' ⟨rfl, rfl⟩
        go_wp2
        go_ret
        exact ⟨rfl, HB1.out⟩
      by_cases h3 : n = 0
      · rw [if_pos (by omega)] at hF
        subst hF h3
        go_enter Tryd.func32, Tryd.ntmps32
        go_wp2_with fail
        rw [← hw1]
        clear hw1
        go_at_call 18
        refine HS.out.mono ?_
        rintro e w' ⟨rfl, rfl⟩
        go_wp2_with fail
        go_at_call 18
        refine HT.out.mono ?_
        rintro e w' ⟨rfl, rfl⟩
        go_wp2
        go_ret
        exact ⟨rfl, HB1.out⟩
      · have h3' : (n != 0) = true := by simpa using h3
        rw [if_neg (by omega)] at hF
        subst hF
        go_enter Tryd.func32, Tryd.ntmps32
        go_wp2_with fail
        rw [← hw1]
        clear hw1
        go_at_call 18
        refine HS.out.mono ?_
        rintro e w' ⟨rfl, rfl⟩
        go_wp2_with fail
        go_at_call 18
        refine HT.out.mono ?_
        rintro e w' ⟨rfl, rfl⟩
        go_wp2
        go_ret
        exact ⟨rfl, HB1.out⟩
    · have hsf : secondFault 2 t = faultN t := by unfold secondFault; rw [if_pos (by decide)]
      rw [atomFault_second hk hs (by rw [hsf]; exact ht), hsf] at hF
      rw [← hF] at HT ht
      have ht' : (F != 0) = true := by simpa using ht
      clear hF ht hsf hs
      go_enter Tryd.func32, Tryd.ntmps32
      go_wp2_with fail
      rw [← hw1]
      clear hw1
      go_at_call 18
      refine HS.out.mono ?_
      rintro e w' ⟨rfl, rfl⟩
      go_wp2_with fail
      go_at_call 18
      refine HT.out.mono ?_
      rintro e w' ⟨rfl, rfl⟩
      go_wp2
      go_ret
      exact ⟨rfl, HB1.out⟩
  · rw [atomFault_first hk hs] at hF
    rw [← hF] at HS hs
    have hs' : (F != 0) = true := by simpa using hs
    clear hF hs
    go_enter Tryd.func32, Tryd.ntmps32
    go_wp2_with fail
    rw [← hw1]
    clear hw1
    go_at_call 18
    refine HS.out.mono ?_
    rintro e w' ⟨rfl, rfl⟩
    go_wp2
    go_ret
    exact ⟨rfl, HB1.out⟩

set_option linter.unusedVariables false in
set_option maxHeartbeats 4000000 in
theorem refAtom_3 (n : Int) (sao tao : Option Addr) (sl scap tl tcap : Nat) (s t : List Int) (hl : tl = t.length) (w : World)
    (hS : ∀ W, Below w.heap.size w W → Calls Tryd.prog 18 #[.slice sao sl scap] W fun e w' => e = .returned (.int .i64 (faultN s)) ∧ W = w')
    (hT : ∀ W, Below w.heap.size w W → Calls Tryd.prog 18 #[.slice tao tl tcap] W fun e w' => e = .returned (.int .i64 (faultN t)) ∧ W = w') :
    Calls Tryd.prog 32 #[.agg #[.int .i64 3, .slice sao sl scap, .slice tao tl tcap, .int .i64 n]] w fun e w' => e = .returned (.int .i64 (atomFault 3 s t n)) ∧ Below w.heap.size w w' := by
  obtain ⟨w1, hw1⟩ : ∃ w1, w1 = w.alloc (.cells #[.int .i64 3, .slice sao sl scap, .slice tao tl tcap, .int .i64 n] 47) := ⟨_, rfl⟩
  have HB1 : Hid (Below w.heap.size w w1) := by unfold Hid; rw [hw1]; exact below_alloc1 w _
  obtain ⟨x0, x1, x2, x3⟩ : w1.cell? ⟨w.heap.size, 0, none⟩ = some (.int .i64 3) ∧ w1.cell? ⟨w.heap.size, 1, none⟩ = some (.slice sao sl scap) ∧ w1.cell? ⟨w.heap.size, 2, none⟩ = some (.slice tao tl tcap) ∧ w1.cell? ⟨w.heap.size, 3, none⟩ = some (.int .i64 n) := by rw [hw1]; simp
  have HS : Hid (Calls Tryd.prog 18 #[.slice sao sl scap] w1 fun e w' => e = .returned (.int .i64 (faultN s)) ∧ w1 = w') := hS w1 HB1.out
  have HT : Hid (Calls Tryd.prog 18 #[.slice tao tl tcap] w1 fun e w' => e = .returned (.int .i64 (faultN t)) ∧ w1 = w') := hT w1 HB1.out
  have HL : Hid (tl = t.length) := hl
  clear hS hT hl
  have hk : (1 : Int) ≤ 3 ∧ (3 : Int) ≤ 5 := by decide
  obtain ⟨F, hF⟩ : ∃ F, F = atomFault 3 s t n := ⟨_, rfl⟩
  rw [← hF]
  by_cases hs : faultN s = 0
  · rw [hs] at HS
    by_cases ht : 0 < t.length
    · have hsf : secondFault 3 t = 3 := by unfold secondFault; rw [if_neg (by decide), if_pos ht]
      rw [atomFault_second hk hs (by rw [hsf]; decide), hsf] at hF
      rw [← HL.out] at ht
      subst hF
      clear hsf hs
      go_enter Tryd.func32, Tryd.ntmps32
      go_wp2_with fail
      rw [← hw1]
      clear hw1
      go_at_call 18
      refine HS.out.mono ?_
      rintro e w' ⟨rfl, rfl⟩
      go_wp2
      go_ret
      exact ⟨rfl, HB1.out⟩
    · have hsf : secondFault 3 t = 0 := by unfold secondFault; rw [if_neg (by decide), if_neg ht]
      obtain rfl : tl = 0 := by have := HL.out; omega
      clear ht
      rw [atomFault_third hk hs hsf] at hF
      have hmo : mostN 3 = 20 := by decide
      rw [hmo] at hF
      clear hmo hs hsf
      by_cases h1 : n < -20
      · rw [if_neg (by omega)] at hF
        subst hF
        go_enter Tryd.func32, Tryd.ntmps32
        go_wp2_with fail
        rw [← hw1]
        clear hw1
        go_at_call 18
        refine HS.out.mono ?_
        rintro e w' ⟨rfl, rfl⟩
        go_wp2
        go_ret
        exact ⟨rfl, HB1.out⟩
      by_cases h2 : 20 < n
      · rw [if_neg (by omega)] at hF
        subst hF
        go_enter Tryd.func32, Tryd.ntmps32
        go_wp2_with fail
        rw [← hw1]
        clear hw1
        go_at_call 18
        refine HS.out.mono ?_
        rintro e w' ⟨rfl, rfl⟩
        go_wp2
        go_ret
        exact ⟨rfl, HB1.out⟩
      rw [if_pos (by omega)] at hF
      subst hF
      go_enter Tryd.func32, Tryd.ntmps32
      go_wp2_with fail
      rw [← hw1]
      clear hw1
      go_at_call 18
      refine HS.out.mono ?_
      rintro e w' ⟨rfl, rfl⟩
      go_wp2
      go_ret
      exact ⟨rfl, HB1.out⟩
  · rw [atomFault_first hk hs] at hF
    rw [← hF] at HS hs
    have hs' : (F != 0) = true := by simpa using hs
    clear hF hs
    go_enter Tryd.func32, Tryd.ntmps32
    go_wp2_with fail
    rw [← hw1]
    clear hw1
    go_at_call 18
    refine HS.out.mono ?_
    rintro e w' ⟨rfl, rfl⟩
    go_wp2
    go_ret
    exact ⟨rfl, HB1.out⟩

set_option linter.unusedVariables false in
set_option maxHeartbeats 4000000 in
theorem refAtom_4 (n : Int) (sao tao : Option Addr) (sl scap tl tcap : Nat) (s t : List Int) (hl : tl = t.length) (w : World)
    (hS : ∀ W, Below w.heap.size w W → Calls Tryd.prog 18 #[.slice sao sl scap] W fun e w' => e = .returned (.int .i64 (faultN s)) ∧ W = w')
    (hT : ∀ W, Below w.heap.size w W → Calls Tryd.prog 18 #[.slice tao tl tcap] W fun e w' => e = .returned (.int .i64 (faultN t)) ∧ W = w') :
    Calls Tryd.prog 32 #[.agg #[.int .i64 4, .slice sao sl scap, .slice tao tl tcap, .int .i64 n]] w fun e w' => e = .returned (.int .i64 (atomFault 4 s t n)) ∧ Below w.heap.size w w' := by
  obtain ⟨w1, hw1⟩ : ∃ w1, w1 = w.alloc (.cells #[.int .i64 4, .slice sao sl scap, .slice tao tl tcap, .int .i64 n] 47) := ⟨_, rfl⟩
  have HB1 : Hid (Below w.heap.size w w1) := by unfold Hid; rw [hw1]; exact below_alloc1 w _
  obtain ⟨x0, x1, x2, x3⟩ : w1.cell? ⟨w.heap.size, 0, none⟩ = some (.int .i64 4) ∧ w1.cell? ⟨w.heap.size, 1, none⟩ = some (.slice sao sl scap) ∧ w1.cell? ⟨w.heap.size, 2, none⟩ = some (.slice tao tl tcap) ∧ w1.cell? ⟨w.heap.size, 3, none⟩ = some (.int .i64 n) := by rw [hw1]; simp
  have HS : Hid (Calls Tryd.prog 18 #[.slice sao sl scap] w1 fun e w' => e = .returned (.int .i64 (faultN s)) ∧ w1 = w') := hS w1 HB1.out
  have HT : Hid (Calls Tryd.prog 18 #[.slice tao tl tcap] w1 fun e w' => e = .returned (.int .i64 (faultN t)) ∧ w1 = w') := hT w1 HB1.out
  have HL : Hid (tl = t.length) := hl
  clear hS hT hl
  have hk : (1 : Int) ≤ 4 ∧ (4 : Int) ≤ 5 := by decide
  obtain ⟨F, hF⟩ : ∃ F, F = atomFault 4 s t n := ⟨_, rfl⟩
  rw [← hF]
  by_cases hs : faultN s = 0
  · rw [hs] at HS
    by_cases ht : 0 < t.length
    · have hsf : secondFault 4 t = 3 := by unfold secondFault; rw [if_neg (by decide), if_pos ht]
      rw [atomFault_second hk hs (by rw [hsf]; decide), hsf] at hF
      rw [← HL.out] at ht
      subst hF
      clear hsf hs
      go_enter Tryd.func32, Tryd.ntmps32
      go_wp2_with fail
      rw [← hw1]
      clear hw1
      go_at_call 18
      refine HS.out.mono ?_
      rintro e w' ⟨rfl, rfl⟩
      go_wp2
      go_ret
      exact ⟨rfl, HB1.out⟩
    · have hsf : secondFault 4 t = 0 := by unfold secondFault; rw [if_neg (by decide), if_neg ht]
      obtain rfl : tl = 0 := by have := HL.out; omega
      clear ht
      rw [atomFault_third hk hs hsf] at hF
      have hmo : mostN 4 = 20 := by decide
      rw [hmo] at hF
      clear hmo hs hsf
      by_cases h1 : n < -20
      · rw [if_neg (by omega)] at hF
        subst hF
        go_enter Tryd.func32, Tryd.ntmps32
        go_wp2_with fail
        rw [← hw1]
        clear hw1
        go_at_call 18
        refine HS.out.mono ?_
        rintro e w' ⟨rfl, rfl⟩
        go_wp2
        go_ret
        exact ⟨rfl, HB1.out⟩
      by_cases h2 : 20 < n
      · rw [if_neg (by omega)] at hF
        subst hF
        go_enter Tryd.func32, Tryd.ntmps32
        go_wp2_with fail
        rw [← hw1]
        clear hw1
        go_at_call 18
        refine HS.out.mono ?_
        rintro e w' ⟨rfl, rfl⟩
        go_wp2
        go_ret
        exact ⟨rfl, HB1.out⟩
      rw [if_pos (by omega)] at hF
      subst hF
      go_enter Tryd.func32, Tryd.ntmps32
      go_wp2_with fail
      rw [← hw1]
      clear hw1
      go_at_call 18
      refine HS.out.mono ?_
      rintro e w' ⟨rfl, rfl⟩
      go_wp2
      go_ret
      exact ⟨rfl, HB1.out⟩
  · rw [atomFault_first hk hs] at hF
    rw [← hF] at HS hs
    have hs' : (F != 0) = true := by simpa using hs
    clear hF hs
    go_enter Tryd.func32, Tryd.ntmps32
    go_wp2_with fail
    rw [← hw1]
    clear hw1
    go_at_call 18
    refine HS.out.mono ?_
    rintro e w' ⟨rfl, rfl⟩
    go_wp2
    go_ret
    exact ⟨rfl, HB1.out⟩

set_option linter.unusedVariables false in
set_option maxHeartbeats 4000000 in
theorem refAtom_5 (n : Int) (sao tao : Option Addr) (sl scap tl tcap : Nat) (s t : List Int) (hl : tl = t.length) (w : World)
    (hS : ∀ W, Below w.heap.size w W → Calls Tryd.prog 18 #[.slice sao sl scap] W fun e w' => e = .returned (.int .i64 (faultN s)) ∧ W = w')
    (hT : ∀ W, Below w.heap.size w W → Calls Tryd.prog 18 #[.slice tao tl tcap] W fun e w' => e = .returned (.int .i64 (faultN t)) ∧ W = w') :
    Calls Tryd.prog 32 #[.agg #[.int .i64 5, .slice sao sl scap, .slice tao tl tcap, .int .i64 n]] w fun e w' => e = .returned (.int .i64 (atomFault 5 s t n)) ∧ Below w.heap.size w w' := by
  obtain ⟨w1, hw1⟩ : ∃ w1, w1 = w.alloc (.cells #[.int .i64 5, .slice sao sl scap, .slice tao tl tcap, .int .i64 n] 47) := ⟨_, rfl⟩
  have HB1 : Hid (Below w.heap.size w w1) := by unfold Hid; rw [hw1]; exact below_alloc1 w _
  obtain ⟨x0, x1, x2, x3⟩ : w1.cell? ⟨w.heap.size, 0, none⟩ = some (.int .i64 5) ∧ w1.cell? ⟨w.heap.size, 1, none⟩ = some (.slice sao sl scap) ∧ w1.cell? ⟨w.heap.size, 2, none⟩ = some (.slice tao tl tcap) ∧ w1.cell? ⟨w.heap.size, 3, none⟩ = some (.int .i64 n) := by rw [hw1]; simp
  have HS : Hid (Calls Tryd.prog 18 #[.slice sao sl scap] w1 fun e w' => e = .returned (.int .i64 (faultN s)) ∧ w1 = w') := hS w1 HB1.out
  have HT : Hid (Calls Tryd.prog 18 #[.slice tao tl tcap] w1 fun e w' => e = .returned (.int .i64 (faultN t)) ∧ w1 = w') := hT w1 HB1.out
  have HL : Hid (tl = t.length) := hl
  clear hS hT hl
  have hk : (1 : Int) ≤ 5 ∧ (5 : Int) ≤ 5 := by decide
  obtain ⟨F, hF⟩ : ∃ F, F = atomFault 5 s t n := ⟨_, rfl⟩
  rw [← hF]
  by_cases hs : faultN s = 0
  · rw [hs] at HS
    by_cases ht : faultN t = 0
    · rw [ht] at HT
      have hsf : secondFault 5 t = 0 := by unfold secondFault; rw [if_pos (by decide), ht]
      clear ht
      rw [atomFault_third hk hs hsf] at hF
      have hmo : mostN 5 = 20 := by decide
      rw [hmo] at hF
      clear hmo hs hsf
      by_cases h1 : n < -20
      · rw [if_neg (by omega)] at hF
        subst hF
        go_enter Tryd.func32, Tryd.ntmps32
        go_wp2_with fail
        rw [← hw1]
        clear hw1
        go_at_call 18
        refine HS.out.mono ?_
        rintro e w' ⟨rfl, rfl⟩
        go_wp2_with fail
        go_at_call 18
        refine HT.out.mono ?_
        rintro e w' ⟨rfl, rfl⟩
        go_wp2
        go_ret
        exact ⟨rfl, HB1.out⟩
      by_cases h2 : 20 < n
      · rw [if_neg (by omega)] at hF
        subst hF
        go_enter Tryd.func32, Tryd.ntmps32
        go_wp2_with fail
        rw [← hw1]
        clear hw1
        go_at_call 18
        refine HS.out.mono ?_
        rintro e w' ⟨rfl, rfl⟩
        go_wp2_with fail
        go_at_call 18
        refine HT.out.mono ?_
        rintro e w' ⟨rfl, rfl⟩
        go_wp2
        go_ret
        exact ⟨rfl, HB1.out⟩
      rw [if_pos (by omega)] at hF
      subst hF
      go_enter Tryd.func32, Tryd.ntmps32
      go_wp2_with fail
      rw [← hw1]
      clear hw1
      go_at_call 18
      refine HS.out.mono ?_
      rintro e w' ⟨rfl, rfl⟩
      go_wp2_with fail
      go_at_call 18
      refine HT.out.mono ?_
      rintro e w' ⟨rfl, rfl⟩
      go_wp2
      go_ret
      exact ⟨rfl, HB1.out⟩
    · have hsf : secondFault 5 t = faultN t := by unfold secondFault; rw [if_pos (by decide)]
      rw [atomFault_second hk hs (by rw [hsf]; exact ht), hsf] at hF
      rw [← hF] at HT ht
      have ht' : (F != 0) = true := by simpa using ht
      clear hF ht hsf hs
      go_enter Tryd.func32, Tryd.ntmps32
      go_wp2_with fail
      rw [← hw1]
      clear hw1
      go_at_call 18
      refine HS.out.mono ?_
      rintro e w' ⟨rfl, rfl⟩
      go_wp2_with fail
      go_at_call 18
      refine HT.out.mono ?_
      rintro e w' ⟨rfl, rfl⟩
      go_wp2
      go_ret
      exact ⟨rfl, HB1.out⟩
  · rw [atomFault_first hk hs] at hF
    rw [← hF] at HS hs
    have hs' : (F != 0) = true := by simpa using hs
    clear hF hs
    go_enter Tryd.func32, Tryd.ntmps32
    go_wp2_with fail
    rw [← hw1]
    clear hw1
    go_at_call 18
    refine HS.out.mono ?_
    rintro e w' ⟨rfl, rfl⟩
    go_wp2
    go_ret
    exact ⟨rfl, HB1.out⟩

/-- Atom, whatever the atom. -/
theorem refAtom_any (k n : Int) (vs vt : Value) (s t : List Int) (w : World) (hS : Reads w vs s) (hT : Reads w vt t) :
    Calls Tryd.prog 32 #[.agg #[.int .i64 k, vs, vt, .int .i64 n]] w fun e w' => e = .returned (.int .i64 (atomFault k s t n)) ∧ Below w.heap.size w w' := by
  have h1 := fun (W : World) (hW : Below w.heap.size w W) => refTerm_any s vs W (hS.below hW)
  have h2 := fun (W : World) (hW : Below w.heap.size w W) => refTerm_any t vt W (hT.below hW)
  obtain ⟨sao, scap, rfl, _⟩ := hS.slice
  obtain ⟨tao, tcap, rfl, _⟩ := hT.slice
  by_cases hk : 1 ≤ k ∧ k ≤ 5
  · rcases five hk.1 hk.2 with rfl | rfl | rfl | rfl | rfl
    · exact refAtom_1 n sao tao _ scap _ tcap s t rfl w h1 h2
    · exact refAtom_2 n sao tao _ scap _ tcap s t rfl w h1 h2
    · exact refAtom_3 n sao tao _ scap _ tcap s t rfl w h1 h2
    · exact refAtom_4 n sao tao _ scap _ tcap s t rfl w h1 h2
    · exact refAtom_5 n sao tao _ scap _ tcap s t rfl w h1 h2
  · rw [atomFault_kind hk]
    obtain ⟨sl, hsl⟩ : ∃ sl, sl = s.length := ⟨_, rfl⟩
    obtain ⟨tl, htl⟩ : ∃ tl, tl = t.length := ⟨_, rfl⟩
    rw [← hsl, ← htl]
    clear hS hT h1 h2 hsl htl
    by_cases h1 : k < 1
    · go_enter Tryd.func32, Tryd.ntmps32
      go_wp2
      go_ret
      exact ⟨rfl, below_alloc1 _ _⟩
    · have h2 : 5 < k := by omega
      go_enter Tryd.func32, Tryd.ntmps32
      go_wp2
      go_ret
      exact ⟨rfl, below_alloc1 _ _⟩
end Go.Proofs.YtgkgbpbohgklhafDoor
