/-
  Proved: vennlaw4.AskMany returns true, of any name and any numbers, where ask.Of answers as chapter 18 says; what was in memory is as it was (the walk that the statement leans on).
-/
import Derived.Test.YtjaedfjfcghgcaaDoorLibA25
import Derived.Test.YtjaedfjfcghgcaaDoorLibA26
namespace Go.Proofs.YtjaedfjfcghgcaaDoor
open Go.ChangeShapes Go.WideShapes Go.ChangeAt Go.RowKit
set_option maxRecDepth 100000

set_option maxHeartbeats 4000000 in
theorem askMany_out (name n m u : Int) (h : name < 0 ∨ 2 < name ∨ n < 0 ∨ m < 0 ∨ 20 < n ∨ 20 < m ∨ u < 0 ∨ 6 < u ∨ u < n) (w : World) :
    Calls Tryd.prog 8 #[.int .i64 name, .int .i64 n, .int .i64 m, .int .i64 u] w fun e w' => e = .returned (.bool true) ∧ Below w.heap.size w w' := by
  by_cases a1 : name < 0
  · go_enter Tryd.func8, Tryd.ntmps8
    go_wp2
    go_ret
    exact ⟨rfl, Below.refl _ _⟩
  by_cases a2 : 2 < name
  · go_enter Tryd.func8, Tryd.ntmps8
    go_wp2
    go_ret
    exact ⟨rfl, Below.refl _ _⟩
  by_cases a3 : n < 0
  · go_enter Tryd.func8, Tryd.ntmps8
    go_wp2
    go_ret
    exact ⟨rfl, Below.refl _ _⟩
  by_cases a4 : m < 0
  · go_enter Tryd.func8, Tryd.ntmps8
    go_wp2
    go_ret
    exact ⟨rfl, Below.refl _ _⟩
  by_cases a5 : 20 < n
  · go_enter Tryd.func8, Tryd.ntmps8
    go_wp2
    go_ret
    exact ⟨rfl, Below.refl _ _⟩
  by_cases a6 : 20 < m
  · go_enter Tryd.func8, Tryd.ntmps8
    go_wp2
    go_ret
    exact ⟨rfl, Below.refl _ _⟩
  by_cases a7 : u < 0
  · go_enter Tryd.func8, Tryd.ntmps8
    go_wp2
    go_ret
    exact ⟨rfl, Below.refl _ _⟩
  by_cases a8 : 6 < u
  · go_enter Tryd.func8, Tryd.ntmps8
    go_wp2
    go_ret
    exact ⟨rfl, Below.refl _ _⟩
  have a9 : u < n := by omega
  clear h
  go_enter Tryd.func8, Tryd.ntmps8
  go_wp2
  go_ret
  exact ⟨rfl, Below.refl _ _⟩

set_option maxHeartbeats 4000000 in
theorem askMany_in (k : Nat) (n m u N : Int) (hk : k < 3) (hn : 0 ≤ n ∧ n ≤ u) (hm : 0 ≤ m ∧ m ≤ 20) (hu : 0 ≤ u ∧ u ≤ 6) (w : World)
    (hN : N = if m ≤ n then 1 else if u < m then -1 else 0)
    (HAo : Hid (∀ (x : Int) W, Calls Tryd.prog 24 #[.int .i64 k, .int .i64 x] W fun e w' => ∃ b1 b2, e = .returned (.agg #[.slice (some ⟨b1, 0, none⟩) 1 1, .slice (some ⟨b2, 0, none⟩) 1 1]) ∧ ReadsA w' (.slice (some ⟨b1, 0, none⟩) 1 1) (manyA (k : Int) x) ∧ Reads w' (.slice (some ⟨b2, 0, none⟩) 1 1) [0] ∧ Below W.heap.size W w'))
    (HOf : Hid (∀ W v va vc, Below w.heap.size w W → ReadsF W v [⟨manyA (k : Int) n, [0]⟩] → ReadsA W va (manyA (k : Int) m) → Reads W vc [0] → Calls Tryd.prog 21 #[v, .agg #[va, vc], .int .i64 u] W fun e w' => e = .returned (.tuple #[.int .i64 N, .nilIface]) ∧ Below W.heap.size W w')) :
    Calls Tryd.prog 8 #[.int .i64 k, .int .i64 n, .int .i64 m, .int .i64 u] w fun e w' => e = .returned (.bool true) ∧ Below w.heap.size w w' := by
  have a1 : ¬ (k : Int) < 0 := by omega
  have a2 : ¬ 2 < (k : Int) := by omega
  have a3 : ¬ n < 0 := by omega
  have a4 : ¬ m < 0 := by omega
  have a5 : ¬ 20 < n := by omega
  have a6 : ¬ 20 < m := by omega
  have a7 : ¬ u < 0 := by omega
  have a8 : ¬ 6 < u := by omega
  have a9 : ¬ u < n := by omega
  have HN : Hid (N = if m ≤ n then 1 else if u < m then -1 else 0) := hN
  clear hN
  go_enter Tryd.func8, Tryd.ntmps8
  go_wp2_with fail
  go_at_call 24
  refine (HAo.out n _).mono ?_
  rintro e w1 ⟨b1, b2, rfl, hA, hC, hb⟩
  have B1 : Hid (Below w.heap.size w w1) := hb
  have HR1 : Hid (ReadsF (w1.alloc (.cells #[.slice (some ⟨b1, 0, none⟩) 1 1, .slice (some ⟨b2, 0, none⟩) 1 1] 42)) (.slice (some ⟨w1.heap.size, 0, none⟩) 1 1) [⟨manyA (k : Int) n, [0]⟩]) := one_form (Blk.new _ _ _) (hA.below (below_alloc1 _ _)) (hC.below (below_alloc1 _ _))
  obtain ⟨w2, hw2⟩ : ∃ x, x = w1.alloc (.cells #[.slice (some ⟨b1, 0, none⟩) 1 1, .slice (some ⟨b2, 0, none⟩) 1 1] 42) := ⟨_, rfl⟩
  rw [← hw2] at HR1
  have B2 : Hid (Below w.heap.size w w2) := by unfold Hid; rw [hw2]; exact B1.out.alloc B1.out.size _
  clear hA hC hb
  go_wp2_with fail
  rw [← hw2]
  clear hw2
  go_at_call 24
  refine (HAo.out m _).mono ?_
  rintro e w3 ⟨b3, b4, rfl, hA, hC, hb⟩
  have B3 : Hid (Below w.heap.size w w3) := B2.out.trans (hb.mono B2.out.size)
  have HR3 : Hid (ReadsF w3 (.slice (some ⟨w1.heap.size, 0, none⟩) 1 1) [⟨manyA (k : Int) n, [0]⟩]) := HR1.out.below hb
  have HM3 : Hid (ReadsA w3 (.slice (some ⟨b3, 0, none⟩) 1 1) (manyA (k : Int) m) ∧ Reads w3 (.slice (some ⟨b4, 0, none⟩) 1 1) [0]) := ⟨hA, hC⟩
  clear hA hC hb
  go_wp2_with fail
  go_at_call 21
  refine (HOf.out _ _ _ _ B3.out HR3.out HM3.out.1 HM3.out.2).mono ?_
  rintro e w4 ⟨rfl, hb⟩
  have B4 : Hid (Below w.heap.size w w4) := B3.out.trans (hb.mono B3.out.size)
  clear hb
  have h := HN.out
  by_cases c1 : m ≤ n
  · rw [if_pos c1] at h
    have HV : Hid (N = 1) := h
    clear h
    rw [HV.out]
    go_wp2
    go_ret
    exact ⟨rfl, B4.out⟩
  · rw [if_neg c1] at h
    by_cases c2 : u < m
    · rw [if_pos c2] at h
      have HV : Hid (N = -1) := h
      clear h
      rw [HV.out]
      go_wp2
      go_ret
      exact ⟨rfl, B4.out⟩
    · rw [if_neg c2] at h
      have HV : Hid (N = 0) := h
      clear h
      rw [HV.out]
      go_wp2
      go_ret
      exact ⟨rfl, B4.out⟩
end Go.Proofs.YtjaedfjfcghgcaaDoor
