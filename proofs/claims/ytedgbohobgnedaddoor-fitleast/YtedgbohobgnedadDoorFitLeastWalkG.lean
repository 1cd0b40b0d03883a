/-
  Proved: vennlaw1.FitLeast returns true where its calls answer as their contracts say, where some fit; what was in memory is as it was (walks that the statement leans on). Written by program.
-/
import Derived.Test.YtedgbohobgnedadDoorFitLeastHead
import Derived.Test.YtedgbohobgnedadDoorFieldsBlk
import Derived.Deep.Cut
namespace Go.Proofs.YtedgbohobgnedadDoor
open Go.ChangeShapes Go.WideShapes Go.ChangeAt Go.RowKit
set_option maxRecDepth 100000

set_option linter.unusedVariables false in
set_option maxHeartbeats 16000000 in
theorem fitLeast_GoC (u : Nat) (T : Nat → Int) (m : Int) (N : Nat → Int) (l : List Rw) (kk aa mm : Int) (hka : kk ≤ aa) (h12 : l.length ≤ 12) (Lst : Nat → Int) (hk : 0 < kk) (hmm : mm ≤ kk) (G : Int) (hG : ¬ G = 0) (lao : Option Addr) (ll lcap : Nat) (w : World) (hR : ReadsR w (.slice lao ll lcap) l)
    (H2 : Hid (∀ W, Below w.heap.size w W → Calls Tryd.prog 20 #[.int .i64 2, .slice none 0 0] W fun e w' => e = .returned (.tuple #[.int .i64 36, .nilIface]) ∧ Below W.heap.size W w'))
    (HM : Hid (∀ W, Below w.heap.size w W → Calls Tryd.prog 20 #[.int .i64 (u : Int), .slice lao ll lcap] W fun e w' => e = .returned (.tuple #[.int .i64 kk, .nilIface]) ∧ Below W.heap.size W w'))
    (HMn : Hid (∀ W, Below w.heap.size w W → Calls Tryd.prog 20 #[.int .i64 (u : Int), .slice none 0 0] W fun e w' => e = .returned (.tuple #[.int .i64 aa, .nilIface]) ∧ Below W.heap.size W w'))
    (HL : Hid (∀ W, Below w.heap.size w W → Calls Tryd.prog 21 #[.int .i64 (u : Int), .slice lao ll lcap] W fun e w' => e = .returned (.tuple #[.agg #[.int .i64 (Lst 0), .int .i64 (Lst 1), .int .i64 (Lst 2), .int .i64 (Lst 3), .int .i64 (Lst 4), .int .i64 (Lst 5), .int .i64 (Lst 6), .int .i64 (Lst 7)], .nilIface]) ∧ Below W.heap.size W w'))
    (HM3 : Hid (∀ W v, Below w.heap.size w W → ReadsR W v (l ++ [Rw.mk T m]) → Calls Tryd.prog 20 #[.int .i64 (u : Int), v] W fun e w' => e = .returned (.tuple #[.int .i64 mm, .nilIface]) ∧ Below W.heap.size W w'))
    (HFn : Hid (∀ W, Below w.heap.size w W → Calls Tryd.prog 15 #[.slice lao ll lcap, .agg #[.int .i64 (N 0), .int .i64 (N 1), .int .i64 (N 2), .int .i64 (N 3), .int .i64 (N 4), .int .i64 (N 5), .int .i64 (N 6), .int .i64 (N 7)]] W fun e w' => e = .returned (.tuple #[.bool false, .iface 66 (.int .i64 G)]) ∧ Below W.heap.size W w')) :
    Calls Tryd.prog 7 #[.int .i64 (u : Int), .slice lao ll lcap, .agg #[.int .i64 (T 0), .int .i64 (T 1), .int .i64 (T 2), .int .i64 (T 3), .int .i64 (T 4), .int .i64 (T 5), .int .i64 (T 6), .int .i64 (T 7), .int .i64 m], .agg #[.int .i64 (N 0), .int .i64 (N 1), .int .i64 (N 2), .int .i64 (N 3), .int .i64 (N 4), .int .i64 (N 5), .int .i64 (N 6), .int .i64 (N 7)]] w fun e w' => e = .returned (.bool true) ∧ Below w.heap.size w w' := by
  obtain ⟨w1, hw1⟩ : ∃ w1, w1 = (w.alloc (.cells #[.int .i64 (T 0), .int .i64 (T 1), .int .i64 (T 2), .int .i64 (T 3), .int .i64 (T 4), .int .i64 (T 5), .int .i64 (T 6), .int .i64 (T 7), .int .i64 m] 29)).alloc (.cells #[.int .i64 (N 0), .int .i64 (N 1), .int .i64 (N 2), .int .i64 (N 3), .int .i64 (N 4), .int .i64 (N 5), .int .i64 (N 6), .int .i64 (N 7)] 26) := ⟨_, rfl⟩
  have HB1 : Hid (Below w.heap.size w w1) := by unfold Hid; rw [hw1]; exact (below_alloc1 _ _).alloc (by simp) _
  have HR1 : Hid (Blk w1 w.heap.size 29 (arrR T m)) := by unfold Hid; rw [hw1]; exact (Blk.new _ _ _).old _
  have HN1 : Hid (Blk w1 (w.heap.size + 1) 26 (arr8 N)) := by
    unfold Hid; rw [hw1]
    have := Blk.new (w.alloc (.cells #[.int .i64 (T 0), .int .i64 (T 1), .int .i64 (T 2), .int .i64 (T 3), .int .i64 (T 4), .int .i64 (T 5), .int .i64 (T 6), .int .i64 (T 7), .int .i64 m] 29)) 26 (arr8 N)
    simp only [World.size_alloc] at this
    exact this
  have HRd : Hid (∀ W, Below w.heap.size w W → ReadsR W (.slice lao ll lcap) l) := fun W hW => hR.below hW
  clear hR
  have hka' : ¬ (aa < kk) := by omega
  have hmm' : ¬ (kk < mm) := by omega
  go_enter Tryd.func7, Tryd.ntmps7
  go_upto_region 1 with fail
  rw [← hw1]
  clear hw1
  go_wp2_with fail
  go_at_call 20
  refine (H2.out _ HB1.out).mono ?_
  rintro e w2 ⟨rfl, hb⟩
  have HB2 : Hid (Below w.heap.size w w2) := HB1.out.trans (hb.mono HB1.out.size)
  have HR2 : Hid (Blk w2 w.heap.size 29 (arrR T m)) := HR1.out.below hb
  have HN2 : Hid (Blk w2 (w.heap.size + 1) 26 (arr8 N)) := HN1.out.below hb
  clear hb
  go_wp2_with fail
  go_at_call 20
  refine (HM.out _ HB2.out).mono ?_
  rintro e w3 ⟨rfl, hb⟩
  have HB3 : Hid (Below w.heap.size w w3) := HB2.out.trans (hb.mono HB2.out.size)
  have HR3 : Hid (Blk w3 w.heap.size 29 (arrR T m)) := HR2.out.below hb
  have HN3 : Hid (Blk w3 (w.heap.size + 1) 26 (arr8 N)) := HN2.out.below hb
  clear hb
  go_wp2_with fail
  go_at_call 20
  refine (HMn.out _ HB3.out).mono ?_
  rintro e w4 ⟨rfl, hb⟩
  have HB4 : Hid (Below w.heap.size w w4) := HB3.out.trans (hb.mono HB3.out.size)
  have HR4 : Hid (Blk w4 w.heap.size 29 (arrR T m)) := HR3.out.below hb
  have HN4 : Hid (Blk w4 (w.heap.size + 1) 26 (arr8 N)) := HN3.out.below hb
  clear hb
  go_wp2_with fail
  go_at_call 21
  refine (HL.out _ HB4.out).mono ?_
  rintro e w5 ⟨rfl, hb⟩
  have HB5 : Hid (Below w.heap.size w w5) := HB4.out.trans (hb.mono HB4.out.size)
  have HR5 : Hid (Blk w5 w.heap.size 29 (arrR T m)) := HR4.out.below hb
  have HN5 : Hid (Blk w5 (w.heap.size + 1) 26 (arr8 N)) := HN4.out.below hb
  clear hb
  obtain ⟨w6, hw6⟩ : ∃ x, x = w5.alloc (.cells #[.int .i64 (Lst 0), .int .i64 (Lst 1), .int .i64 (Lst 2), .int .i64 (Lst 3), .int .i64 (Lst 4), .int .i64 (Lst 5), .int .i64 (Lst 6), .int .i64 (Lst 7)] 26) := ⟨_, rfl⟩
  have HB6 : Hid (Below w.heap.size w w6) := by unfold Hid; rw [hw6]; exact HB5.out.alloc HB5.out.size _
  have HR6 : Hid (Blk w6 w.heap.size 29 (arrR T m)) := by unfold Hid; rw [hw6]; exact HR5.out.old _
  have HN6 : Hid (Blk w6 (w.heap.size + 1) 26 (arr8 N)) := by unfold Hid; rw [hw6]; exact HN5.out.old _
  have HX6 : Hid (Blk w6 w5.heap.size 26 (arr8 Lst)) := by unfold Hid; rw [hw6]; exact Blk.new _ _ _
  obtain ⟨X, hX⟩ : ∃ P, P = w5.heap.size := ⟨_, rfl⟩
  rw [← hX] at HX6
  go_upto_region 9 with fail
  rw [← hw6, ← hX]
  clear hw6 hX
  go_wp2_with (at_builtin; refine append_rows rfl _ _ rfl rfl _ rfl l (HRd.out _ HB6.out) h12 ?_)
  intro v9 w7 hown hgrow
  have HB7 : Hid (Below w.heap.size w w7) := HB6.out.grown hgrow HB6.out.size (fun k hk => by cases hk)
  have HOw : Hid (w7.ownsRow w6.heap.size 29 9 v9 l.length (cellsR l)) := hown
  have HSz : Hid (w6.heap.size ≤ w7.heap.size) := hgrow.size
  have HR7 : Hid (Blk w7 w.heap.size 29 (arrR T m)) := by unfold Hid Blk; rw [hgrow.block _ HR6.out.lt (by simp)]; exact HR6.out
  have HN7 : Hid (Blk w7 (w.heap.size + 1) 26 (arr8 N)) := by unfold Hid Blk; rw [hgrow.block _ HN6.out.lt (by simp)]; exact HN6.out
  have HX7 : Hid (Blk w7 X 26 (arr8 Lst)) := by unfold Hid Blk; rw [hgrow.block _ HX6.out.lt (by simp)]; exact HX6.out
  clear hown hgrow
  obtain ⟨r0, r1, r2, r3, r4, r5, r6, r7, r8⟩ := HR7.out.cells9
  go_wp2_with (at_builtin; refine append_one rfl _ _ rfl w6.heap.size v9 rfl l (Rw.mk T m) w7.heap.size 1 rfl (HOw.out.alloc _) (heap_alloc_new w7 _) (by have := HSz.out; simp; omega) h12 ?_)
  intro v10 w8 hown hgrow
  have HBa : Hid (Below w.heap.size w (w7.alloc (.cells #[.int .i64 (T 0), .int .i64 (T 1), .int .i64 (T 2), .int .i64 (T 3), .int .i64 (T 4), .int .i64 (T 5), .int .i64 (T 6), .int .i64 (T 7), .int .i64 m] 29))) := HB7.out.alloc HB7.out.size _
  have HB8 : Hid (Below w.heap.size w w8) := HBa.out.grown hgrow HBa.out.size (fun k hk => by have h1 := (HOw.out.lt k hk).1; have h2 := HB6.out.size; omega)
  have HRv : Hid (ReadsR w8 v10 (l ++ [Rw.mk T m])) := own_readsR (by rw [List.length_append]; exact hown) (by simp; omega)
  have HR8 : Hid (Blk w8 w.heap.size 29 (arrR T m)) := by unfold Hid Blk; rw [hgrow.block _ (HR7.out.old (.cells #[.int .i64 (T 0), .int .i64 (T 1), .int .i64 (T 2), .int .i64 (T 3), .int .i64 (T 4), .int .i64 (T 5), .int .i64 (T 6), .int .i64 (T 7), .int .i64 m] 29)).lt (fun e => by have h1 := (HOw.out.lt _ e.symm).1; have h2 := HR6.out.lt; omega)]; exact HR7.out.old _
  have HN8 : Hid (Blk w8 (w.heap.size + 1) 26 (arr8 N)) := by unfold Hid Blk; rw [hgrow.block _ (HN7.out.old (.cells #[.int .i64 (T 0), .int .i64 (T 1), .int .i64 (T 2), .int .i64 (T 3), .int .i64 (T 4), .int .i64 (T 5), .int .i64 (T 6), .int .i64 (T 7), .int .i64 m] 29)).lt (fun e => by have h1 := (HOw.out.lt _ e.symm).1; have h2 := HN6.out.lt; omega)]; exact HN7.out.old _
  have HX8 : Hid (Blk w8 X 26 (arr8 Lst)) := by unfold Hid Blk; rw [hgrow.block _ (HX7.out.old (.cells #[.int .i64 (T 0), .int .i64 (T 1), .int .i64 (T 2), .int .i64 (T 3), .int .i64 (T 4), .int .i64 (T 5), .int .i64 (T 6), .int .i64 (T 7), .int .i64 m] 29)).lt (fun e => by have h1 := (HOw.out.lt _ e.symm).1; have h2 := HX6.out.lt; omega)]; exact HX7.out.old _
  clear hown hgrow
  clear r0 r1 r2 r3 r4 r5 r6 r7 r8
  go_wp2_with fail
  go_at_call 20
  refine (HM3.out _ _ HB8.out HRv.out).mono ?_
  rintro e w9 ⟨rfl, hb⟩
  have HB9 : Hid (Below w.heap.size w w9) := HB8.out.trans (hb.mono HB8.out.size)
  have HR9 : Hid (Blk w9 w.heap.size 29 (arrR T m)) := HR8.out.below hb
  have HN9 : Hid (Blk w9 (w.heap.size + 1) 26 (arr8 N)) := HN8.out.below hb
  have HX9 : Hid (Blk w9 X 26 (arr8 Lst)) := HX8.out.below hb
  clear hb HRv HOw HBa HSz
  obtain ⟨n0, n1, n2, n3, n4, n5, n6, n7⟩ := HN9.out.cells8
  go_wp2_with fail
  go_at_call 15
  refine (HFn.out _ HB9.out).mono ?_
  rintro e w10 ⟨rfl, hb⟩
  have HB10 : Hid (Below w.heap.size w w10) := HB9.out.trans (hb.mono HB9.out.size)
  have HR10 : Hid (Blk w10 w.heap.size 29 (arrR T m)) := HR9.out.below hb
  have HN10 : Hid (Blk w10 (w.heap.size + 1) 26 (arr8 N)) := HN9.out.below hb
  have HX10 : Hid (Blk w10 X 26 (arr8 Lst)) := HX9.out.below hb
  clear hb
  clear n0 n1 n2 n3 n4 n5 n6 n7
  go_wp2
  go_loop [20, 21] (fun s i => ∃ (f : Nat) (x : Int), f ≤ 8 ∧ i = .int .i64 f ∧ s = .int .i64 x) (fun _ i => 8 - (intOf i).toNat)
  case atStart => exact ⟨0, 0, Nat.zero_le _, rfl, rfl⟩
  case round =>
    obtain ⟨f, x, hf, rfl, rfl⟩ := hrel
    by_cases hlt8 : f < 8
    · have c := HN10.out.cell f
      rw [arr8_get _ hlt8] at c
      go_wp2
      go_round
      case rel => exact ⟨f + 1, _, by omega, by go_num, rfl⟩
      case measure => simp [intOf]; omega
    · obtain rfl : f = 8 := by omega
      go_wp2
      go_ret
      exact ⟨rfl, HB10.out⟩

set_option linter.unusedVariables false in
set_option maxHeartbeats 16000000 in
theorem fitLeast_GoS (u : Nat) (T : Nat → Int) (m : Int) (N : Nat → Int) (l : List Rw) (kk aa mm : Int) (hka : kk ≤ aa) (h12 : l.length ≤ 12) (Lst : Nat → Int) (hk : 0 < kk) (hmm : mm ≤ kk) (hc : ∀ f, f < 8 → 0 ≤ N f ∧ N f ≤ 6) (I : Bool) (hsum : ¬ sumN N 8 = u) (lao : Option Addr) (ll lcap : Nat) (w : World) (hR : ReadsR w (.slice lao ll lcap) l)
    (H2 : Hid (∀ W, Below w.heap.size w W → Calls Tryd.prog 20 #[.int .i64 2, .slice none 0 0] W fun e w' => e = .returned (.tuple #[.int .i64 36, .nilIface]) ∧ Below W.heap.size W w'))
    (HM : Hid (∀ W, Below w.heap.size w W → Calls Tryd.prog 20 #[.int .i64 (u : Int), .slice lao ll lcap] W fun e w' => e = .returned (.tuple #[.int .i64 kk, .nilIface]) ∧ Below W.heap.size W w'))
    (HMn : Hid (∀ W, Below w.heap.size w W → Calls Tryd.prog 20 #[.int .i64 (u : Int), .slice none 0 0] W fun e w' => e = .returned (.tuple #[.int .i64 aa, .nilIface]) ∧ Below W.heap.size W w'))
    (HL : Hid (∀ W, Below w.heap.size w W → Calls Tryd.prog 21 #[.int .i64 (u : Int), .slice lao ll lcap] W fun e w' => e = .returned (.tuple #[.agg #[.int .i64 (Lst 0), .int .i64 (Lst 1), .int .i64 (Lst 2), .int .i64 (Lst 3), .int .i64 (Lst 4), .int .i64 (Lst 5), .int .i64 (Lst 6), .int .i64 (Lst 7)], .nilIface]) ∧ Below W.heap.size W w'))
    (HM3 : Hid (∀ W v, Below w.heap.size w W → ReadsR W v (l ++ [Rw.mk T m]) → Calls Tryd.prog 20 #[.int .i64 (u : Int), v] W fun e w' => e = .returned (.tuple #[.int .i64 mm, .nilIface]) ∧ Below W.heap.size W w'))
    (HFn : Hid (∀ W, Below w.heap.size w W → Calls Tryd.prog 15 #[.slice lao ll lcap, .agg #[.int .i64 (N 0), .int .i64 (N 1), .int .i64 (N 2), .int .i64 (N 3), .int .i64 (N 4), .int .i64 (N 5), .int .i64 (N 6), .int .i64 (N 7)]] W fun e w' => e = .returned (.tuple #[.bool I, .nilIface]) ∧ Below W.heap.size W w')) :
    Calls Tryd.prog 7 #[.int .i64 (u : Int), .slice lao ll lcap, .agg #[.int .i64 (T 0), .int .i64 (T 1), .int .i64 (T 2), .int .i64 (T 3), .int .i64 (T 4), .int .i64 (T 5), .int .i64 (T 6), .int .i64 (T 7), .int .i64 m], .agg #[.int .i64 (N 0), .int .i64 (N 1), .int .i64 (N 2), .int .i64 (N 3), .int .i64 (N 4), .int .i64 (N 5), .int .i64 (N 6), .int .i64 (N 7)]] w fun e w' => e = .returned (.bool true) ∧ Below w.heap.size w w' := by
  obtain ⟨w1, hw1⟩ : ∃ w1, w1 = (w.alloc (.cells #[.int .i64 (T 0), .int .i64 (T 1), .int .i64 (T 2), .int .i64 (T 3), .int .i64 (T 4), .int .i64 (T 5), .int .i64 (T 6), .int .i64 (T 7), .int .i64 m] 29)).alloc (.cells #[.int .i64 (N 0), .int .i64 (N 1), .int .i64 (N 2), .int .i64 (N 3), .int .i64 (N 4), .int .i64 (N 5), .int .i64 (N 6), .int .i64 (N 7)] 26) := ⟨_, rfl⟩
  have HB1 : Hid (Below w.heap.size w w1) := by unfold Hid; rw [hw1]; exact (below_alloc1 _ _).alloc (by simp) _
  have HR1 : Hid (Blk w1 w.heap.size 29 (arrR T m)) := by unfold Hid; rw [hw1]; exact (Blk.new _ _ _).old _
  have HN1 : Hid (Blk w1 (w.heap.size + 1) 26 (arr8 N)) := by
    unfold Hid; rw [hw1]
    have := Blk.new (w.alloc (.cells #[.int .i64 (T 0), .int .i64 (T 1), .int .i64 (T 2), .int .i64 (T 3), .int .i64 (T 4), .int .i64 (T 5), .int .i64 (T 6), .int .i64 (T 7), .int .i64 m] 29)) 26 (arr8 N)
    simp only [World.size_alloc] at this
    exact this
  have HRd : Hid (∀ W, Below w.heap.size w W → ReadsR W (.slice lao ll lcap) l) := fun W hW => hR.below hW
  clear hR
  have hka' : ¬ (aa < kk) := by omega
  have hmm' : ¬ (kk < mm) := by omega
  have HCt : Hid (∀ f, f < 8 → 0 ≤ N f ∧ N f ≤ 6) := hc
  clear hc
  go_enter Tryd.func7, Tryd.ntmps7
  go_upto_region 1 with fail
  rw [← hw1]
  clear hw1
  go_wp2_with fail
  go_at_call 20
  refine (H2.out _ HB1.out).mono ?_
  rintro e w2 ⟨rfl, hb⟩
  have HB2 : Hid (Below w.heap.size w w2) := HB1.out.trans (hb.mono HB1.out.size)
  have HR2 : Hid (Blk w2 w.heap.size 29 (arrR T m)) := HR1.out.below hb
  have HN2 : Hid (Blk w2 (w.heap.size + 1) 26 (arr8 N)) := HN1.out.below hb
  clear hb
  go_wp2_with fail
  go_at_call 20
  refine (HM.out _ HB2.out).mono ?_
  rintro e w3 ⟨rfl, hb⟩
  have HB3 : Hid (Below w.heap.size w w3) := HB2.out.trans (hb.mono HB2.out.size)
  have HR3 : Hid (Blk w3 w.heap.size 29 (arrR T m)) := HR2.out.below hb
  have HN3 : Hid (Blk w3 (w.heap.size + 1) 26 (arr8 N)) := HN2.out.below hb
  clear hb
  go_wp2_with fail
  go_at_call 20
  refine (HMn.out _ HB3.out).mono ?_
  rintro e w4 ⟨rfl, hb⟩
  have HB4 : Hid (Below w.heap.size w w4) := HB3.out.trans (hb.mono HB3.out.size)
  have HR4 : Hid (Blk w4 w.heap.size 29 (arrR T m)) := HR3.out.below hb
  have HN4 : Hid (Blk w4 (w.heap.size + 1) 26 (arr8 N)) := HN3.out.below hb
  clear hb
  go_wp2_with fail
  go_at_call 21
  refine (HL.out _ HB4.out).mono ?_
  rintro e w5 ⟨rfl, hb⟩
  have HB5 : Hid (Below w.heap.size w w5) := HB4.out.trans (hb.mono HB4.out.size)
  have HR5 : Hid (Blk w5 w.heap.size 29 (arrR T m)) := HR4.out.below hb
  have HN5 : Hid (Blk w5 (w.heap.size + 1) 26 (arr8 N)) := HN4.out.below hb
  clear hb
  obtain ⟨w6, hw6⟩ : ∃ x, x = w5.alloc (.cells #[.int .i64 (Lst 0), .int .i64 (Lst 1), .int .i64 (Lst 2), .int .i64 (Lst 3), .int .i64 (Lst 4), .int .i64 (Lst 5), .int .i64 (Lst 6), .int .i64 (Lst 7)] 26) := ⟨_, rfl⟩
  have HB6 : Hid (Below w.heap.size w w6) := by unfold Hid; rw [hw6]; exact HB5.out.alloc HB5.out.size _
  have HR6 : Hid (Blk w6 w.heap.size 29 (arrR T m)) := by unfold Hid; rw [hw6]; exact HR5.out.old _
  have HN6 : Hid (Blk w6 (w.heap.size + 1) 26 (arr8 N)) := by unfold Hid; rw [hw6]; exact HN5.out.old _
  have HX6 : Hid (Blk w6 w5.heap.size 26 (arr8 Lst)) := by unfold Hid; rw [hw6]; exact Blk.new _ _ _
  obtain ⟨X, hX⟩ : ∃ P, P = w5.heap.size := ⟨_, rfl⟩
  rw [← hX] at HX6
  go_upto_region 9 with fail
  rw [← hw6, ← hX]
  clear hw6 hX
  go_wp2_with (at_builtin; refine append_rows rfl _ _ rfl rfl _ rfl l (HRd.out _ HB6.out) h12 ?_)
  intro v9 w7 hown hgrow
  have HB7 : Hid (Below w.heap.size w w7) := HB6.out.grown hgrow HB6.out.size (fun k hk => by cases hk)
  have HOw : Hid (w7.ownsRow w6.heap.size 29 9 v9 l.length (cellsR l)) := hown
  have HSz : Hid (w6.heap.size ≤ w7.heap.size) := hgrow.size
  have HR7 : Hid (Blk w7 w.heap.size 29 (arrR T m)) := by unfold Hid Blk; rw [hgrow.block _ HR6.out.lt (by simp)]; exact HR6.out
  have HN7 : Hid (Blk w7 (w.heap.size + 1) 26 (arr8 N)) := by unfold Hid Blk; rw [hgrow.block _ HN6.out.lt (by simp)]; exact HN6.out
  have HX7 : Hid (Blk w7 X 26 (arr8 Lst)) := by unfold Hid Blk; rw [hgrow.block _ HX6.out.lt (by simp)]; exact HX6.out
  clear hown hgrow
  obtain ⟨r0, r1, r2, r3, r4, r5, r6, r7, r8⟩ := HR7.out.cells9
  go_wp2_with (at_builtin; refine append_one rfl _ _ rfl w6.heap.size v9 rfl l (Rw.mk T m) w7.heap.size 1 rfl (HOw.out.alloc _) (heap_alloc_new w7 _) (by have := HSz.out; simp; omega) h12 ?_)
  intro v10 w8 hown hgrow
  have HBa : Hid (Below w.heap.size w (w7.alloc (.cells #[.int .i64 (T 0), .int .i64 (T 1), .int .i64 (T 2), .int .i64 (T 3), .int .i64 (T 4), .int .i64 (T 5), .int .i64 (T 6), .int .i64 (T 7), .int .i64 m] 29))) := HB7.out.alloc HB7.out.size _
  have HB8 : Hid (Below w.heap.size w w8) := HBa.out.grown hgrow HBa.out.size (fun k hk => by have h1 := (HOw.out.lt k hk).1; have h2 := HB6.out.size; omega)
  have HRv : Hid (ReadsR w8 v10 (l ++ [Rw.mk T m])) := own_readsR (by rw [List.length_append]; exact hown) (by simp; omega)
  have HR8 : Hid (Blk w8 w.heap.size 29 (arrR T m)) := by unfold Hid Blk; rw [hgrow.block _ (HR7.out.old (.cells #[.int .i64 (T 0), .int .i64 (T 1), .int .i64 (T 2), .int .i64 (T 3), .int .i64 (T 4), .int .i64 (T 5), .int .i64 (T 6), .int .i64 (T 7), .int .i64 m] 29)).lt (fun e => by have h1 := (HOw.out.lt _ e.symm).1; have h2 := HR6.out.lt; omega)]; exact HR7.out.old _
  have HN8 : Hid (Blk w8 (w.heap.size + 1) 26 (arr8 N)) := by unfold Hid Blk; rw [hgrow.block _ (HN7.out.old (.cells #[.int .i64 (T 0), .int .i64 (T 1), .int .i64 (T 2), .int .i64 (T 3), .int .i64 (T 4), .int .i64 (T 5), .int .i64 (T 6), .int .i64 (T 7), .int .i64 m] 29)).lt (fun e => by have h1 := (HOw.out.lt _ e.symm).1; have h2 := HN6.out.lt; omega)]; exact HN7.out.old _
  have HX8 : Hid (Blk w8 X 26 (arr8 Lst)) := by unfold Hid Blk; rw [hgrow.block _ (HX7.out.old (.cells #[.int .i64 (T 0), .int .i64 (T 1), .int .i64 (T 2), .int .i64 (T 3), .int .i64 (T 4), .int .i64 (T 5), .int .i64 (T 6), .int .i64 (T 7), .int .i64 m] 29)).lt (fun e => by have h1 := (HOw.out.lt _ e.symm).1; have h2 := HX6.out.lt; omega)]; exact HX7.out.old _
  clear hown hgrow
  clear r0 r1 r2 r3 r4 r5 r6 r7 r8
  go_wp2_with fail
  go_at_call 20
  refine (HM3.out _ _ HB8.out HRv.out).mono ?_
  rintro e w9 ⟨rfl, hb⟩
  have HB9 : Hid (Below w.heap.size w w9) := HB8.out.trans (hb.mono HB8.out.size)
  have HR9 : Hid (Blk w9 w.heap.size 29 (arrR T m)) := HR8.out.below hb
  have HN9 : Hid (Blk w9 (w.heap.size + 1) 26 (arr8 N)) := HN8.out.below hb
  have HX9 : Hid (Blk w9 X 26 (arr8 Lst)) := HX8.out.below hb
  clear hb HRv HOw HBa HSz
  obtain ⟨n0, n1, n2, n3, n4, n5, n6, n7⟩ := HN9.out.cells8
  go_wp2_with fail
  go_at_call 15
  refine (HFn.out _ HB9.out).mono ?_
  rintro e w10 ⟨rfl, hb⟩
  have HB10 : Hid (Below w.heap.size w w10) := HB9.out.trans (hb.mono HB9.out.size)
  have HR10 : Hid (Blk w10 w.heap.size 29 (arrR T m)) := HR9.out.below hb
  have HN10 : Hid (Blk w10 (w.heap.size + 1) 26 (arr8 N)) := HN9.out.below hb
  have HX10 : Hid (Blk w10 X 26 (arr8 Lst)) := HX9.out.below hb
  clear hb
  clear n0 n1 n2 n3 n4 n5 n6 n7
  go_wp2
  go_loop [20, 21] (fun s i => ∃ f : Nat, f ≤ 8 ∧ i = .int .i64 f ∧ s = .int .i64 (sumN N f)) (fun _ i => 8 - (intOf i).toNat)
  case atStart => exact ⟨0, Nat.zero_le _, rfl, rfl⟩
  case round =>
    obtain ⟨f, hf, rfl, rfl⟩ := hrel
    by_cases hlt8 : f < 8
    · have c := HN10.out.cell f
      rw [arr8_get _ hlt8] at c
      have p1 := sumN_le (N := N) (k := f) fun g hg => HCt.out g (by omega)
      have p2 := HCt.out f hlt8
      have HS : Hid (sumN N (f + 1) = sumN N f + N f) := rfl
      go_wp2
      go_round
      case rel => exact ⟨f + 1, by omega, by go_num, by rw [HS.out]⟩
      case measure => simp [intOf]; omega
    · obtain rfl : f = 8 := by omega
      clear hlt8 hf
      obtain ⟨sm, hsm⟩ : ∃ x, x = sumN N 8 := ⟨_, rfl⟩
      rw [← hsm] at hsum ⊢
      clear hsm
      go_wp2
      go_ret
      exact ⟨rfl, HB10.out⟩

set_option linter.unusedVariables false in
set_option maxHeartbeats 16000000 in
theorem fitLeast_GoT (u : Nat) (T : Nat → Int) (m : Int) (N : Nat → Int) (l : List Rw) (kk aa mm : Int) (hka : kk ≤ aa) (h12 : l.length ≤ 12) (Lst : Nat → Int) (hk : 0 < kk) (hmm : mm ≤ kk) (hc : ∀ f, f < 8 → 0 ≤ N f ∧ N f ≤ 6) (I : Bool) (hsum : sumN N 8 = u) (hI1 : ∀ f, f < 8 → (∀ g, g < f → N g = Lst g) → N f ≠ Lst f → I = true → Lst f < N f) (hI2 : (∀ g, g < 8 → N g = Lst g) → I = true) (lao : Option Addr) (ll lcap : Nat) (w : World) (hR : ReadsR w (.slice lao ll lcap) l)
    (H2 : Hid (∀ W, Below w.heap.size w W → Calls Tryd.prog 20 #[.int .i64 2, .slice none 0 0] W fun e w' => e = .returned (.tuple #[.int .i64 36, .nilIface]) ∧ Below W.heap.size W w'))
    (HM : Hid (∀ W, Below w.heap.size w W → Calls Tryd.prog 20 #[.int .i64 (u : Int), .slice lao ll lcap] W fun e w' => e = .returned (.tuple #[.int .i64 kk, .nilIface]) ∧ Below W.heap.size W w'))
    (HMn : Hid (∀ W, Below w.heap.size w W → Calls Tryd.prog 20 #[.int .i64 (u : Int), .slice none 0 0] W fun e w' => e = .returned (.tuple #[.int .i64 aa, .nilIface]) ∧ Below W.heap.size W w'))
    (HL : Hid (∀ W, Below w.heap.size w W → Calls Tryd.prog 21 #[.int .i64 (u : Int), .slice lao ll lcap] W fun e w' => e = .returned (.tuple #[.agg #[.int .i64 (Lst 0), .int .i64 (Lst 1), .int .i64 (Lst 2), .int .i64 (Lst 3), .int .i64 (Lst 4), .int .i64 (Lst 5), .int .i64 (Lst 6), .int .i64 (Lst 7)], .nilIface]) ∧ Below W.heap.size W w'))
    (HM3 : Hid (∀ W v, Below w.heap.size w W → ReadsR W v (l ++ [Rw.mk T m]) → Calls Tryd.prog 20 #[.int .i64 (u : Int), v] W fun e w' => e = .returned (.tuple #[.int .i64 mm, .nilIface]) ∧ Below W.heap.size W w'))
    (HFn : Hid (∀ W, Below w.heap.size w W → Calls Tryd.prog 15 #[.slice lao ll lcap, .agg #[.int .i64 (N 0), .int .i64 (N 1), .int .i64 (N 2), .int .i64 (N 3), .int .i64 (N 4), .int .i64 (N 5), .int .i64 (N 6), .int .i64 (N 7)]] W fun e w' => e = .returned (.tuple #[.bool I, .nilIface]) ∧ Below W.heap.size W w'))
    (HFx : Hid (∀ W, Below w.heap.size w W → Calls Tryd.prog 15 #[.slice lao ll lcap, .agg #[.int .i64 (Lst 0), .int .i64 (Lst 1), .int .i64 (Lst 2), .int .i64 (Lst 3), .int .i64 (Lst 4), .int .i64 (Lst 5), .int .i64 (Lst 6), .int .i64 (Lst 7)]] W fun e w' => e = .returned (.tuple #[.bool true, .nilIface]) ∧ Below W.heap.size W w')) :
    Calls Tryd.prog 7 #[.int .i64 (u : Int), .slice lao ll lcap, .agg #[.int .i64 (T 0), .int .i64 (T 1), .int .i64 (T 2), .int .i64 (T 3), .int .i64 (T 4), .int .i64 (T 5), .int .i64 (T 6), .int .i64 (T 7), .int .i64 m], .agg #[.int .i64 (N 0), .int .i64 (N 1), .int .i64 (N 2), .int .i64 (N 3), .int .i64 (N 4), .int .i64 (N 5), .int .i64 (N 6), .int .i64 (N 7)]] w fun e w' => e = .returned (.bool true) ∧ Below w.heap.size w w' := by
  obtain ⟨w1, hw1⟩ : ∃ w1, w1 = (w.alloc (.cells #[.int .i64 (T 0), .int .i64 (T 1), .int .i64 (T 2), .int .i64 (T 3), .int .i64 (T 4), .int .i64 (T 5), .int .i64 (T 6), .int .i64 (T 7), .int .i64 m] 29)).alloc (.cells #[.int .i64 (N 0), .int .i64 (N 1), .int .i64 (N 2), .int .i64 (N 3), .int .i64 (N 4), .int .i64 (N 5), .int .i64 (N 6), .int .i64 (N 7)] 26) := ⟨_, rfl⟩
  have HB1 : Hid (Below w.heap.size w w1) := by unfold Hid; rw [hw1]; exact (below_alloc1 _ _).alloc (by simp) _
  have HR1 : Hid (Blk w1 w.heap.size 29 (arrR T m)) := by unfold Hid; rw [hw1]; exact (Blk.new _ _ _).old _
  have HN1 : Hid (Blk w1 (w.heap.size + 1) 26 (arr8 N)) := by
    unfold Hid; rw [hw1]
    have := Blk.new (w.alloc (.cells #[.int .i64 (T 0), .int .i64 (T 1), .int .i64 (T 2), .int .i64 (T 3), .int .i64 (T 4), .int .i64 (T 5), .int .i64 (T 6), .int .i64 (T 7), .int .i64 m] 29)) 26 (arr8 N)
    simp only [World.size_alloc] at this
    exact this
  have HRd : Hid (∀ W, Below w.heap.size w W → ReadsR W (.slice lao ll lcap) l) := fun W hW => hR.below hW
  clear hR
  have hka' : ¬ (aa < kk) := by omega
  have hmm' : ¬ (kk < mm) := by omega
  have HCt : Hid (∀ f, f < 8 → 0 ≤ N f ∧ N f ≤ 6) := hc
  clear hc
  have HI1 : Hid (∀ f, f < 8 → (∀ g, g < f → N g = Lst g) → N f ≠ Lst f → I = true → Lst f < N f) := hI1
  have HI2 : Hid ((∀ g, g < 8 → N g = Lst g) → I = true) := hI2
  clear hI1 hI2
  go_enter Tryd.func7, Tryd.ntmps7
  go_upto_region 1 with fail
  rw [← hw1]
  clear hw1
  go_wp2_with fail
  go_at_call 20
  refine (H2.out _ HB1.out).mono ?_
  rintro e w2 ⟨rfl, hb⟩
  have HB2 : Hid (Below w.heap.size w w2) := HB1.out.trans (hb.mono HB1.out.size)
  have HR2 : Hid (Blk w2 w.heap.size 29 (arrR T m)) := HR1.out.below hb
  have HN2 : Hid (Blk w2 (w.heap.size + 1) 26 (arr8 N)) := HN1.out.below hb
  clear hb
  go_wp2_with fail
  go_at_call 20
  refine (HM.out _ HB2.out).mono ?_
  rintro e w3 ⟨rfl, hb⟩
  have HB3 : Hid (Below w.heap.size w w3) := HB2.out.trans (hb.mono HB2.out.size)
  have HR3 : Hid (Blk w3 w.heap.size 29 (arrR T m)) := HR2.out.below hb
  have HN3 : Hid (Blk w3 (w.heap.size + 1) 26 (arr8 N)) := HN2.out.below hb
  clear hb
  go_wp2_with fail
  go_at_call 20
  refine (HMn.out _ HB3.out).mono ?_
  rintro e w4 ⟨rfl, hb⟩
  have HB4 : Hid (Below w.heap.size w w4) := HB3.out.trans (hb.mono HB3.out.size)
  have HR4 : Hid (Blk w4 w.heap.size 29 (arrR T m)) := HR3.out.below hb
  have HN4 : Hid (Blk w4 (w.heap.size + 1) 26 (arr8 N)) := HN3.out.below hb
  clear hb
  go_wp2_with fail
  go_at_call 21
  refine (HL.out _ HB4.out).mono ?_
  rintro e w5 ⟨rfl, hb⟩
  have HB5 : Hid (Below w.heap.size w w5) := HB4.out.trans (hb.mono HB4.out.size)
  have HR5 : Hid (Blk w5 w.heap.size 29 (arrR T m)) := HR4.out.below hb
  have HN5 : Hid (Blk w5 (w.heap.size + 1) 26 (arr8 N)) := HN4.out.below hb
  clear hb
  obtain ⟨w6, hw6⟩ : ∃ x, x = w5.alloc (.cells #[.int .i64 (Lst 0), .int .i64 (Lst 1), .int .i64 (Lst 2), .int .i64 (Lst 3), .int .i64 (Lst 4), .int .i64 (Lst 5), .int .i64 (Lst 6), .int .i64 (Lst 7)] 26) := ⟨_, rfl⟩
  have HB6 : Hid (Below w.heap.size w w6) := by unfold Hid; rw [hw6]; exact HB5.out.alloc HB5.out.size _
  have HR6 : Hid (Blk w6 w.heap.size 29 (arrR T m)) := by unfold Hid; rw [hw6]; exact HR5.out.old _
  have HN6 : Hid (Blk w6 (w.heap.size + 1) 26 (arr8 N)) := by unfold Hid; rw [hw6]; exact HN5.out.old _
  have HX6 : Hid (Blk w6 w5.heap.size 26 (arr8 Lst)) := by unfold Hid; rw [hw6]; exact Blk.new _ _ _
  obtain ⟨X, hX⟩ : ∃ P, P = w5.heap.size := ⟨_, rfl⟩
  rw [← hX] at HX6
  go_upto_region 9 with fail
  rw [← hw6, ← hX]
  clear hw6 hX
  go_wp2_with (at_builtin; refine append_rows rfl _ _ rfl rfl _ rfl l (HRd.out _ HB6.out) h12 ?_)
  intro v9 w7 hown hgrow
  have HB7 : Hid (Below w.heap.size w w7) := HB6.out.grown hgrow HB6.out.size (fun k hk => by cases hk)
  have HOw : Hid (w7.ownsRow w6.heap.size 29 9 v9 l.length (cellsR l)) := hown
  have HSz : Hid (w6.heap.size ≤ w7.heap.size) := hgrow.size
  have HR7 : Hid (Blk w7 w.heap.size 29 (arrR T m)) := by unfold Hid Blk; rw [hgrow.block _ HR6.out.lt (by simp)]; exact HR6.out
  have HN7 : Hid (Blk w7 (w.heap.size + 1) 26 (arr8 N)) := by unfold Hid Blk; rw [hgrow.block _ HN6.out.lt (by simp)]; exact HN6.out
  have HX7 : Hid (Blk w7 X 26 (arr8 Lst)) := by unfold Hid Blk; rw [hgrow.block _ HX6.out.lt (by simp)]; exact HX6.out
  clear hown hgrow
  obtain ⟨r0, r1, r2, r3, r4, r5, r6, r7, r8⟩ := HR7.out.cells9
  go_wp2_with (at_builtin; refine append_one rfl _ _ rfl w6.heap.size v9 rfl l (Rw.mk T m) w7.heap.size 1 rfl (HOw.out.alloc _) (heap_alloc_new w7 _) (by have := HSz.out; simp; omega) h12 ?_)
  intro v10 w8 hown hgrow
  have HBa : Hid (Below w.heap.size w (w7.alloc (.cells #[.int .i64 (T 0), .int .i64 (T 1), .int .i64 (T 2), .int .i64 (T 3), .int .i64 (T 4), .int .i64 (T 5), .int .i64 (T 6), .int .i64 (T 7), .int .i64 m] 29))) := HB7.out.alloc HB7.out.size _
  have HB8 : Hid (Below w.heap.size w w8) := HBa.out.grown hgrow HBa.out.size (fun k hk => by have h1 := (HOw.out.lt k hk).1; have h2 := HB6.out.size; omega)
  have HRv : Hid (ReadsR w8 v10 (l ++ [Rw.mk T m])) := own_readsR (by rw [List.length_append]; exact hown) (by simp; omega)
  have HR8 : Hid (Blk w8 w.heap.size 29 (arrR T m)) := by unfold Hid Blk; rw [hgrow.block _ (HR7.out.old (.cells #[.int .i64 (T 0), .int .i64 (T 1), .int .i64 (T 2), .int .i64 (T 3), .int .i64 (T 4), .int .i64 (T 5), .int .i64 (T 6), .int .i64 (T 7), .int .i64 m] 29)).lt (fun e => by have h1 := (HOw.out.lt _ e.symm).1; have h2 := HR6.out.lt; omega)]; exact HR7.out.old _
  have HN8 : Hid (Blk w8 (w.heap.size + 1) 26 (arr8 N)) := by unfold Hid Blk; rw [hgrow.block _ (HN7.out.old (.cells #[.int .i64 (T 0), .int .i64 (T 1), .int .i64 (T 2), .int .i64 (T 3), .int .i64 (T 4), .int .i64 (T 5), .int .i64 (T 6), .int .i64 (T 7), .int .i64 m] 29)).lt (fun e => by have h1 := (HOw.out.lt _ e.symm).1; have h2 := HN6.out.lt; omega)]; exact HN7.out.old _
  have HX8 : Hid (Blk w8 X 26 (arr8 Lst)) := by unfold Hid Blk; rw [hgrow.block _ (HX7.out.old (.cells #[.int .i64 (T 0), .int .i64 (T 1), .int .i64 (T 2), .int .i64 (T 3), .int .i64 (T 4), .int .i64 (T 5), .int .i64 (T 6), .int .i64 (T 7), .int .i64 m] 29)).lt (fun e => by have h1 := (HOw.out.lt _ e.symm).1; have h2 := HX6.out.lt; omega)]; exact HX7.out.old _
  clear hown hgrow
  clear r0 r1 r2 r3 r4 r5 r6 r7 r8
  go_wp2_with fail
  go_at_call 20
  refine (HM3.out _ _ HB8.out HRv.out).mono ?_
  rintro e w9 ⟨rfl, hb⟩
  have HB9 : Hid (Below w.heap.size w w9) := HB8.out.trans (hb.mono HB8.out.size)
  have HR9 : Hid (Blk w9 w.heap.size 29 (arrR T m)) := HR8.out.below hb
  have HN9 : Hid (Blk w9 (w.heap.size + 1) 26 (arr8 N)) := HN8.out.below hb
  have HX9 : Hid (Blk w9 X 26 (arr8 Lst)) := HX8.out.below hb
  clear hb HRv HOw HBa HSz
  obtain ⟨n0, n1, n2, n3, n4, n5, n6, n7⟩ := HN9.out.cells8
  go_wp2_with fail
  go_at_call 15
  refine (HFn.out _ HB9.out).mono ?_
  rintro e w10 ⟨rfl, hb⟩
  have HB10 : Hid (Below w.heap.size w w10) := HB9.out.trans (hb.mono HB9.out.size)
  have HR10 : Hid (Blk w10 w.heap.size 29 (arrR T m)) := HR9.out.below hb
  have HN10 : Hid (Blk w10 (w.heap.size + 1) 26 (arr8 N)) := HN9.out.below hb
  have HX10 : Hid (Blk w10 X 26 (arr8 Lst)) := HX9.out.below hb
  clear hb
  clear n0 n1 n2 n3 n4 n5 n6 n7
  go_wp2
  go_loop [20, 21] (fun s i => ∃ f : Nat, f ≤ 8 ∧ i = .int .i64 f ∧ s = .int .i64 (sumN N f)) (fun _ i => 8 - (intOf i).toNat)
  case atStart => exact ⟨0, Nat.zero_le _, rfl, rfl⟩
  case round =>
    obtain ⟨f, hf, rfl, rfl⟩ := hrel
    by_cases hlt8 : f < 8
    · have c := HN10.out.cell f
      rw [arr8_get _ hlt8] at c
      have p1 := sumN_le (N := N) (k := f) fun g hg => HCt.out g (by omega)
      have p2 := HCt.out f hlt8
      have HS : Hid (sumN N (f + 1) = sumN N f + N f) := rfl
      go_wp2
      go_round
      case rel => exact ⟨f + 1, by omega, by go_num, by rw [HS.out]⟩
      case measure => simp [intOf]; omega
    · obtain rfl : f = 8 := by omega
      clear hlt8 hf
      rw [hsum]
      obtain ⟨x0, x1, x2, x3, x4, x5, x6, x7⟩ := HX10.out.cells8
      go_wp2_with fail
      go_at_call 15
      refine (HFx.out _ HB10.out).mono ?_
      rintro e w11 ⟨rfl, hb⟩
      have HB11 : Hid (Below w.heap.size w w11) := HB10.out.trans (hb.mono HB10.out.size)
      have HR11 : Hid (Blk w11 w.heap.size 29 (arrR T m)) := HR10.out.below hb
      have HN11 : Hid (Blk w11 (w.heap.size + 1) 26 (arr8 N)) := HN10.out.below hb
      have HX11 : Hid (Blk w11 X 26 (arr8 Lst)) := HX10.out.below hb
      clear hb
      clear x0 x1 x2 x3 x4 x5 x6 x7
      go_wp2
      go_loopw [24] (fun i wr => ∃ f : Nat, f ≤ 8 ∧ i = .int .i64 f ∧ Below w11.heap.size w11 wr ∧ Hid (∀ g, g < f → N g = Lst g)) (fun i _ => 8 - (intOf i).toNat)
      case atStart => exact ⟨0, Nat.zero_le _, rfl, Below.refl _ _, fun g hg => by omega⟩
      case round =>
        obtain ⟨f, hf, rfl, hb, HA⟩ := hrel
        have HBr : Hid (Below w11.heap.size w11 wr) := hb
        clear hb
        by_cases hlt9 : f < 8
        · have c : wr.cell? ⟨w.heap.size + 1, f, none⟩ = some (.int .i64 (N f)) := by rw [(HN11.out.below HBr.out).cell, arr8_get _ hlt9]
          have d : wr.cell? ⟨X, f, none⟩ = some (.int .i64 (Lst f)) := by rw [(HX11.out.below HBr.out).cell, arr8_get _ hlt9]
          have HI3 : Hid (N f ≠ Lst f → I = true → Lst f < N f) := HI1.out f hlt9 HA.out
          have HA2 : Hid (N f = Lst f → ∀ g, g < f + 1 → N g = Lst g) := fun e g hg => by
            rcases Nat.lt_or_ge g f with h' | h'
            · exact HA.out g h'
            · obtain rfl : g = f := by omega
              exact e
          obtain ⟨x, hx⟩ : ∃ x, x = N f := ⟨_, rfl⟩
          obtain ⟨y, hy⟩ : ∃ y, y = Lst f := ⟨_, rfl⟩
          rw [← hx] at c HI3 HA2
          rw [← hy] at d HI3 HA2
          clear hx hy
          by_cases hxy : x = y
          · have HA3 : Hid (∀ g, g < f + 1 → N g = Lst g) := HA2.out hxy
            subst hxy
            go_wp2
            go_region
            go_wp2
            go_roundw
            case rel => exact ⟨f + 1, by omega, by go_num, HBr.out.drew, HA3⟩
            case measure => simp [intOf]; omega
          · cases I with
            | false =>
              go_wp2
              go_region
              go_wp2
              go_region
              go_wp2
              go_ret
              exact ⟨rfl, HB11.out.trans ((HBr.out.drew.drew).mono HB11.out.size)⟩
            | true =>
              have hyx : y < x := HI3.out hxy rfl
              go_wp2
              go_region
              go_wp2
              go_region
              go_wp2
              go_ret
              exact ⟨rfl, HB11.out.trans ((HBr.out.drew.drew).mono HB11.out.size)⟩
        · obtain rfl : f = 8 := by omega
          have HI4 : Hid (I = true) := HI2.out HA.out
          go_wp2
          go_ret
          exact ⟨back_b HI4.out, HB11.out.trans (HBr.out.mono HB11.out.size)⟩

set_option linter.unusedVariables false in
set_option maxHeartbeats 16000000 in
theorem fitLeast_GxC (u : Nat) (T : Nat → Int) (m : Int) (N : Nat → Int) (l : List Rw) (kk aa mm : Int) (hka : kk ≤ aa) (h12 : l.length ≤ 12) (Lst : Nat → Int) (hk : 0 < kk) (F : Int) (hF : ¬ F = 0) (G : Int) (hG : ¬ G = 0) (lao : Option Addr) (ll lcap : Nat) (w : World) (hR : ReadsR w (.slice lao ll lcap) l)
    (H2 : Hid (∀ W, Below w.heap.size w W → Calls Tryd.prog 20 #[.int .i64 2, .slice none 0 0] W fun e w' => e = .returned (.tuple #[.int .i64 36, .nilIface]) ∧ Below W.heap.size W w'))
    (HM : Hid (∀ W, Below w.heap.size w W → Calls Tryd.prog 20 #[.int .i64 (u : Int), .slice lao ll lcap] W fun e w' => e = .returned (.tuple #[.int .i64 kk, .nilIface]) ∧ Below W.heap.size W w'))
    (HMn : Hid (∀ W, Below w.heap.size w W → Calls Tryd.prog 20 #[.int .i64 (u : Int), .slice none 0 0] W fun e w' => e = .returned (.tuple #[.int .i64 aa, .nilIface]) ∧ Below W.heap.size W w'))
    (HL : Hid (∀ W, Below w.heap.size w W → Calls Tryd.prog 21 #[.int .i64 (u : Int), .slice lao ll lcap] W fun e w' => e = .returned (.tuple #[.agg #[.int .i64 (Lst 0), .int .i64 (Lst 1), .int .i64 (Lst 2), .int .i64 (Lst 3), .int .i64 (Lst 4), .int .i64 (Lst 5), .int .i64 (Lst 6), .int .i64 (Lst 7)], .nilIface]) ∧ Below W.heap.size W w'))
    (HM3 : Hid (∀ W v, Below w.heap.size w W → ReadsR W v (l ++ [Rw.mk T m]) → Calls Tryd.prog 20 #[.int .i64 (u : Int), v] W fun e w' => e = .returned (.tuple #[.int .i64 mm, .iface 66 (.int .i64 F)]) ∧ Below W.heap.size W w'))
    (HFn : Hid (∀ W, Below w.heap.size w W → Calls Tryd.prog 15 #[.slice lao ll lcap, .agg #[.int .i64 (N 0), .int .i64 (N 1), .int .i64 (N 2), .int .i64 (N 3), .int .i64 (N 4), .int .i64 (N 5), .int .i64 (N 6), .int .i64 (N 7)]] W fun e w' => e = .returned (.tuple #[.bool false, .iface 66 (.int .i64 G)]) ∧ Below W.heap.size W w')) :
    Calls Tryd.prog 7 #[.int .i64 (u : Int), .slice lao ll lcap, .agg #[.int .i64 (T 0), .int .i64 (T 1), .int .i64 (T 2), .int .i64 (T 3), .int .i64 (T 4), .int .i64 (T 5), .int .i64 (T 6), .int .i64 (T 7), .int .i64 m], .agg #[.int .i64 (N 0), .int .i64 (N 1), .int .i64 (N 2), .int .i64 (N 3), .int .i64 (N 4), .int .i64 (N 5), .int .i64 (N 6), .int .i64 (N 7)]] w fun e w' => e = .returned (.bool true) ∧ Below w.heap.size w w' := by
  obtain ⟨w1, hw1⟩ : ∃ w1, w1 = (w.alloc (.cells #[.int .i64 (T 0), .int .i64 (T 1), .int .i64 (T 2), .int .i64 (T 3), .int .i64 (T 4), .int .i64 (T 5), .int .i64 (T 6), .int .i64 (T 7), .int .i64 m] 29)).alloc (.cells #[.int .i64 (N 0), .int .i64 (N 1), .int .i64 (N 2), .int .i64 (N 3), .int .i64 (N 4), .int .i64 (N 5), .int .i64 (N 6), .int .i64 (N 7)] 26) := ⟨_, rfl⟩
  have HB1 : Hid (Below w.heap.size w w1) := by unfold Hid; rw [hw1]; exact (below_alloc1 _ _).alloc (by simp) _
  have HR1 : Hid (Blk w1 w.heap.size 29 (arrR T m)) := by unfold Hid; rw [hw1]; exact (Blk.new _ _ _).old _
  have HN1 : Hid (Blk w1 (w.heap.size + 1) 26 (arr8 N)) := by
    unfold Hid; rw [hw1]
    have := Blk.new (w.alloc (.cells #[.int .i64 (T 0), .int .i64 (T 1), .int .i64 (T 2), .int .i64 (T 3), .int .i64 (T 4), .int .i64 (T 5), .int .i64 (T 6), .int .i64 (T 7), .int .i64 m] 29)) 26 (arr8 N)
    simp only [World.size_alloc] at this
    exact this
  have HRd : Hid (∀ W, Below w.heap.size w W → ReadsR W (.slice lao ll lcap) l) := fun W hW => hR.below hW
  clear hR
  have hka' : ¬ (aa < kk) := by omega
  go_enter Tryd.func7, Tryd.ntmps7
  go_upto_region 1 with fail
  rw [← hw1]
  clear hw1
  go_wp2_with fail
  go_at_call 20
  refine (H2.out _ HB1.out).mono ?_
  rintro e w2 ⟨rfl, hb⟩
  have HB2 : Hid (Below w.heap.size w w2) := HB1.out.trans (hb.mono HB1.out.size)
  have HR2 : Hid (Blk w2 w.heap.size 29 (arrR T m)) := HR1.out.below hb
  have HN2 : Hid (Blk w2 (w.heap.size + 1) 26 (arr8 N)) := HN1.out.below hb
  clear hb
  go_wp2_with fail
  go_at_call 20
  refine (HM.out _ HB2.out).mono ?_
  rintro e w3 ⟨rfl, hb⟩
  have HB3 : Hid (Below w.heap.size w w3) := HB2.out.trans (hb.mono HB2.out.size)
  have HR3 : Hid (Blk w3 w.heap.size 29 (arrR T m)) := HR2.out.below hb
  have HN3 : Hid (Blk w3 (w.heap.size + 1) 26 (arr8 N)) := HN2.out.below hb
  clear hb
  go_wp2_with fail
  go_at_call 20
  refine (HMn.out _ HB3.out).mono ?_
  rintro e w4 ⟨rfl, hb⟩
  have HB4 : Hid (Below w.heap.size w w4) := HB3.out.trans (hb.mono HB3.out.size)
  have HR4 : Hid (Blk w4 w.heap.size 29 (arrR T m)) := HR3.out.below hb
  have HN4 : Hid (Blk w4 (w.heap.size + 1) 26 (arr8 N)) := HN3.out.below hb
  clear hb
  go_wp2_with fail
  go_at_call 21
  refine (HL.out _ HB4.out).mono ?_
  rintro e w5 ⟨rfl, hb⟩
  have HB5 : Hid (Below w.heap.size w w5) := HB4.out.trans (hb.mono HB4.out.size)
  have HR5 : Hid (Blk w5 w.heap.size 29 (arrR T m)) := HR4.out.below hb
  have HN5 : Hid (Blk w5 (w.heap.size + 1) 26 (arr8 N)) := HN4.out.below hb
  clear hb
  obtain ⟨w6, hw6⟩ : ∃ x, x = w5.alloc (.cells #[.int .i64 (Lst 0), .int .i64 (Lst 1), .int .i64 (Lst 2), .int .i64 (Lst 3), .int .i64 (Lst 4), .int .i64 (Lst 5), .int .i64 (Lst 6), .int .i64 (Lst 7)] 26) := ⟨_, rfl⟩
  have HB6 : Hid (Below w.heap.size w w6) := by unfold Hid; rw [hw6]; exact HB5.out.alloc HB5.out.size _
  have HR6 : Hid (Blk w6 w.heap.size 29 (arrR T m)) := by unfold Hid; rw [hw6]; exact HR5.out.old _
  have HN6 : Hid (Blk w6 (w.heap.size + 1) 26 (arr8 N)) := by unfold Hid; rw [hw6]; exact HN5.out.old _
  have HX6 : Hid (Blk w6 w5.heap.size 26 (arr8 Lst)) := by unfold Hid; rw [hw6]; exact Blk.new _ _ _
  obtain ⟨X, hX⟩ : ∃ P, P = w5.heap.size := ⟨_, rfl⟩
  rw [← hX] at HX6
  go_upto_region 9 with fail
  rw [← hw6, ← hX]
  clear hw6 hX
  go_wp2_with (at_builtin; refine append_rows rfl _ _ rfl rfl _ rfl l (HRd.out _ HB6.out) h12 ?_)
  intro v9 w7 hown hgrow
  have HB7 : Hid (Below w.heap.size w w7) := HB6.out.grown hgrow HB6.out.size (fun k hk => by cases hk)
  have HOw : Hid (w7.ownsRow w6.heap.size 29 9 v9 l.length (cellsR l)) := hown
  have HSz : Hid (w6.heap.size ≤ w7.heap.size) := hgrow.size
  have HR7 : Hid (Blk w7 w.heap.size 29 (arrR T m)) := by unfold Hid Blk; rw [hgrow.block _ HR6.out.lt (by simp)]; exact HR6.out
  have HN7 : Hid (Blk w7 (w.heap.size + 1) 26 (arr8 N)) := by unfold Hid Blk; rw [hgrow.block _ HN6.out.lt (by simp)]; exact HN6.out
  have HX7 : Hid (Blk w7 X 26 (arr8 Lst)) := by unfold Hid Blk; rw [hgrow.block _ HX6.out.lt (by simp)]; exact HX6.out
  clear hown hgrow
  obtain ⟨r0, r1, r2, r3, r4, r5, r6, r7, r8⟩ := HR7.out.cells9
  go_wp2_with (at_builtin; refine append_one rfl _ _ rfl w6.heap.size v9 rfl l (Rw.mk T m) w7.heap.size 1 rfl (HOw.out.alloc _) (heap_alloc_new w7 _) (by have := HSz.out; simp; omega) h12 ?_)
  intro v10 w8 hown hgrow
  have HBa : Hid (Below w.heap.size w (w7.alloc (.cells #[.int .i64 (T 0), .int .i64 (T 1), .int .i64 (T 2), .int .i64 (T 3), .int .i64 (T 4), .int .i64 (T 5), .int .i64 (T 6), .int .i64 (T 7), .int .i64 m] 29))) := HB7.out.alloc HB7.out.size _
  have HB8 : Hid (Below w.heap.size w w8) := HBa.out.grown hgrow HBa.out.size (fun k hk => by have h1 := (HOw.out.lt k hk).1; have h2 := HB6.out.size; omega)
  have HRv : Hid (ReadsR w8 v10 (l ++ [Rw.mk T m])) := own_readsR (by rw [List.length_append]; exact hown) (by simp; omega)
  have HR8 : Hid (Blk w8 w.heap.size 29 (arrR T m)) := by unfold Hid Blk; rw [hgrow.block _ (HR7.out.old (.cells #[.int .i64 (T 0), .int .i64 (T 1), .int .i64 (T 2), .int .i64 (T 3), .int .i64 (T 4), .int .i64 (T 5), .int .i64 (T 6), .int .i64 (T 7), .int .i64 m] 29)).lt (fun e => by have h1 := (HOw.out.lt _ e.symm).1; have h2 := HR6.out.lt; omega)]; exact HR7.out.old _
  have HN8 : Hid (Blk w8 (w.heap.size + 1) 26 (arr8 N)) := by unfold Hid Blk; rw [hgrow.block _ (HN7.out.old (.cells #[.int .i64 (T 0), .int .i64 (T 1), .int .i64 (T 2), .int .i64 (T 3), .int .i64 (T 4), .int .i64 (T 5), .int .i64 (T 6), .int .i64 (T 7), .int .i64 m] 29)).lt (fun e => by have h1 := (HOw.out.lt _ e.symm).1; have h2 := HN6.out.lt; omega)]; exact HN7.out.old _
  have HX8 : Hid (Blk w8 X 26 (arr8 Lst)) := by unfold Hid Blk; rw [hgrow.block _ (HX7.out.old (.cells #[.int .i64 (T 0), .int .i64 (T 1), .int .i64 (T 2), .int .i64 (T 3), .int .i64 (T 4), .int .i64 (T 5), .int .i64 (T 6), .int .i64 (T 7), .int .i64 m] 29)).lt (fun e => by have h1 := (HOw.out.lt _ e.symm).1; have h2 := HX6.out.lt; omega)]; exact HX7.out.old _
  clear hown hgrow
  clear r0 r1 r2 r3 r4 r5 r6 r7 r8
  go_wp2_with fail
  go_at_call 20
  refine (HM3.out _ _ HB8.out HRv.out).mono ?_
  rintro e w9 ⟨rfl, hb⟩
  have HB9 : Hid (Below w.heap.size w w9) := HB8.out.trans (hb.mono HB8.out.size)
  have HR9 : Hid (Blk w9 w.heap.size 29 (arrR T m)) := HR8.out.below hb
  have HN9 : Hid (Blk w9 (w.heap.size + 1) 26 (arr8 N)) := HN8.out.below hb
  have HX9 : Hid (Blk w9 X 26 (arr8 Lst)) := HX8.out.below hb
  clear hb HRv HOw HBa HSz
  obtain ⟨n0, n1, n2, n3, n4, n5, n6, n7⟩ := HN9.out.cells8
  go_wp2_with fail
  go_at_call 15
  refine (HFn.out _ HB9.out).mono ?_
  rintro e w10 ⟨rfl, hb⟩
  have HB10 : Hid (Below w.heap.size w w10) := HB9.out.trans (hb.mono HB9.out.size)
  have HR10 : Hid (Blk w10 w.heap.size 29 (arrR T m)) := HR9.out.below hb
  have HN10 : Hid (Blk w10 (w.heap.size + 1) 26 (arr8 N)) := HN9.out.below hb
  have HX10 : Hid (Blk w10 X 26 (arr8 Lst)) := HX9.out.below hb
  clear hb
  clear n0 n1 n2 n3 n4 n5 n6 n7
  go_wp2
  go_loop [20, 21] (fun s i => ∃ (f : Nat) (x : Int), f ≤ 8 ∧ i = .int .i64 f ∧ s = .int .i64 x) (fun _ i => 8 - (intOf i).toNat)
  case atStart => exact ⟨0, 0, Nat.zero_le _, rfl, rfl⟩
  case round =>
    obtain ⟨f, x, hf, rfl, rfl⟩ := hrel
    by_cases hlt8 : f < 8
    · have c := HN10.out.cell f
      rw [arr8_get _ hlt8] at c
      go_wp2
      go_round
      case rel => exact ⟨f + 1, _, by omega, by go_num, rfl⟩
      case measure => simp [intOf]; omega
    · obtain rfl : f = 8 := by omega
      go_wp2
      go_ret
      exact ⟨rfl, HB10.out⟩

set_option linter.unusedVariables false in
set_option maxHeartbeats 16000000 in
theorem fitLeast_GxS (u : Nat) (T : Nat → Int) (m : Int) (N : Nat → Int) (l : List Rw) (kk aa mm : Int) (hka : kk ≤ aa) (h12 : l.length ≤ 12) (Lst : Nat → Int) (hk : 0 < kk) (F : Int) (hF : ¬ F = 0) (hc : ∀ f, f < 8 → 0 ≤ N f ∧ N f ≤ 6) (I : Bool) (hsum : ¬ sumN N 8 = u) (lao : Option Addr) (ll lcap : Nat) (w : World) (hR : ReadsR w (.slice lao ll lcap) l)
    (H2 : Hid (∀ W, Below w.heap.size w W → Calls Tryd.prog 20 #[.int .i64 2, .slice none 0 0] W fun e w' => e = .returned (.tuple #[.int .i64 36, .nilIface]) ∧ Below W.heap.size W w'))
    (HM : Hid (∀ W, Below w.heap.size w W → Calls Tryd.prog 20 #[.int .i64 (u : Int), .slice lao ll lcap] W fun e w' => e = .returned (.tuple #[.int .i64 kk, .nilIface]) ∧ Below W.heap.size W w'))
    (HMn : Hid (∀ W, Below w.heap.size w W → Calls Tryd.prog 20 #[.int .i64 (u : Int), .slice none 0 0] W fun e w' => e = .returned (.tuple #[.int .i64 aa, .nilIface]) ∧ Below W.heap.size W w'))
    (HL : Hid (∀ W, Below w.heap.size w W → Calls Tryd.prog 21 #[.int .i64 (u : Int), .slice lao ll lcap] W fun e w' => e = .returned (.tuple #[.agg #[.int .i64 (Lst 0), .int .i64 (Lst 1), .int .i64 (Lst 2), .int .i64 (Lst 3), .int .i64 (Lst 4), .int .i64 (Lst 5), .int .i64 (Lst 6), .int .i64 (Lst 7)], .nilIface]) ∧ Below W.heap.size W w'))
    (HM3 : Hid (∀ W v, Below w.heap.size w W → ReadsR W v (l ++ [Rw.mk T m]) → Calls Tryd.prog 20 #[.int .i64 (u : Int), v] W fun e w' => e = .returned (.tuple #[.int .i64 mm, .iface 66 (.int .i64 F)]) ∧ Below W.heap.size W w'))
    (HFn : Hid (∀ W, Below w.heap.size w W → Calls Tryd.prog 15 #[.slice lao ll lcap, .agg #[.int .i64 (N 0), .int .i64 (N 1), .int .i64 (N 2), .int .i64 (N 3), .int .i64 (N 4), .int .i64 (N 5), .int .i64 (N 6), .int .i64 (N 7)]] W fun e w' => e = .returned (.tuple #[.bool I, .nilIface]) ∧ Below W.heap.size W w')) :
    Calls Tryd.prog 7 #[.int .i64 (u : Int), .slice lao ll lcap, .agg #[.int .i64 (T 0), .int .i64 (T 1), .int .i64 (T 2), .int .i64 (T 3), .int .i64 (T 4), .int .i64 (T 5), .int .i64 (T 6), .int .i64 (T 7), .int .i64 m], .agg #[.int .i64 (N 0), .int .i64 (N 1), .int .i64 (N 2), .int .i64 (N 3), .int .i64 (N 4), .int .i64 (N 5), .int .i64 (N 6), .int .i64 (N 7)]] w fun e w' => e = .returned (.bool true) ∧ Below w.heap.size w w' := by
  obtain ⟨w1, hw1⟩ : ∃ w1, w1 = (w.alloc (.cells #[.int .i64 (T 0), .int .i64 (T 1), .int .i64 (T 2), .int .i64 (T 3), .int .i64 (T 4), .int .i64 (T 5), .int .i64 (T 6), .int .i64 (T 7), .int .i64 m] 29)).alloc (.cells #[.int .i64 (N 0), .int .i64 (N 1), .int .i64 (N 2), .int .i64 (N 3), .int .i64 (N 4), .int .i64 (N 5), .int .i64 (N 6), .int .i64 (N 7)] 26) := ⟨_, rfl⟩
  have HB1 : Hid (Below w.heap.size w w1) := by unfold Hid; rw [hw1]; exact (below_alloc1 _ _).alloc (by simp) _
  have HR1 : Hid (Blk w1 w.heap.size 29 (arrR T m)) := by unfold Hid; rw [hw1]; exact (Blk.new _ _ _).old _
  have HN1 : Hid (Blk w1 (w.heap.size + 1) 26 (arr8 N)) := by
    unfold Hid; rw [hw1]
    have := Blk.new (w.alloc (.cells #[.int .i64 (T 0), .int .i64 (T 1), .int .i64 (T 2), .int .i64 (T 3), .int .i64 (T 4), .int .i64 (T 5), .int .i64 (T 6), .int .i64 (T 7), .int .i64 m] 29)) 26 (arr8 N)
    simp only [World.size_alloc] at this
    exact this
  have HRd : Hid (∀ W, Below w.heap.size w W → ReadsR W (.slice lao ll lcap) l) := fun W hW => hR.below hW
  clear hR
  have hka' : ¬ (aa < kk) := by omega
  have HCt : Hid (∀ f, f < 8 → 0 ≤ N f ∧ N f ≤ 6) := hc
  clear hc
  go_enter Tryd.func7, Tryd.ntmps7
  go_upto_region 1 with fail
  rw [← hw1]
  clear hw1
  go_wp2_with fail
  go_at_call 20
  refine (H2.out _ HB1.out).mono ?_
  rintro e w2 ⟨rfl, hb⟩
  have HB2 : Hid (Below w.heap.size w w2) := HB1.out.trans (hb.mono HB1.out.size)
  have HR2 : Hid (Blk w2 w.heap.size 29 (arrR T m)) := HR1.out.below hb
  have HN2 : Hid (Blk w2 (w.heap.size + 1) 26 (arr8 N)) := HN1.out.below hb
  clear hb
  go_wp2_with fail
  go_at_call 20
  refine (HM.out _ HB2.out).mono ?_
  rintro e w3 ⟨rfl, hb⟩
  have HB3 : Hid (Below w.heap.size w w3) := HB2.out.trans (hb.mono HB2.out.size)
  have HR3 : Hid (Blk w3 w.heap.size 29 (arrR T m)) := HR2.out.below hb
  have HN3 : Hid (Blk w3 (w.heap.size + 1) 26 (arr8 N)) := HN2.out.below hb
  clear hb
  go_wp2_with fail
  go_at_call 20
  refine (HMn.out _ HB3.out).mono ?_
  rintro e w4 ⟨rfl, hb⟩
  have HB4 : Hid (Below w.heap.size w w4) := HB3.out.trans (hb.mono HB3.out.size)
  have HR4 : Hid (Blk w4 w.heap.size 29 (arrR T m)) := HR3.out.below hb
  have HN4 : Hid (Blk w4 (w.heap.size + 1) 26 (arr8 N)) := HN3.out.below hb
  clear hb
  go_wp2_with fail
  go_at_call 21
  refine (HL.out _ HB4.out).mono ?_
  rintro e w5 ⟨rfl, hb⟩
  have HB5 : Hid (Below w.heap.size w w5) := HB4.out.trans (hb.mono HB4.out.size)
  have HR5 : Hid (Blk w5 w.heap.size 29 (arrR T m)) := HR4.out.below hb
  have HN5 : Hid (Blk w5 (w.heap.size + 1) 26 (arr8 N)) := HN4.out.below hb
  clear hb
  obtain ⟨w6, hw6⟩ : ∃ x, x = w5.alloc (.cells #[.int .i64 (Lst 0), .int .i64 (Lst 1), .int .i64 (Lst 2), .int .i64 (Lst 3), .int .i64 (Lst 4), .int .i64 (Lst 5), .int .i64 (Lst 6), .int .i64 (Lst 7)] 26) := ⟨_, rfl⟩
  have HB6 : Hid (Below w.heap.size w w6) := by unfold Hid; rw [hw6]; exact HB5.out.alloc HB5.out.size _
  have HR6 : Hid (Blk w6 w.heap.size 29 (arrR T m)) := by unfold Hid; rw [hw6]; exact HR5.out.old _
  have HN6 : Hid (Blk w6 (w.heap.size + 1) 26 (arr8 N)) := by unfold Hid; rw [hw6]; exact HN5.out.old _
  have HX6 : Hid (Blk w6 w5.heap.size 26 (arr8 Lst)) := by unfold Hid; rw [hw6]; exact Blk.new _ _ _
  obtain ⟨X, hX⟩ : ∃ P, P = w5.heap.size := ⟨_, rfl⟩
  rw [← hX] at HX6
  go_upto_region 9 with fail
  rw [← hw6, ← hX]
  clear hw6 hX
  go_wp2_with (at_builtin; refine append_rows rfl _ _ rfl rfl _ rfl l (HRd.out _ HB6.out) h12 ?_)
  intro v9 w7 hown hgrow
  have HB7 : Hid (Below w.heap.size w w7) := HB6.out.grown hgrow HB6.out.size (fun k hk => by cases hk)
  have HOw : Hid (w7.ownsRow w6.heap.size 29 9 v9 l.length (cellsR l)) := hown
  have HSz : Hid (w6.heap.size ≤ w7.heap.size) := hgrow.size
  have HR7 : Hid (Blk w7 w.heap.size 29 (arrR T m)) := by unfold Hid Blk; rw [hgrow.block _ HR6.out.lt (by simp)]; exact HR6.out
  have HN7 : Hid (Blk w7 (w.heap.size + 1) 26 (arr8 N)) := by unfold Hid Blk; rw [hgrow.block _ HN6.out.lt (by simp)]; exact HN6.out
  have HX7 : Hid (Blk w7 X 26 (arr8 Lst)) := by unfold Hid Blk; rw [hgrow.block _ HX6.out.lt (by simp)]; exact HX6.out
  clear hown hgrow
  obtain ⟨r0, r1, r2, r3, r4, r5, r6, r7, r8⟩ := HR7.out.cells9
  go_wp2_with (at_builtin; refine append_one rfl _ _ rfl w6.heap.size v9 rfl l (Rw.mk T m) w7.heap.size 1 rfl (HOw.out.alloc _) (heap_alloc_new w7 _) (by have := HSz.out; simp; omega) h12 ?_)
  intro v10 w8 hown hgrow
  have HBa : Hid (Below w.heap.size w (w7.alloc (.cells #[.int .i64 (T 0), .int .i64 (T 1), .int .i64 (T 2), .int .i64 (T 3), .int .i64 (T 4), .int .i64 (T 5), .int .i64 (T 6), .int .i64 (T 7), .int .i64 m] 29))) := HB7.out.alloc HB7.out.size _
  have HB8 : Hid (Below w.heap.size w w8) := HBa.out.grown hgrow HBa.out.size (fun k hk => by have h1 := (HOw.out.lt k hk).1; have h2 := HB6.out.size; omega)
  have HRv : Hid (ReadsR w8 v10 (l ++ [Rw.mk T m])) := own_readsR (by rw [List.length_append]; exact hown) (by simp; omega)
  have HR8 : Hid (Blk w8 w.heap.size 29 (arrR T m)) := by unfold Hid Blk; rw [hgrow.block _ (HR7.out.old (.cells #[.int .i64 (T 0), .int .i64 (T 1), .int .i64 (T 2), .int .i64 (T 3), .int .i64 (T 4), .int .i64 (T 5), .int .i64 (T 6), .int .i64 (T 7), .int .i64 m] 29)).lt (fun e => by have h1 := (HOw.out.lt _ e.symm).1; have h2 := HR6.out.lt; omega)]; exact HR7.out.old _
  have HN8 : Hid (Blk w8 (w.heap.size + 1) 26 (arr8 N)) := by unfold Hid Blk; rw [hgrow.block _ (HN7.out.old (.cells #[.int .i64 (T 0), .int .i64 (T 1), .int .i64 (T 2), .int .i64 (T 3), .int .i64 (T 4), .int .i64 (T 5), .int .i64 (T 6), .int .i64 (T 7), .int .i64 m] 29)).lt (fun e => by have h1 := (HOw.out.lt _ e.symm).1; have h2 := HN6.out.lt; omega)]; exact HN7.out.old _
  have HX8 : Hid (Blk w8 X 26 (arr8 Lst)) := by unfold Hid Blk; rw [hgrow.block _ (HX7.out.old (.cells #[.int .i64 (T 0), .int .i64 (T 1), .int .i64 (T 2), .int .i64 (T 3), .int .i64 (T 4), .int .i64 (T 5), .int .i64 (T 6), .int .i64 (T 7), .int .i64 m] 29)).lt (fun e => by have h1 := (HOw.out.lt _ e.symm).1; have h2 := HX6.out.lt; omega)]; exact HX7.out.old _
  clear hown hgrow
  clear r0 r1 r2 r3 r4 r5 r6 r7 r8
  go_wp2_with fail
  go_at_call 20
  refine (HM3.out _ _ HB8.out HRv.out).mono ?_
  rintro e w9 ⟨rfl, hb⟩
  have HB9 : Hid (Below w.heap.size w w9) := HB8.out.trans (hb.mono HB8.out.size)
  have HR9 : Hid (Blk w9 w.heap.size 29 (arrR T m)) := HR8.out.below hb
  have HN9 : Hid (Blk w9 (w.heap.size + 1) 26 (arr8 N)) := HN8.out.below hb
  have HX9 : Hid (Blk w9 X 26 (arr8 Lst)) := HX8.out.below hb
  clear hb HRv HOw HBa HSz
  obtain ⟨n0, n1, n2, n3, n4, n5, n6, n7⟩ := HN9.out.cells8
  go_wp2_with fail
  go_at_call 15
  refine (HFn.out _ HB9.out).mono ?_
  rintro e w10 ⟨rfl, hb⟩
  have HB10 : Hid (Below w.heap.size w w10) := HB9.out.trans (hb.mono HB9.out.size)
  have HR10 : Hid (Blk w10 w.heap.size 29 (arrR T m)) := HR9.out.below hb
  have HN10 : Hid (Blk w10 (w.heap.size + 1) 26 (arr8 N)) := HN9.out.below hb
  have HX10 : Hid (Blk w10 X 26 (arr8 Lst)) := HX9.out.below hb
  clear hb
  clear n0 n1 n2 n3 n4 n5 n6 n7
  go_wp2
  go_loop [20, 21] (fun s i => ∃ f : Nat, f ≤ 8 ∧ i = .int .i64 f ∧ s = .int .i64 (sumN N f)) (fun _ i => 8 - (intOf i).toNat)
  case atStart => exact ⟨0, Nat.zero_le _, rfl, rfl⟩
  case round =>
    obtain ⟨f, hf, rfl, rfl⟩ := hrel
    by_cases hlt8 : f < 8
    · have c := HN10.out.cell f
      rw [arr8_get _ hlt8] at c
      have p1 := sumN_le (N := N) (k := f) fun g hg => HCt.out g (by omega)
      have p2 := HCt.out f hlt8
      have HS : Hid (sumN N (f + 1) = sumN N f + N f) := rfl
      go_wp2
      go_round
      case rel => exact ⟨f + 1, by omega, by go_num, by rw [HS.out]⟩
      case measure => simp [intOf]; omega
    · obtain rfl : f = 8 := by omega
      clear hlt8 hf
      obtain ⟨sm, hsm⟩ : ∃ x, x = sumN N 8 := ⟨_, rfl⟩
      rw [← hsm] at hsum ⊢
      clear hsm
      go_wp2
      go_ret
      exact ⟨rfl, HB10.out⟩

set_option linter.unusedVariables false in
set_option maxHeartbeats 16000000 in
theorem fitLeast_GxT (u : Nat) (T : Nat → Int) (m : Int) (N : Nat → Int) (l : List Rw) (kk aa mm : Int) (hka : kk ≤ aa) (h12 : l.length ≤ 12) (Lst : Nat → Int) (hk : 0 < kk) (F : Int) (hF : ¬ F = 0) (hc : ∀ f, f < 8 → 0 ≤ N f ∧ N f ≤ 6) (I : Bool) (hsum : sumN N 8 = u) (hI1 : ∀ f, f < 8 → (∀ g, g < f → N g = Lst g) → N f ≠ Lst f → I = true → Lst f < N f) (hI2 : (∀ g, g < 8 → N g = Lst g) → I = true) (lao : Option Addr) (ll lcap : Nat) (w : World) (hR : ReadsR w (.slice lao ll lcap) l)
    (H2 : Hid (∀ W, Below w.heap.size w W → Calls Tryd.prog 20 #[.int .i64 2, .slice none 0 0] W fun e w' => e = .returned (.tuple #[.int .i64 36, .nilIface]) ∧ Below W.heap.size W w'))
    (HM : Hid (∀ W, Below w.heap.size w W → Calls Tryd.prog 20 #[.int .i64 (u : Int), .slice lao ll lcap] W fun e w' => e = .returned (.tuple #[.int .i64 kk, .nilIface]) ∧ Below W.heap.size W w'))
    (HMn : Hid (∀ W, Below w.heap.size w W → Calls Tryd.prog 20 #[.int .i64 (u : Int), .slice none 0 0] W fun e w' => e = .returned (.tuple #[.int .i64 aa, .nilIface]) ∧ Below W.heap.size W w'))
    (HL : Hid (∀ W, Below w.heap.size w W → Calls Tryd.prog 21 #[.int .i64 (u : Int), .slice lao ll lcap] W fun e w' => e = .returned (.tuple #[.agg #[.int .i64 (Lst 0), .int .i64 (Lst 1), .int .i64 (Lst 2), .int .i64 (Lst 3), .int .i64 (Lst 4), .int .i64 (Lst 5), .int .i64 (Lst 6), .int .i64 (Lst 7)], .nilIface]) ∧ Below W.heap.size W w'))
    (HM3 : Hid (∀ W v, Below w.heap.size w W → ReadsR W v (l ++ [Rw.mk T m]) → Calls Tryd.prog 20 #[.int .i64 (u : Int), v] W fun e w' => e = .returned (.tuple #[.int .i64 mm, .iface 66 (.int .i64 F)]) ∧ Below W.heap.size W w'))
    (HFn : Hid (∀ W, Below w.heap.size w W → Calls Tryd.prog 15 #[.slice lao ll lcap, .agg #[.int .i64 (N 0), .int .i64 (N 1), .int .i64 (N 2), .int .i64 (N 3), .int .i64 (N 4), .int .i64 (N 5), .int .i64 (N 6), .int .i64 (N 7)]] W fun e w' => e = .returned (.tuple #[.bool I, .nilIface]) ∧ Below W.heap.size W w'))
    (HFx : Hid (∀ W, Below w.heap.size w W → Calls Tryd.prog 15 #[.slice lao ll lcap, .agg #[.int .i64 (Lst 0), .int .i64 (Lst 1), .int .i64 (Lst 2), .int .i64 (Lst 3), .int .i64 (Lst 4), .int .i64 (Lst 5), .int .i64 (Lst 6), .int .i64 (Lst 7)]] W fun e w' => e = .returned (.tuple #[.bool true, .nilIface]) ∧ Below W.heap.size W w')) :
    Calls Tryd.prog 7 #[.int .i64 (u : Int), .slice lao ll lcap, .agg #[.int .i64 (T 0), .int .i64 (T 1), .int .i64 (T 2), .int .i64 (T 3), .int .i64 (T 4), .int .i64 (T 5), .int .i64 (T 6), .int .i64 (T 7), .int .i64 m], .agg #[.int .i64 (N 0), .int .i64 (N 1), .int .i64 (N 2), .int .i64 (N 3), .int .i64 (N 4), .int .i64 (N 5), .int .i64 (N 6), .int .i64 (N 7)]] w fun e w' => e = .returned (.bool true) ∧ Below w.heap.size w w' := by
  obtain ⟨w1, hw1⟩ : ∃ w1, w1 = (w.alloc (.cells #[.int .i64 (T 0), .int .i64 (T 1), .int .i64 (T 2), .int .i64 (T 3), .int .i64 (T 4), .int .i64 (T 5), .int .i64 (T 6), .int .i64 (T 7), .int .i64 m] 29)).alloc (.cells #[.int .i64 (N 0), .int .i64 (N 1), .int .i64 (N 2), .int .i64 (N 3), .int .i64 (N 4), .int .i64 (N 5), .int .i64 (N 6), .int .i64 (N 7)] 26) := ⟨_, rfl⟩
  have HB1 : Hid (Below w.heap.size w w1) := by unfold Hid; rw [hw1]; exact (below_alloc1 _ _).alloc (by simp) _
  have HR1 : Hid (Blk w1 w.heap.size 29 (arrR T m)) := by unfold Hid; rw [hw1]; exact (Blk.new _ _ _).old _
  have HN1 : Hid (Blk w1 (w.heap.size + 1) 26 (arr8 N)) := by
    unfold Hid; rw [hw1]
    have := Blk.new (w.alloc (.cells #[.int .i64 (T 0), .int .i64 (T 1), .int .i64 (T 2), .int .i64 (T 3), .int .i64 (T 4), .int .i64 (T 5), .int .i64 (T 6), .int .i64 (T 7), .int .i64 m] 29)) 26 (arr8 N)
    simp only [World.size_alloc] at this
    exact this
  have HRd : Hid (∀ W, Below w.heap.size w W → ReadsR W (.slice lao ll lcap) l) := fun W hW => hR.below hW
  clear hR
  have hka' : ¬ (aa < kk) := by omega
  have HCt : Hid (∀ f, f < 8 → 0 ≤ N f ∧ N f ≤ 6) := hc
  clear hc
  have HI1 : Hid (∀ f, f < 8 → (∀ g, g < f → N g = Lst g) → N f ≠ Lst f → I = true → Lst f < N f) := hI1
  have HI2 : Hid ((∀ g, g < 8 → N g = Lst g) → I = true) := hI2
  clear hI1 hI2
  go_enter Tryd.func7, Tryd.ntmps7
  go_upto_region 1 with fail
  rw [← hw1]
  clear hw1
  go_wp2_with fail
  go_at_call 20
  refine (H2.out _ HB1.out).mono ?_
  rintro e w2 ⟨rfl, hb⟩
  have HB2 : Hid (Below w.heap.size w w2) := HB1.out.trans (hb.mono HB1.out.size)
  have HR2 : Hid (Blk w2 w.heap.size 29 (arrR T m)) := HR1.out.below hb
  have HN2 : Hid (Blk w2 (w.heap.size + 1) 26 (arr8 N)) := HN1.out.below hb
  clear hb
  go_wp2_with fail
  go_at_call 20
  refine (HM.out _ HB2.out).mono ?_
  rintro e w3 ⟨rfl, hb⟩
  have HB3 : Hid (Below w.heap.size w w3) := HB2.out.trans (hb.mono HB2.out.size)
  have HR3 : Hid (Blk w3 w.heap.size 29 (arrR T m)) := HR2.out.below hb
  have HN3 : Hid (Blk w3 (w.heap.size + 1) 26 (arr8 N)) := HN2.out.below hb
  clear hb
  go_wp2_with fail
  go_at_call 20
  refine (HMn.out _ HB3.out).mono ?_
  rintro e w4 ⟨rfl, hb⟩
  have HB4 : Hid (Below w.heap.size w w4) := HB3.out.trans (hb.mono HB3.out.size)
  have HR4 : Hid (Blk w4 w.heap.size 29 (arrR T m)) := HR3.out.below hb
  have HN4 : Hid (Blk w4 (w.heap.size + 1) 26 (arr8 N)) := HN3.out.below hb
  clear hb
  go_wp2_with fail
  go_at_call 21
  refine (HL.out _ HB4.out).mono ?_
  rintro e w5 ⟨rfl, hb⟩
  have HB5 : Hid (Below w.heap.size w w5) := HB4.out.trans (hb.mono HB4.out.size)
  have HR5 : Hid (Blk w5 w.heap.size 29 (arrR T m)) := HR4.out.below hb
  have HN5 : Hid (Blk w5 (w.heap.size + 1) 26 (arr8 N)) := HN4.out.below hb
  clear hb
  obtain ⟨w6, hw6⟩ : ∃ x, x = w5.alloc (.cells #[.int .i64 (Lst 0), .int .i64 (Lst 1), .int .i64 (Lst 2), .int .i64 (Lst 3), .int .i64 (Lst 4), .int .i64 (Lst 5), .int .i64 (Lst 6), .int .i64 (Lst 7)] 26) := ⟨_, rfl⟩
  have HB6 : Hid (Below w.heap.size w w6) := by unfold Hid; rw [hw6]; exact HB5.out.alloc HB5.out.size _
  have HR6 : Hid (Blk w6 w.heap.size 29 (arrR T m)) := by unfold Hid; rw [hw6]; exact HR5.out.old _
  have HN6 : Hid (Blk w6 (w.heap.size + 1) 26 (arr8 N)) := by unfold Hid; rw [hw6]; exact HN5.out.old _
  have HX6 : Hid (Blk w6 w5.heap.size 26 (arr8 Lst)) := by unfold Hid; rw [hw6]; exact Blk.new _ _ _
  obtain ⟨X, hX⟩ : ∃ P, P = w5.heap.size := ⟨_, rfl⟩
  rw [← hX] at HX6
  go_upto_region 9 with fail
  rw [← hw6, ← hX]
  clear hw6 hX
  go_wp2_with (at_builtin; refine append_rows rfl _ _ rfl rfl _ rfl l (HRd.out _ HB6.out) h12 ?_)
  intro v9 w7 hown hgrow
  have HB7 : Hid (Below w.heap.size w w7) := HB6.out.grown hgrow HB6.out.size (fun k hk => by cases hk)
  have HOw : Hid (w7.ownsRow w6.heap.size 29 9 v9 l.length (cellsR l)) := hown
  have HSz : Hid (w6.heap.size ≤ w7.heap.size) := hgrow.size
  have HR7 : Hid (Blk w7 w.heap.size 29 (arrR T m)) := by unfold Hid Blk; rw [hgrow.block _ HR6.out.lt (by simp)]; exact HR6.out
  have HN7 : Hid (Blk w7 (w.heap.size + 1) 26 (arr8 N)) := by unfold Hid Blk; rw [hgrow.block _ HN6.out.lt (by simp)]; exact HN6.out
  have HX7 : Hid (Blk w7 X 26 (arr8 Lst)) := by unfold Hid Blk; rw [hgrow.block _ HX6.out.lt (by simp)]; exact HX6.out
  clear hown hgrow
  obtain ⟨r0, r1, r2, r3, r4, r5, r6, r7, r8⟩ := HR7.out.cells9
  go_wp2_with (at_builtin; refine append_one rfl _ _ rfl w6.heap.size v9 rfl l (Rw.mk T m) w7.heap.size 1 rfl (HOw.out.alloc _) (heap_alloc_new w7 _) (by have := HSz.out; simp; omega) h12 ?_)
  intro v10 w8 hown hgrow
  have HBa : Hid (Below w.heap.size w (w7.alloc (.cells #[.int .i64 (T 0), .int .i64 (T 1), .int .i64 (T 2), .int .i64 (T 3), .int .i64 (T 4), .int .i64 (T 5), .int .i64 (T 6), .int .i64 (T 7), .int .i64 m] 29))) := HB7.out.alloc HB7.out.size _
  have HB8 : Hid (Below w.heap.size w w8) := HBa.out.grown hgrow HBa.out.size (fun k hk => by have h1 := (HOw.out.lt k hk).1; have h2 := HB6.out.size; omega)
  have HRv : Hid (ReadsR w8 v10 (l ++ [Rw.mk T m])) := own_readsR (by rw [List.length_append]; exact hown) (by simp; omega)
  have HR8 : Hid (Blk w8 w.heap.size 29 (arrR T m)) := by unfold Hid Blk; rw [hgrow.block _ (HR7.out.old (.cells #[.int .i64 (T 0), .int .i64 (T 1), .int .i64 (T 2), .int .i64 (T 3), .int .i64 (T 4), .int .i64 (T 5), .int .i64 (T 6), .int .i64 (T 7), .int .i64 m] 29)).lt (fun e => by have h1 := (HOw.out.lt _ e.symm).1; have h2 := HR6.out.lt; omega)]; exact HR7.out.old _
  have HN8 : Hid (Blk w8 (w.heap.size + 1) 26 (arr8 N)) := by unfold Hid Blk; rw [hgrow.block _ (HN7.out.old (.cells #[.int .i64 (T 0), .int .i64 (T 1), .int .i64 (T 2), .int .i64 (T 3), .int .i64 (T 4), .int .i64 (T 5), .int .i64 (T 6), .int .i64 (T 7), .int .i64 m] 29)).lt (fun e => by have h1 := (HOw.out.lt _ e.symm).1; have h2 := HN6.out.lt; omega)]; exact HN7.out.old _
  have HX8 : Hid (Blk w8 X 26 (arr8 Lst)) := by unfold Hid Blk; rw [hgrow.block _ (HX7.out.old (.cells #[.int .i64 (T 0), .int .i64 (T 1), .int .i64 (T 2), .int .i64 (T 3), .int .i64 (T 4), .int .i64 (T 5), .int .i64 (T 6), .int .i64 (T 7), .int .i64 m] 29)).lt (fun e => by have h1 := (HOw.out.lt _ e.symm).1; have h2 := HX6.out.lt; omega)]; exact HX7.out.old _
  clear hown hgrow
  clear r0 r1 r2 r3 r4 r5 r6 r7 r8
  go_wp2_with fail
  go_at_call 20
  refine (HM3.out _ _ HB8.out HRv.out).mono ?_
  rintro e w9 ⟨rfl, hb⟩
  have HB9 : Hid (Below w.heap.size w w9) := HB8.out.trans (hb.mono HB8.out.size)
  have HR9 : Hid (Blk w9 w.heap.size 29 (arrR T m)) := HR8.out.below hb
  have HN9 : Hid (Blk w9 (w.heap.size + 1) 26 (arr8 N)) := HN8.out.below hb
  have HX9 : Hid (Blk w9 X 26 (arr8 Lst)) := HX8.out.below hb
  clear hb HRv HOw HBa HSz
  obtain ⟨n0, n1, n2, n3, n4, n5, n6, n7⟩ := HN9.out.cells8
  go_wp2_with fail
  go_at_call 15
  refine (HFn.out _ HB9.out).mono ?_
  rintro e w10 ⟨rfl, hb⟩
  have HB10 : Hid (Below w.heap.size w w10) := HB9.out.trans (hb.mono HB9.out.size)
  have HR10 : Hid (Blk w10 w.heap.size 29 (arrR T m)) := HR9.out.below hb
  have HN10 : Hid (Blk w10 (w.heap.size + 1) 26 (arr8 N)) := HN9.out.below hb
  have HX10 : Hid (Blk w10 X 26 (arr8 Lst)) := HX9.out.below hb
  clear hb
  clear n0 n1 n2 n3 n4 n5 n6 n7
  go_wp2
  go_loop [20, 21] (fun s i => ∃ f : Nat, f ≤ 8 ∧ i = .int .i64 f ∧ s = .int .i64 (sumN N f)) (fun _ i => 8 - (intOf i).toNat)
  case atStart => exact ⟨0, Nat.zero_le _, rfl, rfl⟩
  case round =>
    obtain ⟨f, hf, rfl, rfl⟩ := hrel
    by_cases hlt8 : f < 8
    · have c := HN10.out.cell f
      rw [arr8_get _ hlt8] at c
      have p1 := sumN_le (N := N) (k := f) fun g hg => HCt.out g (by omega)
      have p2 := HCt.out f hlt8
      have HS : Hid (sumN N (f + 1) = sumN N f + N f) := rfl
      go_wp2
      go_round
      case rel => exact ⟨f + 1, by omega, by go_num, by rw [HS.out]⟩
      case measure => simp [intOf]; omega
    · obtain rfl : f = 8 := by omega
      clear hlt8 hf
      rw [hsum]
      obtain ⟨x0, x1, x2, x3, x4, x5, x6, x7⟩ := HX10.out.cells8
      go_wp2_with fail
      go_at_call 15
      refine (HFx.out _ HB10.out).mono ?_
      rintro e w11 ⟨rfl, hb⟩
      have HB11 : Hid (Below w.heap.size w w11) := HB10.out.trans (hb.mono HB10.out.size)
      have HR11 : Hid (Blk w11 w.heap.size 29 (arrR T m)) := HR10.out.below hb
      have HN11 : Hid (Blk w11 (w.heap.size + 1) 26 (arr8 N)) := HN10.out.below hb
      have HX11 : Hid (Blk w11 X 26 (arr8 Lst)) := HX10.out.below hb
      clear hb
      clear x0 x1 x2 x3 x4 x5 x6 x7
      go_wp2
      go_loopw [24] (fun i wr => ∃ f : Nat, f ≤ 8 ∧ i = .int .i64 f ∧ Below w11.heap.size w11 wr ∧ Hid (∀ g, g < f → N g = Lst g)) (fun i _ => 8 - (intOf i).toNat)
      case atStart => exact ⟨0, Nat.zero_le _, rfl, Below.refl _ _, fun g hg => by omega⟩
      case round =>
        obtain ⟨f, hf, rfl, hb, HA⟩ := hrel
        have HBr : Hid (Below w11.heap.size w11 wr) := hb
        clear hb
        by_cases hlt9 : f < 8
        · have c : wr.cell? ⟨w.heap.size + 1, f, none⟩ = some (.int .i64 (N f)) := by rw [(HN11.out.below HBr.out).cell, arr8_get _ hlt9]
          have d : wr.cell? ⟨X, f, none⟩ = some (.int .i64 (Lst f)) := by rw [(HX11.out.below HBr.out).cell, arr8_get _ hlt9]
          have HI3 : Hid (N f ≠ Lst f → I = true → Lst f < N f) := HI1.out f hlt9 HA.out
          have HA2 : Hid (N f = Lst f → ∀ g, g < f + 1 → N g = Lst g) := fun e g hg => by
            rcases Nat.lt_or_ge g f with h' | h'
            · exact HA.out g h'
            · obtain rfl : g = f := by omega
              exact e
          obtain ⟨x, hx⟩ : ∃ x, x = N f := ⟨_, rfl⟩
          obtain ⟨y, hy⟩ : ∃ y, y = Lst f := ⟨_, rfl⟩
          rw [← hx] at c HI3 HA2
          rw [← hy] at d HI3 HA2
          clear hx hy
          by_cases hxy : x = y
          · have HA3 : Hid (∀ g, g < f + 1 → N g = Lst g) := HA2.out hxy
            subst hxy
            go_wp2
            go_region
            go_wp2
            go_roundw
            case rel => exact ⟨f + 1, by omega, by go_num, HBr.out.drew, HA3⟩
            case measure => simp [intOf]; omega
          · cases I with
            | false =>
              go_wp2
              go_region
              go_wp2
              go_region
              go_wp2
              go_ret
              exact ⟨rfl, HB11.out.trans ((HBr.out.drew.drew).mono HB11.out.size)⟩
            | true =>
              have hyx : y < x := HI3.out hxy rfl
              go_wp2
              go_region
              go_wp2
              go_region
              go_wp2
              go_ret
              exact ⟨rfl, HB11.out.trans ((HBr.out.drew.drew).mono HB11.out.size)⟩
        · obtain rfl : f = 8 := by omega
          have HI4 : Hid (I = true) := HI2.out HA.out
          go_wp2
          go_ret
          exact ⟨back_b HI4.out, HB11.out.trans (HBr.out.mono HB11.out.size)⟩

end Go.Proofs.YtedgbohobgnedadDoor
