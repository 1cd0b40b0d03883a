/-
  Proved: vennlaw1.FitLeast returns true where its calls answer as their contracts say, where Many tells an error, and where none fits; what was in memory is as it was (walks that the statement leans on). Written by program.
-/
import Derived.Test.YtedgbohobgnedadDoorFitLeastHead
import Derived.Test.YtedgbohobgnedadDoorFieldsBlk
import Derived.Deep.Cut
namespace Go.Proofs.YtedgbohobgnedadDoor
open Go.ChangeShapes Go.WideShapes Go.ChangeAt Go.RowKit
set_option maxRecDepth 100000

set_option linter.unusedVariables false in
set_option maxHeartbeats 16000000 in
theorem fitLeast_E (u : Int) (T : Nat → Int) (m : Int) (N : Nat → Int) (l : List Rw) (F : Int) (hF : ¬ F = 0) (lao : Option Addr) (ll lcap : Nat) (w : World) 
    (H2 : Hid (∀ W, Below w.heap.size w W → Calls Tryd.prog 20 #[.int .i64 2, .slice none 0 0] W fun e w' => e = .returned (.tuple #[.int .i64 36, .nilIface]) ∧ Below W.heap.size W w'))
    (HM : Hid (∀ W, Below w.heap.size w W → Calls Tryd.prog 20 #[.int .i64 u, .slice lao ll lcap] W fun e w' => e = .returned (.tuple #[.int .i64 0, .iface 66 (.int .i64 F)]) ∧ Below W.heap.size W w')) :
    Calls Tryd.prog 7 #[.int .i64 u, .slice lao ll lcap, .agg #[.int .i64 (T 0), .int .i64 (T 1), .int .i64 (T 2), .int .i64 (T 3), .int .i64 (T 4), .int .i64 (T 5), .int .i64 (T 6), .int .i64 (T 7), .int .i64 m], .agg #[.int .i64 (N 0), .int .i64 (N 1), .int .i64 (N 2), .int .i64 (N 3), .int .i64 (N 4), .int .i64 (N 5), .int .i64 (N 6), .int .i64 (N 7)]] w fun e w' => e = .returned (.bool true) ∧ Below w.heap.size w w' := by
  obtain ⟨w1, hw1⟩ : ∃ w1, w1 = (w.alloc (.cells #[.int .i64 (T 0), .int .i64 (T 1), .int .i64 (T 2), .int .i64 (T 3), .int .i64 (T 4), .int .i64 (T 5), .int .i64 (T 6), .int .i64 (T 7), .int .i64 m] 29)).alloc (.cells #[.int .i64 (N 0), .int .i64 (N 1), .int .i64 (N 2), .int .i64 (N 3), .int .i64 (N 4), .int .i64 (N 5), .int .i64 (N 6), .int .i64 (N 7)] 26) := ⟨_, rfl⟩
  have HB1 : Hid (Below w.heap.size w w1) := by unfold Hid; rw [hw1]; exact (below_alloc1 _ _).alloc (by simp) _
  have HR1 : Hid (Blk w1 w.heap.size 29 (arrR T m)) := by unfold Hid; rw [hw1]; exact (Blk.new _ _ _).old _
  have HN1 : Hid (Blk w1 (w.heap.size + 1) 26 (arr8 N)) := by
    unfold Hid; rw [hw1]
    have := Blk.new (w.alloc (.cells #[.int .i64 (T 0), .int .i64 (T 1), .int .i64 (T 2), .int .i64 (T 3), .int .i64 (T 4), .int .i64 (T 5), .int .i64 (T 6), .int .i64 (T 7), .int .i64 m] 29)) 26 (arr8 N)
    simp only [World.size_alloc] at this
    exact this
  go_enter Tryd.func7, Tryd.ntmps7
  go_upto_region 1 with fail
  rw [← hw1]
  clear hw1
  go_wp2_with fail
  go_at_call 20
  refine (H2.out _ HB1.out).mono ?_
  rintro e w2 ⟨rfl, hb⟩
  have HB2 : Hid (Below w.heap.size w w2) := HB1.out.trans (hb.mono HB1.out.size)
  have HR2 : Hid (Blk w2 w.heap.size 29 (arrR T m)) := HR1.out.below hb
  have HN2 : Hid (Blk w2 (w.heap.size + 1) 26 (arr8 N)) := HN1.out.below hb
  clear hb
  go_wp2_with fail
  go_at_call 20
  refine (HM.out _ HB2.out).mono ?_
  rintro e w3 ⟨rfl, hb⟩
  have HB3 : Hid (Below w.heap.size w w3) := HB2.out.trans (hb.mono HB2.out.size)
  have HR3 : Hid (Blk w3 w.heap.size 29 (arrR T m)) := HR2.out.below hb
  have HN3 : Hid (Blk w3 (w.heap.size + 1) 26 (arr8 N)) := HN2.out.below hb
  clear hb
  go_wp2
  go_ret
  exact ⟨rfl, HB3.out⟩

set_option linter.unusedVariables false in
set_option maxHeartbeats 16000000 in
theorem fitLeast_ZoC (u : Nat) (T : Nat → Int) (m : Int) (N : Nat → Int) (l : List Rw) (kk aa mm : Int) (hka : kk ≤ aa) (h12 : l.length ≤ 12) (Lst : Nat → Int) (hk : kk = 0) (hmm : mm ≤ kk) (G : Int) (hG : ¬ G = 0) (lao : Option Addr) (ll lcap : Nat) (w : World) (hR : ReadsR w (.slice lao ll lcap) l)
    (H2 : Hid (∀ W, Below w.heap.size w W → Calls Tryd.prog 20 #[.int .i64 2, .slice none 0 0] W fun e w' => e = .returned (.tuple #[.int .i64 36, .nilIface]) ∧ Below W.heap.size W w'))
    (HM : Hid (∀ W, Below w.heap.size w W → Calls Tryd.prog 20 #[.int .i64 (u : Int), .slice lao ll lcap] W fun e w' => e = .returned (.tuple #[.int .i64 kk, .nilIface]) ∧ Below W.heap.size W w'))
    (HMn : Hid (∀ W, Below w.heap.size w W → Calls Tryd.prog 20 #[.int .i64 (u : Int), .slice none 0 0] W fun e w' => e = .returned (.tuple #[.int .i64 aa, .nilIface]) ∧ Below W.heap.size W w'))
    (HL : Hid (∀ W, Below w.heap.size w W → Calls Tryd.prog 21 #[.int .i64 (u : Int), .slice lao ll lcap] W fun e w' => e = .returned (.tuple #[.agg #[.int .i64 (Lst 0), .int .i64 (Lst 1), .int .i64 (Lst 2), .int .i64 (Lst 3), .int .i64 (Lst 4), .int .i64 (Lst 5), .int .i64 (Lst 6), .int .i64 (Lst 7)], .iface 66 (.int .i64 5)]) ∧ Below W.heap.size W w'))
    (HEr : Hid (∀ W, Below w.heap.size w W → Calls Tryd.prog 11 #[.iface 66 (.int .i64 5), .int .i64 5] W fun e w' => e = .returned (.bool true) ∧ Below W.heap.size W w'))
    (HM3 : Hid (∀ W v, Below w.heap.size w W → ReadsR W v (l ++ [Rw.mk T m]) → Calls Tryd.prog 20 #[.int .i64 (u : Int), v] W fun e w' => e = .returned (.tuple #[.int .i64 mm, .nilIface]) ∧ Below W.heap.size W w'))
    (HFn : Hid (∀ W, Below w.heap.size w W → Calls Tryd.prog 15 #[.slice lao ll lcap, .agg #[.int .i64 (N 0), .int .i64 (N 1), .int .i64 (N 2), .int .i64 (N 3), .int .i64 (N 4), .int .i64 (N 5), .int .i64 (N 6), .int .i64 (N 7)]] W fun e w' => e = .returned (.tuple #[.bool false, .iface 66 (.int .i64 G)]) ∧ Below W.heap.size W w')) :
    Calls Tryd.prog 7 #[.int .i64 (u : Int), .slice lao ll lcap, .agg #[.int .i64 (T 0), .int .i64 (T 1), .int .i64 (T 2), .int .i64 (T 3), .int .i64 (T 4), .int .i64 (T 5), .int .i64 (T 6), .int .i64 (T 7), .int .i64 m], .agg #[.int .i64 (N 0), .int .i64 (N 1), .int .i64 (N 2), .int .i64 (N 3), .int .i64 (N 4), .int .i64 (N 5), .int .i64 (N 6), .int .i64 (N 7)]] w fun e w' => e = .returned (.bool true) ∧ Below w.heap.size w w' := by
  obtain ⟨w1, hw1⟩ : ∃ w1, w1 = (w.alloc (.cells #[.int .i64 (T 0), .int .i64 (T 1), .int .i64 (T 2), .int .i64 (T 3), .int .i64 (T 4), .int .i64 (T 5), .int .i64 (T 6), .int .i64 (T 7), .int .i64 m] 29)).alloc (.cells #[.int .i64 (N 0), .int .i64 (N 1), .int .i64 (N 2), .int .i64 (N 3), .int .i64 (N 4), .int .i64 (N 5), .int .i64 (N 6), .int .i64 (N 7)] 26) := ⟨_, rfl⟩
  have HB1 : Hid (Below w.heap.size w w1) := by unfold Hid; rw [hw1]; exact (below_alloc1 _ _).alloc (by simp) _
  have HR1 : Hid (Blk w1 w.heap.size 29 (arrR T m)) := by unfold Hid; rw [hw1]; exact (Blk.new _ _ _).old _
  have HN1 : Hid (Blk w1 (w.heap.size + 1) 26 (arr8 N)) := by
    unfold Hid; rw [hw1]
    have := Blk.new (w.alloc (.cells #[.int .i64 (T 0), .int .i64 (T 1), .int .i64 (T 2), .int .i64 (T 3), .int .i64 (T 4), .int .i64 (T 5), .int .i64 (T 6), .int .i64 (T 7), .int .i64 m] 29)) 26 (arr8 N)
    simp only [World.size_alloc] at this
    exact this
  have HRd : Hid (∀ W, Below w.heap.size w W → ReadsR W (.slice lao ll lcap) l) := fun W hW => hR.below hW
  clear hR
  have hka' : ¬ (aa < kk) := by omega
  have hmm' : ¬ (kk < mm) := by omega
  subst hk
  go_enter Tryd.func7, Tryd.ntmps7
  go_upto_region 1 with fail
  rw [← hw1]
  clear hw1
  go_wp2_with fail
  go_at_call 20
  refine (H2.out _ HB1.out).mono ?_
  rintro e w2 ⟨rfl, hb⟩
  have HB2 : Hid (Below w.heap.size w w2) := HB1.out.trans (hb.mono HB1.out.size)
  have HR2 : Hid (Blk w2 w.heap.size 29 (arrR T m)) := HR1.out.below hb
  have HN2 : Hid (Blk w2 (w.heap.size + 1) 26 (arr8 N)) := HN1.out.below hb
  clear hb
  go_wp2_with fail
  go_at_call 20
  refine (HM.out _ HB2.out).mono ?_
  rintro e w3 ⟨rfl, hb⟩
  have HB3 : Hid (Below w.heap.size w w3) := HB2.out.trans (hb.mono HB2.out.size)
  have HR3 : Hid (Blk w3 w.heap.size 29 (arrR T m)) := HR2.out.below hb
  have HN3 : Hid (Blk w3 (w.heap.size + 1) 26 (arr8 N)) := HN2.out.below hb
  clear hb
  go_wp2_with fail
  go_at_call 20
  refine (HMn.out _ HB3.out).mono ?_
  rintro e w4 ⟨rfl, hb⟩
  have HB4 : Hid (Below w.heap.size w w4) := HB3.out.trans (hb.mono HB3.out.size)
  have HR4 : Hid (Blk w4 w.heap.size 29 (arrR T m)) := HR3.out.below hb
  have HN4 : Hid (Blk w4 (w.heap.size + 1) 26 (arr8 N)) := HN3.out.below hb
  clear hb
  go_wp2_with fail
  go_at_call 21
  refine (HL.out _ HB4.out).mono ?_
  rintro e w5 ⟨rfl, hb⟩
  have HB5 : Hid (Below w.heap.size w w5) := HB4.out.trans (hb.mono HB4.out.size)
  have HR5 : Hid (Blk w5 w.heap.size 29 (arrR T m)) := HR4.out.below hb
  have HN5 : Hid (Blk w5 (w.heap.size + 1) 26 (arr8 N)) := HN4.out.below hb
  clear hb
  obtain ⟨w6, hw6⟩ : ∃ x, x = w5.alloc (.cells #[.int .i64 (Lst 0), .int .i64 (Lst 1), .int .i64 (Lst 2), .int .i64 (Lst 3), .int .i64 (Lst 4), .int .i64 (Lst 5), .int .i64 (Lst 6), .int .i64 (Lst 7)] 26) := ⟨_, rfl⟩
  have HB6 : Hid (Below w.heap.size w w6) := by unfold Hid; rw [hw6]; exact HB5.out.alloc HB5.out.size _
  have HR6 : Hid (Blk w6 w.heap.size 29 (arrR T m)) := by unfold Hid; rw [hw6]; exact HR5.out.old _
  have HN6 : Hid (Blk w6 (w.heap.size + 1) 26 (arr8 N)) := by unfold Hid; rw [hw6]; exact HN5.out.old _
  have HX6 : Hid (Blk w6 w5.heap.size 26 (arr8 Lst)) := by unfold Hid; rw [hw6]; exact Blk.new _ _ _
  obtain ⟨X, hX⟩ : ∃ P, P = w5.heap.size := ⟨_, rfl⟩
  rw [← hX] at HX6
  go_upto_region 9 with fail
  rw [← hw6, ← hX]
  clear hw6 hX
  go_wp2_with fail
  go_at_call 11
  refine (HEr.out _ HB6.out).mono ?_
  rintro e w7 ⟨rfl, hb⟩
  have HB7 : Hid (Below w.heap.size w w7) := HB6.out.trans (hb.mono HB6.out.size)
  have HR7 : Hid (Blk w7 w.heap.size 29 (arrR T m)) := HR6.out.below hb
  have HN7 : Hid (Blk w7 (w.heap.size + 1) 26 (arr8 N)) := HN6.out.below hb
  have HX7 : Hid (Blk w7 X 26 (arr8 Lst)) := HX6.out.below hb
  clear hb
  go_wp2_with (at_builtin; refine append_rows rfl _ _ rfl rfl _ rfl l (HRd.out _ HB7.out) h12 ?_)
  intro v9 w8 hown hgrow
  have HB8 : Hid (Below w.heap.size w w8) := HB7.out.grown hgrow HB7.out.size (fun k hk => by cases hk)
  have HOw : Hid (w8.ownsRow w7.heap.size 29 9 v9 l.length (cellsR l)) := hown
  have HSz : Hid (w7.heap.size ≤ w8.heap.size) := hgrow.size
  have HR8 : Hid (Blk w8 w.heap.size 29 (arrR T m)) := by unfold Hid Blk; rw [hgrow.block _ HR7.out.lt (by simp)]; exact HR7.out
  have HN8 : Hid (Blk w8 (w.heap.size + 1) 26 (arr8 N)) := by unfold Hid Blk; rw [hgrow.block _ HN7.out.lt (by simp)]; exact HN7.out
  have HX8 : Hid (Blk w8 X 26 (arr8 Lst)) := by unfold Hid Blk; rw [hgrow.block _ HX7.out.lt (by simp)]; exact HX7.out
  clear hown hgrow
  obtain ⟨r0, r1, r2, r3, r4, r5, r6, r7, r8⟩ := HR8.out.cells9
  go_wp2_with (at_builtin; refine append_one rfl _ _ rfl w7.heap.size v9 rfl l (Rw.mk T m) w8.heap.size 1 rfl (HOw.out.alloc _) (heap_alloc_new w8 _) (by have := HSz.out; simp; omega) h12 ?_)
  intro v10 w9 hown hgrow
  have HBa : Hid (Below w.heap.size w (w8.alloc (.cells #[.int .i64 (T 0), .int .i64 (T 1), .int .i64 (T 2), .int .i64 (T 3), .int .i64 (T 4), .int .i64 (T 5), .int .i64 (T 6), .int .i64 (T 7), .int .i64 m] 29))) := HB8.out.alloc HB8.out.size _
  have HB9 : Hid (Below w.heap.size w w9) := HBa.out.grown hgrow HBa.out.size (fun k hk => by have h1 := (HOw.out.lt k hk).1; have h2 := HB7.out.size; omega)
  have HRv : Hid (ReadsR w9 v10 (l ++ [Rw.mk T m])) := own_readsR (by rw [List.length_append]; exact hown) (by simp; omega)
  have HR9 : Hid (Blk w9 w.heap.size 29 (arrR T m)) := by unfold Hid Blk; rw [hgrow.block _ (HR8.out.old (.cells #[.int .i64 (T 0), .int .i64 (T 1), .int .i64 (T 2), .int .i64 (T 3), .int .i64 (T 4), .int .i64 (T 5), .int .i64 (T 6), .int .i64 (T 7), .int .i64 m] 29)).lt (fun e => by have h1 := (HOw.out.lt _ e.symm).1; have h2 := HR7.out.lt; omega)]; exact HR8.out.old _
  have HN9 : Hid (Blk w9 (w.heap.size + 1) 26 (arr8 N)) := by unfold Hid Blk; rw [hgrow.block _ (HN8.out.old (.cells #[.int .i64 (T 0), .int .i64 (T 1), .int .i64 (T 2), .int .i64 (T 3), .int .i64 (T 4), .int .i64 (T 5), .int .i64 (T 6), .int .i64 (T 7), .int .i64 m] 29)).lt (fun e => by have h1 := (HOw.out.lt _ e.symm).1; have h2 := HN7.out.lt; omega)]; exact HN8.out.old _
  have HX9 : Hid (Blk w9 X 26 (arr8 Lst)) := by unfold Hid Blk; rw [hgrow.block _ (HX8.out.old (.cells #[.int .i64 (T 0), .int .i64 (T 1), .int .i64 (T 2), .int .i64 (T 3), .int .i64 (T 4), .int .i64 (T 5), .int .i64 (T 6), .int .i64 (T 7), .int .i64 m] 29)).lt (fun e => by have h1 := (HOw.out.lt _ e.symm).1; have h2 := HX7.out.lt; omega)]; exact HX8.out.old _
  clear hown hgrow
  clear r0 r1 r2 r3 r4 r5 r6 r7 r8
  go_wp2_with fail
  go_at_call 20
  refine (HM3.out _ _ HB9.out HRv.out).mono ?_
  rintro e w10 ⟨rfl, hb⟩
  have HB10 : Hid (Below w.heap.size w w10) := HB9.out.trans (hb.mono HB9.out.size)
  have HR10 : Hid (Blk w10 w.heap.size 29 (arrR T m)) := HR9.out.below hb
  have HN10 : Hid (Blk w10 (w.heap.size + 1) 26 (arr8 N)) := HN9.out.below hb
  have HX10 : Hid (Blk w10 X 26 (arr8 Lst)) := HX9.out.below hb
  clear hb HRv HOw HBa HSz
  obtain ⟨n0, n1, n2, n3, n4, n5, n6, n7⟩ := HN10.out.cells8
  go_wp2_with fail
  go_at_call 15
  refine (HFn.out _ HB10.out).mono ?_
  rintro e w11 ⟨rfl, hb⟩
  have HB11 : Hid (Below w.heap.size w w11) := HB10.out.trans (hb.mono HB10.out.size)
  have HR11 : Hid (Blk w11 w.heap.size 29 (arrR T m)) := HR10.out.below hb
  have HN11 : Hid (Blk w11 (w.heap.size + 1) 26 (arr8 N)) := HN10.out.below hb
  have HX11 : Hid (Blk w11 X 26 (arr8 Lst)) := HX10.out.below hb
  clear hb
  clear n0 n1 n2 n3 n4 n5 n6 n7
  go_wp2
  go_loop [20, 21] (fun s i => ∃ (f : Nat) (x : Int), f ≤ 8 ∧ i = .int .i64 f ∧ s = .int .i64 x) (fun _ i => 8 - (intOf i).toNat)
  case atStart => exact ⟨0, 0, Nat.zero_le _, rfl, rfl⟩
  case round =>
    obtain ⟨f, x, hf, rfl, rfl⟩ := hrel
    by_cases hlt8 : f < 8
    · have c := HN11.out.cell f
      rw [arr8_get _ hlt8] at c
      go_wp2
      go_round
      case rel => exact ⟨f + 1, _, by omega, by go_num, rfl⟩
      case measure => simp [intOf]; omega
    · obtain rfl : f = 8 := by omega
      go_wp2
      go_ret
      exact ⟨rfl, HB11.out⟩

set_option linter.unusedVariables false in
set_option maxHeartbeats 16000000 in
theorem fitLeast_ZoS (u : Nat) (T : Nat → Int) (m : Int) (N : Nat → Int) (l : List Rw) (kk aa mm : Int) (hka : kk ≤ aa) (h12 : l.length ≤ 12) (Lst : Nat → Int) (hk : kk = 0) (hmm : mm ≤ kk) (hc : ∀ f, f < 8 → 0 ≤ N f ∧ N f ≤ 6) (I : Bool) (hsum : ¬ sumN N 8 = u) (lao : Option Addr) (ll lcap : Nat) (w : World) (hR : ReadsR w (.slice lao ll lcap) l)
    (H2 : Hid (∀ W, Below w.heap.size w W → Calls Tryd.prog 20 #[.int .i64 2, .slice none 0 0] W fun e w' => e = .returned (.tuple #[.int .i64 36, .nilIface]) ∧ Below W.heap.size W w'))
    (HM : Hid (∀ W, Below w.heap.size w W → Calls Tryd.prog 20 #[.int .i64 (u : Int), .slice lao ll lcap] W fun e w' => e = .returned (.tuple #[.int .i64 kk, .nilIface]) ∧ Below W.heap.size W w'))
    (HMn : Hid (∀ W, Below w.heap.size w W → Calls Tryd.prog 20 #[.int .i64 (u : Int), .slice none 0 0] W fun e w' => e = .returned (.tuple #[.int .i64 aa, .nilIface]) ∧ Below W.heap.size W w'))
    (HL : Hid (∀ W, Below w.heap.size w W → Calls Tryd.prog 21 #[.int .i64 (u : Int), .slice lao ll lcap] W fun e w' => e = .returned (.tuple #[.agg #[.int .i64 (Lst 0), .int .i64 (Lst 1), .int .i64 (Lst 2), .int .i64 (Lst 3), .int .i64 (Lst 4), .int .i64 (Lst 5), .int .i64 (Lst 6), .int .i64 (Lst 7)], .iface 66 (.int .i64 5)]) ∧ Below W.heap.size W w'))
    (HEr : Hid (∀ W, Below w.heap.size w W → Calls Tryd.prog 11 #[.iface 66 (.int .i64 5), .int .i64 5] W fun e w' => e = .returned (.bool true) ∧ Below W.heap.size W w'))
    (HM3 : Hid (∀ W v, Below w.heap.size w W → ReadsR W v (l ++ [Rw.mk T m]) → Calls Tryd.prog 20 #[.int .i64 (u : Int), v] W fun e w' => e = .returned (.tuple #[.int .i64 mm, .nilIface]) ∧ Below W.heap.size W w'))
    (HFn : Hid (∀ W, Below w.heap.size w W → Calls Tryd.prog 15 #[.slice lao ll lcap, .agg #[.int .i64 (N 0), .int .i64 (N 1), .int .i64 (N 2), .int .i64 (N 3), .int .i64 (N 4), .int .i64 (N 5), .int .i64 (N 6), .int .i64 (N 7)]] W fun e w' => e = .returned (.tuple #[.bool I, .nilIface]) ∧ Below W.heap.size W w')) :
    Calls Tryd.prog 7 #[.int .i64 (u : Int), .slice lao ll lcap, .agg #[.int .i64 (T 0), .int .i64 (T 1), .int .i64 (T 2), .int .i64 (T 3), .int .i64 (T 4), .int .i64 (T 5), .int .i64 (T 6), .int .i64 (T 7), .int .i64 m], .agg #[.int .i64 (N 0), .int .i64 (N 1), .int .i64 (N 2), .int .i64 (N 3), .int .i64 (N 4), .int .i64 (N 5), .int .i64 (N 6), .int .i64 (N 7)]] w fun e w' => e = .returned (.bool true) ∧ Below w.heap.size w w' := by
  obtain ⟨w1, hw1⟩ : ∃ w1, w1 = (w.alloc (.cells #[.int .i64 (T 0), .int .i64 (T 1), .int .i64 (T 2), .int .i64 (T 3), .int .i64 (T 4), .int .i64 (T 5), .int .i64 (T 6), .int .i64 (T 7), .int .i64 m] 29)).alloc (.cells #[.int .i64 (N 0), .int .i64 (N 1), .int .i64 (N 2), .int .i64 (N 3), .int .i64 (N 4), .int .i64 (N 5), .int .i64 (N 6), .int .i64 (N 7)] 26) := ⟨_, rfl⟩
  have HB1 : Hid (Below w.heap.size w w1) := by unfold Hid; rw [hw1]; exact (below_alloc1 _ _).alloc (by simp) _
  have HR1 : Hid (Blk w1 w.heap.size 29 (arrR T m)) := by unfold Hid; rw [hw1]; exact (Blk.new _ _ _).old _
  have HN1 : Hid (Blk w1 (w.heap.size + 1) 26 (arr8 N)) := by
    unfold Hid; rw [hw1]
    have := Blk.new (w.alloc (.cells #[.int .i64 (T 0), .int .i64 (T 1), .int .i64 (T 2), .int .i64 (T 3), .int .i64 (T 4), .int .i64 (T 5), .int .i64 (T 6), .int .i64 (T 7), .int .i64 m] 29)) 26 (arr8 N)
    simp only [World.size_alloc] at this
    exact this
  have HRd : Hid (∀ W, Below w.heap.size w W → ReadsR W (.slice lao ll lcap) l) := fun W hW => hR.below hW
  clear hR
  have hka' : ¬ (aa < kk) := by omega
  have hmm' : ¬ (kk < mm) := by omega
  subst hk
  have HCt : Hid (∀ f, f < 8 → 0 ≤ N f ∧ N f ≤ 6) := hc
  clear hc
  go_enter Tryd.func7, Tryd.ntmps7
  go_upto_region 1 with fail
  rw [← hw1]
  clear hw1
  go_wp2_with fail
  go_at_call 20
  refine (H2.out _ HB1.out).mono ?_
  rintro e w2 ⟨rfl, hb⟩
  have HB2 : Hid (Below w.heap.size w w2) := HB1.out.trans (hb.mono HB1.out.size)
  have HR2 : Hid (Blk w2 w.heap.size 29 (arrR T m)) := HR1.out.below hb
  have HN2 : Hid (Blk w2 (w.heap.size + 1) 26 (arr8 N)) := HN1.out.below hb
  clear hb
  go_wp2_with fail
  go_at_call 20
  refine (HM.out _ HB2.out).mono ?_
  rintro e w3 ⟨rfl, hb⟩
  have HB3 : Hid (Below w.heap.size w w3) := HB2.out.trans (hb.mono HB2.out.size)
  have HR3 : Hid (Blk w3 w.heap.size 29 (arrR T m)) := HR2.out.below hb
  have HN3 : Hid (Blk w3 (w.heap.size + 1) 26 (arr8 N)) := HN2.out.below hb
  clear hb
  go_wp2_with fail
  go_at_call 20
  refine (HMn.out _ HB3.out).mono ?_
  rintro e w4 ⟨rfl, hb⟩
  have HB4 : Hid (Below w.heap.size w w4) := HB3.out.trans (hb.mono HB3.out.size)
  have HR4 : Hid (Blk w4 w.heap.size 29 (arrR T m)) := HR3.out.below hb
  have HN4 : Hid (Blk w4 (w.heap.size + 1) 26 (arr8 N)) := HN3.out.below hb
  clear hb
  go_wp2_with fail
  go_at_call 21
  refine (HL.out _ HB4.out).mono ?_
  rintro e w5 ⟨rfl, hb⟩
  have HB5 : Hid (Below w.heap.size w w5) := HB4.out.trans (hb.mono HB4.out.size)
  have HR5 : Hid (Blk w5 w.heap.size 29 (arrR T m)) := HR4.out.below hb
  have HN5 : Hid (Blk w5 (w.heap.size + 1) 26 (arr8 N)) := HN4.out.below hb
  clear hb
  obtain ⟨w6, hw6⟩ : ∃ x, x = w5.alloc (.cells #[.int .i64 (Lst 0), .int .i64 (Lst 1), .int .i64 (Lst 2), .int .i64 (Lst 3), .int .i64 (Lst 4), .int .i64 (Lst 5), .int .i64 (Lst 6), .int .i64 (Lst 7)] 26) := ⟨_, rfl⟩
  have HB6 : Hid (Below w.heap.size w w6) := by unfold Hid; rw [hw6]; exact HB5.out.alloc HB5.out.size _
  have HR6 : Hid (Blk w6 w.heap.size 29 (arrR T m)) := by unfold Hid; rw [hw6]; exact HR5.out.old _
  have HN6 : Hid (Blk w6 (w.heap.size + 1) 26 (arr8 N)) := by unfold Hid; rw [hw6]; exact HN5.out.old _
  have HX6 : Hid (Blk w6 w5.heap.size 26 (arr8 Lst)) := by unfold Hid; rw [hw6]; exact Blk.new _ _ _
  obtain ⟨X, hX⟩ : ∃ P, P = w5.heap.size := ⟨_, rfl⟩
  rw [← hX] at HX6
  go_upto_region 9 with fail
  rw [← hw6, ← hX]
  clear hw6 hX
  go_wp2_with fail
  go_at_call 11
  refine (HEr.out _ HB6.out).mono ?_
  rintro e w7 ⟨rfl, hb⟩
  have HB7 : Hid (Below w.heap.size w w7) := HB6.out.trans (hb.mono HB6.out.size)
  have HR7 : Hid (Blk w7 w.heap.size 29 (arrR T m)) := HR6.out.below hb
  have HN7 : Hid (Blk w7 (w.heap.size + 1) 26 (arr8 N)) := HN6.out.below hb
  have HX7 : Hid (Blk w7 X 26 (arr8 Lst)) := HX6.out.below hb
  clear hb
  go_wp2_with (at_builtin; refine append_rows rfl _ _ rfl rfl _ rfl l (HRd.out _ HB7.out) h12 ?_)
  intro v9 w8 hown hgrow
  have HB8 : Hid (Below w.heap.size w w8) := HB7.out.grown hgrow HB7.out.size (fun k hk => by cases hk)
  have HOw : Hid (w8.ownsRow w7.heap.size 29 9 v9 l.length (cellsR l)) := hown
  have HSz : Hid (w7.heap.size ≤ w8.heap.size) := hgrow.size
  have HR8 : Hid (Blk w8 w.heap.size 29 (arrR T m)) := by unfold Hid Blk; rw [hgrow.block _ HR7.out.lt (by simp)]; exact HR7.out
  have HN8 : Hid (Blk w8 (w.heap.size + 1) 26 (arr8 N)) := by unfold Hid Blk; rw [hgrow.block _ HN7.out.lt (by simp)]; exact HN7.out
  have HX8 : Hid (Blk w8 X 26 (arr8 Lst)) := by unfold Hid Blk; rw [hgrow.block _ HX7.out.lt (by simp)]; exact HX7.out
  clear hown hgrow
  obtain ⟨r0, r1, r2, r3, r4, r5, r6, r7, r8⟩ := HR8.out.cells9
  go_wp2_with (at_builtin; refine append_one rfl _ _ rfl w7.heap.size v9 rfl l (Rw.mk T m) w8.heap.size 1 rfl (HOw.out.alloc _) (heap_alloc_new w8 _) (by have := HSz.out; simp; omega) h12 ?_)
  intro v10 w9 hown hgrow
  have HBa : Hid (Below w.heap.size w (w8.alloc (.cells #[.int .i64 (T 0), .int .i64 (T 1), .int .i64 (T 2), .int .i64 (T 3), .int .i64 (T 4), .int .i64 (T 5), .int .i64 (T 6), .int .i64 (T 7), .int .i64 m] 29))) := HB8.out.alloc HB8.out.size _
  have HB9 : Hid (Below w.heap.size w w9) := HBa.out.grown hgrow HBa.out.size (fun k hk => by have h1 := (HOw.out.lt k hk).1; have h2 := HB7.out.size; omega)
  have HRv : Hid (ReadsR w9 v10 (l ++ [Rw.mk T m])) := own_readsR (by rw [List.length_append]; exact hown) (by simp; omega)
  have HR9 : Hid (Blk w9 w.heap.size 29 (arrR T m)) := by unfold Hid Blk; rw [hgrow.block _ (HR8.out.old (.cells #[.int .i64 (T 0), .int .i64 (T 1), .int .i64 (T 2), .int .i64 (T 3), .int .i64 (T 4), .int .i64 (T 5), .int .i64 (T 6), .int .i64 (T 7), .int .i64 m] 29)).lt (fun e => by have h1 := (HOw.out.lt _ e.symm).1; have h2 := HR7.out.lt; omega)]; exact HR8.out.old _
  have HN9 : Hid (Blk w9 (w.heap.size + 1) 26 (arr8 N)) := by unfold Hid Blk; rw [hgrow.block _ (HN8.out.old (.cells #[.int .i64 (T 0), .int .i64 (T 1), .int .i64 (T 2), .int .i64 (T 3), .int .i64 (T 4), .int .i64 (T 5), .int .i64 (T 6), .int .i64 (T 7), .int .i64 m] 29)).lt (fun e => by have h1 := (HOw.out.lt _ e.symm).1; have h2 := HN7.out.lt; omega)]; exact HN8.out.old _
  have HX9 : Hid (Blk w9 X 26 (arr8 Lst)) := by unfold Hid Blk; rw [hgrow.block _ (HX8.out.old (.cells #[.int .i64 (T 0), .int .i64 (T 1), .int .i64 (T 2), .int .i64 (T 3), .int .i64 (T 4), .int .i64 (T 5), .int .i64 (T 6), .int .i64 (T 7), .int .i64 m] 29)).lt (fun e => by have h1 := (HOw.out.lt _ e.symm).1; have h2 := HX7.out.lt; omega)]; exact HX8.out.old _
  clear hown hgrow
  clear r0 r1 r2 r3 r4 r5 r6 r7 r8
  go_wp2_with fail
  go_at_call 20
  refine (HM3.out _ _ HB9.out HRv.out).mono ?_
  rintro e w10 ⟨rfl, hb⟩
  have HB10 : Hid (Below w.heap.size w w10) := HB9.out.trans (hb.mono HB9.out.size)
  have HR10 : Hid (Blk w10 w.heap.size 29 (arrR T m)) := HR9.out.below hb
  have HN10 : Hid (Blk w10 (w.heap.size + 1) 26 (arr8 N)) := HN9.out.below hb
  have HX10 : Hid (Blk w10 X 26 (arr8 Lst)) := HX9.out.below hb
  clear hb HRv HOw HBa HSz
  obtain ⟨n0, n1, n2, n3, n4, n5, n6, n7⟩ := HN10.out.cells8
  go_wp2_with fail
  go_at_call 15
  refine (HFn.out _ HB10.out).mono ?_
  rintro e w11 ⟨rfl, hb⟩
  have HB11 : Hid (Below w.heap.size w w11) := HB10.out.trans (hb.mono HB10.out.size)
  have HR11 : Hid (Blk w11 w.heap.size 29 (arrR T m)) := HR10.out.below hb
  have HN11 : Hid (Blk w11 (w.heap.size + 1) 26 (arr8 N)) := HN10.out.below hb
  have HX11 : Hid (Blk w11 X 26 (arr8 Lst)) := HX10.out.below hb
  clear hb
  clear n0 n1 n2 n3 n4 n5 n6 n7
  go_wp2
  go_loop [20, 21] (fun s i => ∃ f : Nat, f ≤ 8 ∧ i = .int .i64 f ∧ s = .int .i64 (sumN N f)) (fun _ i => 8 - (intOf i).toNat)
  case atStart => exact ⟨0, Nat.zero_le _, rfl, rfl⟩
  case round =>
    obtain ⟨f, hf, rfl, rfl⟩ := hrel
    by_cases hlt8 : f < 8
    · have c := HN11.out.cell f
      rw [arr8_get _ hlt8] at c
      have p1 := sumN_le (N := N) (k := f) fun g hg => HCt.out g (by omega)
      have p2 := HCt.out f hlt8
      have HS : Hid (sumN N (f + 1) = sumN N f + N f) := rfl
      go_wp2
      go_round
      case rel => exact ⟨f + 1, by omega, by go_num, by rw [HS.out]⟩
      case measure => simp [intOf]; omega
    · obtain rfl : f = 8 := by omega
      clear hlt8 hf
      obtain ⟨sm, hsm⟩ : ∃ x, x = sumN N 8 := ⟨_, rfl⟩
      rw [← hsm] at hsum ⊢
      clear hsm
      go_wp2
      go_ret
      exact ⟨rfl, HB11.out⟩

set_option linter.unusedVariables false in
set_option maxHeartbeats 16000000 in
theorem fitLeast_ZoT (u : Nat) (T : Nat → Int) (m : Int) (N : Nat → Int) (l : List Rw) (kk aa mm : Int) (hka : kk ≤ aa) (h12 : l.length ≤ 12) (Lst : Nat → Int) (hk : kk = 0) (hmm : mm ≤ kk) (hc : ∀ f, f < 8 → 0 ≤ N f ∧ N f ≤ 6) (I : Bool) (hsum : sumN N 8 = u) (hI : I = false) (lao : Option Addr) (ll lcap : Nat) (w : World) (hR : ReadsR w (.slice lao ll lcap) l)
    (H2 : Hid (∀ W, Below w.heap.size w W → Calls Tryd.prog 20 #[.int .i64 2, .slice none 0 0] W fun e w' => e = .returned (.tuple #[.int .i64 36, .nilIface]) ∧ Below W.heap.size W w'))
    (HM : Hid (∀ W, Below w.heap.size w W → Calls Tryd.prog 20 #[.int .i64 (u : Int), .slice lao ll lcap] W fun e w' => e = .returned (.tuple #[.int .i64 kk, .nilIface]) ∧ Below W.heap.size W w'))
    (HMn : Hid (∀ W, Below w.heap.size w W → Calls Tryd.prog 20 #[.int .i64 (u : Int), .slice none 0 0] W fun e w' => e = .returned (.tuple #[.int .i64 aa, .nilIface]) ∧ Below W.heap.size W w'))
    (HL : Hid (∀ W, Below w.heap.size w W → Calls Tryd.prog 21 #[.int .i64 (u : Int), .slice lao ll lcap] W fun e w' => e = .returned (.tuple #[.agg #[.int .i64 (Lst 0), .int .i64 (Lst 1), .int .i64 (Lst 2), .int .i64 (Lst 3), .int .i64 (Lst 4), .int .i64 (Lst 5), .int .i64 (Lst 6), .int .i64 (Lst 7)], .iface 66 (.int .i64 5)]) ∧ Below W.heap.size W w'))
    (HEr : Hid (∀ W, Below w.heap.size w W → Calls Tryd.prog 11 #[.iface 66 (.int .i64 5), .int .i64 5] W fun e w' => e = .returned (.bool true) ∧ Below W.heap.size W w'))
    (HM3 : Hid (∀ W v, Below w.heap.size w W → ReadsR W v (l ++ [Rw.mk T m]) → Calls Tryd.prog 20 #[.int .i64 (u : Int), v] W fun e w' => e = .returned (.tuple #[.int .i64 mm, .nilIface]) ∧ Below W.heap.size W w'))
    (HFn : Hid (∀ W, Below w.heap.size w W → Calls Tryd.prog 15 #[.slice lao ll lcap, .agg #[.int .i64 (N 0), .int .i64 (N 1), .int .i64 (N 2), .int .i64 (N 3), .int .i64 (N 4), .int .i64 (N 5), .int .i64 (N 6), .int .i64 (N 7)]] W fun e w' => e = .returned (.tuple #[.bool I, .nilIface]) ∧ Below W.heap.size W w')) :
    Calls Tryd.prog 7 #[.int .i64 (u : Int), .slice lao ll lcap, .agg #[.int .i64 (T 0), .int .i64 (T 1), .int .i64 (T 2), .int .i64 (T 3), .int .i64 (T 4), .int .i64 (T 5), .int .i64 (T 6), .int .i64 (T 7), .int .i64 m], .agg #[.int .i64 (N 0), .int .i64 (N 1), .int .i64 (N 2), .int .i64 (N 3), .int .i64 (N 4), .int .i64 (N 5), .int .i64 (N 6), .int .i64 (N 7)]] w fun e w' => e = .returned (.bool true) ∧ Below w.heap.size w w' := by
  obtain ⟨w1, hw1⟩ : ∃ w1, w1 = (w.alloc (.cells #[.int .i64 (T 0), .int .i64 (T 1), .int .i64 (T 2), .int .i64 (T 3), .int .i64 (T 4), .int .i64 (T 5), .int .i64 (T 6), .int .i64 (T 7), .int .i64 m] 29)).alloc (.cells #[.int .i64 (N 0), .int .i64 (N 1), .int .i64 (N 2), .int .i64 (N 3), .int .i64 (N 4), .int .i64 (N 5), .int .i64 (N 6), .int .i64 (N 7)] 26) := ⟨_, rfl⟩
  have HB1 : Hid (Below w.heap.size w w1) := by unfold Hid; rw [hw1]; exact (below_alloc1 _ _).alloc (by simp) _
  have HR1 : Hid (Blk w1 w.heap.size 29 (arrR T m)) := by unfold Hid; rw [hw1]; exact (Blk.new _ _ _).old _
  have HN1 : Hid (Blk w1 (w.heap.size + 1) 26 (arr8 N)) := by
    unfold Hid; rw [hw1]
    have := Blk.new (w.alloc (.cells #[.int .i64 (T 0), .int .i64 (T 1), .int .i64 (T 2), .int .i64 (T 3), .int .i64 (T 4), .int .i64 (T 5), .int .i64 (T 6), .int .i64 (T 7), .int .i64 m] 29)) 26 (arr8 N)
    simp only [World.size_alloc] at this
    exact this
  have HRd : Hid (∀ W, Below w.heap.size w W → ReadsR W (.slice lao ll lcap) l) := fun W hW => hR.below hW
  clear hR
  have hka' : ¬ (aa < kk) := by omega
  have hmm' : ¬ (kk < mm) := by omega
  subst hk
  have HCt : Hid (∀ f, f < 8 → 0 ≤ N f ∧ N f ≤ 6) := hc
  clear hc
  subst hI
  go_enter Tryd.func7, Tryd.ntmps7
  go_upto_region 1 with fail
  rw [← hw1]
  clear hw1
  go_wp2_with fail
  go_at_call 20
  refine (H2.out _ HB1.out).mono ?_
  rintro e w2 ⟨rfl, hb⟩
  have HB2 : Hid (Below w.heap.size w w2) := HB1.out.trans (hb.mono HB1.out.size)
  have HR2 : Hid (Blk w2 w.heap.size 29 (arrR T m)) := HR1.out.below hb
  have HN2 : Hid (Blk w2 (w.heap.size + 1) 26 (arr8 N)) := HN1.out.below hb
  clear hb
  go_wp2_with fail
  go_at_call 20
  refine (HM.out _ HB2.out).mono ?_
  rintro e w3 ⟨rfl, hb⟩
  have HB3 : Hid (Below w.heap.size w w3) := HB2.out.trans (hb.mono HB2.out.size)
  have HR3 : Hid (Blk w3 w.heap.size 29 (arrR T m)) := HR2.out.below hb
  have HN3 : Hid (Blk w3 (w.heap.size + 1) 26 (arr8 N)) := HN2.out.below hb
  clear hb
  go_wp2_with fail
  go_at_call 20
  refine (HMn.out _ HB3.out).mono ?_
  rintro e w4 ⟨rfl, hb⟩
  have HB4 : Hid (Below w.heap.size w w4) := HB3.out.trans (hb.mono HB3.out.size)
  have HR4 : Hid (Blk w4 w.heap.size 29 (arrR T m)) := HR3.out.below hb
  have HN4 : Hid (Blk w4 (w.heap.size + 1) 26 (arr8 N)) := HN3.out.below hb
  clear hb
  go_wp2_with fail
  go_at_call 21
  refine (HL.out _ HB4.out).mono ?_
  rintro e w5 ⟨rfl, hb⟩
  have HB5 : Hid (Below w.heap.size w w5) := HB4.out.trans (hb.mono HB4.out.size)
  have HR5 : Hid (Blk w5 w.heap.size 29 (arrR T m)) := HR4.out.below hb
  have HN5 : Hid (Blk w5 (w.heap.size + 1) 26 (arr8 N)) := HN4.out.below hb
  clear hb
  obtain ⟨w6, hw6⟩ : ∃ x, x = w5.alloc (.cells #[.int .i64 (Lst 0), .int .i64 (Lst 1), .int .i64 (Lst 2), .int .i64 (Lst 3), .int .i64 (Lst 4), .int .i64 (Lst 5), .int .i64 (Lst 6), .int .i64 (Lst 7)] 26) := ⟨_, rfl⟩
  have HB6 : Hid (Below w.heap.size w w6) := by unfold Hid; rw [hw6]; exact HB5.out.alloc HB5.out.size _
  have HR6 : Hid (Blk w6 w.heap.size 29 (arrR T m)) := by unfold Hid; rw [hw6]; exact HR5.out.old _
  have HN6 : Hid (Blk w6 (w.heap.size + 1) 26 (arr8 N)) := by unfold Hid; rw [hw6]; exact HN5.out.old _
  have HX6 : Hid (Blk w6 w5.heap.size 26 (arr8 Lst)) := by unfold Hid; rw [hw6]; exact Blk.new _ _ _
  obtain ⟨X, hX⟩ : ∃ P, P = w5.heap.size := ⟨_, rfl⟩
  rw [← hX] at HX6
  go_upto_region 9 with fail
  rw [← hw6, ← hX]
  clear hw6 hX
  go_wp2_with fail
  go_at_call 11
  refine (HEr.out _ HB6.out).mono ?_
  rintro e w7 ⟨rfl, hb⟩
  have HB7 : Hid (Below w.heap.size w w7) := HB6.out.trans (hb.mono HB6.out.size)
  have HR7 : Hid (Blk w7 w.heap.size 29 (arrR T m)) := HR6.out.below hb
  have HN7 : Hid (Blk w7 (w.heap.size + 1) 26 (arr8 N)) := HN6.out.below hb
  have HX7 : Hid (Blk w7 X 26 (arr8 Lst)) := HX6.out.below hb
  clear hb
  go_wp2_with (at_builtin; refine append_rows rfl _ _ rfl rfl _ rfl l (HRd.out _ HB7.out) h12 ?_)
  intro v9 w8 hown hgrow
  have HB8 : Hid (Below w.heap.size w w8) := HB7.out.grown hgrow HB7.out.size (fun k hk => by cases hk)
  have HOw : Hid (w8.ownsRow w7.heap.size 29 9 v9 l.length (cellsR l)) := hown
  have HSz : Hid (w7.heap.size ≤ w8.heap.size) := hgrow.size
  have HR8 : Hid (Blk w8 w.heap.size 29 (arrR T m)) := by unfold Hid Blk; rw [hgrow.block _ HR7.out.lt (by simp)]; exact HR7.out
  have HN8 : Hid (Blk w8 (w.heap.size + 1) 26 (arr8 N)) := by unfold Hid Blk; rw [hgrow.block _ HN7.out.lt (by simp)]; exact HN7.out
  have HX8 : Hid (Blk w8 X 26 (arr8 Lst)) := by unfold Hid Blk; rw [hgrow.block _ HX7.out.lt (by simp)]; exact HX7.out
  clear hown hgrow
  obtain ⟨r0, r1, r2, r3, r4, r5, r6, r7, r8⟩ := HR8.out.cells9
  go_wp2_with (at_builtin; refine append_one rfl _ _ rfl w7.heap.size v9 rfl l (Rw.mk T m) w8.heap.size 1 rfl (HOw.out.alloc _) (heap_alloc_new w8 _) (by have := HSz.out; simp; omega) h12 ?_)
  intro v10 w9 hown hgrow
  have HBa : Hid (Below w.heap.size w (w8.alloc (.cells #[.int .i64 (T 0), .int .i64 (T 1), .int .i64 (T 2), .int .i64 (T 3), .int .i64 (T 4), .int .i64 (T 5), .int .i64 (T 6), .int .i64 (T 7), .int .i64 m] 29))) := HB8.out.alloc HB8.out.size _
  have HB9 : Hid (Below w.heap.size w w9) := HBa.out.grown hgrow HBa.out.size (fun k hk => by have h1 := (HOw.out.lt k hk).1; have h2 := HB7.out.size; omega)
  have HRv : Hid (ReadsR w9 v10 (l ++ [Rw.mk T m])) := own_readsR (by rw [List.length_append]; exact hown) (by simp; omega)
  have HR9 : Hid (Blk w9 w.heap.size 29 (arrR T m)) := by unfold Hid Blk; rw [hgrow.block _ (HR8.out.old (.cells #[.int .i64 (T 0), .int .i64 (T 1), .int .i64 (T 2), .int .i64 (T 3), .int .i64 (T 4), .int .i64 (T 5), .int .i64 (T 6), .int .i64 (T 7), .int .i64 m] 29)).lt (fun e => by have h1 := (HOw.out.lt _ e.symm).1; have h2 := HR7.out.lt; omega)]; exact HR8.out.old _
  have HN9 : Hid (Blk w9 (w.heap.size + 1) 26 (arr8 N)) := by unfold Hid Blk; rw [hgrow.block _ (HN8.out.old (.cells #[.int .i64 (T 0), .int .i64 (T 1), .int .i64 (T 2), .int .i64 (T 3), .int .i64 (T 4), .int .i64 (T 5), .int .i64 (T 6), .int .i64 (T 7), .int .i64 m] 29)).lt (fun e => by have h1 := (HOw.out.lt _ e.symm).1; have h2 := HN7.out.lt; omega)]; exact HN8.out.old _
  have HX9 : Hid (Blk w9 X 26 (arr8 Lst)) := by unfold Hid Blk; rw [hgrow.block _ (HX8.out.old (.cells #[.int .i64 (T 0), .int .i64 (T 1), .int .i64 (T 2), .int .i64 (T 3), .int .i64 (T 4), .int .i64 (T 5), .int .i64 (T 6), .int .i64 (T 7), .int .i64 m] 29)).lt (fun e => by have h1 := (HOw.out.lt _ e.symm).1; have h2 := HX7.out.lt; omega)]; exact HX8.out.old _
  clear hown hgrow
  clear r0 r1 r2 r3 r4 r5 r6 r7 r8
  go_wp2_with fail
  go_at_call 20
  refine (HM3.out _ _ HB9.out HRv.out).mono ?_
  rintro e w10 ⟨rfl, hb⟩
  have HB10 : Hid (Below w.heap.size w w10) := HB9.out.trans (hb.mono HB9.out.size)
  have HR10 : Hid (Blk w10 w.heap.size 29 (arrR T m)) := HR9.out.below hb
  have HN10 : Hid (Blk w10 (w.heap.size + 1) 26 (arr8 N)) := HN9.out.below hb
  have HX10 : Hid (Blk w10 X 26 (arr8 Lst)) := HX9.out.below hb
  clear hb HRv HOw HBa HSz
  obtain ⟨n0, n1, n2, n3, n4, n5, n6, n7⟩ := HN10.out.cells8
  go_wp2_with fail
  go_at_call 15
  refine (HFn.out _ HB10.out).mono ?_
  rintro e w11 ⟨rfl, hb⟩
  have HB11 : Hid (Below w.heap.size w w11) := HB10.out.trans (hb.mono HB10.out.size)
  have HR11 : Hid (Blk w11 w.heap.size 29 (arrR T m)) := HR10.out.below hb
  have HN11 : Hid (Blk w11 (w.heap.size + 1) 26 (arr8 N)) := HN10.out.below hb
  have HX11 : Hid (Blk w11 X 26 (arr8 Lst)) := HX10.out.below hb
  clear hb
  clear n0 n1 n2 n3 n4 n5 n6 n7
  go_wp2
  go_loop [20, 21] (fun s i => ∃ f : Nat, f ≤ 8 ∧ i = .int .i64 f ∧ s = .int .i64 (sumN N f)) (fun _ i => 8 - (intOf i).toNat)
  case atStart => exact ⟨0, Nat.zero_le _, rfl, rfl⟩
  case round =>
    obtain ⟨f, hf, rfl, rfl⟩ := hrel
    by_cases hlt8 : f < 8
    · have c := HN11.out.cell f
      rw [arr8_get _ hlt8] at c
      have p1 := sumN_le (N := N) (k := f) fun g hg => HCt.out g (by omega)
      have p2 := HCt.out f hlt8
      have HS : Hid (sumN N (f + 1) = sumN N f + N f) := rfl
      go_wp2
      go_round
      case rel => exact ⟨f + 1, by omega, by go_num, by rw [HS.out]⟩
      case measure => simp [intOf]; omega
    · obtain rfl : f = 8 := by omega
      clear hlt8 hf
      rw [hsum]
      go_wp2
      go_ret
      exact ⟨rfl, HB11.out⟩

set_option linter.unusedVariables false in
set_option maxHeartbeats 16000000 in
theorem fitLeast_ZxC (u : Nat) (T : Nat → Int) (m : Int) (N : Nat → Int) (l : List Rw) (kk aa mm : Int) (hka : kk ≤ aa) (h12 : l.length ≤ 12) (Lst : Nat → Int) (hk : kk = 0) (F : Int) (hF : ¬ F = 0) (G : Int) (hG : ¬ G = 0) (lao : Option Addr) (ll lcap : Nat) (w : World) (hR : ReadsR w (.slice lao ll lcap) l)
    (H2 : Hid (∀ W, Below w.heap.size w W → Calls Tryd.prog 20 #[.int .i64 2, .slice none 0 0] W fun e w' => e = .returned (.tuple #[.int .i64 36, .nilIface]) ∧ Below W.heap.size W w'))
    (HM : Hid (∀ W, Below w.heap.size w W → Calls Tryd.prog 20 #[.int .i64 (u : Int), .slice lao ll lcap] W fun e w' => e = .returned (.tuple #[.int .i64 kk, .nilIface]) ∧ Below W.heap.size W w'))
    (HMn : Hid (∀ W, Below w.heap.size w W → Calls Tryd.prog 20 #[.int .i64 (u : Int), .slice none 0 0] W fun e w' => e = .returned (.tuple #[.int .i64 aa, .nilIface]) ∧ Below W.heap.size W w'))
    (HL : Hid (∀ W, Below w.heap.size w W → Calls Tryd.prog 21 #[.int .i64 (u : Int), .slice lao ll lcap] W fun e w' => e = .returned (.tuple #[.agg #[.int .i64 (Lst 0), .int .i64 (Lst 1), .int .i64 (Lst 2), .int .i64 (Lst 3), .int .i64 (Lst 4), .int .i64 (Lst 5), .int .i64 (Lst 6), .int .i64 (Lst 7)], .iface 66 (.int .i64 5)]) ∧ Below W.heap.size W w'))
    (HEr : Hid (∀ W, Below w.heap.size w W → Calls Tryd.prog 11 #[.iface 66 (.int .i64 5), .int .i64 5] W fun e w' => e = .returned (.bool true) ∧ Below W.heap.size W w'))
    (HM3 : Hid (∀ W v, Below w.heap.size w W → ReadsR W v (l ++ [Rw.mk T m]) → Calls Tryd.prog 20 #[.int .i64 (u : Int), v] W fun e w' => e = .returned (.tuple #[.int .i64 mm, .iface 66 (.int .i64 F)]) ∧ Below W.heap.size W w'))
    (HFn : Hid (∀ W, Below w.heap.size w W → Calls Tryd.prog 15 #[.slice lao ll lcap, .agg #[.int .i64 (N 0), .int .i64 (N 1), .int .i64 (N 2), .int .i64 (N 3), .int .i64 (N 4), .int .i64 (N 5), .int .i64 (N 6), .int .i64 (N 7)]] W fun e w' => e = .returned (.tuple #[.bool false, .iface 66 (.int .i64 G)]) ∧ Below W.heap.size W w')) :
    Calls Tryd.prog 7 #[.int .i64 (u : Int), .slice lao ll lcap, .agg #[.int .i64 (T 0), .int .i64 (T 1), .int .i64 (T 2), .int .i64 (T 3), .int .i64 (T 4), .int .i64 (T 5), .int .i64 (T 6), .int .i64 (T 7), .int .i64 m], .agg #[.int .i64 (N 0), .int .i64 (N 1), .int .i64 (N 2), .int .i64 (N 3), .int .i64 (N 4), .int .i64 (N 5), .int .i64 (N 6), .int .i64 (N 7)]] w fun e w' => e = .returned (.bool true) ∧ Below w.heap.size w w' := by
  obtain ⟨w1, hw1⟩ : ∃ w1, w1 = (w.alloc (.cells #[.int .i64 (T 0), .int .i64 (T 1), .int .i64 (T 2), .int .i64 (T 3), .int .i64 (T 4), .int .i64 (T 5), .int .i64 (T 6), .int .i64 (T 7), .int .i64 m] 29)).alloc (.cells #[.int .i64 (N 0), .int .i64 (N 1), .int .i64 (N 2), .int .i64 (N 3), .int .i64 (N 4), .int .i64 (N 5), .int .i64 (N 6), .int .i64 (N 7)] 26) := ⟨_, rfl⟩
  have HB1 : Hid (Below w.heap.size w w1) := by unfold Hid; rw [hw1]; exact (below_alloc1 _ _).alloc (by simp) _
  have HR1 : Hid (Blk w1 w.heap.size 29 (arrR T m)) := by unfold Hid; rw [hw1]; exact (Blk.new _ _ _).old _
  have HN1 : Hid (Blk w1 (w.heap.size + 1) 26 (arr8 N)) := by
    unfold Hid; rw [hw1]
    have := Blk.new (w.alloc (.cells #[.int .i64 (T 0), .int .i64 (T 1), .int .i64 (T 2), .int .i64 (T 3), .int .i64 (T 4), .int .i64 (T 5), .int .i64 (T 6), .int .i64 (T 7), .int .i64 m] 29)) 26 (arr8 N)
    simp only [World.size_alloc] at this
    exact this
  have HRd : Hid (∀ W, Below w.heap.size w W → ReadsR W (.slice lao ll lcap) l) := fun W hW => hR.below hW
  clear hR
  have hka' : ¬ (aa < kk) := by omega
  subst hk
  go_enter Tryd.func7, Tryd.ntmps7
  go_upto_region 1 with fail
  rw [← hw1]
  clear hw1
  go_wp2_with fail
  go_at_call 20
  refine (H2.out _ HB1.out).mono ?_
  rintro e w2 ⟨rfl, hb⟩
  have HB2 : Hid (Below w.heap.size w w2) := HB1.out.trans (hb.mono HB1.out.size)
  have HR2 : Hid (Blk w2 w.heap.size 29 (arrR T m)) := HR1.out.below hb
  have HN2 : Hid (Blk w2 (w.heap.size + 1) 26 (arr8 N)) := HN1.out.below hb
  clear hb
  go_wp2_with fail
  go_at_call 20
  refine (HM.out _ HB2.out).mono ?_
  rintro e w3 ⟨rfl, hb⟩
  have HB3 : Hid (Below w.heap.size w w3) := HB2.out.trans (hb.mono HB2.out.size)
  have HR3 : Hid (Blk w3 w.heap.size 29 (arrR T m)) := HR2.out.below hb
  have HN3 : Hid (Blk w3 (w.heap.size + 1) 26 (arr8 N)) := HN2.out.below hb
  clear hb
  go_wp2_with fail
  go_at_call 20
  refine (HMn.out _ HB3.out).mono ?_
  rintro e w4 ⟨rfl, hb⟩
  have HB4 : Hid (Below w.heap.size w w4) := HB3.out.trans (hb.mono HB3.out.size)
  have HR4 : Hid (Blk w4 w.heap.size 29 (arrR T m)) := HR3.out.below hb
  have HN4 : Hid (Blk w4 (w.heap.size + 1) 26 (arr8 N)) := HN3.out.below hb
  clear hb
  go_wp2_with fail
  go_at_call 21
  refine (HL.out _ HB4.out).mono ?_
  rintro e w5 ⟨rfl, hb⟩
  have HB5 : Hid (Below w.heap.size w w5) := HB4.out.trans (hb.mono HB4.out.size)
  have HR5 : Hid (Blk w5 w.heap.size 29 (arrR T m)) := HR4.out.below hb
  have HN5 : Hid (Blk w5 (w.heap.size + 1) 26 (arr8 N)) := HN4.out.below hb
  clear hb
  obtain ⟨w6, hw6⟩ : ∃ x, x = w5.alloc (.cells #[.int .i64 (Lst 0), .int .i64 (Lst 1), .int .i64 (Lst 2), .int .i64 (Lst 3), .int .i64 (Lst 4), .int .i64 (Lst 5), .int .i64 (Lst 6), .int .i64 (Lst 7)] 26) := ⟨_, rfl⟩
  have HB6 : Hid (Below w.heap.size w w6) := by unfold Hid; rw [hw6]; exact HB5.out.alloc HB5.out.size _
  have HR6 : Hid (Blk w6 w.heap.size 29 (arrR T m)) := by unfold Hid; rw [hw6]; exact HR5.out.old _
  have HN6 : Hid (Blk w6 (w.heap.size + 1) 26 (arr8 N)) := by unfold Hid; rw [hw6]; exact HN5.out.old _
  have HX6 : Hid (Blk w6 w5.heap.size 26 (arr8 Lst)) := by unfold Hid; rw [hw6]; exact Blk.new _ _ _
  obtain ⟨X, hX⟩ : ∃ P, P = w5.heap.size := ⟨_, rfl⟩
  rw [← hX] at HX6
  go_upto_region 9 with fail
  rw [← hw6, ← hX]
  clear hw6 hX
  go_wp2_with fail
  go_at_call 11
  refine (HEr.out _ HB6.out).mono ?_
  rintro e w7 ⟨rfl, hb⟩
  have HB7 : Hid (Below w.heap.size w w7) := HB6.out.trans (hb.mono HB6.out.size)
  have HR7 : Hid (Blk w7 w.heap.size 29 (arrR T m)) := HR6.out.below hb
  have HN7 : Hid (Blk w7 (w.heap.size + 1) 26 (arr8 N)) := HN6.out.below hb
  have HX7 : Hid (Blk w7 X 26 (arr8 Lst)) := HX6.out.below hb
  clear hb
  go_wp2_with (at_builtin; refine append_rows rfl _ _ rfl rfl _ rfl l (HRd.out _ HB7.out) h12 ?_)
  intro v9 w8 hown hgrow
  have HB8 : Hid (Below w.heap.size w w8) := HB7.out.grown hgrow HB7.out.size (fun k hk => by cases hk)
  have HOw : Hid (w8.ownsRow w7.heap.size 29 9 v9 l.length (cellsR l)) := hown
  have HSz : Hid (w7.heap.size ≤ w8.heap.size) := hgrow.size
  have HR8 : Hid (Blk w8 w.heap.size 29 (arrR T m)) := by unfold Hid Blk; rw [hgrow.block _ HR7.out.lt (by simp)]; exact HR7.out
  have HN8 : Hid (Blk w8 (w.heap.size + 1) 26 (arr8 N)) := by unfold Hid Blk; rw [hgrow.block _ HN7.out.lt (by simp)]; exact HN7.out
  have HX8 : Hid (Blk w8 X 26 (arr8 Lst)) := by unfold Hid Blk; rw [hgrow.block _ HX7.out.lt (by simp)]; exact HX7.out
  clear hown hgrow
  obtain ⟨r0, r1, r2, r3, r4, r5, r6, r7, r8⟩ := HR8.out.cells9
  go_wp2_with (at_builtin; refine append_one rfl _ _ rfl w7.heap.size v9 rfl l (Rw.mk T m) w8.heap.size 1 rfl (HOw.out.alloc _) (heap_alloc_new w8 _) (by have := HSz.out; simp; omega) h12 ?_)
  intro v10 w9 hown hgrow
  have HBa : Hid (Below w.heap.size w (w8.alloc (.cells #[.int .i64 (T 0), .int .i64 (T 1), .int .i64 (T 2), .int .i64 (T 3), .int .i64 (T 4), .int .i64 (T 5), .int .i64 (T 6), .int .i64 (T 7), .int .i64 m] 29))) := HB8.out.alloc HB8.out.size _
  have HB9 : Hid (Below w.heap.size w w9) := HBa.out.grown hgrow HBa.out.size (fun k hk => by have h1 := (HOw.out.lt k hk).1; have h2 := HB7.out.size; omega)
  have HRv : Hid (ReadsR w9 v10 (l ++ [Rw.mk T m])) := own_readsR (by rw [List.length_append]; exact hown) (by simp; omega)
  have HR9 : Hid (Blk w9 w.heap.size 29 (arrR T m)) := by unfold Hid Blk; rw [hgrow.block _ (HR8.out.old (.cells #[.int .i64 (T 0), .int .i64 (T 1), .int .i64 (T 2), .int .i64 (T 3), .int .i64 (T 4), .int .i64 (T 5), .int .i64 (T 6), .int .i64 (T 7), .int .i64 m] 29)).lt (fun e => by have h1 := (HOw.out.lt _ e.symm).1; have h2 := HR7.out.lt; omega)]; exact HR8.out.old _
  have HN9 : Hid (Blk w9 (w.heap.size + 1) 26 (arr8 N)) := by unfold Hid Blk; rw [hgrow.block _ (HN8.out.old (.cells #[.int .i64 (T 0), .int .i64 (T 1), .int .i64 (T 2), .int .i64 (T 3), .int .i64 (T 4), .int .i64 (T 5), .int .i64 (T 6), .int .i64 (T 7), .int .i64 m] 29)).lt (fun e => by have h1 := (HOw.out.lt _ e.symm).1; have h2 := HN7.out.lt; omega)]; exact HN8.out.old _
  have HX9 : Hid (Blk w9 X 26 (arr8 Lst)) := by unfold Hid Blk; rw [hgrow.block _ (HX8.out.old (.cells #[.int .i64 (T 0), .int .i64 (T 1), .int .i64 (T 2), .int .i64 (T 3), .int .i64 (T 4), .int .i64 (T 5), .int .i64 (T 6), .int .i64 (T 7), .int .i64 m] 29)).lt (fun e => by have h1 := (HOw.out.lt _ e.symm).1; have h2 := HX7.out.lt; omega)]; exact HX8.out.old _
  clear hown hgrow
  clear r0 r1 r2 r3 r4 r5 r6 r7 r8
  go_wp2_with fail
  go_at_call 20
  refine (HM3.out _ _ HB9.out HRv.out).mono ?_
  rintro e w10 ⟨rfl, hb⟩
  have HB10 : Hid (Below w.heap.size w w10) := HB9.out.trans (hb.mono HB9.out.size)
  have HR10 : Hid (Blk w10 w.heap.size 29 (arrR T m)) := HR9.out.below hb
  have HN10 : Hid (Blk w10 (w.heap.size + 1) 26 (arr8 N)) := HN9.out.below hb
  have HX10 : Hid (Blk w10 X 26 (arr8 Lst)) := HX9.out.below hb
  clear hb HRv HOw HBa HSz
  obtain ⟨n0, n1, n2, n3, n4, n5, n6, n7⟩ := HN10.out.cells8
  go_wp2_with fail
  go_at_call 15
  refine (HFn.out _ HB10.out).mono ?_
  rintro e w11 ⟨rfl, hb⟩
  have HB11 : Hid (Below w.heap.size w w11) := HB10.out.trans (hb.mono HB10.out.size)
  have HR11 : Hid (Blk w11 w.heap.size 29 (arrR T m)) := HR10.out.below hb
  have HN11 : Hid (Blk w11 (w.heap.size + 1) 26 (arr8 N)) := HN10.out.below hb
  have HX11 : Hid (Blk w11 X 26 (arr8 Lst)) := HX10.out.below hb
  clear hb
  clear n0 n1 n2 n3 n4 n5 n6 n7
  go_wp2
  go_loop [20, 21] (fun s i => ∃ (f : Nat) (x : Int), f ≤ 8 ∧ i = .int .i64 f ∧ s = .int .i64 x) (fun _ i => 8 - (intOf i).toNat)
  case atStart => exact ⟨0, 0, Nat.zero_le _, rfl, rfl⟩
  case round =>
    obtain ⟨f, x, hf, rfl, rfl⟩ := hrel
    by_cases hlt8 : f < 8
    · have c := HN11.out.cell f
      rw [arr8_get _ hlt8] at c
      go_wp2
      go_round
      case rel => exact ⟨f + 1, _, by omega, by go_num, rfl⟩
      case measure => simp [intOf]; omega
    · obtain rfl : f = 8 := by omega
      go_wp2
      go_ret
      exact ⟨rfl, HB11.out⟩

set_option linter.unusedVariables false in
set_option maxHeartbeats 16000000 in
theorem fitLeast_ZxS (u : Nat) (T : Nat → Int) (m : Int) (N : Nat → Int) (l : List Rw) (kk aa mm : Int) (hka : kk ≤ aa) (h12 : l.length ≤ 12) (Lst : Nat → Int) (hk : kk = 0) (F : Int) (hF : ¬ F = 0) (hc : ∀ f, f < 8 → 0 ≤ N f ∧ N f ≤ 6) (I : Bool) (hsum : ¬ sumN N 8 = u) (lao : Option Addr) (ll lcap : Nat) (w : World) (hR : ReadsR w (.slice lao ll lcap) l)
    (H2 : Hid (∀ W, Below w.heap.size w W → Calls Tryd.prog 20 #[.int .i64 2, .slice none 0 0] W fun e w' => e = .returned (.tuple #[.int .i64 36, .nilIface]) ∧ Below W.heap.size W w'))
    (HM : Hid (∀ W, Below w.heap.size w W → Calls Tryd.prog 20 #[.int .i64 (u : Int), .slice lao ll lcap] W fun e w' => e = .returned (.tuple #[.int .i64 kk, .nilIface]) ∧ Below W.heap.size W w'))
    (HMn : Hid (∀ W, Below w.heap.size w W → Calls Tryd.prog 20 #[.int .i64 (u : Int), .slice none 0 0] W fun e w' => e = .returned (.tuple #[.int .i64 aa, .nilIface]) ∧ Below W.heap.size W w'))
    (HL : Hid (∀ W, Below w.heap.size w W → Calls Tryd.prog 21 #[.int .i64 (u : Int), .slice lao ll lcap] W fun e w' => e = .returned (.tuple #[.agg #[.int .i64 (Lst 0), .int .i64 (Lst 1), .int .i64 (Lst 2), .int .i64 (Lst 3), .int .i64 (Lst 4), .int .i64 (Lst 5), .int .i64 (Lst 6), .int .i64 (Lst 7)], .iface 66 (.int .i64 5)]) ∧ Below W.heap.size W w'))
    (HEr : Hid (∀ W, Below w.heap.size w W → Calls Tryd.prog 11 #[.iface 66 (.int .i64 5), .int .i64 5] W fun e w' => e = .returned (.bool true) ∧ Below W.heap.size W w'))
    (HM3 : Hid (∀ W v, Below w.heap.size w W → ReadsR W v (l ++ [Rw.mk T m]) → Calls Tryd.prog 20 #[.int .i64 (u : Int), v] W fun e w' => e = .returned (.tuple #[.int .i64 mm, .iface 66 (.int .i64 F)]) ∧ Below W.heap.size W w'))
    (HFn : Hid (∀ W, Below w.heap.size w W → Calls Tryd.prog 15 #[.slice lao ll lcap, .agg #[.int .i64 (N 0), .int .i64 (N 1), .int .i64 (N 2), .int .i64 (N 3), .int .i64 (N 4), .int .i64 (N 5), .int .i64 (N 6), .int .i64 (N 7)]] W fun e w' => e = .returned (.tuple #[.bool I, .nilIface]) ∧ Below W.heap.size W w')) :
    Calls Tryd.prog 7 #[.int .i64 (u : Int), .slice lao ll lcap, .agg #[.int .i64 (T 0), .int .i64 (T 1), .int .i64 (T 2), .int .i64 (T 3), .int .i64 (T 4), .int .i64 (T 5), .int .i64 (T 6), .int .i64 (T 7), .int .i64 m], .agg #[.int .i64 (N 0), .int .i64 (N 1), .int .i64 (N 2), .int .i64 (N 3), .int .i64 (N 4), .int .i64 (N 5), .int .i64 (N 6), .int .i64 (N 7)]] w fun e w' => e = .returned (.bool true) ∧ Below w.heap.size w w' := by
  obtain ⟨w1, hw1⟩ : ∃ w1, w1 = (w.alloc (.cells #[.int .i64 (T 0), .int .i64 (T 1), .int .i64 (T 2), .int .i64 (T 3), .int .i64 (T 4), .int .i64 (T 5), .int .i64 (T 6), .int .i64 (T 7), .int .i64 m] 29)).alloc (.cells #[.int .i64 (N 0), .int .i64 (N 1), .int .i64 (N 2), .int .i64 (N 3), .int .i64 (N 4), .int .i64 (N 5), .int .i64 (N 6), .int .i64 (N 7)] 26) := ⟨_, rfl⟩
  have HB1 : Hid (Below w.heap.size w w1) := by unfold Hid; rw [hw1]; exact (below_alloc1 _ _).alloc (by simp) _
  have HR1 : Hid (Blk w1 w.heap.size 29 (arrR T m)) := by unfold Hid; rw [hw1]; exact (Blk.new _ _ _).old _
  have HN1 : Hid (Blk w1 (w.heap.size + 1) 26 (arr8 N)) := by
    unfold Hid; rw [hw1]
    have := Blk.new (w.alloc (.cells #[.int .i64 (T 0), .int .i64 (T 1), .int .i64 (T 2), .int .i64 (T 3), .int .i64 (T 4), .int .i64 (T 5), .int .i64 (T 6), .int .i64 (T 7), .int .i64 m] 29)) 26 (arr8 N)
    simp only [World.size_alloc] at this
    exact this
  have HRd : Hid (∀ W, Below w.heap.size w W → ReadsR W (.slice lao ll lcap) l) := fun W hW => hR.below hW
  clear hR
  have hka' : ¬ (aa < kk) := by omega
  subst hk
  have HCt : Hid (∀ f, f < 8 → 0 ≤ N f ∧ N f ≤ 6) := hc
  clear hc
  go_enter Tryd.func7, Tryd.ntmps7
  go_upto_region 1 with fail
  rw [← hw1]
  clear hw1
  go_wp2_with fail
  go_at_call 20
  refine (H2.out _ HB1.out).mono ?_
  rintro e w2 ⟨rfl, hb⟩
  have HB2 : Hid (Below w.heap.size w w2) := HB1.out.trans (hb.mono HB1.out.size)
  have HR2 : Hid (Blk w2 w.heap.size 29 (arrR T m)) := HR1.out.below hb
  have HN2 : Hid (Blk w2 (w.heap.size + 1) 26 (arr8 N)) := HN1.out.below hb
  clear hb
  go_wp2_with fail
  go_at_call 20
  refine (HM.out _ HB2.out).mono ?_
  rintro e w3 ⟨rfl, hb⟩
  have HB3 : Hid (Below w.heap.size w w3) := HB2.out.trans (hb.mono HB2.out.size)
  have HR3 : Hid (Blk w3 w.heap.size 29 (arrR T m)) := HR2.out.below hb
  have HN3 : Hid (Blk w3 (w.heap.size + 1) 26 (arr8 N)) := HN2.out.below hb
  clear hb
  go_wp2_with fail
  go_at_call 20
  refine (HMn.out _ HB3.out).mono ?_
  rintro e w4 ⟨rfl, hb⟩
  have HB4 : Hid (Below w.heap.size w w4) := HB3.out.trans (hb.mono HB3.out.size)
  have HR4 : Hid (Blk w4 w.heap.size 29 (arrR T m)) := HR3.out.below hb
  have HN4 : Hid (Blk w4 (w.heap.size + 1) 26 (arr8 N)) := HN3.out.below hb
  clear hb
  go_wp2_with fail
  go_at_call 21
  refine (HL.out _ HB4.out).mono ?_
  rintro e w5 ⟨rfl, hb⟩
  have HB5 : Hid (Below w.heap.size w w5) := HB4.out.trans (hb.mono HB4.out.size)
  have HR5 : Hid (Blk w5 w.heap.size 29 (arrR T m)) := HR4.out.below hb
  have HN5 : Hid (Blk w5 (w.heap.size + 1) 26 (arr8 N)) := HN4.out.below hb
  clear hb
  obtain ⟨w6, hw6⟩ : ∃ x, x = w5.alloc (.cells #[.int .i64 (Lst 0), .int .i64 (Lst 1), .int .i64 (Lst 2), .int .i64 (Lst 3), .int .i64 (Lst 4), .int .i64 (Lst 5), .int .i64 (Lst 6), .int .i64 (Lst 7)] 26) := ⟨_, rfl⟩
  have HB6 : Hid (Below w.heap.size w w6) := by unfold Hid; rw [hw6]; exact HB5.out.alloc HB5.out.size _
  have HR6 : Hid (Blk w6 w.heap.size 29 (arrR T m)) := by unfold Hid; rw [hw6]; exact HR5.out.old _
  have HN6 : Hid (Blk w6 (w.heap.size + 1) 26 (arr8 N)) := by unfold Hid; rw [hw6]; exact HN5.out.old _
  have HX6 : Hid (Blk w6 w5.heap.size 26 (arr8 Lst)) := by unfold Hid; rw [hw6]; exact Blk.new _ _ _
  obtain ⟨X, hX⟩ : ∃ P, P = w5.heap.size := ⟨_, rfl⟩
  rw [← hX] at HX6
  go_upto_region 9 with fail
  rw [← hw6, ← hX]
  clear hw6 hX
  go_wp2_with fail
  go_at_call 11
  refine (HEr.out _ HB6.out).mono ?_
  rintro e w7 ⟨rfl, hb⟩
  have HB7 : Hid (Below w.heap.size w w7) := HB6.out.trans (hb.mono HB6.out.size)
  have HR7 : Hid (Blk w7 w.heap.size 29 (arrR T m)) := HR6.out.below hb
  have HN7 : Hid (Blk w7 (w.heap.size + 1) 26 (arr8 N)) := HN6.out.below hb
  have HX7 : Hid (Blk w7 X 26 (arr8 Lst)) := HX6.out.below hb
  clear hb
  go_wp2_with (at_builtin; refine append_rows rfl _ _ rfl rfl _ rfl l (HRd.out _ HB7.out) h12 ?_)
  intro v9 w8 hown hgrow
  have HB8 : Hid (Below w.heap.size w w8) := HB7.out.grown hgrow HB7.out.size (fun k hk => by cases hk)
  have HOw : Hid (w8.ownsRow w7.heap.size 29 9 v9 l.length (cellsR l)) := hown
  have HSz : Hid (w7.heap.size ≤ w8.heap.size) := hgrow.size
  have HR8 : Hid (Blk w8 w.heap.size 29 (arrR T m)) := by unfold Hid Blk; rw [hgrow.block _ HR7.out.lt (by simp)]; exact HR7.out
  have HN8 : Hid (Blk w8 (w.heap.size + 1) 26 (arr8 N)) := by unfold Hid Blk; rw [hgrow.block _ HN7.out.lt (by simp)]; exact HN7.out
  have HX8 : Hid (Blk w8 X 26 (arr8 Lst)) := by unfold Hid Blk; rw [hgrow.block _ HX7.out.lt (by simp)]; exact HX7.out
  clear hown hgrow
  obtain ⟨r0, r1, r2, r3, r4, r5, r6, r7, r8⟩ := HR8.out.cells9
  go_wp2_with (at_builtin; refine append_one rfl _ _ rfl w7.heap.size v9 rfl l (Rw.mk T m) w8.heap.size 1 rfl (HOw.out.alloc _) (heap_alloc_new w8 _) (by have := HSz.out; simp; omega) h12 ?_)
  intro v10 w9 hown hgrow
  have HBa : Hid (Below w.heap.size w (w8.alloc (.cells #[.int .i64 (T 0), .int .i64 (T 1), .int .i64 (T 2), .int .i64 (T 3), .int .i64 (T 4), .int .i64 (T 5), .int .i64 (T 6), .int .i64 (T 7), .int .i64 m] 29))) := HB8.out.alloc HB8.out.size _
  have HB9 : Hid (Below w.heap.size w w9) := HBa.out.grown hgrow HBa.out.size (fun k hk => by have h1 := (HOw.out.lt k hk).1; have h2 := HB7.out.size; omega)
  have HRv : Hid (ReadsR w9 v10 (l ++ [Rw.mk T m])) := own_readsR (by rw [List.length_append]; exact hown) (by simp; omega)
  have HR9 : Hid (Blk w9 w.heap.size 29 (arrR T m)) := by unfold Hid Blk; rw [hgrow.block _ (HR8.out.old (.cells #[.int .i64 (T 0), .int .i64 (T 1), .int .i64 (T 2), .int .i64 (T 3), .int .i64 (T 4), .int .i64 (T 5), .int .i64 (T 6), .int .i64 (T 7), .int .i64 m] 29)).lt (fun e => by have h1 := (HOw.out.lt _ e.symm).1; have h2 := HR7.out.lt; omega)]; exact HR8.out.old _
  have HN9 : Hid (Blk w9 (w.heap.size + 1) 26 (arr8 N)) := by unfold Hid Blk; rw [hgrow.block _ (HN8.out.old (.cells #[.int .i64 (T 0), .int .i64 (T 1), .int .i64 (T 2), .int .i64 (T 3), .int .i64 (T 4), .int .i64 (T 5), .int .i64 (T 6), .int .i64 (T 7), .int .i64 m] 29)).lt (fun e => by have h1 := (HOw.out.lt _ e.symm).1; have h2 := HN7.out.lt; omega)]; exact HN8.out.old _
  have HX9 : Hid (Blk w9 X 26 (arr8 Lst)) := by unfold Hid Blk; rw [hgrow.block _ (HX8.out.old (.cells #[.int .i64 (T 0), .int .i64 (T 1), .int .i64 (T 2), .int .i64 (T 3), .int .i64 (T 4), .int .i64 (T 5), .int .i64 (T 6), .int .i64 (T 7), .int .i64 m] 29)).lt (fun e => by have h1 := (HOw.out.lt _ e.symm).1; have h2 := HX7.out.lt; omega)]; exact HX8.out.old _
  clear hown hgrow
  clear r0 r1 r2 r3 r4 r5 r6 r7 r8
  go_wp2_with fail
  go_at_call 20
  refine (HM3.out _ _ HB9.out HRv.out).mono ?_
  rintro e w10 ⟨rfl, hb⟩
  have HB10 : Hid (Below w.heap.size w w10) := HB9.out.trans (hb.mono HB9.out.size)
  have HR10 : Hid (Blk w10 w.heap.size 29 (arrR T m)) := HR9.out.below hb
  have HN10 : Hid (Blk w10 (w.heap.size + 1) 26 (arr8 N)) := HN9.out.below hb
  have HX10 : Hid (Blk w10 X 26 (arr8 Lst)) := HX9.out.below hb
  clear hb HRv HOw HBa HSz
  obtain ⟨n0, n1, n2, n3, n4, n5, n6, n7⟩ := HN10.out.cells8
  go_wp2_with fail
  go_at_call 15
  refine (HFn.out _ HB10.out).mono ?_
  rintro e w11 ⟨rfl, hb⟩
  have HB11 : Hid (Below w.heap.size w w11) := HB10.out.trans (hb.mono HB10.out.size)
  have HR11 : Hid (Blk w11 w.heap.size 29 (arrR T m)) := HR10.out.below hb
  have HN11 : Hid (Blk w11 (w.heap.size + 1) 26 (arr8 N)) := HN10.out.below hb
  have HX11 : Hid (Blk w11 X 26 (arr8 Lst)) := HX10.out.below hb
  clear hb
  clear n0 n1 n2 n3 n4 n5 n6 n7
  go_wp2
  go_loop [20, 21] (fun s i => ∃ f : Nat, f ≤ 8 ∧ i = .int .i64 f ∧ s = .int .i64 (sumN N f)) (fun _ i => 8 - (intOf i).toNat)
  case atStart => exact ⟨0, Nat.zero_le _, rfl, rfl⟩
  case round =>
    obtain ⟨f, hf, rfl, rfl⟩ := hrel
    by_cases hlt8 : f < 8
    · have c := HN11.out.cell f
      rw [arr8_get _ hlt8] at c
      have p1 := sumN_le (N := N) (k := f) fun g hg => HCt.out g (by omega)
      have p2 := HCt.out f hlt8
      have HS : Hid (sumN N (f + 1) = sumN N f + N f) := rfl
      go_wp2
      go_round
      case rel => exact ⟨f + 1, by omega, by go_num, by rw [HS.out]⟩
      case measure => simp [intOf]; omega
    · obtain rfl : f = 8 := by omega
      clear hlt8 hf
      obtain ⟨sm, hsm⟩ : ∃ x, x = sumN N 8 := ⟨_, rfl⟩
      rw [← hsm] at hsum ⊢
      clear hsm
      go_wp2
      go_ret
      exact ⟨rfl, HB11.out⟩

set_option linter.unusedVariables false in
set_option maxHeartbeats 16000000 in
theorem fitLeast_ZxT (u : Nat) (T : Nat → Int) (m : Int) (N : Nat → Int) (l : List Rw) (kk aa mm : Int) (hka : kk ≤ aa) (h12 : l.length ≤ 12) (Lst : Nat → Int) (hk : kk = 0) (F : Int) (hF : ¬ F = 0) (hc : ∀ f, f < 8 → 0 ≤ N f ∧ N f ≤ 6) (I : Bool) (hsum : sumN N 8 = u) (hI : I = false) (lao : Option Addr) (ll lcap : Nat) (w : World) (hR : ReadsR w (.slice lao ll lcap) l)
    (H2 : Hid (∀ W, Below w.heap.size w W → Calls Tryd.prog 20 #[.int .i64 2, .slice none 0 0] W fun e w' => e = .returned (.tuple #[.int .i64 36, .nilIface]) ∧ Below W.heap.size W w'))
    (HM : Hid (∀ W, Below w.heap.size w W → Calls Tryd.prog 20 #[.int .i64 (u : Int), .slice lao ll lcap] W fun e w' => e = .returned (.tuple #[.int .i64 kk, .nilIface]) ∧ Below W.heap.size W w'))
    (HMn : Hid (∀ W, Below w.heap.size w W → Calls Tryd.prog 20 #[.int .i64 (u : Int), .slice none 0 0] W fun e w' => e = .returned (.tuple #[.int .i64 aa, .nilIface]) ∧ Below W.heap.size W w'))
    (HL : Hid (∀ W, Below w.heap.size w W → Calls Tryd.prog 21 #[.int .i64 (u : Int), .slice lao ll lcap] W fun e w' => e = .returned (.tuple #[.agg #[.int .i64 (Lst 0), .int .i64 (Lst 1), .int .i64 (Lst 2), .int .i64 (Lst 3), .int .i64 (Lst 4), .int .i64 (Lst 5), .int .i64 (Lst 6), .int .i64 (Lst 7)], .iface 66 (.int .i64 5)]) ∧ Below W.heap.size W w'))
    (HEr : Hid (∀ W, Below w.heap.size w W → Calls Tryd.prog 11 #[.iface 66 (.int .i64 5), .int .i64 5] W fun e w' => e = .returned (.bool true) ∧ Below W.heap.size W w'))
    (HM3 : Hid (∀ W v, Below w.heap.size w W → ReadsR W v (l ++ [Rw.mk T m]) → Calls Tryd.prog 20 #[.int .i64 (u : Int), v] W fun e w' => e = .returned (.tuple #[.int .i64 mm, .iface 66 (.int .i64 F)]) ∧ Below W.heap.size W w'))
    (HFn : Hid (∀ W, Below w.heap.size w W → Calls Tryd.prog 15 #[.slice lao ll lcap, .agg #[.int .i64 (N 0), .int .i64 (N 1), .int .i64 (N 2), .int .i64 (N 3), .int .i64 (N 4), .int .i64 (N 5), .int .i64 (N 6), .int .i64 (N 7)]] W fun e w' => e = .returned (.tuple #[.bool I, .nilIface]) ∧ Below W.heap.size W w')) :
    Calls Tryd.prog 7 #[.int .i64 (u : Int), .slice lao ll lcap, .agg #[.int .i64 (T 0), .int .i64 (T 1), .int .i64 (T 2), .int .i64 (T 3), .int .i64 (T 4), .int .i64 (T 5), .int .i64 (T 6), .int .i64 (T 7), .int .i64 m], .agg #[.int .i64 (N 0), .int .i64 (N 1), .int .i64 (N 2), .int .i64 (N 3), .int .i64 (N 4), .int .i64 (N 5), .int .i64 (N 6), .int .i64 (N 7)]] w fun e w' => e = .returned (.bool true) ∧ Below w.heap.size w w' := by
  obtain ⟨w1, hw1⟩ : ∃ w1, w1 = (w.alloc (.cells #[.int .i64 (T 0), .int .i64 (T 1), .int .i64 (T 2), .int .i64 (T 3), .int .i64 (T 4), .int .i64 (T 5), .int .i64 (T 6), .int .i64 (T 7), .int .i64 m] 29)).alloc (.cells #[.int .i64 (N 0), .int .i64 (N 1), .int .i64 (N 2), .int .i64 (N 3), .int .i64 (N 4), .int .i64 (N 5), .int .i64 (N 6), .int .i64 (N 7)] 26) := ⟨_, rfl⟩
  have HB1 : Hid (Below w.heap.size w w1) := by unfold Hid; rw [hw1]; exact (below_alloc1 _ _).alloc (by simp) _
  have HR1 : Hid (Blk w1 w.heap.size 29 (arrR T m)) := by unfold Hid; rw [hw1]; exact (Blk.new _ _ _).old _
  have HN1 : Hid (Blk w1 (w.heap.size + 1) 26 (arr8 N)) := by
    unfold Hid; rw [hw1]
    have := Blk.new (w.alloc (.cells #[.int .i64 (T 0), .int .i64 (T 1), .int .i64 (T 2), .int .i64 (T 3), .int .i64 (T 4), .int .i64 (T 5), .int .i64 (T 6), .int .i64 (T 7), .int .i64 m] 29)) 26 (arr8 N)
    simp only [World.size_alloc] at this
    exact this
  have HRd : Hid (∀ W, Below w.heap.size w W → ReadsR W (.slice lao ll lcap) l) := fun W hW => hR.below hW
  clear hR
  have hka' : ¬ (aa < kk) := by omega
  subst hk
  have HCt : Hid (∀ f, f < 8 → 0 ≤ N f ∧ N f ≤ 6) := hc
  clear hc
  subst hI
  go_enter Tryd.func7, Tryd.ntmps7
  go_upto_region 1 with fail
  rw [← hw1]
  clear hw1
  go_wp2_with fail
  go_at_call 20
  refine (H2.out _ HB1.out).mono ?_
  rintro e w2 ⟨rfl, hb⟩
  have HB2 : Hid (Below w.heap.size w w2) := HB1.out.trans (hb.mono HB1.out.size)
  have HR2 : Hid (Blk w2 w.heap.size 29 (arrR T m)) := HR1.out.below hb
  have HN2 : Hid (Blk w2 (w.heap.size + 1) 26 (arr8 N)) := HN1.out.below hb
  clear hb
  go_wp2_with fail
  go_at_call 20
  refine (HM.out _ HB2.out).mono ?_
  rintro e w3 ⟨rfl, hb⟩
  have HB3 : Hid (Below w.heap.size w w3) := HB2.out.trans (hb.mono HB2.out.size)
  have HR3 : Hid (Blk w3 w.heap.size 29 (arrR T m)) := HR2.out.below hb
  have HN3 : Hid (Blk w3 (w.heap.size + 1) 26 (arr8 N)) := HN2.out.below hb
  clear hb
  go_wp2_with fail
  go_at_call 20
  refine (HMn.out _ HB3.out).mono ?_
  rintro e w4 ⟨rfl, hb⟩
  have HB4 : Hid (Below w.heap.size w w4) := HB3.out.trans (hb.mono HB3.out.size)
  have HR4 : Hid (Blk w4 w.heap.size 29 (arrR T m)) := HR3.out.below hb
  have HN4 : Hid (Blk w4 (w.heap.size + 1) 26 (arr8 N)) := HN3.out.below hb
  clear hb
  go_wp2_with fail
  go_at_call 21
  refine (HL.out _ HB4.out).mono ?_
  rintro e w5 ⟨rfl, hb⟩
  have HB5 : Hid (Below w.heap.size w w5) := HB4.out.trans (hb.mono HB4.out.size)
  have HR5 : Hid (Blk w5 w.heap.size 29 (arrR T m)) := HR4.out.below hb
  have HN5 : Hid (Blk w5 (w.heap.size + 1) 26 (arr8 N)) := HN4.out.below hb
  clear hb
  obtain ⟨w6, hw6⟩ : ∃ x, x = w5.alloc (.cells #[.int .i64 (Lst 0), .int .i64 (Lst 1), .int .i64 (Lst 2), .int .i64 (Lst 3), .int .i64 (Lst 4), .int .i64 (Lst 5), .int .i64 (Lst 6), .int .i64 (Lst 7)] 26) := ⟨_, rfl⟩
  have HB6 : Hid (Below w.heap.size w w6) := by unfold Hid; rw [hw6]; exact HB5.out.alloc HB5.out.size _
  have HR6 : Hid (Blk w6 w.heap.size 29 (arrR T m)) := by unfold Hid; rw [hw6]; exact HR5.out.old _
  have HN6 : Hid (Blk w6 (w.heap.size + 1) 26 (arr8 N)) := by unfold Hid; rw [hw6]; exact HN5.out.old _
  have HX6 : Hid (Blk w6 w5.heap.size 26 (arr8 Lst)) := by unfold Hid; rw [hw6]; exact Blk.new _ _ _
  obtain ⟨X, hX⟩ : ∃ P, P = w5.heap.size := ⟨_, rfl⟩
  rw [← hX] at HX6
  go_upto_region 9 with fail
  rw [← hw6, ← hX]
  clear hw6 hX
  go_wp2_with fail
  go_at_call 11
  refine (HEr.out _ HB6.out).mono ?_
  rintro e w7 ⟨rfl, hb⟩
  have HB7 : Hid (Below w.heap.size w w7) := HB6.out.trans (hb.mono HB6.out.size)
  have HR7 : Hid (Blk w7 w.heap.size 29 (arrR T m)) := HR6.out.below hb
  have HN7 : Hid (Blk w7 (w.heap.size + 1) 26 (arr8 N)) := HN6.out.below hb
  have HX7 : Hid (Blk w7 X 26 (arr8 Lst)) := HX6.out.below hb
  clear hb
  go_wp2_with (at_builtin; refine append_rows rfl _ _ rfl rfl _ rfl l (HRd.out _ HB7.out) h12 ?_)
  intro v9 w8 hown hgrow
  have HB8 : Hid (Below w.heap.size w w8) := HB7.out.grown hgrow HB7.out.size (fun k hk => by cases hk)
  have HOw : Hid (w8.ownsRow w7.heap.size 29 9 v9 l.length (cellsR l)) := hown
  have HSz : Hid (w7.heap.size ≤ w8.heap.size) := hgrow.size
  have HR8 : Hid (Blk w8 w.heap.size 29 (arrR T m)) := by unfold Hid Blk; rw [hgrow.block _ HR7.out.lt (by simp)]; exact HR7.out
  have HN8 : Hid (Blk w8 (w.heap.size + 1) 26 (arr8 N)) := by unfold Hid Blk; rw [hgrow.block _ HN7.out.lt (by simp)]; exact HN7.out
  have HX8 : Hid (Blk w8 X 26 (arr8 Lst)) := by unfold Hid Blk; rw [hgrow.block _ HX7.out.lt (by simp)]; exact HX7.out
  clear hown hgrow
  obtain ⟨r0, r1, r2, r3, r4, r5, r6, r7, r8⟩ := HR8.out.cells9
  go_wp2_with (at_builtin; refine append_one rfl _ _ rfl w7.heap.size v9 rfl l (Rw.mk T m) w8.heap.size 1 rfl (HOw.out.alloc _) (heap_alloc_new w8 _) (by have := HSz.out; simp; omega) h12 ?_)
  intro v10 w9 hown hgrow
  have HBa : Hid (Below w.heap.size w (w8.alloc (.cells #[.int .i64 (T 0), .int .i64 (T 1), .int .i64 (T 2), .int .i64 (T 3), .int .i64 (T 4), .int .i64 (T 5), .int .i64 (T 6), .int .i64 (T 7), .int .i64 m] 29))) := HB8.out.alloc HB8.out.size _
  have HB9 : Hid (Below w.heap.size w w9) := HBa.out.grown hgrow HBa.out.size (fun k hk => by have h1 := (HOw.out.lt k hk).1; have h2 := HB7.out.size; omega)
  have HRv : Hid (ReadsR w9 v10 (l ++ [Rw.mk T m])) := own_readsR (by rw [List.length_append]; exact hown) (by simp; omega)
  have HR9 : Hid (Blk w9 w.heap.size 29 (arrR T m)) := by unfold Hid Blk; rw [hgrow.block _ (HR8.out.old (.cells #[.int .i64 (T 0), .int .i64 (T 1), .int .i64 (T 2), .int .i64 (T 3), .int .i64 (T 4), .int .i64 (T 5), .int .i64 (T 6), .int .i64 (T 7), .int .i64 m] 29)).lt (fun e => by have h1 := (HOw.out.lt _ e.symm).1; have h2 := HR7.out.lt; omega)]; exact HR8.out.old _
  have HN9 : Hid (Blk w9 (w.heap.size + 1) 26 (arr8 N)) := by unfold Hid Blk; rw [hgrow.block _ (HN8.out.old (.cells #[.int .i64 (T 0), .int .i64 (T 1), .int .i64 (T 2), .int .i64 (T 3), .int .i64 (T 4), .int .i64 (T 5), .int .i64 (T 6), .int .i64 (T 7), .int .i64 m] 29)).lt (fun e => by have h1 := (HOw.out.lt _ e.symm).1; have h2 := HN7.out.lt; omega)]; exact HN8.out.old _
  have HX9 : Hid (Blk w9 X 26 (arr8 Lst)) := by unfold Hid Blk; rw [hgrow.block _ (HX8.out.old (.cells #[.int .i64 (T 0), .int .i64 (T 1), .int .i64 (T 2), .int .i64 (T 3), .int .i64 (T 4), .int .i64 (T 5), .int .i64 (T 6), .int .i64 (T 7), .int .i64 m] 29)).lt (fun e => by have h1 := (HOw.out.lt _ e.symm).1; have h2 := HX7.out.lt; omega)]; exact HX8.out.old _
  clear hown hgrow
  clear r0 r1 r2 r3 r4 r5 r6 r7 r8
  go_wp2_with fail
  go_at_call 20
  refine (HM3.out _ _ HB9.out HRv.out).mono ?_
  rintro e w10 ⟨rfl, hb⟩
  have HB10 : Hid (Below w.heap.size w w10) := HB9.out.trans (hb.mono HB9.out.size)
  have HR10 : Hid (Blk w10 w.heap.size 29 (arrR T m)) := HR9.out.below hb
  have HN10 : Hid (Blk w10 (w.heap.size + 1) 26 (arr8 N)) := HN9.out.below hb
  have HX10 : Hid (Blk w10 X 26 (arr8 Lst)) := HX9.out.below hb
  clear hb HRv HOw HBa HSz
  obtain ⟨n0, n1, n2, n3, n4, n5, n6, n7⟩ := HN10.out.cells8
  go_wp2_with fail
  go_at_call 15
  refine (HFn.out _ HB10.out).mono ?_
  rintro e w11 ⟨rfl, hb⟩
  have HB11 : Hid (Below w.heap.size w w11) := HB10.out.trans (hb.mono HB10.out.size)
  have HR11 : Hid (Blk w11 w.heap.size 29 (arrR T m)) := HR10.out.below hb
  have HN11 : Hid (Blk w11 (w.heap.size + 1) 26 (arr8 N)) := HN10.out.below hb
  have HX11 : Hid (Blk w11 X 26 (arr8 Lst)) := HX10.out.below hb
  clear hb
  clear n0 n1 n2 n3 n4 n5 n6 n7
  go_wp2
  go_loop [20, 21] (fun s i => ∃ f : Nat, f ≤ 8 ∧ i = .int .i64 f ∧ s = .int .i64 (sumN N f)) (fun _ i => 8 - (intOf i).toNat)
  case atStart => exact ⟨0, Nat.zero_le _, rfl, rfl⟩
  case round =>
    obtain ⟨f, hf, rfl, rfl⟩ := hrel
    by_cases hlt8 : f < 8
    · have c := HN11.out.cell f
      rw [arr8_get _ hlt8] at c
      have p1 := sumN_le (N := N) (k := f) fun g hg => HCt.out g (by omega)
      have p2 := HCt.out f hlt8
      have HS : Hid (sumN N (f + 1) = sumN N f + N f) := rfl
      go_wp2
      go_round
      case rel => exact ⟨f + 1, by omega, by go_num, by rw [HS.out]⟩
      case measure => simp [intOf]; omega
    · obtain rfl : f = 8 := by omega
      clear hlt8 hf
      rw [hsum]
      go_wp2
      go_ret
      exact ⟨rfl, HB11.out⟩

end Go.Proofs.YtedgbohobgnedadDoor
