/-
  Proved: vennlaw2.AskFollows returns true where what it calls answers as chapters 4, 13 and 18 say; what was in memory is as it was (the walk that the statement leans on). Written by program.
-/
import Derived.Test.YtjaedfjfcghgcaaDoorLibA25
namespace Go.Proofs.YtjaedfjfcghgcaaDoor
open Go.ChangeShapes Go.WideShapes Go.ChangeAt Go.RowKit
set_option maxRecDepth 100000

set_option maxHeartbeats 4000000 in
theorem askFollows_bad (lo : Option Addr) (n lcap : Nat) (ao : Option Addr) (M acap : Nat) (co : Option Addr) (nc ccap : Nat) (u N m : Int) (D : Wd) (w : World)
    (HOne : Hid (∀ W v b1 b2, Below w.heap.size w W → ReadsF W v [⟨manyA 0 2, [0]⟩] → ReadsA W (.slice (some ⟨b1, 0, none⟩) 1 1) (manyA 0 1) → Reads W (.slice (some ⟨b2, 0, none⟩) 1 1) [0] → Calls Tryd.prog 21 #[v, .agg #[.slice (some ⟨b1, 0, none⟩) 1 1, .slice (some ⟨b2, 0, none⟩) 1 1], .int .i64 3] W fun e w' => e = .returned (.tuple #[.int .i64 1, .nilIface]) ∧ Below W.heap.size W w'))
    (HOf : Hid (∀ W, Below w.heap.size w W → Calls Tryd.prog 21 #[.slice lo n lcap, .agg #[.slice ao M acap, .slice co nc ccap], .int .i64 u] W fun e w' => e = .returned (.tuple #[.int .i64 N, .iface 64 (.int .i64 m)]) ∧ Below W.heap.size W w')) :
    Calls Tryd.prog 7 #[.slice lo n lcap, .agg #[.slice ao M acap, .slice co nc ccap], .int .i64 u, .agg #[.int .i64 D.u, .int .i64 D.a, .int .i64 D.b, .int .i64 D.c]] w fun e w' => e = .returned (.bool true) ∧ Below w.heap.size w w' := by
  obtain ⟨b0, b1, b2, b3, b4, b5, hB0⟩ := six_few w (.cells #[.slice ao M acap, .slice co nc ccap] 42) (.cells #[.int .i64 D.u, .int .i64 D.a, .int .i64 D.b, .int .i64 D.c] 37) (.cells #[.int .i64 0] 3) (.cells #[.int .i64 3, .slice (some ⟨w.heap.size + 1 + 1, 0, none⟩) 1 1, .slice none 0 0, .int .i64 2] 39) (.cells #[.int .i64 0] 3) (.cells #[.slice (some ⟨w.heap.size + 1 + 1 + 1, 0, none⟩) 1 1, .slice (some ⟨w.heap.size + 1 + 1 + 1 + 1, 0, none⟩) 1 1] 42)
  obtain ⟨w0, hw0⟩ : ∃ x, x = ((((((w.alloc (.cells #[.slice ao M acap, .slice co nc ccap] 42)).alloc (.cells #[.int .i64 D.u, .int .i64 D.a, .int .i64 D.b, .int .i64 D.c] 37)).alloc (.cells #[.int .i64 0] 3)).alloc (.cells #[.int .i64 3, .slice (some ⟨w.heap.size + 1 + 1, 0, none⟩) 1 1, .slice none 0 0, .int .i64 2] 39)).alloc (.cells #[.int .i64 0] 3)).alloc (.cells #[.slice (some ⟨w.heap.size + 1 + 1 + 1, 0, none⟩) 1 1, .slice (some ⟨w.heap.size + 1 + 1 + 1 + 1, 0, none⟩) 1 1] 42)) := ⟨_, rfl⟩
  rw [← hw0] at b0 b1 b2 b3 b4 b5 hB0
  obtain ⟨a0, a1, a2, a3, hA0⟩ := four_at w0 (.cells #[.int .i64 0] 3) (.cells #[.int .i64 3, .slice (some ⟨w0.heap.size, 0, none⟩) 1 1, .slice none 0 0, .int .i64 1] 39) (.cells #[.int .i64 0] 3) (.cells #[.slice (some ⟨w0.heap.size + 1, 0, none⟩) 1 1, .slice (some ⟨w0.heap.size + 1 + 1, 0, none⟩) 1 1] 42)
  obtain ⟨w1, hw1⟩ : ∃ x, x = ((((w0.alloc (.cells #[.int .i64 0] 3)).alloc (.cells #[.int .i64 3, .slice (some ⟨w0.heap.size, 0, none⟩) 1 1, .slice none 0 0, .int .i64 1] 39)).alloc (.cells #[.int .i64 0] 3)).alloc (.cells #[.slice (some ⟨w0.heap.size + 1, 0, none⟩) 1 1, .slice (some ⟨w0.heap.size + 1 + 1, 0, none⟩) 1 1] 42)) := ⟨_, rfl⟩
  rw [← hw1] at a0 a1 a2 a3 hA0
  have B1 : Hid (Below w.heap.size w w1) := hB0.trans (hA0.mono hB0.size)
  have kF0 : Blk w0 w.heap.size 42 #[.slice ao M acap, .slice co nc ccap] := b0
  have kW0 : Blk w0 (w.heap.size + 1) 37 (arrW D) := b1
  have kF1 : Hid (Blk w1 w.heap.size 42 #[.slice ao M acap, .slice co nc ccap]) := kF0.below hA0
  have kW1 : Hid (Blk w1 (w.heap.size + 1) 37 (arrW D)) := kW0.below hA0
  have k5 : Blk w0 (w.heap.size + 1 + 1 + 1 + 1 + 1) 42 #[.slice (some ⟨w.heap.size + 1 + 1 + 1, 0, none⟩) 1 1, .slice (some ⟨w.heap.size + 1 + 1 + 1 + 1, 0, none⟩) 1 1] := b5
  have k2 : Blk w0 (w.heap.size + 1 + 1) 3 #[.int .i64 0] := b2
  have hS : Reads w0 (.slice (some ⟨w.heap.size + 1 + 1, 0, none⟩) 1 1) [0] := by
    refine Or.inr ⟨w.heap.size + 1 + 1, 0, 1, rfl, k2.lt, by simp, ⟨by simp, by simp⟩, fun j hj => ?_⟩
    obtain rfl : j = 0 := by simp at hj; exact hj
    exact k2.cell 0
  have k6 : Blk w1 w0.heap.size 3 #[.int .i64 0] := a0
  have hS' : Reads w1 (.slice (some ⟨w0.heap.size, 0, none⟩) 1 1) [0] := by
    refine Or.inr ⟨w0.heap.size, 0, 1, rfl, k6.lt, by simp, ⟨by simp, by simp⟩, fun j hj => ?_⟩
    obtain rfl : j = 0 := by simp at hj; exact hj
    exact k6.cell 0
  have hR := alone_reads b3 hS b4
  have HR1 : Hid (ReadsA w1 (.slice (some ⟨w.heap.size + 1 + 1 + 1, 0, none⟩) 1 1) [⟨3, [0], [], 2⟩] ∧ Reads w1 (.slice (some ⟨w.heap.size + 1 + 1 + 1 + 1, 0, none⟩) 1 1) [0]) := ⟨hR.1.below hA0, hR.2.below hA0⟩
  have HR2 : Hid (ReadsA w1 (.slice (some ⟨w0.heap.size + 1, 0, none⟩) 1 1) [⟨3, [0], [], 1⟩] ∧ Reads w1 (.slice (some ⟨w0.heap.size + 1 + 1, 0, none⟩) 1 1) [0]) := alone_reads a1 hS' a2
  have x0 : w1.cell? ⟨w.heap.size + 1 + 1 + 1 + 1 + 1, 0, none⟩ = some (.slice (some ⟨w.heap.size + 1 + 1 + 1, 0, none⟩) 1 1) := (k5.below hA0).cell 0
  have x1 : w1.cell? ⟨w.heap.size + 1 + 1 + 1 + 1 + 1, 1, none⟩ = some (.slice (some ⟨w.heap.size + 1 + 1 + 1 + 1, 0, none⟩) 1 1) := (k5.below hA0).cell 1
  have k7 : Blk w1 (w0.heap.size + 1 + 1 + 1) 42 #[.slice (some ⟨w0.heap.size + 1, 0, none⟩) 1 1, .slice (some ⟨w0.heap.size + 1 + 1, 0, none⟩) 1 1] := a3
  have y0 : w1.cell? ⟨w0.heap.size + 1 + 1 + 1, 0, none⟩ = some (.slice (some ⟨w0.heap.size + 1, 0, none⟩) 1 1) := k7.cell 0
  have y1 : w1.cell? ⟨w0.heap.size + 1 + 1 + 1, 1, none⟩ = some (.slice (some ⟨w0.heap.size + 1 + 1, 0, none⟩) 1 1) := k7.cell 1
  have y2 : (w1.alloc (.cells #[.slice (some ⟨w.heap.size + 1 + 1 + 1, 0, none⟩) 1 1, .slice (some ⟨w.heap.size + 1 + 1 + 1 + 1, 0, none⟩) 1 1] 42)).cell? ⟨w0.heap.size + 1 + 1 + 1, 0, none⟩ = some (.slice (some ⟨w0.heap.size + 1, 0, none⟩) 1 1) := (k7.old _).cell 0
  have y3 : (w1.alloc (.cells #[.slice (some ⟨w.heap.size + 1 + 1 + 1, 0, none⟩) 1 1, .slice (some ⟨w.heap.size + 1 + 1 + 1 + 1, 0, none⟩) 1 1] 42)).cell? ⟨w0.heap.size + 1 + 1 + 1, 1, none⟩ = some (.slice (some ⟨w0.heap.size + 1 + 1, 0, none⟩) 1 1) := (k7.old _).cell 1
  have eZ : w0.heap.size = w.heap.size + 1 + 1 + 1 + 1 + 1 + 1 := by rw [hw0]; simp
  clear k2 k5 k6 k7 hS hS' hR b0 b1 b2 b3 b4 b5 a0 a1 a2 a3 hB0 hA0 kF0 kW0
  go_enter Tryd.func7, Tryd.ntmps7
  go_upto_region 2 with fail
  rw [← hw0]
  try rw [← eZ]
  clear hw0 eZ
  go_upto_region 3 with fail
  rw [← hw1]
  clear hw1
  have HS1 : Hid (ReadsF (w1.alloc (.cells #[.slice (some ⟨w.heap.size + 1 + 1 + 1, 0, none⟩) 1 1, .slice (some ⟨w.heap.size + 1 + 1 + 1 + 1, 0, none⟩) 1 1] 42)) (.slice (some ⟨w1.heap.size, 0, none⟩) 1 1) [⟨manyA 0 2, [0]⟩]) := one_form (Blk.new _ _ _) (HR1.out.1.below (below_alloc1 _ _)) (HR1.out.2.below (below_alloc1 _ _))
  go_wp2_with fail
  go_at_call 21
  refine (HOne.out _ _ _ _ (B1.out.alloc B1.out.size _) HS1.out (HR2.out.1.below (below_alloc1 _ _)) (HR2.out.2.below (below_alloc1 _ _))).mono ?_
  rintro e w2 ⟨rfl, hb'⟩
  have hb : Below w1.heap.size w1 w2 := (below_alloc1 _ _).trans (hb'.mono (by simp))
  have B2 : Hid (Below w.heap.size w w2) := B1.out.trans (hb.mono B1.out.size)
  have kF2 : Hid (Blk w2 w.heap.size 42 #[.slice ao M acap, .slice co nc ccap]) := kF1.out.below hb
  have kW2 : Hid (Blk w2 (w.heap.size + 1) 37 (arrW D)) := kW1.out.below hb
  clear hb hb' HR1 HR2 HS1 HOne x0 x1 y0 y1 y2 y3
  have x0 : w2.cell? ⟨w.heap.size, 0, none⟩ = some (.slice ao M acap) := kF2.out.cell 0
  have x1 : w2.cell? ⟨w.heap.size, 1, none⟩ = some (.slice co nc ccap) := kF2.out.cell 1
  go_wp2_with fail
  go_at_call 21
  refine (HOf.out _ B2.out).mono ?_
  rintro e w3 ⟨rfl, hb⟩
  have B3 : Hid (Below w.heap.size w w3) := B2.out.trans (hb.mono B2.out.size)
  have kF3 : Hid (Blk w3 w.heap.size 42 #[.slice ao M acap, .slice co nc ccap]) := kF2.out.below hb
  have kW3 : Hid (Blk w3 (w.heap.size + 1) 37 (arrW D)) := kW2.out.below hb
  clear hb x0 x1
  go_wp2
  go_ret
  exact ⟨rfl, B3.out⟩

set_option maxHeartbeats 16000000 in
theorem askFollows_good (lo : Option Addr) (n lcap : Nat) (hn1 : 1 ≤ n) (hn6 : n ≤ 6) (ao : Option Addr) (M acap : Nat) (co : Option Addr) (nc ccap : Nat) (u N : Int) (hN0 : -1 ≤ N) (hN1 : N ≤ 1) (D : Wd) (fs : List Fm) (h O : Bool) (EH : Value) (w : World)
    (HLn : Hid (n = fs.length)) (HF : Hid (ReadsF w (.slice lo n lcap) fs))
    (HOne : Hid (∀ W v b1 b2, Below w.heap.size w W → ReadsF W v [⟨manyA 0 2, [0]⟩] → ReadsA W (.slice (some ⟨b1, 0, none⟩) 1 1) (manyA 0 1) → Reads W (.slice (some ⟨b2, 0, none⟩) 1 1) [0] → Calls Tryd.prog 21 #[v, .agg #[.slice (some ⟨b1, 0, none⟩) 1 1, .slice (some ⟨b2, 0, none⟩) 1 1], .int .i64 3] W fun e w' => e = .returned (.tuple #[.int .i64 1, .nilIface]) ∧ Below W.heap.size W w'))
    (HOf : Hid (∀ W, Below w.heap.size w W → Calls Tryd.prog 21 #[.slice lo n lcap, .agg #[.slice ao M acap, .slice co nc ccap], .int .i64 u] W fun e w' => e = .returned (.tuple #[.int .i64 N, .nilIface]) ∧ Below W.heap.size W w'))
    (HHo : Hid (∀ (j : Nat) f va vc, fs[j]? = some f → ∀ W, Below w.heap.size w W → ReadsA W va f.ats → Reads W vc f.c → Calls Tryd.prog 16 #[.agg #[va, vc], .agg #[.int .i64 D.u, .int .i64 D.a, .int .i64 D.b, .int .i64 D.c]] W fun e w' => e = .returned (.tuple #[.bool (D.formIs f.ats f.c), errV (D.formFault f.ats f.c)]) ∧ Below W.heap.size W w'))
    (HHf : Hid (∀ W, Below w.heap.size w W → Calls Tryd.prog 16 #[.agg #[.slice ao M acap, .slice co nc ccap], .agg #[.int .i64 D.u, .int .i64 D.a, .int .i64 D.b, .int .i64 D.c]] W fun e w' => e = .returned (.tuple #[.bool h, EH]) ∧ Below W.heap.size W w'))
    (HKH : Hid (EH = .nilIface ∨ ∃ m, EH = .iface 64 (.int .i64 m)))
    (HAll : Hid (EH = .nilIface → D.u = u → (∀ j, j < n → ∀ f, fs[j]? = some f → D.formIs f.ats f.c = true) → (N = 1 → h = true) ∧ (N = -1 → h = false)))
    (HOf0 : Hid (∀ f va vc, fs[0]? = some f → ∀ W, Below w.heap.size w W → ReadsA W va f.ats → Reads W vc f.c → Calls Tryd.prog 21 #[.slice lo n lcap, .agg #[va, vc], .int .i64 u] W fun e w' => e = .returned (.tuple #[.int .i64 1, .nilIface]) ∧ Below W.heap.size W w'))
    (HNg : Hid (∀ W, Below w.heap.size w W → Calls Tryd.prog 23 #[.agg #[.slice ao M acap, .slice co nc ccap]] W fun e w' => ((∃ o1 l1 q1 o2 l2 q2 g, e = .returned (.tuple #[.agg #[.slice o1 l1 q1, .slice o2 l2 q2], .nilIface]) ∧ (ReadsA w' (.slice o1 l1 q1) g.ats ∧ Reads w' (.slice o2 l2 q2) g.c) ∧ (∀ W', Below w'.heap.size w' W' → Calls Tryd.prog 21 #[.slice lo n lcap, .agg #[.slice o1 l1 q1, .slice o2 l2 q2], .int .i64 u] W' fun e' w'' => e' = .returned (.tuple #[.int .i64 (-N), .nilIface]) ∧ Below W'.heap.size W' w'') ∧ ∀ W' v, Below w.heap.size w W' → n ≤ 5 → ReadsF W' v (fs ++ [g]) → Calls Tryd.prog 11 #[v, .int .i64 u] W' fun e' w'' => e' = .returned (.tuple #[.bool O, .nilIface]) ∧ Below W'.heap.size W' w'') ∨ (∃ m, e = .returned (.tuple #[.agg #[.slice none 0 0, .slice none 0 0], .iface 64 (.int .i64 m)]))) ∧ Below W.heap.size W w'))
    (HO : Hid ((O == (N != 1)) = true)) :
    Calls Tryd.prog 7 #[.slice lo n lcap, .agg #[.slice ao M acap, .slice co nc ccap], .int .i64 u, .agg #[.int .i64 D.u, .int .i64 D.a, .int .i64 D.b, .int .i64 D.c]] w fun e w' => e = .returned (.bool true) ∧ Below w.heap.size w w' := by
  have wN : IntKind.i64.wrap (-N) = -N := by rw [IntKind.wrap_i64]; omega
  have l1 : ¬ (n : Int) < 1 := by omega
  have l6 : ¬ 6 < (n : Int) := by omega
  obtain ⟨b0, b1, b2, b3, b4, b5, hB0⟩ := six_few w (.cells #[.slice ao M acap, .slice co nc ccap] 42) (.cells #[.int .i64 D.u, .int .i64 D.a, .int .i64 D.b, .int .i64 D.c] 37) (.cells #[.int .i64 0] 3) (.cells #[.int .i64 3, .slice (some ⟨w.heap.size + 1 + 1, 0, none⟩) 1 1, .slice none 0 0, .int .i64 2] 39) (.cells #[.int .i64 0] 3) (.cells #[.slice (some ⟨w.heap.size + 1 + 1 + 1, 0, none⟩) 1 1, .slice (some ⟨w.heap.size + 1 + 1 + 1 + 1, 0, none⟩) 1 1] 42)
  obtain ⟨w0, hw0⟩ : ∃ x, x = ((((((w.alloc (.cells #[.slice ao M acap, .slice co nc ccap] 42)).alloc (.cells #[.int .i64 D.u, .int .i64 D.a, .int .i64 D.b, .int .i64 D.c] 37)).alloc (.cells #[.int .i64 0] 3)).alloc (.cells #[.int .i64 3, .slice (some ⟨w.heap.size + 1 + 1, 0, none⟩) 1 1, .slice none 0 0, .int .i64 2] 39)).alloc (.cells #[.int .i64 0] 3)).alloc (.cells #[.slice (some ⟨w.heap.size + 1 + 1 + 1, 0, none⟩) 1 1, .slice (some ⟨w.heap.size + 1 + 1 + 1 + 1, 0, none⟩) 1 1] 42)) := ⟨_, rfl⟩
  rw [← hw0] at b0 b1 b2 b3 b4 b5 hB0
  obtain ⟨a0, a1, a2, a3, hA0⟩ := four_at w0 (.cells #[.int .i64 0] 3) (.cells #[.int .i64 3, .slice (some ⟨w0.heap.size, 0, none⟩) 1 1, .slice none 0 0, .int .i64 1] 39) (.cells #[.int .i64 0] 3) (.cells #[.slice (some ⟨w0.heap.size + 1, 0, none⟩) 1 1, .slice (some ⟨w0.heap.size + 1 + 1, 0, none⟩) 1 1] 42)
  obtain ⟨w1, hw1⟩ : ∃ x, x = ((((w0.alloc (.cells #[.int .i64 0] 3)).alloc (.cells #[.int .i64 3, .slice (some ⟨w0.heap.size, 0, none⟩) 1 1, .slice none 0 0, .int .i64 1] 39)).alloc (.cells #[.int .i64 0] 3)).alloc (.cells #[.slice (some ⟨w0.heap.size + 1, 0, none⟩) 1 1, .slice (some ⟨w0.heap.size + 1 + 1, 0, none⟩) 1 1] 42)) := ⟨_, rfl⟩
  rw [← hw1] at a0 a1 a2 a3 hA0
  have B1 : Hid (Below w.heap.size w w1) := hB0.trans (hA0.mono hB0.size)
  have kF0 : Blk w0 w.heap.size 42 #[.slice ao M acap, .slice co nc ccap] := b0
  have kW0 : Blk w0 (w.heap.size + 1) 37 (arrW D) := b1
  have kF1 : Hid (Blk w1 w.heap.size 42 #[.slice ao M acap, .slice co nc ccap]) := kF0.below hA0
  have kW1 : Hid (Blk w1 (w.heap.size + 1) 37 (arrW D)) := kW0.below hA0
  have k5 : Blk w0 (w.heap.size + 1 + 1 + 1 + 1 + 1) 42 #[.slice (some ⟨w.heap.size + 1 + 1 + 1, 0, none⟩) 1 1, .slice (some ⟨w.heap.size + 1 + 1 + 1 + 1, 0, none⟩) 1 1] := b5
  have k2 : Blk w0 (w.heap.size + 1 + 1) 3 #[.int .i64 0] := b2
  have hS : Reads w0 (.slice (some ⟨w.heap.size + 1 + 1, 0, none⟩) 1 1) [0] := by
    refine Or.inr ⟨w.heap.size + 1 + 1, 0, 1, rfl, k2.lt, by simp, ⟨by simp, by simp⟩, fun j hj => ?_⟩
    obtain rfl : j = 0 := by simp at hj; exact hj
    exact k2.cell 0
  have k6 : Blk w1 w0.heap.size 3 #[.int .i64 0] := a0
  have hS' : Reads w1 (.slice (some ⟨w0.heap.size, 0, none⟩) 1 1) [0] := by
    refine Or.inr ⟨w0.heap.size, 0, 1, rfl, k6.lt, by simp, ⟨by simp, by simp⟩, fun j hj => ?_⟩
    obtain rfl : j = 0 := by simp at hj; exact hj
    exact k6.cell 0
  have hR := alone_reads b3 hS b4
  have HR1 : Hid (ReadsA w1 (.slice (some ⟨w.heap.size + 1 + 1 + 1, 0, none⟩) 1 1) [⟨3, [0], [], 2⟩] ∧ Reads w1 (.slice (some ⟨w.heap.size + 1 + 1 + 1 + 1, 0, none⟩) 1 1) [0]) := ⟨hR.1.below hA0, hR.2.below hA0⟩
  have HR2 : Hid (ReadsA w1 (.slice (some ⟨w0.heap.size + 1, 0, none⟩) 1 1) [⟨3, [0], [], 1⟩] ∧ Reads w1 (.slice (some ⟨w0.heap.size + 1 + 1, 0, none⟩) 1 1) [0]) := alone_reads a1 hS' a2
  have x0 : w1.cell? ⟨w.heap.size + 1 + 1 + 1 + 1 + 1, 0, none⟩ = some (.slice (some ⟨w.heap.size + 1 + 1 + 1, 0, none⟩) 1 1) := (k5.below hA0).cell 0
  have x1 : w1.cell? ⟨w.heap.size + 1 + 1 + 1 + 1 + 1, 1, none⟩ = some (.slice (some ⟨w.heap.size + 1 + 1 + 1 + 1, 0, none⟩) 1 1) := (k5.below hA0).cell 1
  have k7 : Blk w1 (w0.heap.size + 1 + 1 + 1) 42 #[.slice (some ⟨w0.heap.size + 1, 0, none⟩) 1 1, .slice (some ⟨w0.heap.size + 1 + 1, 0, none⟩) 1 1] := a3
  have y0 : w1.cell? ⟨w0.heap.size + 1 + 1 + 1, 0, none⟩ = some (.slice (some ⟨w0.heap.size + 1, 0, none⟩) 1 1) := k7.cell 0
  have y1 : w1.cell? ⟨w0.heap.size + 1 + 1 + 1, 1, none⟩ = some (.slice (some ⟨w0.heap.size + 1 + 1, 0, none⟩) 1 1) := k7.cell 1
  have y2 : (w1.alloc (.cells #[.slice (some ⟨w.heap.size + 1 + 1 + 1, 0, none⟩) 1 1, .slice (some ⟨w.heap.size + 1 + 1 + 1 + 1, 0, none⟩) 1 1] 42)).cell? ⟨w0.heap.size + 1 + 1 + 1, 0, none⟩ = some (.slice (some ⟨w0.heap.size + 1, 0, none⟩) 1 1) := (k7.old _).cell 0
  have y3 : (w1.alloc (.cells #[.slice (some ⟨w.heap.size + 1 + 1 + 1, 0, none⟩) 1 1, .slice (some ⟨w.heap.size + 1 + 1 + 1 + 1, 0, none⟩) 1 1] 42)).cell? ⟨w0.heap.size + 1 + 1 + 1, 1, none⟩ = some (.slice (some ⟨w0.heap.size + 1 + 1, 0, none⟩) 1 1) := (k7.old _).cell 1
  have eZ : w0.heap.size = w.heap.size + 1 + 1 + 1 + 1 + 1 + 1 := by rw [hw0]; simp
  clear k2 k5 k6 k7 hS hS' hR b0 b1 b2 b3 b4 b5 a0 a1 a2 a3 hB0 hA0 kF0 kW0
  go_enter Tryd.func7, Tryd.ntmps7
  go_upto_region 2 with fail
  rw [← hw0]
  try rw [← eZ]
  clear hw0 eZ
  go_upto_region 3 with fail
  rw [← hw1]
  clear hw1
  have HS1 : Hid (ReadsF (w1.alloc (.cells #[.slice (some ⟨w.heap.size + 1 + 1 + 1, 0, none⟩) 1 1, .slice (some ⟨w.heap.size + 1 + 1 + 1 + 1, 0, none⟩) 1 1] 42)) (.slice (some ⟨w1.heap.size, 0, none⟩) 1 1) [⟨manyA 0 2, [0]⟩]) := one_form (Blk.new _ _ _) (HR1.out.1.below (below_alloc1 _ _)) (HR1.out.2.below (below_alloc1 _ _))
  go_wp2_with fail
  go_at_call 21
  refine (HOne.out _ _ _ _ (B1.out.alloc B1.out.size _) HS1.out (HR2.out.1.below (below_alloc1 _ _)) (HR2.out.2.below (below_alloc1 _ _))).mono ?_
  rintro e w2 ⟨rfl, hb'⟩
  have hb : Below w1.heap.size w1 w2 := (below_alloc1 _ _).trans (hb'.mono (by simp))
  have B2 : Hid (Below w.heap.size w w2) := B1.out.trans (hb.mono B1.out.size)
  have kF2 : Hid (Blk w2 w.heap.size 42 #[.slice ao M acap, .slice co nc ccap]) := kF1.out.below hb
  have kW2 : Hid (Blk w2 (w.heap.size + 1) 37 (arrW D)) := kW1.out.below hb
  clear hb hb' HR1 HR2 HS1 HOne x0 x1 y0 y1 y2 y3
  have x0 : w2.cell? ⟨w.heap.size, 0, none⟩ = some (.slice ao M acap) := kF2.out.cell 0
  have x1 : w2.cell? ⟨w.heap.size, 1, none⟩ = some (.slice co nc ccap) := kF2.out.cell 1
  go_wp2_with fail
  go_at_call 21
  refine (HOf.out _ B2.out).mono ?_
  rintro e w3 ⟨rfl, hb⟩
  have B3 : Hid (Below w.heap.size w w3) := B2.out.trans (hb.mono B2.out.size)
  have kF3 : Hid (Blk w3 w.heap.size 42 #[.slice ao M acap, .slice co nc ccap]) := kF2.out.below hb
  have kW3 : Hid (Blk w3 (w.heap.size + 1) 37 (arrW D)) := kW2.out.below hb
  clear hb x0 x1
  obtain ⟨bL, oL, cL, hv⟩ := HF.out.place (by rw [← HLn.out]; omega)
  obtain ⟨hlo, hx1, hx2⟩ := Value.slice.inj hv
  clear hx1 hx2
  subst hlo
  clear hv
  obtain ⟨d0, d1, d2, d3⟩ := kW3.out.cells4
  go_upto_block 0 with fail
  clear d0 d1 d2 d3
  obtain ⟨q0, hq0⟩ : ∃ q0, q0 = (D.u == u) := ⟨_, rfl⟩
  have HQ0 : Hid (q0 = true → D.u = u) := fun h => by rw [hq0] at h; simpa using h
  rw [← hq0]
  clear hq0
  go_cut [15, 16, 17, 18] from 74 (fun r _ _ _ wx => (∃ b : Bool, r = .bool b ∧ (b = true → D.u = u ∧ ∀ j, j < n → ∀ f, fs[j]? = some f → D.formIs f.ats f.c = true)) ∧ Below w3.heap.size w3 wx)
  case first =>
    go_wp2_with fail
    go_loopw [15, 16, 17, 18] (fun r i _ _ wr => ∃ (b : Bool) (k : Nat), k ≤ n ∧ r = .bool b ∧ i = .int .i64 k ∧ (b = true → D.u = u ∧ ∀ j, j < k → ∀ f, fs[j]? = some f → D.formIs f.ats f.c = true) ∧ Below w3.heap.size w3 wr) (fun _ i _ _ _ => n - (intOf i).toNat)
    case atStart => exact ⟨q0, 0, Nat.zero_le _, rfl, rfl, fun h => ⟨HQ0.out h, fun j hj => by omega⟩, Below.refl _ _⟩
    case round =>
      obtain ⟨b, k, hk, rfl, rfl, hso, hbr⟩ := hrel
      have HBr : Hid (Below w3.heap.size w3 wr) := hbr
      have HBw : Hid (Below w.heap.size w wr) := B3.out.trans (hbr.mono B3.out.size)
      have HSo : Hid (b = true → D.u = u ∧ ∀ j, j < k → ∀ f, fs[j]? = some f → D.formIs f.ats f.c = true) := hso
      clear hbr hso
      by_cases hlt : k < n
      · obtain ⟨f, hf⟩ : ∃ f, fs[k]? = some f := ⟨_, List.getElem?_eq_getElem (by rw [← HLn.out]; exact hlt)⟩
        have HFk : Hid (fs[k]? = some f) := hf
        obtain ⟨hbL, va, vc, c0, c1, hA, hC⟩ := HF.out.at hf
        obtain ⟨fo, fcap, rfl, _⟩ := hA.slice
        obtain ⟨go, gcap, rfl, _⟩ := hC.slice
        have x0 : wr.cell? ⟨bL, oL + k * 2, none⟩ = some (.slice fo f.ats.length fcap) := (HBw.out.cell hbL).trans c0
        have x1 : wr.cell? ⟨bL, oL + k * 2 + 1, none⟩ = some (.slice go f.c.length gcap) := (HBw.out.cell hbL).trans c1
        have HT1 : Hid (∀ W, Below wr.heap.size wr W → Calls Tryd.prog 16 #[.agg #[.slice fo f.ats.length fcap, .slice go f.c.length gcap], .agg #[.int .i64 D.u, .int .i64 D.a, .int .i64 D.b, .int .i64 D.c]] W fun e w' => e = .returned (.tuple #[.bool (D.formIs f.ats f.c), errV (D.formFault f.ats f.c)]) ∧ Below wr.heap.size wr w') := fun W hW => by
          have hb' := HBw.out.trans (hW.mono HBw.out.size)
          exact (HHo.out k f _ _ hf W hb' (hA.below hb') (hC.below hb')).mono fun e w' ⟨he, hb⟩ => ⟨he, hW.trans (hb.mono hW.size)⟩
        obtain ⟨q, hq⟩ : ∃ q, q = D.formIs f.ats f.c := ⟨_, rfl⟩
        have HQ : Hid (q = D.formIs f.ats f.c) := hq
        obtain ⟨ev, hev⟩ : ∃ ev, ev = errV (D.formFault f.ats f.c) := ⟨_, rfl⟩
        have HEv : Hid (ev = .nilIface ∨ ∃ m, ev = .iface 64 (.int .i64 m)) := by
          unfold Hid
          rw [hev]
          by_cases h : D.formFault f.ats f.c = 0
          · left; rw [h]; rfl
          · right; exact ⟨_, errV_no h⟩
        rw [← hq, ← hev] at HT1
        obtain ⟨al, hal⟩ : ∃ x, x = f.ats.length := ⟨_, rfl⟩
        obtain ⟨cl, hcl⟩ : ∃ x, x = f.c.length := ⟨_, rfl⟩
        rw [← hal] at x0 HT1
        rw [← hcl] at x1 HT1
        obtain ⟨d0, d1, d2, d3⟩ := (kW3.out.below HBr.out).cells4
        clear hf hbL c0 c1 hA hC hq hal hcl hev
        have hkn : (k : Int) < (n : Int) := by omega
        go_upto_region 13 with fail
        go_cut [17, 18] from 80 to 96 (fun x y wx => x = .bool q ∧ y = ev ∧ Below wr.heap.size wr wx)
        case first =>
          go_region_with (go_at_call 16; refine (HT1.out _ (by first | exact Below.drew (Below.refl _ _) | exact Below.refl _ _)).mono ?_; rintro e w8 ⟨rfl, hb8⟩)
          all_goals (try go_wp2)
          all_goals go_meet
          all_goals exact ⟨rfl, rfl, hb8⟩
        case rest =>
          obtain ⟨rfl, rfl, hbc⟩ := hcut
          obtain ⟨wf, hwf⟩ : ∃ x, x = wc := ⟨_, rfl⟩
          subst hwf
          have HBf : Hid (Below w3.heap.size w3 wf) := HBr.out.trans (hbc.mono HBr.out.size)
          clear hbc x0 x1 d0 d1 d2 d3
          cases b with
          | true =>
            rcases HEv.out with rfl | ⟨m, rfl⟩
            · have HS1 : Hid (q = true → D.u = u ∧ ∀ j, j < k + 1 → ∀ f, fs[j]? = some f → D.formIs f.ats f.c = true) := fun hqt => ⟨(HSo.out rfl).1, fun j hj g hg => by
                rcases Nat.lt_or_ge j k with h | h
                · exact (HSo.out rfl).2 j h g hg
                · obtain rfl : j = k := by omega
                  rw [← Option.some.inj (HFk.out.symm.trans hg), ← HQ.out]
                  exact hqt⟩
              clear HQ HEv
              go_wp2
              go_roundw
              case rel => exact ⟨q, k + 1, by omega, rfl, by go_num, HS1.out, HBf.out⟩
              case measure => simp [intOf]; omega
            · clear HQ HEv
              go_wp2
              go_roundw
              case rel => exact ⟨false, k + 1, by omega, rfl, by go_num, fun h => absurd h (by decide), HBf.out⟩
              case measure => simp [intOf]; omega
          | false =>
            clear HQ HEv
            go_wp2
            go_roundw
            case rel => exact ⟨false, k + 1, by omega, rfl, by go_num, fun h => absurd h (by decide), HBf.out⟩
            case measure => simp [intOf]; omega
      · obtain rfl : k = n := by omega
        go_wp2_with fail
        go_meet
        case rel => exact ⟨⟨b, rfl, HSo.out⟩, HBr.out⟩
  case rest =>
  obtain ⟨⟨b, rfl, hso⟩, hb⟩ := hcut
  have HSo : Hid (b = true → D.u = u ∧ ∀ j, j < n → ∀ f, fs[j]? = some f → D.formIs f.ats f.c = true) := hso
  obtain ⟨w4, hw4⟩ : ∃ x, x = wc := ⟨_, rfl⟩
  subst hw4
  have B4 : Hid (Below w.heap.size w w4) := B3.out.trans (hb.mono B3.out.size)
  have kF4 : Hid (Blk w4 w.heap.size 42 #[.slice ao M acap, .slice co nc ccap]) := kF3.out.below hb
  have kW4 : Hid (Blk w4 (w.heap.size + 1) 37 (arrW D)) := kW3.out.below hb
  clear hb hso
  have x0 : w4.cell? ⟨w.heap.size, 0, none⟩ = some (.slice ao M acap) := kF4.out.cell 0
  have x1 : w4.cell? ⟨w.heap.size, 1, none⟩ = some (.slice co nc ccap) := kF4.out.cell 1
  obtain ⟨d0, d1, d2, d3⟩ := kW4.out.cells4
  go_wp2_with fail
  go_at_call 16
  refine (HHf.out _ B4.out).mono ?_
  rintro e w5 ⟨rfl, hb⟩
  have B5 : Hid (Below w.heap.size w w5) := B4.out.trans (hb.mono B4.out.size)
  have kF5 : Hid (Blk w5 w.heap.size 42 #[.slice ao M acap, .slice co nc ccap]) := kF4.out.below hb
  have kW5 : Hid (Blk w5 (w.heap.size + 1) 37 (arrW D)) := kW4.out.below hb
  clear hb x0 x1 d0 d1 d2 d3
  go_upto_region 16 with fail
  go_cut [122] from 103 (fun q wx => q = .bool false ∧ wx = w5)
  case first =>
    rcases HKH.out with hE | ⟨m, hE⟩
    · cases b with
      | true =>
        obtain ⟨g1, g2⟩ := HAll.out hE (HSo.out rfl).1 (HSo.out rfl).2
        have HG : Hid ((N = 1 → h = true) ∧ (N = -1 → h = false)) := ⟨g1, g2⟩
        clear g1 g2 HAll HKH
        subst hE
        by_cases c1 : N = 1
        · have d1 : (N == 1) = true := by simp [c1]
          have d2 : (N == -1) = false := by simp; omega
          have hh := HG.out.1 c1
          clear c1 HG
          subst hh
          go_wp2_with fail
          go_meet
          case rel => exact ⟨rfl, rfl⟩
        · have d1 : (N == 1) = false := by simp [c1]
          by_cases c2 : N = -1
          · have d2 : (N == -1) = true := by simp [c2]
            have hh := HG.out.2 c2
            clear c1 c2 HG
            subst hh
            go_wp2_with fail
            go_meet
            case rel => exact ⟨rfl, rfl⟩
          · have d2 : (N == -1) = false := by simp [c2]
            clear c1 c2 HG
            go_wp2_with fail
            go_meet
            case rel => exact ⟨rfl, rfl⟩
      | false =>
        clear HAll HKH
        subst hE
        go_wp2_with fail
        go_meet
        case rel => exact ⟨rfl, rfl⟩
    · clear HAll HKH
      subst hE
      go_wp2_with fail
      go_meet
      case rel => exact ⟨rfl, rfl⟩
  case rest =>
  obtain ⟨rfl, hwx⟩ := hcut
  rw [hwx]
  clear hwx HSo
  obtain ⟨f0, hf0⟩ : ∃ f, fs[0]? = some f := ⟨_, List.getElem?_eq_getElem (by rw [← HLn.out]; omega)⟩
  obtain ⟨hbL, va, vc, c0, c1, hA, hC⟩ := HF.out.at hf0
  obtain ⟨fo, fcap, rfl, _⟩ := hA.slice
  obtain ⟨go, gcap, rfl, _⟩ := hC.slice
  have x0 : w5.cell? ⟨bL, oL, none⟩ = some (.slice fo f0.ats.length fcap) := by
    have := (B5.out.cell hbL).trans c0
    simpa using this
  have x1 : w5.cell? ⟨bL, oL + 1, none⟩ = some (.slice go f0.c.length gcap) := by
    have := (B5.out.cell hbL).trans c1
    simpa using this
  have HA0 : Hid (Calls Tryd.prog 21 #[.slice (some ⟨bL, oL, none⟩) n lcap, .agg #[.slice fo f0.ats.length fcap, .slice go f0.c.length gcap], .int .i64 u] w5 fun e w' => e = .returned (.tuple #[.int .i64 1, .nilIface]) ∧ Below w5.heap.size w5 w') := HOf0.out f0 _ _ hf0 w5 B5.out (hA.below B5.out) (hC.below B5.out)
  obtain ⟨al, hal⟩ : ∃ x, x = f0.ats.length := ⟨_, rfl⟩
  obtain ⟨cl, hcl⟩ : ∃ x, x = f0.c.length := ⟨_, rfl⟩
  rw [← hal] at x0 HA0
  rw [← hcl] at x1 HA0
  clear hal hcl hbL c0 c1 hA hC hf0
  have hn0 : (0 : Int) < (n : Int) := by omega
  go_wp2_with fail
  go_at_call 21
  refine HA0.out.mono ?_
  rintro e w6 ⟨rfl, hb⟩
  have B6 : Hid (Below w.heap.size w w6) := B5.out.trans (hb.mono B5.out.size)
  have kF6 : Hid (Blk w6 w.heap.size 42 #[.slice ao M acap, .slice co nc ccap]) := kF5.out.below hb
  clear hb x0 x1 HA0
  have x0 : w6.cell? ⟨w.heap.size, 0, none⟩ = some (.slice ao M acap) := kF6.out.cell 0
  have x1 : w6.cell? ⟨w.heap.size, 1, none⟩ = some (.slice co nc ccap) := kF6.out.cell 1
  go_wp2_with fail
  go_at_call 23
  refine (HNg.out _ B6.out).mono ?_
  rintro e w7 ⟨hor, hb⟩
  have B7 : Hid (Below w.heap.size w w7) := B6.out.trans (hb.mono B6.out.size)
  clear hb x0 x1
  rcases hor with ⟨o1, l1', q1, o2, l2, q2, g, rfl, ⟨hg1, hg2⟩, hAs, hOp⟩ | ⟨m, rfl⟩
  · have HGr : Hid (ReadsA w7 (.slice o1 l1' q1) g.ats ∧ Reads w7 (.slice o2 l2 q2) g.c) := ⟨hg1, hg2⟩
    have HAs : Hid (∀ W', Below w7.heap.size w7 W' → Calls Tryd.prog 21 #[.slice (some ⟨bL, oL, none⟩) n lcap, .agg #[.slice o1 l1' q1, .slice o2 l2 q2], .int .i64 u] W' fun e' w'' => e' = .returned (.tuple #[.int .i64 (-N), .nilIface]) ∧ Below W'.heap.size W' w'') := hAs
    have HOp : Hid (∀ W' v, Below w.heap.size w W' → n ≤ 5 → ReadsF W' v (fs ++ [g]) → Calls Tryd.prog 11 #[v, .int .i64 u] W' fun e' w'' => e' = .returned (.tuple #[.bool O, .nilIface]) ∧ Below W'.heap.size W' w'') := hOp
    clear hg1 hg2 hAs hOp
    obtain ⟨G, hG⟩ : ∃ G, G = w7.heap.size := ⟨_, rfl⟩
    obtain ⟨w8, hw8⟩ : ∃ x, x = w7.alloc (.cells #[.slice o1 l1' q1, .slice o2 l2 q2] 42) := ⟨_, rfl⟩
    have B78 : Hid (Below w7.heap.size w7 w8) := by unfold Hid; rw [hw8]; exact below_alloc1 _ _
    have B8 : Hid (Below w.heap.size w w8) := B7.out.trans (B78.out.mono B7.out.size)
    have kN8 : Hid (Blk w8 G 42 #[.slice o1 l1' q1, .slice o2 l2 q2]) := by unfold Hid; rw [hw8, hG]; exact Blk.new _ _ _
    go_upto_region 22 with fail
    rw [← hw8, ← hG]
    clear hw8 hG
    have x0 : w8.cell? ⟨G, 0, none⟩ = some (.slice o1 l1' q1) := kN8.out.cell 0
    have x1 : w8.cell? ⟨G, 1, none⟩ = some (.slice o2 l2 q2) := kN8.out.cell 1
    go_wp2_with fail
    go_at_call 21
    refine (HAs.out _ B78.out).mono ?_
    rintro e w9 ⟨rfl, hb⟩
    have B9 : Hid (Below w.heap.size w w9) := B8.out.trans (hb.mono B8.out.size)
    have B79 : Hid (Below w7.heap.size w7 w9) := B78.out.trans (hb.mono B78.out.size)
    have kN9 : Hid (Blk w9 G 42 #[.slice o1 l1' q1, .slice o2 l2 q2]) := kN8.out.below hb
    clear hb x0 x1
    by_cases h6 : n = 6
    · have d6 : ((n : Int) == 6) = true := by simp; omega
      clear h6
      go_wp2
      go_ret
      exact ⟨rfl, B9.out⟩
    · have d6 : ((n : Int) == 6) = false := by simp; omega
      have hn5 : n ≤ 5 := by omega
      clear h6
      obtain ⟨xs, hcx, hxs⟩ := forms_cells HLn.out HF.out
      have HXs : Hid (CellsF w xs fs) := hcx
      have hbL : bL < w.heap.size := (HF.out.at (List.getElem?_eq_getElem (i := 0) (by rw [← HLn.out]; omega))).1
      have HXc : Hid (∀ j u, xs[j]? = some u → w9.cell? ⟨bL, oL + j, none⟩ = some u) := fun j u hj => (B9.out.cell hbL).trans (hxs j u hj)
      have HXl : Hid (xs.length = n * 2 ∧ ∀ u ∈ xs, u.oneCell' = true) := ⟨by rw [HLn.out]; exact hcx.1, hcx.2.1⟩
      clear hcx hxs hbL
      go_upto_region 30 with fail
      go_wp2_with (at_builtin; refine append_forms rfl _ _ rfl w9.heap.size (.slice none 0 0) rfl 0 [] xs n lcap bL oL rfl (World.ownsRow_nil _ _ _ _) HXl.out.1 HXl.out.2 HXc.out (Nat.le_refl _) (by omega) ?_)
      intro v10 w10 hown hgrow
      have hB10 : Below w9.heap.size w9 w10 := (Below.refl _ _).grown hgrow (Nat.le_refl _) (fun x hx => by simp [Value.ownBlock] at hx)
      have B10 : Hid (Below w.heap.size w w10) := B9.out.trans (hB10.mono B9.out.size)
      have B910 : Hid (Below w9.heap.size w9 w10) := hB10
      have HOw : Hid (w10.ownsRow w9.heap.size 42 2 v10 n xs) := by unfold Hid; simpa using hown
      have kN10 : Hid (Blk w10 G 42 #[.slice o1 l1' q1, .slice o2 l2 q2]) := kN9.out.below hB10
      clear hown hgrow hB10
      have x0 : w10.cell? ⟨G, 0, none⟩ = some (.slice o1 l1' q1) := kN10.out.cell 0
      have x1 : w10.cell? ⟨G, 1, none⟩ = some (.slice o2 l2 q2) := kN10.out.cell 1
      have HSz : Hid (w9.heap.size ≤ w10.heap.size) := B910.out.size
      go_upto_region 31 with fail
      have HCn : Hid (∀ j u, [Value.slice o1 l1' q1, Value.slice o2 l2 q2][j]? = some u → (w10.alloc (.cells #[.slice o1 l1' q1, .slice o2 l2 q2] 42)).cell? ⟨w10.heap.size, 0 + j, none⟩ = some u) := fun j u hj => by
        have k : Blk (w10.alloc (.cells #[.slice o1 l1' q1, .slice o2 l2 q2] 42)) w10.heap.size 42 #[.slice o1 l1' q1, .slice o2 l2 q2] := Blk.new _ _ _
        rw [k.cell (0 + j), Nat.zero_add]
        simpa using hj
      go_wp2_with (at_builtin; refine append_forms rfl _ _ rfl w9.heap.size v10 rfl n xs [.slice o1 l1' q1, .slice o2 l2 q2] 1 1 w10.heap.size 0 rfl (HOw.out.alloc _) rfl (by intro u hu; simp at hu; rcases hu with rfl | rfl <;> rfl) HCn.out (by have := HSz.out; simp; omega) (by omega) ?_)
      intro v11 w11 hown hgrow
      have hBa : Below w9.heap.size w9 (w10.alloc (.cells #[.slice o1 l1' q1, .slice o2 l2 q2] 42)) := B910.out.alloc B910.out.size _
      have hB11 : Below w9.heap.size w9 w11 := hBa.grown hgrow hBa.size (fun x hx => (HOw.out.lt x hx).1)
      have B11 : Hid (Below w.heap.size w w11) := B9.out.trans (hB11.mono B9.out.size)
      have HR11 : Hid (ReadsF w11 v11 (fs ++ [g])) := by
        have hb7 : Below w7.heap.size w7 w11 := B79.out.trans (hB11.mono B79.out.size)
        refine own_readsF (by simp [HLn.out]) hown ((HXs.out.below B11.out).append (CellsF.one rfl rfl (HGr.out.1.below hb7) (HGr.out.2.below hb7))) (by have := HLn.out; simp; omega)
      clear hown hgrow hBa hB11 x0 x1
      have hO := HO.out
      go_wp2_with fail
      go_at_call 11
      refine (HOp.out _ _ B11.out hn5 HR11.out).mono ?_
      rintro e w12 ⟨rfl, hb⟩
      have B12 : Hid (Below w.heap.size w w12) := B11.out.trans (hb.mono B11.out.size)
      clear hb
      go_wp2
      go_ret
      exact ⟨rfl, B12.out⟩
  · go_wp2
    go_ret
    exact ⟨rfl, B7.out.alloc B7.out.size _⟩
end Go.Proofs.YtjaedfjfcghgcaaDoor
