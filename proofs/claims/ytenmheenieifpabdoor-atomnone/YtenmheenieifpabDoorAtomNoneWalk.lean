/-
  Proved: whatever the row of signs and the world, vennlaw4.AtomNone returns true, and what was in memory is as it was.
-/
import Derived.Test.YtenmheenieifpabDoorAtomHolds
namespace Go.Proofs.YtenmheenieifpabDoor
open Go.ChangeShapes Go.WideShapes Go.ChangeAt Go.RowKit
set_option maxRecDepth 100000

set_option maxHeartbeats 2000000 in
theorem atomNone_bad (b1 b2 b3 b4 : Bool) (f1 f3 f4 : Int) (E2 : Value) (ao : Option Addr) (tl cap : Nat) (u a b c : Int) (w : World)
    (h1 : ∀ W, Below w.heap.size w W → Calls Tryd.prog 10 #[.agg #[.int .i64 3, .slice ao tl cap, .slice none 0 0, .int .i64 0], .agg #[.int .i64 u, .int .i64 a, .int .i64 b, .int .i64 c]] W fun e w' => e = .returned (.tuple #[.bool b1, (.iface 59 (.int .i64 f1))]) ∧ Below W.heap.size W w')
    (h2 : ∀ W, Below w.heap.size w W → Calls Tryd.prog 10 #[.agg #[.int .i64 4, .slice ao tl cap, .slice none 0 0, .int .i64 u], .agg #[.int .i64 u, .int .i64 a, .int .i64 b, .int .i64 c]] W fun e w' => e = .returned (.tuple #[.bool b2, E2]) ∧ Below W.heap.size W w')
    (h3 : ∀ W B, Below w.heap.size w W → B < W.heap.size → W.cell? ⟨B, 0, none⟩ = some (.int .i64 4) → Calls Tryd.prog 10 #[.agg #[.int .i64 1, .slice ao tl cap, .slice (some ⟨B, 0, none⟩) 1 1, .int .i64 0], .agg #[.int .i64 u, .int .i64 a, .int .i64 b, .int .i64 c]] W fun e w' => e = .returned (.tuple #[.bool b3, (.iface 59 (.int .i64 f3))]) ∧ Below W.heap.size W w')
    (h4 : ∀ W, Below w.heap.size w W → Calls Tryd.prog 10 #[.agg #[.int .i64 5, .slice ao tl cap, .slice ao tl cap, .int .i64 0], .agg #[.int .i64 u, .int .i64 a, .int .i64 b, .int .i64 c]] W fun e w' => e = .returned (.tuple #[.bool b4, (.iface 59 (.int .i64 f4))]) ∧ Below W.heap.size W w') :
    Calls Tryd.prog 4 #[.slice ao tl cap, .agg #[.int .i64 u, .int .i64 a, .int .i64 b, .int .i64 c]] w fun e w' => e = .returned (.bool true) ∧ Below w.heap.size w w' := by
  obtain ⟨w1, hw1⟩ : ∃ w1, w1 = w.alloc (.cells #[.int .i64 u, .int .i64 a, .int .i64 b, .int .i64 c] 25) := ⟨_, rfl⟩
  have HB1 : Hid (Below w.heap.size w w1) := by unfold Hid; rw [hw1]; exact below_alloc1 w _
  have HX : Hid (w1.cell? ⟨w.heap.size, 0, none⟩ = some (.int .i64 u) ∧ w1.cell? ⟨w.heap.size, 1, none⟩ = some (.int .i64 a) ∧ w1.cell? ⟨w.heap.size, 2, none⟩ = some (.int .i64 b) ∧ w1.cell? ⟨w.heap.size, 3, none⟩ = some (.int .i64 c)) := by unfold Hid; rw [hw1]; simp
  have HL : Hid (w.heap.size < w1.heap.size) := by unfold Hid; rw [hw1]; simp
  have HT : Hid (∀ W, Below w1.heap.size w1 W → Below w.heap.size w W) := fun W h => HB1.out.trans (h.mono HB1.out.size)
  have HX' : Hid (∀ W, Below w1.heap.size w1 W → W.cell? ⟨w.heap.size, 0, none⟩ = some (.int .i64 u) ∧ W.cell? ⟨w.heap.size, 1, none⟩ = some (.int .i64 a) ∧ W.cell? ⟨w.heap.size, 2, none⟩ = some (.int .i64 b) ∧ W.cell? ⟨w.heap.size, 3, none⟩ = some (.int .i64 c)) := fun W h => ⟨(h.cell HL.out).trans HX.out.1, (h.cell HL.out).trans HX.out.2.1, (h.cell HL.out).trans HX.out.2.2.1, (h.cell HL.out).trans HX.out.2.2.2⟩
  have H1 : Hid (∀ W, Below w1.heap.size w1 W → Calls Tryd.prog 10 #[.agg #[.int .i64 3, .slice ao tl cap, .slice none 0 0, .int .i64 0], .agg #[.int .i64 u, .int .i64 a, .int .i64 b, .int .i64 c]] W fun e w' => e = .returned (.tuple #[.bool b1, (.iface 59 (.int .i64 f1))]) ∧ Below W.heap.size W w') := fun W h => h1 W (HT.out W h)
  have H2 : Hid (∀ W, Below w1.heap.size w1 W → Calls Tryd.prog 10 #[.agg #[.int .i64 4, .slice ao tl cap, .slice none 0 0, .int .i64 u], .agg #[.int .i64 u, .int .i64 a, .int .i64 b, .int .i64 c]] W fun e w' => e = .returned (.tuple #[.bool b2, E2]) ∧ Below W.heap.size W w') := fun W h => h2 W (HT.out W h)
  have H3 : Hid (∀ W B, Below w1.heap.size w1 W → B < W.heap.size → W.cell? ⟨B, 0, none⟩ = some (.int .i64 4) → Calls Tryd.prog 10 #[.agg #[.int .i64 1, .slice ao tl cap, .slice (some ⟨B, 0, none⟩) 1 1, .int .i64 0], .agg #[.int .i64 u, .int .i64 a, .int .i64 b, .int .i64 c]] W fun e w' => e = .returned (.tuple #[.bool b3, (.iface 59 (.int .i64 f3))]) ∧ Below W.heap.size W w') := fun W B h => h3 W B (HT.out W h)
  have H4 : Hid (∀ W, Below w1.heap.size w1 W → Calls Tryd.prog 10 #[.agg #[.int .i64 5, .slice ao tl cap, .slice ao tl cap, .int .i64 0], .agg #[.int .i64 u, .int .i64 a, .int .i64 b, .int .i64 c]] W fun e w' => e = .returned (.tuple #[.bool b4, (.iface 59 (.int .i64 f4))]) ∧ Below W.heap.size W w') := fun W h => h4 W (HT.out W h)
  clear h1 h2 h3 h4
  obtain ⟨x0, x1, x2, x3⟩ := HX.out
  go_enter Tryd.func4, Tryd.ntmps4
  go_wp2_with fail
  rw [← hw1]
  clear hw1
  go_wp2_with fail
  go_at_call 10
  refine (H1.out _ (Below.refl _ _)).mono ?_
  rintro e w2 ⟨rfl, hb⟩
  have HZ2 : Hid (Below w1.heap.size w1 w2) := hb
  clear hb x0 x1 x2 x3
  obtain ⟨x0, x1, x2, x3⟩ := HX'.out _ HZ2.out
  go_wp2_with fail
  go_at_call 10
  refine (H2.out _ HZ2.out).mono ?_
  rintro e w3 ⟨rfl, hb⟩
  have HZ3 : Hid (Below w1.heap.size w1 w3) := HZ2.out.trans (hb.mono HZ2.out.size)
  clear hb x0 x1 x2 x3
  obtain ⟨x0, x1, x2, x3⟩ := HX'.out _ (HZ3.out.alloc HZ3.out.size (.cells #[.int .i64 4] 3))
  go_wp2_with fail
  go_at_call 10
  refine (H3.out _ _ (HZ3.out.alloc HZ3.out.size _) (by simp) (by simp)).mono ?_
  rintro e w5 ⟨rfl, hb⟩
  have HZ5 : Hid (Below w1.heap.size w1 w5) := (HZ3.out.alloc HZ3.out.size _).trans (hb.mono (HZ3.out.alloc HZ3.out.size _).size)
  clear hb x0 x1 x2 x3
  obtain ⟨x0, x1, x2, x3⟩ := HX'.out _ HZ5.out
  go_wp2_with fail
  go_at_call 10
  refine (H4.out _ HZ5.out).mono ?_
  rintro e w6 ⟨rfl, hb⟩
  have HZ6 : Hid (Below w1.heap.size w1 w6) := HZ5.out.trans (hb.mono HZ5.out.size)
  clear hb x0 x1 x2 x3
  go_wp2
  go_ret
  exact ⟨rfl, HT.out _ HZ6.out⟩

set_option maxHeartbeats 2000000 in
theorem atomNone_good  (ao : Option Addr) (tl cap : Nat) (u a b c : Int) (w : World)
    (h1 : ∀ W, Below w.heap.size w W → Calls Tryd.prog 10 #[.agg #[.int .i64 3, .slice ao tl cap, .slice none 0 0, .int .i64 0], .agg #[.int .i64 u, .int .i64 a, .int .i64 b, .int .i64 c]] W fun e w' => e = .returned (.tuple #[.bool true, .nilIface]) ∧ Below W.heap.size W w')
    (h2 : ∀ W, Below w.heap.size w W → Calls Tryd.prog 10 #[.agg #[.int .i64 4, .slice ao tl cap, .slice none 0 0, .int .i64 u], .agg #[.int .i64 u, .int .i64 a, .int .i64 b, .int .i64 c]] W fun e w' => e = .returned (.tuple #[.bool true, .nilIface]) ∧ Below W.heap.size W w')
    (h3 : ∀ W B, Below w.heap.size w W → B < W.heap.size → W.cell? ⟨B, 0, none⟩ = some (.int .i64 4) → Calls Tryd.prog 10 #[.agg #[.int .i64 1, .slice ao tl cap, .slice (some ⟨B, 0, none⟩) 1 1, .int .i64 0], .agg #[.int .i64 u, .int .i64 a, .int .i64 b, .int .i64 c]] W fun e w' => e = .returned (.tuple #[.bool true, .nilIface]) ∧ Below W.heap.size W w')
    (h4 : ∀ W, Below w.heap.size w W → Calls Tryd.prog 10 #[.agg #[.int .i64 5, .slice ao tl cap, .slice ao tl cap, .int .i64 0], .agg #[.int .i64 u, .int .i64 a, .int .i64 b, .int .i64 c]] W fun e w' => e = .returned (.tuple #[.bool true, .nilIface]) ∧ Below W.heap.size W w') :
    Calls Tryd.prog 4 #[.slice ao tl cap, .agg #[.int .i64 u, .int .i64 a, .int .i64 b, .int .i64 c]] w fun e w' => e = .returned (.bool true) ∧ Below w.heap.size w w' := by
  obtain ⟨w1, hw1⟩ : ∃ w1, w1 = w.alloc (.cells #[.int .i64 u, .int .i64 a, .int .i64 b, .int .i64 c] 25) := ⟨_, rfl⟩
  have HB1 : Hid (Below w.heap.size w w1) := by unfold Hid; rw [hw1]; exact below_alloc1 w _
  have HX : Hid (w1.cell? ⟨w.heap.size, 0, none⟩ = some (.int .i64 u) ∧ w1.cell? ⟨w.heap.size, 1, none⟩ = some (.int .i64 a) ∧ w1.cell? ⟨w.heap.size, 2, none⟩ = some (.int .i64 b) ∧ w1.cell? ⟨w.heap.size, 3, none⟩ = some (.int .i64 c)) := by unfold Hid; rw [hw1]; simp
  have HL : Hid (w.heap.size < w1.heap.size) := by unfold Hid; rw [hw1]; simp
  have HT : Hid (∀ W, Below w1.heap.size w1 W → Below w.heap.size w W) := fun W h => HB1.out.trans (h.mono HB1.out.size)
  have HX' : Hid (∀ W, Below w1.heap.size w1 W → W.cell? ⟨w.heap.size, 0, none⟩ = some (.int .i64 u) ∧ W.cell? ⟨w.heap.size, 1, none⟩ = some (.int .i64 a) ∧ W.cell? ⟨w.heap.size, 2, none⟩ = some (.int .i64 b) ∧ W.cell? ⟨w.heap.size, 3, none⟩ = some (.int .i64 c)) := fun W h => ⟨(h.cell HL.out).trans HX.out.1, (h.cell HL.out).trans HX.out.2.1, (h.cell HL.out).trans HX.out.2.2.1, (h.cell HL.out).trans HX.out.2.2.2⟩
  have H1 : Hid (∀ W, Below w1.heap.size w1 W → Calls Tryd.prog 10 #[.agg #[.int .i64 3, .slice ao tl cap, .slice none 0 0, .int .i64 0], .agg #[.int .i64 u, .int .i64 a, .int .i64 b, .int .i64 c]] W fun e w' => e = .returned (.tuple #[.bool true, .nilIface]) ∧ Below W.heap.size W w') := fun W h => h1 W (HT.out W h)
  have H2 : Hid (∀ W, Below w1.heap.size w1 W → Calls Tryd.prog 10 #[.agg #[.int .i64 4, .slice ao tl cap, .slice none 0 0, .int .i64 u], .agg #[.int .i64 u, .int .i64 a, .int .i64 b, .int .i64 c]] W fun e w' => e = .returned (.tuple #[.bool true, .nilIface]) ∧ Below W.heap.size W w') := fun W h => h2 W (HT.out W h)
  have H3 : Hid (∀ W B, Below w1.heap.size w1 W → B < W.heap.size → W.cell? ⟨B, 0, none⟩ = some (.int .i64 4) → Calls Tryd.prog 10 #[.agg #[.int .i64 1, .slice ao tl cap, .slice (some ⟨B, 0, none⟩) 1 1, .int .i64 0], .agg #[.int .i64 u, .int .i64 a, .int .i64 b, .int .i64 c]] W fun e w' => e = .returned (.tuple #[.bool true, .nilIface]) ∧ Below W.heap.size W w') := fun W B h => h3 W B (HT.out W h)
  have H4 : Hid (∀ W, Below w1.heap.size w1 W → Calls Tryd.prog 10 #[.agg #[.int .i64 5, .slice ao tl cap, .slice ao tl cap, .int .i64 0], .agg #[.int .i64 u, .int .i64 a, .int .i64 b, .int .i64 c]] W fun e w' => e = .returned (.tuple #[.bool true, .nilIface]) ∧ Below W.heap.size W w') := fun W h => h4 W (HT.out W h)
  clear h1 h2 h3 h4
  obtain ⟨x0, x1, x2, x3⟩ := HX.out
  go_enter Tryd.func4, Tryd.ntmps4
  go_wp2_with fail
  rw [← hw1]
  clear hw1
  go_wp2_with fail
  go_at_call 10
  refine (H1.out _ (Below.refl _ _)).mono ?_
  rintro e w2 ⟨rfl, hb⟩
  have HZ2 : Hid (Below w1.heap.size w1 w2) := hb
  clear hb x0 x1 x2 x3
  obtain ⟨x0, x1, x2, x3⟩ := HX'.out _ HZ2.out
  go_wp2_with fail
  go_at_call 10
  refine (H2.out _ HZ2.out).mono ?_
  rintro e w3 ⟨rfl, hb⟩
  have HZ3 : Hid (Below w1.heap.size w1 w3) := HZ2.out.trans (hb.mono HZ2.out.size)
  clear hb x0 x1 x2 x3
  obtain ⟨x0, x1, x2, x3⟩ := HX'.out _ (HZ3.out.alloc HZ3.out.size (.cells #[.int .i64 4] 3))
  go_wp2_with fail
  go_at_call 10
  refine (H3.out _ _ (HZ3.out.alloc HZ3.out.size _) (by simp) (by simp)).mono ?_
  rintro e w5 ⟨rfl, hb⟩
  have HZ5 : Hid (Below w1.heap.size w1 w5) := (HZ3.out.alloc HZ3.out.size _).trans (hb.mono (HZ3.out.alloc HZ3.out.size _).size)
  clear hb x0 x1 x2 x3
  obtain ⟨x0, x1, x2, x3⟩ := HX'.out _ HZ5.out
  go_wp2_with fail
  go_at_call 10
  refine (H4.out _ HZ5.out).mono ?_
  rintro e w6 ⟨rfl, hb⟩
  have HZ6 : Hid (Below w1.heap.size w1 w6) := HZ5.out.trans (hb.mono HZ5.out.size)
  clear hb x0 x1 x2 x3
  go_wp2
  go_ret
  exact ⟨rfl, HT.out _ HZ6.out⟩


theorem fault_all : faultN [4] = 0 := by decide
theorem reads_all {W : World} {B : Nat} (hB : B < W.heap.size) (h : W.cell? ⟨B, 0, none⟩ = some (.int .i64 4)) : Reads W (.slice (some ⟨B, 0, none⟩) 1 1) [4] :=
  Or.inr ⟨B, 0, 1, rfl, hB, by decide, ⟨by decide, by decide⟩, fun k hk => by
    obtain rfl : k = 0 := by simp at hk; omega
    exact h⟩
theorem reads_nil (W : World) : Reads W (.slice none 0 0) [] := Or.inl ⟨none, 0, rfl, rfl⟩
theorem val_all {w : Wd} (h : w.ok = true) : w.val [4] = allN w.u := by
  have h0 := ok_u h
  show lessN (allN w.u) 0 = allN w.u
  have := uptoSets (P := fun u _ _ => lessN (allN u) 0 = allN u) (by decide +kernel) w.u 0 0 (ok_zero h0.1 h0.2) (ok_zero h0.1 h0.2)
  exact this

theorem atomNone_walk (t : List Int) (v : Value) (u a b c : Int) (w : World) (hR : Reads w v t) (hK : KindsLaid w) :
    Calls Tryd.prog 4 #[v, .agg #[.int .i64 u, .int .i64 a, .int .i64 b, .int .i64 c]] w fun e w' => e = .returned (.bool true) ∧ Below w.heap.size w w' := by
  have g1 := fun (W : World) (h : Below w.heap.size w W) => aholds_any 3 0 v (.slice none 0 0) t [] u a b c W (hR.below h) (reads_nil W) (hK.below h)
  have g2 := fun (W : World) (h : Below w.heap.size w W) => aholds_any 4 u v (.slice none 0 0) t [] u a b c W (hR.below h) (reads_nil W) (hK.below h)
  have g3 := fun (W : World) (B : Nat) (h : Below w.heap.size w W) (hB : B < W.heap.size) (hc : W.cell? ⟨B, 0, none⟩ = some (.int .i64 4)) => aholds_any 1 0 v (.slice (some ⟨B, 0, none⟩) 1 1) t [4] u a b c W (hR.below h) (reads_all hB hc) (hK.below h)
  have g4 := fun (W : World) (h : Below w.heap.size w W) => aholds_any 5 0 v v t t u a b c W (hR.below h) (hR.below h) (hK.below h)
  obtain ⟨ao, cap, rfl, _⟩ := hR.slice
  by_cases hf : faultN t = 0
  · have a1 : atomFault 3 t [] 0 = 0 := atomFault_zero.2 ⟨by decide, hf, by decide, by decide, by decide⟩
    have a3 : atomFault 1 t [4] 0 = 0 := atomFault_zero.2 ⟨by decide, hf, by decide, by decide, by decide⟩
    have a4 : atomFault 5 t t 0 = 0 := atomFault_zero.2 ⟨by decide, hf, hf, by decide, by decide⟩
    by_cases hw : (Wd.mk u a b c).ok = true
    · have hu := ok_u hw
      have a2 : atomFault 4 t [] u = 0 := atomFault_zero.2 ⟨by decide, hf, by decide, by have : mostN 4 = 20 := rfl; simp only at hu; omega, by have : mostN 4 = 20 := rfl; simp only at hu; omega⟩
      have f0 : ∀ {k s t n}, atomFault k s t n = 0 → (Wd.mk u a b c).holdsFault k s t n = 0 := fun h => by unfold Wd.holdsFault; rw [if_pos h, if_pos hw]
      have f1 : ∀ {k s t n}, atomFault k s t n = 0 → (Wd.mk u a b c).holdsIs k s t n = saysB k n ((Wd.mk u a b c).val s) ((Wd.mk u a b c).snd k t) := fun h => by unfold Wd.holdsIs; rw [if_pos (f0 h)]; rfl
      have p1 := pcN_le ((Wd.mk u a b c).val t)
      have p2 := none_size hw t
      have p3 := none_all hw t
      simp only at p2 p3
      have s1 : saysB 3 0 ((Wd.mk u a b c).val t) ((Wd.mk u a b c).snd 3 []) = true := decide_eq_true p1.1
      have s2 : saysB 4 u ((Wd.mk u a b c).val t) ((Wd.mk u a b c).snd 4 []) = true := decide_eq_true p2
      have s3 : saysB 1 0 ((Wd.mk u a b c).val t) ((Wd.mk u a b c).snd 1 [4]) = true := by
        have : (Wd.mk u a b c).snd 1 [4] = allN u := val_all hw
        rw [this]
        exact decide_eq_true p3
      have s4 : saysB 5 0 ((Wd.mk u a b c).val t) ((Wd.mk u a b c).snd 5 t) = true := decide_eq_true (show pcN ((Wd.mk u a b c).val t) ≤ pcN ((Wd.mk u a b c).val t) + 0 by omega)
      rw [f1 a1, f0 a1, s1] at g1
      rw [f1 a2, f0 a2, s2] at g2
      rw [f1 a3, f0 a3, s3] at g3
      rw [f1 a4, f0 a4, s4] at g4
      exact atomNone_good ao _ cap u a b c w g1 g2 g3 g4
    · have f0 : ∀ {k s t n}, atomFault k s t n = 0 → errV ((Wd.mk u a b c).holdsFault k s t n) = .iface 59 (.int .i64 1) := fun h => by unfold Wd.holdsFault; rw [if_pos h, if_neg hw]; rfl
      rw [f0 a1] at g1
      rw [f0 a3] at g3
      rw [f0 a4] at g4
      exact atomNone_bad _ _ _ _ 1 1 1 _ ao _ cap u a b c w g1 g2 g3 g4
  · have f0 : ∀ {k n : Int} {x : List Int}, 1 ≤ k ∧ k ≤ 5 → errV ((Wd.mk u a b c).holdsFault k t x n) = .iface 59 (.int .i64 (faultN t)) := fun {k n x} hk => by
      have e := atomFault_first hk hf x n
      unfold Wd.holdsFault
      rw [e, if_neg hf, errV_no hf]
    rw [f0 (by decide)] at g1
    rw [f0 (by decide)] at g3
    rw [f0 (by decide)] at g4
    exact atomNone_bad _ _ _ _ _ _ _ _ ao _ cap u a b c w g1 g2 g3 g4

end Go.Proofs.YtenmheenieifpabDoor
