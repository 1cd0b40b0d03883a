/-
  Proved: vennlaw1.CubesSay returns true, in one of four cases; what was in memory is as it was. Written by program.
-/
import Derived.Test.YtenmheenieifpacDoorCubesSayOne
namespace Go.Proofs.YtenmheenieifpacDoor
open Go.ChangeShapes Go.WideShapes Go.ChangeAt Go.RowKit
set_option maxRecDepth 100000

set_option maxHeartbeats 16000000 in
theorem cubesSay_E (ao co : Option Addr) (acap ccap : Nat) (ats : List At) (c : List Int) (m n : Nat) (u a b d : Int) (w : World) (hA : ReadsA w (.slice ao m acap) ats) (hC : Reads w (.slice co n ccap) c) (hK : KindsLaid w) (hf : ¬ formFault ats c = 0) :
    Calls Tryd.prog 4 #[.agg #[.slice ao m acap, .slice co n ccap], .agg #[.int .i64 u, .int .i64 a, .int .i64 b, .int .i64 d]] w fun e w' => e = .returned (.bool true) ∧ Below w.heap.size w w' := by
  obtain ⟨w1, hw1⟩ : ∃ w1, w1 = (w.alloc (.cells #[.slice ao m acap, .slice co n ccap] 25)).alloc (.cells #[.int .i64 u, .int .i64 a, .int .i64 b, .int .i64 d] 28) := ⟨_, rfl⟩
  have HB1 : Hid (Below w.heap.size w w1) := by unfold Hid; rw [hw1]; exact (below_alloc1 _ _).trans ((below_alloc1 _ _).mono (by simp))
  have HS1 : Hid (w1.heap.size = w.heap.size + 2) := by unfold Hid; rw [hw1]; simp
  have HX : Hid (∀ W, Below w1.heap.size w1 W → (W.cell? ⟨w.heap.size, 0, none⟩ = some (.slice ao m acap) ∧ W.cell? ⟨w.heap.size, 1, none⟩ = some (.slice co n ccap)) ∧ (W.cell? ⟨w.heap.size + 1, 0, none⟩ = some (.int .i64 u) ∧ W.cell? ⟨w.heap.size + 1, 1, none⟩ = some (.int .i64 a) ∧ W.cell? ⟨w.heap.size + 1, 2, none⟩ = some (.int .i64 b) ∧ W.cell? ⟨w.heap.size + 1, 3, none⟩ = some (.int .i64 d))) := fun W hc => by
    have l0 : w.heap.size < w1.heap.size := by have := HS1.out; omega
    have l1 : w.heap.size + 1 < w1.heap.size := by have := HS1.out; omega
    have e0 : ∀ j, W.cell? ⟨w.heap.size, j, none⟩ = w1.cell? ⟨w.heap.size, j, none⟩ := fun j => hc.cell (show (⟨w.heap.size, j, none⟩ : Addr).block < _ from l0)
    have e1 : ∀ j, W.cell? ⟨w.heap.size + 1, j, none⟩ = w1.cell? ⟨w.heap.size + 1, j, none⟩ := fun j => hc.cell (show (⟨w.heap.size + 1, j, none⟩ : Addr).block < _ from l1)
    simp only [e0, e1]
    rw [hw1]
    have q : w.heap.size + 1 = (w.alloc (.cells #[.slice ao m acap, .slice co n ccap] 25)).heap.size := by simp
    have r : ∀ o j, ((w.alloc (.cells #[.slice ao m acap, .slice co n ccap] 25)).alloc o).cell? ⟨w.heap.size, j, none⟩ = (w.alloc (.cells #[.slice ao m acap, .slice co n ccap] 25)).cell? ⟨w.heap.size, j, none⟩ := fun o j => World.cell?_alloc_lt _ _ ⟨w.heap.size, j, none⟩ (by simp)
    simp only [r]
    rw [q]
    simp
  have HKd : Hid (∀ W, Below w1.heap.size w1 W → KindsLaid W) := fun W hW => (hK.below HB1.out).below hW
  have HA : Hid (∀ W, Below w1.heap.size w1 W → ReadsA W (.slice ao m acap) ats ∧ Reads W (.slice co n ccap) c) := fun W hW => ⟨(hA.below HB1.out).below hW, (hC.below HB1.out).below hW⟩
  clear hA hC hK
  obtain ⟨S, hS⟩ : ∃ S, S = w.heap.size + 1 + 1 := ⟨_, rfl⟩
  have HSS : Hid (w1.heap.size = S) := by unfold Hid; rw [HS1.out, hS]
  obtain ⟨hs0, hs1, hs2, hs3, hs4, hs5⟩ := say_one w1 S HSS.out
  obtain ⟨w2, hw2⟩ : ∃ w2, w2 = ((((w1.alloc (.cells #[.int .i64 0] 3)).alloc (.cells #[.int .i64 1] 3)).alloc (.cells #[.int .i64 3, .slice (some ⟨S, 0, none⟩) 1 1, .slice none 0 0, .int .i64 1, .int .i64 4, .slice (some ⟨S + 1, 0, none⟩) 1 1, .slice none 0 0, .int .i64 2] 38)).alloc (.cells #[.int .i64 0, .int .i64 1, .int .i64 13] 3)).alloc (.cells #[.slice (some ⟨S + 1 + 1, 0, none⟩) 2 2, .slice (some ⟨S + 1 + 1 + 1, 0, none⟩) 3 3] 25) := ⟨_, rfl⟩
  rw [← hw2] at hs0 hs1 hs2 hs3 hs4 hs5
  have HB2 : Hid (Below w1.heap.size w1 w2) := hs0
  have HO1 : Hid (Calls Tryd.prog 11 #[.agg #[.slice (some ⟨S + 1 + 1, 0, none⟩) 2 2, .slice (some ⟨S + 1 + 1 + 1, 0, none⟩) 3 3]] w2 fun e w' => ∃ v, e = .returned (.tuple #[v, .nilIface]) ∧ RS2 (fun _ => True) w' v [[-1], [2]] ∧ Below w2.heap.size w2 w') := by
    refine (of_good _ _ [⟨3, [0], [], 1⟩, ⟨4, [1], [], 2⟩] [0, 1, 13] w2 hs2 hs3 (HKd.out _ HB2.out) (by decide +kernel)).mono ?_
    rintro e w' ⟨ho, hb⟩
    rw [show cubesC [0, 1, 13] = some [[-1], [2]] by decide +kernel] at ho
    obtain ⟨v, rfl, hr⟩ := ho
    exact ⟨v, rfl, hr.mono fun _ _ _ => trivial, hb⟩
  have HO : Hid (∀ W, Below w1.heap.size w1 W → Calls Tryd.prog 11 #[.agg #[.slice ao m acap, .slice co n ccap]] W fun e w' => e = .returned (.tuple #[.slice none 0 0, .iface 69 (.int .i64 (formFault ats c))]) ∧ Below W.heap.size W w') := fun W hW => of_bad _ _ ats c W (HA.out W hW).1 (HA.out W hW).2 (HKd.out W hW) hf
  obtain ⟨F, hF⟩ : ∃ F, F = formFault ats c := ⟨_, rfl⟩
  rw [← hF] at HO
  clear hF hf
  clear hs0 hs1 hs2 hs3
  have p0 := hs4
  have p1 := hs5
  rw [hw2] at p0 p1
  clear hs4 hs5
  subst hS
  go_enter Tryd.func4, Tryd.ntmps4
  go_wp2_with fail
  rw [← hw1, ← hw2]
  clear hw1 hw2 p0 p1
  go_at_call 11
  refine HO1.out.mono ?_
  rintro e w3 ⟨v3, rfl, hr3, hb⟩
  have HB3 : Hid (Below w1.heap.size w1 w3) := HB2.out.trans (hb.mono HB2.out.size)
  clear hb HO1
  obtain ⟨fb, fo, fc, b1, f1, q1, b2, f2, q2, rfl, z0, z1, z2, z3⟩ := rs2_two hr3
  clear hr3
  obtain ⟨x0, x1⟩ := (HX.out w3 HB3.out).1
  go_wp2_with fail
  clear z0 z1 z2 z3 x0 x1
  go_at_call 11
  refine (HO.out w3 HB3.out).mono ?_
  rintro e w4 ⟨rfl, hb⟩
  have HB4 : Hid (Below w1.heap.size w1 w4) := HB3.out.trans (hb.mono HB3.out.size)
  clear hb HO
  go_wp2
  go_ret
  exact ⟨rfl, HB1.out.trans (HB4.out.mono HB1.out.size)⟩
end Go.Proofs.YtenmheenieifpacDoor
