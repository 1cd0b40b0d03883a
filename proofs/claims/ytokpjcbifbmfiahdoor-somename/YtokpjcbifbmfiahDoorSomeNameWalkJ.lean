/-
  Proved: vennlaw4.SomeName returns true, of any name, any number and any world, where some's functions answer as chapter 15 says; what was in memory is as it was (the walk that the statement leans on).
-/
import Derived.Test.YtokpjcbifbmfiahDoorLibSM5
import Derived.Test.YtokpjcbifbmfiahDoorLibSM18
import Derived.Test.YtokpjcbifbmfiahDoorLibSM7
import Derived.Test.YtokpjcbifbmfiahDoorLibSM16
import Derived.Deep.RegionHeld3
import Derived.Deep.CutRange
namespace Go.Proofs.YtokpjcbifbmfiahDoor
open Go.ChangeShapes Go.WideShapes Go.ChangeAt Go.RowKit
set_option maxRecDepth 100000

set_option maxHeartbeats 8000000 in
theorem someName_in (name n : Int) (D : Wd) (S : Bool) (ES : Value) (m : Int) (w : World)
    (HAo : Hid (∀ W, Below w.heap.size w W → Calls Tryd.prog 7 #[.int .i64 name, .int .i64 n] W fun e w' => ∃ b1 b2, e = .returned (.agg #[.slice (some ⟨b1, 0, none⟩) 1 1, .slice (some ⟨b2, 0, none⟩) 1 1]) ∧ (∀ W', Below w'.heap.size w' W' → Calls Tryd.prog 14 #[.agg #[.slice (some ⟨b1, 0, none⟩) 1 1, .slice (some ⟨b2, 0, none⟩) 1 1], .int .i64 name, .agg #[.int .i64 D.u, .int .i64 D.a, .int .i64 D.b, .int .i64 D.c]] W' fun e' w'' => e' = .returned (.tuple #[.bool S, ES]) ∧ Below W'.heap.size W' w'') ∧ Below W.heap.size W w'))
    (HNo : Hid (∀ W, Below w.heap.size w W → Calls Tryd.prog 16 #[.agg #[.slice none 0 0, .slice none 0 0], .int .i64 0, .agg #[.int .i64 D.u, .int .i64 D.a, .int .i64 D.b, .int .i64 D.c]] W fun e w' => e = .returned (.tuple #[.bool false, .iface 55 (.int .i64 m)]) ∧ Below W.heap.size W w'))
    (HAz : Hid ((0 ≤ name ∧ name ≤ 2) → ES = .nilIface → ∀ W, Below w.heap.size w W → Calls Tryd.prog 7 #[.int .i64 name, .int .i64 0] W fun e w' => ∃ b1 b2, e = .returned (.agg #[.slice (some ⟨b1, 0, none⟩) 1 1, .slice (some ⟨b2, 0, none⟩) 1 1]) ∧ (∀ W', Below w'.heap.size w' W' → Calls Tryd.prog 16 #[.agg #[.slice (some ⟨b1, 0, none⟩) 1 1, .slice (some ⟨b2, 0, none⟩) 1 1], .int .i64 name, .agg #[.int .i64 D.u, .int .i64 D.a, .int .i64 D.b, .int .i64 D.c]] W' fun e' w'' => e' = .returned (.tuple #[.bool true, .nilIface]) ∧ Below W'.heap.size W' w'') ∧ Below W.heap.size W w'))
    (HS : Hid ((0 ≤ name ∧ name ≤ 2) → ES = .nilIface → S = decide (n ≤ D.u)))
    (HK : Hid (ES = .nilIface ∨ ∃ m, ES = .iface 55 (.int .i64 m))) :
    Calls Tryd.prog 6 #[.int .i64 name, .int .i64 n, .agg #[.int .i64 D.u, .int .i64 D.a, .int .i64 D.b, .int .i64 D.c]] w fun e w' => e = .returned (.bool true) ∧ Below w.heap.size w w' := by
  obtain ⟨w1, hw1⟩ : ∃ w1, w1 = w.alloc (.cells #[.int .i64 D.u, .int .i64 D.a, .int .i64 D.b, .int .i64 D.c] 38) := ⟨_, rfl⟩
  have B1 : Hid (Below w.heap.size w w1) := by unfold Hid; rw [hw1]; exact below_alloc1 _ _
  have kW1 : Hid (Blk w1 w.heap.size 38 (arrW D)) := by unfold Hid; rw [hw1]; exact Blk.new _ _ _
  have HAk : Hid (∀ W, Below w1.heap.size w1 W → Calls Tryd.prog 7 #[.int .i64 name, .int .i64 n] W fun e w' => ∃ b1 b2, e = .returned (.agg #[.slice (some ⟨b1, 0, none⟩) 1 1, .slice (some ⟨b2, 0, none⟩) 1 1]) ∧ Hid (∀ W', Below w'.heap.size w' W' → Calls Tryd.prog 14 #[.agg #[.slice (some ⟨b1, 0, none⟩) 1 1, .slice (some ⟨b2, 0, none⟩) 1 1], .int .i64 name, .agg #[.int .i64 D.u, .int .i64 D.a, .int .i64 D.b, .int .i64 D.c]] W' fun e' w'' => e' = .returned (.tuple #[.bool S, ES]) ∧ Hid (Below w1.heap.size w1 w'') ∧ (w''.cell? ⟨w.heap.size, 0, none⟩ = some (.int .i64 D.u) ∧ w''.cell? ⟨w.heap.size, 1, none⟩ = some (.int .i64 D.a) ∧ w''.cell? ⟨w.heap.size, 2, none⟩ = some (.int .i64 D.b) ∧ w''.cell? ⟨w.heap.size, 3, none⟩ = some (.int .i64 D.c))) ∧ (w'.cell? ⟨w.heap.size, 0, none⟩ = some (.int .i64 D.u) ∧ w'.cell? ⟨w.heap.size, 1, none⟩ = some (.int .i64 D.a) ∧ w'.cell? ⟨w.heap.size, 2, none⟩ = some (.int .i64 D.b) ∧ w'.cell? ⟨w.heap.size, 3, none⟩ = some (.int .i64 D.c))) := fun W hW => by
    refine (HAo.out W (B1.out.trans (hW.mono B1.out.size))).mono ?_
    rintro e w' ⟨b1, b2, rfl, hI, hb⟩
    have hB := hW.trans (hb.mono hW.size)
    refine ⟨b1, b2, rfl, fun W' hW' => ?_, (kW1.out.below hB).cells4⟩
    refine (hI W' hW').mono ?_
    rintro e w'' ⟨rfl, hb'⟩
    have hB' := hB.trans ((hW'.trans (hb'.mono hW'.size)).mono hB.size)
    exact ⟨rfl, hB', (kW1.out.below hB').cells4⟩
  obtain ⟨z0, z1, z2, z3⟩ := kW1.out.cells4
  go_enter Tryd.func6, Tryd.ntmps6
  go_upto_region 1 with fail
  rw [← hw1]
  clear hw1
  go_cut [7, 8, 13, 14, 15, 16, 17, 18, 19, 20, 21] from 13 (fun p q _ _ _ _ _ _ _ _ _ wx => p = .bool S ∧ q = ES ∧ Below w1.heap.size w1 wx)
  case first =>
    go_region_held3 (fun w' => w'.cell? ⟨w.heap.size, 0, none⟩ = some (.int .i64 D.u) ∧ w'.cell? ⟨w.heap.size, 1, none⟩ = some (.int .i64 D.a) ∧ w'.cell? ⟨w.heap.size, 2, none⟩ = some (.int .i64 D.b) ∧ w'.cell? ⟨w.heap.size, 3, none⟩ = some (.int .i64 D.c)) (first | (go_keep; done) | skip)
      (first
        | (go_at_call 7; refine (HAk.out _ (by first | exact Below.refl _ _ | exact (Below.refl _ _).drew)).mono ?_; rintro e w8 ⟨b1, b2, rfl, hI, hc8⟩)
        | (go_at_call 14; refine (hI.out _ (by first | exact Below.refl _ _ | exact (Below.refl _ _).drew)).mono ?_; rintro e w9 ⟨rfl, hb9, hc9⟩))
    all_goals (try go_wp2)
    all_goals go_meet
    all_goals exact ⟨rfl, rfl, hb9.out⟩
  case rest =>
  obtain ⟨rfl, rfl, hbc⟩ := hcut
  obtain ⟨w2, hw2⟩ : ∃ x, x = wc := ⟨_, rfl⟩
  subst hw2
  have B2 : Hid (Below w.heap.size w w2) := B1.out.trans (hbc.mono B1.out.size)
  have kW2 : Hid (Blk w2 w.heap.size 38 (arrW D)) := kW1.out.below hbc
  clear hbc z0 z1 z2 z3 HAk HAo
  obtain ⟨z0, z1, z2, z3⟩ := kW2.out.cells4
  by_cases hn : 0 ≤ name ∧ name ≤ 2
  · have c1 : ¬ name < 0 := by omega
    have c2 : ¬ 2 < name := by omega
    rcases HK.out with hE | ⟨m', hE⟩
    · have HSv : Hid (S = decide (n ≤ D.u)) := HS.out hn hE
      have HAz0 := HAz.out hn hE
      have HAk : Hid (∀ W, Below w2.heap.size w2 W → Calls Tryd.prog 7 #[.int .i64 name, .int .i64 0] W fun e w' => ∃ b1 b2, e = .returned (.agg #[.slice (some ⟨b1, 0, none⟩) 1 1, .slice (some ⟨b2, 0, none⟩) 1 1]) ∧ Hid (∀ W', Below w'.heap.size w' W' → Calls Tryd.prog 16 #[.agg #[.slice (some ⟨b1, 0, none⟩) 1 1, .slice (some ⟨b2, 0, none⟩) 1 1], .int .i64 name, .agg #[.int .i64 D.u, .int .i64 D.a, .int .i64 D.b, .int .i64 D.c]] W' fun e' w'' => e' = .returned (.tuple #[.bool true, .nilIface]) ∧ Hid (Below w2.heap.size w2 w'') ∧ (w''.cell? ⟨w.heap.size, 0, none⟩ = some (.int .i64 D.u) ∧ w''.cell? ⟨w.heap.size, 1, none⟩ = some (.int .i64 D.a) ∧ w''.cell? ⟨w.heap.size, 2, none⟩ = some (.int .i64 D.b) ∧ w''.cell? ⟨w.heap.size, 3, none⟩ = some (.int .i64 D.c))) ∧ (w'.cell? ⟨w.heap.size, 0, none⟩ = some (.int .i64 D.u) ∧ w'.cell? ⟨w.heap.size, 1, none⟩ = some (.int .i64 D.a) ∧ w'.cell? ⟨w.heap.size, 2, none⟩ = some (.int .i64 D.b) ∧ w'.cell? ⟨w.heap.size, 3, none⟩ = some (.int .i64 D.c))) := fun W hW => by
        refine (HAz0 W (B2.out.trans (hW.mono B2.out.size))).mono ?_
        rintro e w' ⟨b1, b2, rfl, hI, hb⟩
        have hB := hW.trans (hb.mono hW.size)
        refine ⟨b1, b2, rfl, fun W' hW' => ?_, (kW2.out.below hB).cells4⟩
        refine (hI W' hW').mono ?_
        rintro e w'' ⟨rfl, hb'⟩
        have hB' := hB.trans ((hW'.trans (hb'.mono hW'.size)).mono hB.size)
        exact ⟨rfl, hB', (kW2.out.below hB').cells4⟩
      clear hn HS HAz HAz0 HK
      subst hE
      go_upto_region 5 with fail
      go_cut [11, 12, 40, 41, 42, 43, 44, 45, 46, 47] from 32 (fun p q _ _ _ _ _ _ _ _ wx => p = .bool true ∧ q = .nilIface ∧ Below w2.heap.size w2 wx)
      case first =>
        go_region_held3 (fun w' => w'.cell? ⟨w.heap.size, 0, none⟩ = some (.int .i64 D.u) ∧ w'.cell? ⟨w.heap.size, 1, none⟩ = some (.int .i64 D.a) ∧ w'.cell? ⟨w.heap.size, 2, none⟩ = some (.int .i64 D.b) ∧ w'.cell? ⟨w.heap.size, 3, none⟩ = some (.int .i64 D.c)) (first | (go_keep; done) | skip)
          (first
            | (go_at_call 7; refine (HAk.out _ (by first | exact Below.refl _ _ | exact (Below.refl _ _).drew)).mono ?_; rintro e w8 ⟨b1, b2, rfl, hI, hc8⟩)
            | (go_at_call 16; refine (hI.out _ (by first | exact Below.refl _ _ | exact (Below.refl _ _).drew)).mono ?_; rintro e w9 ⟨rfl, hb9, hc9⟩))
        all_goals (try go_wp2)
        all_goals go_meet
        all_goals exact ⟨rfl, rfl, hb9.out⟩
      case rest =>
      obtain ⟨rfl, rfl, hbc⟩ := hcut
      obtain ⟨w3, hw3⟩ : ∃ x, x = wc := ⟨_, rfl⟩
      subst hw3
      have B3 : Hid (Below w.heap.size w w3) := B2.out.trans (hbc.mono B2.out.size)
      have kW3 : Hid (Blk w3 w.heap.size 38 (arrW D)) := kW2.out.below hbc
      clear hbc z0 z1 z2 z3
      have z0 : w3.cell? ⟨w.heap.size, 0, none⟩ = some (.int .i64 D.u) := kW3.out.cell 0
      have hSv := HSv.out
      have heq : (S == decide (n ≤ D.u)) = true := by rw [hSv]; simp
      clear hSv
      go_wp2
      go_ret
      exact ⟨rfl, B3.out⟩
    · clear hn
      subst hE
      go_wp2_with fail
      go_at_call 16
      refine (HNo.out _ B2.out).mono ?_
      rintro e w3 ⟨rfl, hb⟩
      have B3 : Hid (Below w.heap.size w w3) := B2.out.trans (hb.mono B2.out.size)
      clear hb z0 z1 z2 z3
      go_wp2
      go_ret
      exact ⟨rfl, B3.out⟩
  · by_cases c1 : name < 0
    · clear hn
      go_wp2_with fail
      go_at_call 16
      refine (HNo.out _ B2.out).mono ?_
      rintro e w3 ⟨rfl, hb⟩
      have B3 : Hid (Below w.heap.size w w3) := B2.out.trans (hb.mono B2.out.size)
      clear hb z0 z1 z2 z3
      go_wp2
      go_ret
      exact ⟨rfl, B3.out⟩
    · have c2 : 2 < name := by omega
      clear hn
      go_wp2_with fail
      go_at_call 16
      refine (HNo.out _ B2.out).mono ?_
      rintro e w3 ⟨rfl, hb⟩
      have B3 : Hid (Below w.heap.size w w3) := B2.out.trans (hb.mono B2.out.size)
      clear hb z0 z1 z2 z3
      go_wp2
      go_ret
      exact ⟨rfl, B3.out⟩
end Go.Proofs.YtokpjcbifbmfiahDoor
