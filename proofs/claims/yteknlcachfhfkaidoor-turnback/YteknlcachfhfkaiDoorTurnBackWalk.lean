/-
  Proved: vennlaw4.TurnBack returns true where what it calls answers as chapters 4, 6 and 16 say; what was in memory is as it was (the walk that the statement leans on). Written by program.
-/
import Derived.Test.YteknlcachfhfkaiDoorTurnRef
import Derived.Test.YteknlcachfhfkaiDoorFieldsEq
import Derived.Test.YteknlcachfhfkaiDoorModelFacts
import Derived.Test.YteknlcachfhfkaiDoorTermCheck
import Derived.Deep.RegionHeld3
import Derived.Deep.RegionWith
import Derived.Deep.CutRange
import Derived.Deep.CutBlock
namespace Go.Proofs.YteknlcachfhfkaiDoor
open Go.ChangeShapes Go.WideShapes Go.ChangeAt Go.RowKit
set_option maxRecDepth 100000

def swapS (i k j : Int) : Int := if j = i then k else if j = k then i else j
def swapQ (i k : Int) (n : Nat) : List Int := (List.range n).map fun j : Nat => swapS i k j
theorem swapQ_length (i k : Int) (n : Nat) : (swapQ i k n).length = n := by unfold swapQ; simp
theorem swapQ_succ (i k : Int) (n : Nat) : swapQ i k (n + 1) = swapQ i k n ++ [swapS i k n] := by unfold swapQ; rw [List.range_succ, List.map_append]; rfl

set_option maxHeartbeats 16000000 in
theorem turnBack_good (ao : Option Addr) (M acap : Nat) (co : Option Addr) (nc ccap : Nat) (D X : Wd) (i k : Int) (C : Nat → Int) (EV : Value) (w : World)
    (HNm : Hid (∀ W, Below w.heap.size w W → Calls Tryd.prog 4 #[.agg #[.slice ao M acap, .slice co nc ccap], .agg #[.int .i64 1, .int .i64 0, .int .i64 2]] W fun e w' => (∃ o1 l1 q1 o2 l2 q2, e = .returned (.tuple #[.agg #[.slice o1 l1 q1, .slice o2 l2 q2], .nilIface]) ∧ ∀ W', Below w'.heap.size w' W' → Calls Tryd.prog 4 #[.agg #[.slice o1 l1 q1, .slice o2 l2 q2], .agg #[.int .i64 1, .int .i64 0, .int .i64 2]] W' fun e w'' => (∃ o3 l3 q3 o4 l4 q4, e = .returned (.tuple #[.agg #[.slice o3 l3 q3, .slice o4 l4 q4], .nilIface]) ∧ ∀ W'', Below w''.heap.size w'' W'' → Calls Tryd.prog 6 #[.agg #[.slice o3 l3 q3, .slice o4 l4 q4], .agg #[.slice ao M acap, .slice co nc ccap]] W'' fun e w3 => e = .returned (.bool true) ∧ Below W''.heap.size W'' w3) ∧ Below W'.heap.size W' w'') ∧ Below W.heap.size W w'))
    (HCk : Hid (∀ W, Below w.heap.size w W → Calls Tryd.prog 5 #[.agg #[.slice ao M acap, .slice co nc ccap]] W fun e w' => e = .returned (.nilIface) ∧ Below W.heap.size W w'))
    (HFi : Hid (∀ W, Below w.heap.size w W → Calls Tryd.prog 7 #[.agg #[.int .i64 D.u, .int .i64 D.a, .int .i64 D.b, .int .i64 D.c]] W fun e w' => e = .returned (.tuple #[.agg #[.int .i64 (C 0), .int .i64 (C 1), .int .i64 (C 2), .int .i64 (C 3), .int .i64 (C 4), .int .i64 (C 5), .int .i64 (C 6), .int .i64 (C 7)], EV]) ∧ Below W.heap.size W w'))
    (HEv : Hid ((∃ m, EV = .iface 42 (.int .i64 m)) ∨ (EV = .nilIface ∧ 0 ≤ D.u ∧ D.u ≤ 6)))
    (HTh : Hid (EV = .nilIface → 0 ≤ i → 0 ≤ k → i < D.u → k < D.u → ∀ v W, Below w.heap.size w W → Reads W v (swapQ i k D.u.toNat) → Calls Tryd.prog 8 #[.agg #[.int .i64 D.u, .int .i64 D.a, .int .i64 D.b, .int .i64 D.c], v] W fun e w' => e = .returned (.tuple #[.agg #[.int .i64 X.u, .int .i64 X.a, .int .i64 X.b, .int .i64 X.c], .nilIface]) ∧ Below W.heap.size W w'))
    (HTx : Hid (EV = .nilIface → 0 ≤ i → 0 ≤ k → i < D.u → k < D.u → ∀ v W, Below w.heap.size w W → Reads W v (swapQ i k D.u.toNat) → Calls Tryd.prog 8 #[.agg #[.int .i64 X.u, .int .i64 X.a, .int .i64 X.b, .int .i64 X.c], v] W fun e w' => e = .returned (.tuple #[.agg #[.int .i64 D.u, .int .i64 D.a, .int .i64 D.b, .int .i64 D.c], .nilIface]) ∧ Below W.heap.size W w')) :
    Calls Tryd.prog 3 #[.agg #[.slice ao M acap, .slice co nc ccap], .agg #[.int .i64 D.u, .int .i64 D.a, .int .i64 D.b, .int .i64 D.c], .int .i64 i, .int .i64 k] w fun e w' => e = .returned (.bool true) ∧ Below w.heap.size w w' := by
  obtain ⟨b0, b1, b2, hB0⟩ := three_blocks w (.cells #[.slice ao M acap, .slice co nc ccap] 25) (.cells #[.int .i64 D.u, .int .i64 D.a, .int .i64 D.b, .int .i64 D.c] 28) (.cells #[.int .i64 1, .int .i64 0, .int .i64 2] 26)
  obtain ⟨w1, hw1⟩ : ∃ x, x = (((w.alloc (.cells #[.slice ao M acap, .slice co nc ccap] 25)).alloc (.cells #[.int .i64 D.u, .int .i64 D.a, .int .i64 D.b, .int .i64 D.c] 28)).alloc (.cells #[.int .i64 1, .int .i64 0, .int .i64 2] 26)) := ⟨_, rfl⟩
  rw [← hw1] at b0 b1 b2 hB0
  have B1 : Hid (Below w.heap.size w w1) := hB0
  have kF1 : Hid (Blk w1 (w.heap.size) 25 #[.slice ao M acap, .slice co nc ccap]) := b0
  have kW1 : Hid (Blk w1 (w.heap.size + 1) 28 (arrW D)) := b1
  have kP1 : Hid (Blk w1 (w.heap.size + 1 + 1) 26 #[.int .i64 1, .int .i64 0, .int .i64 2]) := b2
  clear b0 b1 b2 hB0
  go_enter Tryd.func3, Tryd.ntmps3
  go_upto_region 2 with fail
  rw [← hw1]
  clear hw1
  have x0 : w1.cell? ⟨w.heap.size, 0, none⟩ = some (.slice ao M acap) := kF1.out.cell 0
  have x1 : w1.cell? ⟨w.heap.size, 1, none⟩ = some (.slice co nc ccap) := kF1.out.cell 1
  have y0 : w1.cell? ⟨w.heap.size + 1 + 1, 0, none⟩ = some (.int .i64 1) := kP1.out.cell 0
  have y1 : w1.cell? ⟨w.heap.size + 1 + 1, 1, none⟩ = some (.int .i64 0) := kP1.out.cell 1
  have y2 : w1.cell? ⟨w.heap.size + 1 + 1, 2, none⟩ = some (.int .i64 2) := kP1.out.cell 2
  go_wp2_with fail
  go_at_call 4
  refine (HNm.out _ B1.out).mono ?_
  rintro e w2 ⟨⟨o1, l1, q1, o2, l2, q2, rfl, hN2⟩, hb⟩
  have B2 : Hid (Below w.heap.size w w2) := B1.out.trans (hb.mono B1.out.size)
  have kF2 : Hid (Blk w2 (w.heap.size) 25 #[.slice ao M acap, .slice co nc ccap]) := kF1.out.below hb
  have kW2 : Hid (Blk w2 (w.heap.size + 1) 28 (arrW D)) := kW1.out.below hb
  have kP2 : Hid (Blk w2 (w.heap.size + 1 + 1) 26 #[.int .i64 1, .int .i64 0, .int .i64 2]) := kP1.out.below hb
  have HN2 : Hid _ := hN2
  clear hb hN2 x0 x1 y0 y1 y2
  obtain ⟨GG, hGG⟩ : ∃ G, G = w2.heap.size := ⟨_, rfl⟩
  obtain ⟨w3, hw3⟩ : ∃ x, x = w2.alloc (.cells #[.slice o1 l1 q1, .slice o2 l2 q2] 25) := ⟨_, rfl⟩
  have hb : Below w2.heap.size w2 w3 := by rw [hw3]; exact below_alloc1 _ _
  have B3 : Hid (Below w.heap.size w w3) := B2.out.trans (hb.mono B2.out.size)
  have kF3 : Hid (Blk w3 (w.heap.size) 25 #[.slice ao M acap, .slice co nc ccap]) := kF2.out.below hb
  have kW3 : Hid (Blk w3 (w.heap.size + 1) 28 (arrW D)) := kW2.out.below hb
  have kP3 : Hid (Blk w3 (w.heap.size + 1 + 1) 26 #[.int .i64 1, .int .i64 0, .int .i64 2]) := kP2.out.below hb
  have kG3 : Hid (Blk w3 (GG) 25 #[.slice o1 l1 q1, .slice o2 l2 q2]) := by unfold Hid; rw [hw3, hGG]; exact Blk.new _ _ _
  have B23 : Hid (Below w2.heap.size w2 w3) := hb
  clear hb
  go_upto_region 3 with fail
  rw [← hw3, ← hGG]
  clear hw3 hGG
  have x0 : w3.cell? ⟨GG, 0, none⟩ = some (.slice o1 l1 q1) := kG3.out.cell 0
  have x1 : w3.cell? ⟨GG, 1, none⟩ = some (.slice o2 l2 q2) := kG3.out.cell 1
  have y0 : w3.cell? ⟨w.heap.size + 1 + 1, 0, none⟩ = some (.int .i64 1) := kP3.out.cell 0
  have y1 : w3.cell? ⟨w.heap.size + 1 + 1, 1, none⟩ = some (.int .i64 0) := kP3.out.cell 1
  have y2 : w3.cell? ⟨w.heap.size + 1 + 1, 2, none⟩ = some (.int .i64 2) := kP3.out.cell 2
  go_wp2_with fail
  go_at_call 4
  refine (HN2.out _ B23.out).mono ?_
  rintro e w4 ⟨⟨o3, l3, q3, o4, l4, q4, rfl, hSf⟩, hb⟩
  have B4 : Hid (Below w.heap.size w w4) := B3.out.trans (hb.mono B3.out.size)
  have kF4 : Hid (Blk w4 (w.heap.size) 25 #[.slice ao M acap, .slice co nc ccap]) := kF3.out.below hb
  have kW4 : Hid (Blk w4 (w.heap.size + 1) 28 (arrW D)) := kW3.out.below hb
  have HSf : Hid _ := hSf
  clear hSf
  clear hb x0 x1 y0 y1 y2
  obtain ⟨GH, hGH⟩ : ∃ G, G = w4.heap.size := ⟨_, rfl⟩
  obtain ⟨w5, hw5⟩ : ∃ x, x = w4.alloc (.cells #[.slice o3 l3 q3, .slice o4 l4 q4] 25) := ⟨_, rfl⟩
  have hb : Below w4.heap.size w4 w5 := by rw [hw5]; exact below_alloc1 _ _
  have B5 : Hid (Below w.heap.size w w5) := B4.out.trans (hb.mono B4.out.size)
  have kF5 : Hid (Blk w5 (w.heap.size) 25 #[.slice ao M acap, .slice co nc ccap]) := kF4.out.below hb
  have kW5 : Hid (Blk w5 (w.heap.size + 1) 28 (arrW D)) := kW4.out.below hb
  have kH5 : Hid (Blk w5 (GH) 25 #[.slice o3 l3 q3, .slice o4 l4 q4]) := by unfold Hid; rw [hw5, hGH]; exact Blk.new _ _ _
  have B45 : Hid (Below w4.heap.size w4 w5) := hb
  clear hb
  go_upto_region 4 with fail
  rw [← hw5, ← hGH]
  clear hw5 hGH
  have x0 : w5.cell? ⟨w.heap.size, 0, none⟩ = some (.slice ao M acap) := kF5.out.cell 0
  have x1 : w5.cell? ⟨w.heap.size, 1, none⟩ = some (.slice co nc ccap) := kF5.out.cell 1
  have h0 : w5.cell? ⟨GH, 0, none⟩ = some (.slice o3 l3 q3) := kH5.out.cell 0
  have h1 : w5.cell? ⟨GH, 1, none⟩ = some (.slice o4 l4 q4) := kH5.out.cell 1
  have HC1 : Hid (∀ W, Below w5.heap.size w5 W → Calls Tryd.prog 5 #[.agg #[.slice ao M acap, .slice co nc ccap]] W fun e w' => e = .returned (.nilIface) ∧ Hid (Below w5.heap.size w5 w') ∧ w'.cell? ⟨w.heap.size, 0, none⟩ = some (.slice ao M acap) ∧ w'.cell? ⟨w.heap.size, 1, none⟩ = some (.slice co nc ccap) ∧ w'.cell? ⟨GH, 0, none⟩ = some (.slice o3 l3 q3) ∧ w'.cell? ⟨GH, 1, none⟩ = some (.slice o4 l4 q4)) := fun W hW => (HCk.out W (B5.out.trans (hW.mono B5.out.size))).mono fun e w' h => ⟨h.1, hW.trans (h.2.mono hW.size), (kF5.out.below (hW.trans (h.2.mono hW.size))).cell 0, (kF5.out.below (hW.trans (h.2.mono hW.size))).cell 1, (kH5.out.below (hW.trans (h.2.mono hW.size))).cell 0, (kH5.out.below (hW.trans (h.2.mono hW.size))).cell 1⟩
  have HS1 : Hid (∀ W, Below w5.heap.size w5 W → Calls Tryd.prog 6 #[.agg #[.slice o3 l3 q3, .slice o4 l4 q4], .agg #[.slice ao M acap, .slice co nc ccap]] W fun e w' => e = .returned (.bool true) ∧ Hid (Below w5.heap.size w5 w') ∧ w'.cell? ⟨w.heap.size, 0, none⟩ = some (.slice ao M acap) ∧ w'.cell? ⟨w.heap.size, 1, none⟩ = some (.slice co nc ccap) ∧ w'.cell? ⟨GH, 0, none⟩ = some (.slice o3 l3 q3) ∧ w'.cell? ⟨GH, 1, none⟩ = some (.slice o4 l4 q4)) := fun W hW => (HSf.out W (B45.out.trans (hW.mono B45.out.size))).mono fun e w' h => ⟨h.1, hW.trans (h.2.mono hW.size), (kF5.out.below (hW.trans (h.2.mono hW.size))).cell 0, (kF5.out.below (hW.trans (h.2.mono hW.size))).cell 1, (kH5.out.below (hW.trans (h.2.mono hW.size))).cell 0, (kH5.out.below (hW.trans (h.2.mono hW.size))).cell 1⟩
  clear HSf HN2 HNm HCk
  go_cut [53] from 34 (fun x wx => x = .bool false ∧ Below w5.heap.size w5 wx)
  case first =>
    have HD0 : Hid (Below w5.heap.size w5 w5.drew) := (Below.refl _ _).drew
    go_region_held3 (fun w' => w'.cell? ⟨w.heap.size, 0, none⟩ = some (.slice ao M acap) ∧ w'.cell? ⟨w.heap.size, 1, none⟩ = some (.slice co nc ccap) ∧ w'.cell? ⟨GH, 0, none⟩ = some (.slice o3 l3 q3) ∧ w'.cell? ⟨GH, 1, none⟩ = some (.slice o4 l4 q4)) (go_keep)
      (first | (go_at_call 5; refine (HC1.out _ ?_).mono ?_; (with_reducible exact HD0.out); rintro e w8 ⟨rfl, hb8, c0, c1, c2, c3⟩) | (go_at_call 6; refine (HS1.out _ ?_).mono ?_; (first | (with_reducible exact Hid.out hb8) | (with_reducible exact Below.drew (Hid.out hb8))); rintro e w9 ⟨rfl, hb9, e0, e1, e2, e3⟩))
    all_goals (try go_wp2)
    all_goals go_meet
    all_goals exact ⟨rfl, hb9.out⟩
  case rest =>
  obtain ⟨rfl, hb⟩ := hcut
  obtain ⟨w6, hw6⟩ : ∃ x, x = wc := ⟨_, rfl⟩
  subst hw6
  have B6 : Hid (Below w.heap.size w w6) := B5.out.trans (hb.mono B5.out.size)
  have kW6 : Hid (Blk w6 (w.heap.size + 1) 28 (arrW D)) := kW5.out.below hb
  clear hb x0 x1 h0 h1 HC1 HS1
  obtain ⟨z0, z1, z2, z3⟩ := kW6.out.cells4
  go_wp2_with fail
  go_at_call 7
  refine (HFi.out _ B6.out).mono ?_
  rintro e w7 ⟨rfl, hb⟩
  have B7 : Hid (Below w.heap.size w w7) := B6.out.trans (hb.mono B6.out.size)
  have kW7 : Hid (Blk w7 (w.heap.size + 1) 28 (arrW D)) := kW6.out.below hb
  clear hb z0 z1 z2 z3
  obtain ⟨w8, hw8⟩ : ∃ x, x = w7.alloc (.cells #[.int .i64 (C 0), .int .i64 (C 1), .int .i64 (C 2), .int .i64 (C 3), .int .i64 (C 4), .int .i64 (C 5), .int .i64 (C 6), .int .i64 (C 7)] 35) := ⟨_, rfl⟩
  have hb : Below w7.heap.size w7 w8 := by rw [hw8]; exact below_alloc1 _ _
  have B8 : Hid (Below w.heap.size w w8) := B7.out.trans (hb.mono B7.out.size)
  have kW8 : Hid (Blk w8 (w.heap.size + 1) 28 (arrW D)) := kW7.out.below hb
  clear hb
  go_upto_region 7 with fail
  rw [← hw8]
  clear hw8
  have z0 : w8.cell? ⟨w.heap.size + 1, 0, none⟩ = some (.int .i64 D.u) := kW8.out.cell 0
  rcases HEv.out with ⟨m0, rfl⟩ | ⟨rfl, hu0, hu6⟩
  · clear HEv
    go_wp2
    go_ret
    exact ⟨rfl, B8.out⟩
  clear HEv
  by_cases g1 : i < 0
  · go_wp2
    go_ret
    exact ⟨rfl, B8.out⟩
  by_cases g2 : k < 0
  · go_wp2
    go_ret
    exact ⟨rfl, B8.out⟩
  by_cases g3 : D.u ≤ i
  · go_wp2
    go_ret
    exact ⟨rfl, B8.out⟩
  by_cases g4 : D.u ≤ k
  · go_wp2
    go_ret
    exact ⟨rfl, B8.out⟩
  have HT1 : Hid _ := HTh.out rfl (by omega) (by omega) (by omega) (by omega)
  have HT2 : Hid _ := HTx.out rfl (by omega) (by omega) (by omega) (by omega)
  clear HTh HTx
  go_wp2_with fail
  clear z0
  go_loopw [16, 17, 18] (fun r j _ wr => ∃ n : Nat, (n : Int) ≤ D.u ∧ j = .int .i64 n ∧ wr.ownsRow w8.heap.size 3 1 r n ((swapQ i k n).map (Value.int .i64)) ∧ Below w8.heap.size w8 wr) (fun _ j _ _ => D.u.toNat - (intOf j).toNat)
  case atStart => exact ⟨0, hu0, rfl, World.ownsRow_nil _ _ _ _, Below.refl _ _⟩
  case round =>
    obtain ⟨n, hn, rfl, hown, hbr⟩ := hrel
    have HBr : Hid (Below w8.heap.size w8 wr) := hbr
    have HBw : Hid (Below w.heap.size w wr) := B8.out.trans (hbr.mono B8.out.size)
    have kWr : Hid (Blk wr (w.heap.size + 1) 28 (arrW D)) := kW8.out.below hbr
    have HOw : Hid (wr.ownsRow w8.heap.size 3 1 u16 n ((swapQ i k n).map (Value.int .i64))) := hown
    clear hbr hown
    by_cases hlt : (n : Int) < D.u
    · have z0 : wr.cell? ⟨w.heap.size + 1, 0, none⟩ = some (.int .i64 D.u) := kWr.out.cell 0
      obtain ⟨l, hl⟩ : ∃ l, l = swapQ i k n := ⟨_, rfl⟩
      have HLl : Hid (l.length = n) := by unfold Hid; rw [hl]; exact swapQ_length i k n
      have HO6 : Hid (wr.ownsRow w8.heap.size 3 1 u16 l.length (l.map (Value.int .i64))) := by unfold Hid; rw [HLl.out, hl]; exact HOw.out
      have HLs : Hid (swapQ i k (n + 1) = l ++ [swapS i k n]) := by unfold Hid; rw [hl]; exact swapQ_succ i k n
      have HS : Hid (w8.heap.size ≤ wr.heap.size) := HBr.out.size
      have hl20 : l.length ≤ 20 := by have := HLl.out; omega
      clear hl
      by_cases e1 : (n : Int) = i
      · have d1 : ((n : Int) == i) = true := by simp [e1]
        have HLs' : Hid (swapQ i k (n + 1) = l ++ [k]) := by
          unfold Hid
          rw [HLs.out]
          unfold swapS
          rw [if_pos e1]
        clear HLs
        clear e1
        go_wp2_with (at_builtin; refine append_turn rfl _ _ rfl w8.heap.size u16 rfl l (k) wr.heap.size 1 rfl (HO6.out.alloc _) (heap_alloc_new wr _) (by have := HS.out; simp; omega) hl20 ?_)
        intro v9 w9 hown hgrow
        have HBa : Hid (Below w8.heap.size w8 (wr.alloc (.cells #[.int .i64 (k)] 3))) := HBr.out.alloc HBr.out.size _
        have HB9 : Hid (Below w8.heap.size w8 w9) := HBa.out.grown hgrow HBa.out.size (fun x hx => (HO6.out.lt x hx).1)
        have HO9 : Hid (w9.ownsRow w8.heap.size 3 1 v9 (n + 1) ((swapQ i k (n + 1)).map (Value.int .i64))) := by
          unfold Hid
          rw [HLs'.out, List.map_append]
          have h := hown
          rw [HLl.out] at h
          first | exact h | simpa using h
        clear hown hgrow
        go_wp2
        go_roundw
        case rel => exact ⟨n + 1, by omega, by go_num, HO9.out, HB9.out⟩
        case measure => simp [intOf]; omega
      · have d1 : ((n : Int) == i) = false := by simp [e1]
        by_cases e2 : (n : Int) = k
        · have d2 : ((n : Int) == k) = true := by simp [e2]
          have HLs' : Hid (swapQ i k (n + 1) = l ++ [i]) := by
            unfold Hid
            rw [HLs.out]
            unfold swapS
            rw [if_neg e1, if_pos e2]
          clear HLs
          clear e1 e2
          go_wp2_with (at_builtin; refine append_turn rfl _ _ rfl w8.heap.size u16 rfl l (i) wr.heap.size 1 rfl (HO6.out.alloc _) (heap_alloc_new wr _) (by have := HS.out; simp; omega) hl20 ?_)
          intro v9 w9 hown hgrow
          have HBa : Hid (Below w8.heap.size w8 (wr.alloc (.cells #[.int .i64 (i)] 3))) := HBr.out.alloc HBr.out.size _
          have HB9 : Hid (Below w8.heap.size w8 w9) := HBa.out.grown hgrow HBa.out.size (fun x hx => (HO6.out.lt x hx).1)
          have HO9 : Hid (w9.ownsRow w8.heap.size 3 1 v9 (n + 1) ((swapQ i k (n + 1)).map (Value.int .i64))) := by
            unfold Hid
            rw [HLs'.out, List.map_append]
            have h := hown
            rw [HLl.out] at h
            first | exact h | simpa using h
          clear hown hgrow
          go_wp2
          go_roundw
          case rel => exact ⟨n + 1, by omega, by go_num, HO9.out, HB9.out⟩
          case measure => simp [intOf]; omega
        · have d2 : ((n : Int) == k) = false := by simp [e2]
          have HLs' : Hid (swapQ i k (n + 1) = l ++ [(n : Int)]) := by
            unfold Hid
            rw [HLs.out]
            unfold swapS
            rw [if_neg e1, if_neg e2]
          clear HLs
          clear e1 e2
          go_wp2_with (at_builtin; refine append_turn rfl _ _ rfl w8.heap.size u16 rfl l ((n : Int)) wr.heap.size 1 rfl (HO6.out.alloc _) (heap_alloc_new wr _) (by have := HS.out; simp; omega) hl20 ?_)
          intro v9 w9 hown hgrow
          have HBa : Hid (Below w8.heap.size w8 (wr.alloc (.cells #[.int .i64 ((n : Int))] 3))) := HBr.out.alloc HBr.out.size _
          have HB9 : Hid (Below w8.heap.size w8 w9) := HBa.out.grown hgrow HBa.out.size (fun x hx => (HO6.out.lt x hx).1)
          have HO9 : Hid (w9.ownsRow w8.heap.size 3 1 v9 (n + 1) ((swapQ i k (n + 1)).map (Value.int .i64))) := by
            unfold Hid
            rw [HLs'.out, List.map_append]
            have h := hown
            rw [HLl.out] at h
            first | exact h | simpa using h
          clear hown hgrow
          go_wp2
          go_roundw
          case rel => exact ⟨n + 1, by omega, by go_num, HO9.out, HB9.out⟩
          case measure => simp [intOf]; omega
    · have HR : Hid (Reads wr u16 (swapQ i k D.u.toNat)) := by
        have h := HOw.out
        have en : D.u.toNat = n := by omega
        unfold Hid
        rw [en]
        exact own_readsT (by rw [swapQ_length]; exact h) (by rw [swapQ_length]; omega)
      clear HOw
      obtain ⟨z0, z1, z2, z3⟩ := kWr.out.cells4
      go_wp2_with fail
      go_at_call 8
      refine (HT1.out _ _ HBw.out HR.out).mono ?_
      rintro e w9 ⟨rfl, hb⟩
      have B9 : Hid (Below w.heap.size w w9) := HBw.out.trans (hb.mono HBw.out.size)
      have kW9 : Hid (Blk w9 (w.heap.size + 1) 28 (arrW D)) := kWr.out.below hb
      have HR9 : Hid (Reads w9 u16 (swapQ i k D.u.toNat)) := HR.out.below hb
      clear hb z0 z1 z2 z3
      obtain ⟨GX, hGX⟩ : ∃ G, G = w9.heap.size := ⟨_, rfl⟩
      obtain ⟨w10, hw10⟩ : ∃ x, x = w9.alloc (.cells #[.int .i64 X.u, .int .i64 X.a, .int .i64 X.b, .int .i64 X.c] 28) := ⟨_, rfl⟩
      have hb : Below w9.heap.size w9 w10 := by rw [hw10]; exact below_alloc1 _ _
      have B10 : Hid (Below w.heap.size w w10) := B9.out.trans (hb.mono B9.out.size)
      have kW10 : Hid (Blk w10 (w.heap.size + 1) 28 (arrW D)) := kW9.out.below hb
      have kX10 : Hid (Blk w10 (GX) 28 (arrW X)) := by unfold Hid; rw [hw10, hGX]; exact Blk.new _ _ _
      have HR10 : Hid (Reads w10 u16 (swapQ i k D.u.toNat)) := HR9.out.below hb
      clear hb
      go_upto_region 20 with fail
      rw [← hw10, ← hGX]
      clear hw10 hGX
      obtain ⟨z0, z1, z2, z3⟩ := kX10.out.cells4
      go_wp2_with fail
      go_at_call 8
      refine (HT2.out _ _ B10.out HR10.out).mono ?_
      rintro e w11 ⟨rfl, hb⟩
      have B11 : Hid (Below w.heap.size w w11) := B10.out.trans (hb.mono B10.out.size)
      have kW11 : Hid (Blk w11 (w.heap.size + 1) 28 (arrW D)) := kW10.out.below hb
      clear hb z0 z1 z2 z3
      obtain ⟨GZ, hGZ⟩ : ∃ G, G = w11.heap.size := ⟨_, rfl⟩
      obtain ⟨w12, hw12⟩ : ∃ x, x = w11.alloc (.cells #[.int .i64 D.u, .int .i64 D.a, .int .i64 D.b, .int .i64 D.c] 28) := ⟨_, rfl⟩
      have hb : Below w11.heap.size w11 w12 := by rw [hw12]; exact below_alloc1 _ _
      have B12 : Hid (Below w.heap.size w w12) := B11.out.trans (hb.mono B11.out.size)
      have kW12 : Hid (Blk w12 (w.heap.size + 1) 28 (arrW D)) := kW11.out.below hb
      have kZ12 : Hid (Blk w12 (GZ) 28 (arrW D)) := by unfold Hid; rw [hw12, hGZ]; exact Blk.new _ _ _
      clear hb
      go_upto_region 21 with fail
      rw [← hw12, ← hGZ]
      clear hw12 hGZ
      obtain ⟨z0, z1, z2, z3⟩ := kW12.out.cells4
      obtain ⟨t0, t1, t2, t3⟩ := kZ12.out.cells4
      have hq := sameW D.u D.a D.b D.c
      go_wp2
      go_ret
      exact ⟨rfl, B12.out⟩

end Go.Proofs.YteknlcachfhfkaiDoor
