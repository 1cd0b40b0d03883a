/-
  Proved: what atom.Parse returns, of words of kind 1 and 2, by which part is wrong; what was in memory is as it was.
-/
import Derived.Test.YtenmheenieifpabGreatDoorAtomParseHead
namespace Go.Proofs.YtenmheenieifpabGreatDoor
open Go.ChangeShapes Go.WideShapes Go.ChangeAt Go.RowKit
set_option maxRecDepth 100000


set_option maxHeartbeats 4000000 in
theorem aparse_1_ee (s : ByteArray) (l0 l1 l2 : List UInt8) (w : World) (hK : KindsLaid w) (hL : LibLaid w) (z1 : l1.length ≤ 9223372036854775807) (z2 : l2.length ≤ 9223372036854775807)
    (hSp : ∀ W, Below w.heap.size w W → Calls Tryz.prog 34 #[.string s, .string ⟨#[32]⟩, .int .i64 5] W fun e w' => ∃ v, e = .returned v ∧ ReadsS w' v [l0, l1, l2] ∧ Below W.heap.size W w')
    (hKo : ∀ W v, Below w.heap.size w W → ReadsS W v [l0, l1, l2] → Calls Tryz.prog 35 #[v] W fun e w' => e = .returned (.int .i64 1) ∧ Below W.heap.size W w')
    (hf0 : ¬ (textFault l1) = 0) (hf1 : ¬ (textFault l2) = 0) :
    Calls Tryz.prog 14 #[.string s] w fun e w' => e = .returned (.tuple #[.agg #[.int .i64 0, .slice none 0 0, .slice none 0 0, .int .i64 0], errV (toldN (textFault l1) (textFault l2) 0)]) ∧ Below w.heap.size w w' := by
  obtain ⟨w1, hw1⟩ : ∃ w1, w1 = w.alloc (.cells #[.int .i64 0, .slice none 0 0, .slice none 0 0, .int .i64 0] 24) := ⟨_, rfl⟩
  have HB1 : Hid (Below w.heap.size w w1) := by unfold Hid; rw [hw1]; exact below_alloc1 w _
  have HRc : Hid ((w1.cell? ⟨w.heap.size, 0, none⟩ = some (.int .i64 0) ∧ w1.cell? ⟨w.heap.size, 1, none⟩ = some (.slice none 0 0) ∧ w1.cell? ⟨w.heap.size, 2, none⟩ = some (.slice none 0 0) ∧ w1.cell? ⟨w.heap.size, 3, none⟩ = some (.int .i64 0)) ∧ (∀ j, w1.frozen? ⟨w.heap.size, j, none⟩ = false) ∧ w.heap.size < w1.heap.size) := by unfold Hid; rw [hw1]; exact ⟨⟨by simp, by simp, by simp, by simp⟩, fun j => by simp, by simp⟩
  have HSp : Hid (Calls Tryz.prog 34 #[.string s, .string ⟨#[32]⟩, .int .i64 5] w1 fun e w' => ∃ v, e = .returned v ∧ ReadsS w' v [l0, l1, l2] ∧ Below w1.heap.size w1 w') := hSp w1 HB1.out
  have HKo : Hid (∀ W v, Below w.heap.size w W → ReadsS W v [l0, l1, l2] → Calls Tryz.prog 35 #[v] W fun e w' => e = .returned (.int .i64 1) ∧ Below W.heap.size W w') := hKo
  have HPa : Hid (∀ (l : List UInt8), l.length ≤ 9223372036854775807 → ∀ W, Calls Tryz.prog 36 #[.string (strOf l)] W fun e w' => ∃ v, e = .returned (.tuple #[v, errV (textFault l)]) ∧ (textFault l = 0 → Reads w' v (readN l) ∧ ∃ g c, v = .slice (some ⟨g, 0, none⟩) c c ∧ W.heap.size ≤ g) ∧ (¬ textFault l = 0 → v = .slice none 0 0) ∧ Below W.heap.size W w') := fun l hl W => by
    have := parse_fresh (strOf l) (by rw [strOf_size]; exact hl) W
    rw [strOf_list] at this
    exact this
  have hT0 : ¬ (toldN (textFault l1) (textFault l2) 0) = 0 := by unfold toldN; split <;> (try split) <;> (try split) <;> omega
  have hTE : errV (toldN (textFault l1) (textFault l2) 0) = (.iface 51 (.int .i64 (toldN (textFault l1) (textFault l2) 0))) := errV_no hT0
  rw [hTE]
  have HTo : Hid (∀ W, Calls Tryz.prog 38 #[.agg #[.iface 51 (.int .i64 (textFault l1)), .iface 51 (.int .i64 (textFault l2)), .nilIface]] W fun e w' => e = .returned (.iface 51 (.int .i64 (toldN (textFault l1) (textFault l2) 0))) ∧ Below W.heap.size W w') := fun W => by
    have h := told_any (textFault l1) (textFault l2) 0 (textFault_range _).1 (textFault_range _).2 (textFault_range _).1 (textFault_range _).2 (by decide) (by decide) W
    rw [hTE] at h
    have e0 : errV (textFault l1) = .iface 51 (.int .i64 (textFault l1)) := errV_no hf0
    have e1 : errV (textFault l2) = .iface 51 (.int .i64 (textFault l2)) := errV_no hf1
    have e2 : errV 0 = .nilIface := rfl
    rw [e0, e1, e2] at h
    exact h
  clear hTE hT0
  obtain ⟨TT, hTT⟩ : ∃ TT, TT = (toldN (textFault l1) (textFault l2) 0) := ⟨_, rfl⟩
  rw [← hTT] at HTo ⊢
  clear hTT
  have HF0 : Hid (¬ (textFault l1) = 0) := hf0
  have HF1 : Hid (¬ (textFault l2) = 0) := hf1
  clear hf0 hf1
  have HKL : Hid (KindsLaid w ∧ LibLaid w) := ⟨hK, hL⟩
  clear hSp hKo hK hL
  go_enter Tryz.func14, Tryz.ntmps14
  go_wp2_with fail
  rw [← hw1]
  clear hw1
  go_at_call 34
  refine HSp.out.mono ?_
  rintro e w2 ⟨v, rfl, hR, hb⟩
  have HZ2 : Hid (Below w1.heap.size w1 w2) := hb
  have HR2 : Hid (ReadsS w2 v [l0, l1, l2]) := hR
  clear hb hR
  go_wp2_with fail
  go_at_call 35
  refine (HKo.out _ _ (HB1.out.trans (HZ2.out.mono HB1.out.size)) HR2.out).mono ?_
  rintro e w3 ⟨rfl, hb⟩
  have HZ3 : Hid (Below w1.heap.size w1 w3) := HZ2.out.trans (hb.mono HZ2.out.size)
  have hR3 := HR2.out.below hb
  clear hb
  obtain ⟨wb, cap, rfl, hwb, hcap, hcell⟩ := hR3
  have HC : Hid (∀ j, j < 3 → w3.cell? ⟨wb, j, none⟩ = some (.string (strOf (List.getD [l0, l1, l2] j [])))) := hcell
  have HWb : Hid (wb < w3.heap.size) := hwb
  have HBw : Hid (∀ W, Below w3.heap.size w3 W → Below w.heap.size w W ∧ Below w1.heap.size w1 W) := fun W h => ⟨(HB1.out.trans (HZ3.out.mono HB1.out.size)).trans (h.mono (Nat.le_trans HB1.out.size HZ3.out.size)), HZ3.out.trans (h.mono HZ3.out.size)⟩
  have HKd : Hid (∀ W, Below w3.heap.size w3 W → KindsLaid W) := fun W h => HKL.out.1.below (HBw.out W h).1
  clear hcell hcap hwb
  obtain ⟨W4, hW4⟩ : ∃ W4, W4 = ((w3.alloc (.cells #[.int .i64 1, .slice none 0 0, .slice none 0 0, .int .i64 0] 24)).alloc (.cells #[.nilIface, .nilIface, .nilIface] 73)) := ⟨_, rfl⟩
  have HP4 : Hid (PS W4 w3.heap.size (.int .i64 1) (.slice none 0 0) (.slice none 0 0) (.int .i64 0) .nilIface .nilIface .nilIface) := by unfold Hid; rw [hW4]; exact ps_alloc _ _ _ _
  have HB4 : Hid (Below w3.heap.size w3 W4) := by unfold Hid; rw [hW4]; exact ((Below.refl _ _).alloc (Nat.le_refl _) _).alloc (by simp) _
  have c1 : W4.cell? ⟨wb, 1, none⟩ = some (.string (strOf l1)) := (HB4.out.cell HWb.out).trans (HC.out 1 (by decide))
  rw [hW4] at c1
  go_wp2_with fail
  rw [← hW4]
  clear hW4 c1

  go_at_call 36
  refine (HPa.out l1 z1 _).mono ?_
  rintro e w5 ⟨vv, rfl, hS, hSn, hb⟩
  obtain ⟨ao0, sn0, sc0, rfl⟩ : ∃ ao n c, vv = .slice ao n c := by
    by_cases h : textFault l1 = 0
    · obtain ⟨_, g, c, rfl, _⟩ := hS h; exact ⟨_, _, _, rfl⟩
    · exact ⟨_, _, _, hSn h⟩
  have hE : errV (textFault l1) = .iface 51 (.int .i64 (textFault l1)) := by exact errV_no HF0.out
  rw [hE]
  clear hE hS hSn

  have HP5 : Hid (PS w5 w3.heap.size (.int .i64 1) (.slice none 0 0) (.slice none 0 0) (.int .i64 0) (.nilIface) (.nilIface) (.nilIface)) := HP4.out.below hb
  have HB5 : Hid (Below w3.heap.size w3 w5) := HB4.out.trans (hb.mono HB4.out.size)
  have hbx := hb
  clear hb
  have f0 := HP5.out.2.2.1 1
  have f1 := HP5.out.2.2.2.1 0
  have g0 := HP5.out.1.2.1
  have g1 := HP5.out.2.1.1
  obtain ⟨W6, hW6⟩ : ∃ W6, W6 = (w5.setCell ⟨w3.heap.size, 1, none⟩ (.slice ao0 sn0 sc0)).setCell ⟨w3.heap.size + 1, 0, none⟩ (.iface 51 (.int .i64 (textFault l1))) := ⟨_, rfl⟩

  have HP6 : Hid (PS W6 w3.heap.size (.int .i64 1) (.slice ao0 sn0 sc0) (.slice none 0 0) (.int .i64 0) (.iface 51 (.int .i64 (textFault l1))) (.nilIface) (.nilIface)) := by unfold Hid; rw [hW6]; exact HP5.out.storeS _ _
  have HB6 : Hid (Below w3.heap.size w3 W6) := by unfold Hid; rw [hW6]; exact (HB5.out.setCell (Nat.le_refl _) _).setCell (by simp) _
  have k6 : W6.cell? ⟨0, 4, none⟩ = some (.bool true) := HKd.out _ HB6.out 4 (by decide)
  have k7 : W6.cell? ⟨0, 5, none⟩ = some (.bool false) := HKd.out _ HB6.out 5 (by decide)
  have q6 := HP6.out.1.1
  have q7 := HP6.out.2.1.1
  have q8 := HP6.out.2.1.2.1
  have q9 := HP6.out.2.1.2.2

  have c2 : W6.cell? ⟨wb, 2, none⟩ = some (.string (strOf l2)) := (HB6.out.cell HWb.out).trans (HC.out 2 (by decide))

  clear hbx
  rw [hW6] at k6 k7 q6 q7 q8 q9 c2
  go_wp2_with fail
  rw [← hW6]
  clear hW6 f0 f1 g0 g1 k6 k7 q6 q7 q8 q9 c2

  go_at_call 36
  refine (HPa.out l2 z2 _).mono ?_
  rintro e w7 ⟨vv, rfl, hS, hSn, hb⟩
  obtain ⟨ao1, sn1, sc1, rfl⟩ : ∃ ao n c, vv = .slice ao n c := by
    by_cases h : textFault l2 = 0
    · obtain ⟨_, g, c, rfl, _⟩ := hS h; exact ⟨_, _, _, rfl⟩
    · exact ⟨_, _, _, hSn h⟩
  have hE : errV (textFault l2) = .iface 51 (.int .i64 (textFault l2)) := by exact errV_no HF1.out
  rw [hE]
  clear hE hS hSn

  have HP7 : Hid (PS w7 w3.heap.size (.int .i64 1) (.slice ao0 sn0 sc0) (.slice none 0 0) (.int .i64 0) (.iface 51 (.int .i64 (textFault l1))) (.nilIface) (.nilIface)) := HP6.out.below hb
  have HB7 : Hid (Below w3.heap.size w3 w7) := HB6.out.trans (hb.mono HB6.out.size)
  have hbx := hb
  clear hb
  have f0 := HP7.out.2.2.1 2
  have f1 := HP7.out.2.2.2.1 1
  have g0 := HP7.out.1.2.2.1
  have g1 := HP7.out.2.1.2.1
  obtain ⟨W8, hW8⟩ : ∃ W8, W8 = (w7.setCell ⟨w3.heap.size, 2, none⟩ (.slice ao1 sn1 sc1)).setCell ⟨w3.heap.size + 1, 1, none⟩ (.iface 51 (.int .i64 (textFault l2))) := ⟨_, rfl⟩

  have HP8 : Hid (PS W8 w3.heap.size (.int .i64 1) (.slice ao0 sn0 sc0) (.slice ao1 sn1 sc1) (.int .i64 0) (.iface 51 (.int .i64 (textFault l1))) (.iface 51 (.int .i64 (textFault l2))) (.nilIface)) := by unfold Hid; rw [hW8]; exact HP7.out.storeT _ _
  have HB8 : Hid (Below w3.heap.size w3 W8) := by unfold Hid; rw [hW8]; exact (HB7.out.setCell (Nat.le_refl _) _).setCell (by simp) _
  have k6 : W8.cell? ⟨0, 4, none⟩ = some (.bool true) := HKd.out _ HB8.out 4 (by decide)
  have k7 : W8.cell? ⟨0, 5, none⟩ = some (.bool false) := HKd.out _ HB8.out 5 (by decide)
  have q6 := HP8.out.1.1
  have q7 := HP8.out.2.1.1
  have q8 := HP8.out.2.1.2.1
  have q9 := HP8.out.2.1.2.2

  clear hbx
  rw [hW8] at k6 k7 q6 q7 q8 q9
  go_wp2_with fail
  rw [← hW8]
  clear hW8 f0 f1 g0 g1 k6 k7 q6 q7 q8 q9

  go_at_call 38
  refine (HTo.out _).mono ?_
  rintro e w20 ⟨rfl, hb⟩
  have HB20 : Hid (Below w3.heap.size w3 w20) := HB8.out.trans (hb.mono HB8.out.size)
  have HR20 := (HBw.out _ HB20.out).2
  have r0 := (HR20.cell (p := ⟨w.heap.size, 0, none⟩) HRc.out.2.2).trans HRc.out.1.1
  have r1 := (HR20.cell (p := ⟨w.heap.size, 1, none⟩) HRc.out.2.2).trans HRc.out.1.2.1
  have r2 := (HR20.cell (p := ⟨w.heap.size, 2, none⟩) HRc.out.2.2).trans HRc.out.1.2.2.1
  have r3 := (HR20.cell (p := ⟨w.heap.size, 3, none⟩) HRc.out.2.2).trans HRc.out.1.2.2.2
  have p0 := (HR20.frozen (p := ⟨w.heap.size, 0, none⟩) HRc.out.2.2).trans (HRc.out.2.1 0)
  have p1 := (HR20.frozen (p := ⟨w.heap.size, 1, none⟩) HRc.out.2.2).trans (HRc.out.2.1 1)
  have p2 := (HR20.frozen (p := ⟨w.heap.size, 2, none⟩) HRc.out.2.2).trans (HRc.out.2.1 2)
  have p3 := (HR20.frozen (p := ⟨w.heap.size, 3, none⟩) HRc.out.2.2).trans (HRc.out.2.1 3)
  clear HR20 hb
  go_wp2_with fail
  have m0 : ((((w20.setCell ⟨w.heap.size, 0, none⟩ (.int .i64 0)).setCell ⟨w.heap.size, 1, none⟩ (.slice none 0 0)).setCell ⟨w.heap.size, 2, none⟩ (.slice none 0 0)).setCell ⟨w.heap.size, 3, none⟩ (.int .i64 0)).cell? ⟨w.heap.size, 0, none⟩ = some (.int .i64 0) := by
    rw [set_far (ne_off (by decide)), set_far (ne_off (by decide)), set_far (ne_off (by decide))]; exact set_same r0
  have m1 : ((((w20.setCell ⟨w.heap.size, 0, none⟩ (.int .i64 0)).setCell ⟨w.heap.size, 1, none⟩ (.slice none 0 0)).setCell ⟨w.heap.size, 2, none⟩ (.slice none 0 0)).setCell ⟨w.heap.size, 3, none⟩ (.int .i64 0)).cell? ⟨w.heap.size, 1, none⟩ = some (.slice none 0 0) := by
    rw [set_far (ne_off (by decide)), set_far (ne_off (by decide))]; exact set_same ((set_far (ne_off (by decide))).trans r1)
  have m2 : ((((w20.setCell ⟨w.heap.size, 0, none⟩ (.int .i64 0)).setCell ⟨w.heap.size, 1, none⟩ (.slice none 0 0)).setCell ⟨w.heap.size, 2, none⟩ (.slice none 0 0)).setCell ⟨w.heap.size, 3, none⟩ (.int .i64 0)).cell? ⟨w.heap.size, 2, none⟩ = some (.slice none 0 0) := by
    rw [set_far (ne_off (by decide))]; exact set_same ((set_far (ne_off (by decide))).trans ((set_far (ne_off (by decide))).trans r2))
  have m3 : ((((w20.setCell ⟨w.heap.size, 0, none⟩ (.int .i64 0)).setCell ⟨w.heap.size, 1, none⟩ (.slice none 0 0)).setCell ⟨w.heap.size, 2, none⟩ (.slice none 0 0)).setCell ⟨w.heap.size, 3, none⟩ (.int .i64 0)).cell? ⟨w.heap.size, 3, none⟩ = some (.int .i64 0) :=
    set_same ((set_far (ne_off (by decide))).trans ((set_far (ne_off (by decide))).trans ((set_far (ne_off (by decide))).trans r3)))
  have hld := load_atom m0 m1 m2 m3
  refine bodyPost_ret (v := .tuple #[.agg #[.int .i64 0, .slice none 0 0, .slice none 0 0, .int .i64 0], (.iface 51 (.int .i64 TT))]) ?_ rfl ⟨rfl, ?_⟩
  · rw [results_cell_tmp rfl]
    simp [asAddr, Result.andThen, hld]
  · have hb := (HBw.out _ HB20.out).1
    exact (((hb.setCell (Nat.le_refl _) _).setCell (Nat.le_refl _) _).setCell (Nat.le_refl _) _).setCell (Nat.le_refl _) _


set_option maxHeartbeats 4000000 in
theorem aparse_1_en (s : ByteArray) (l0 l1 l2 : List UInt8) (w : World) (hK : KindsLaid w) (hL : LibLaid w) (z1 : l1.length ≤ 9223372036854775807) (z2 : l2.length ≤ 9223372036854775807)
    (hSp : ∀ W, Below w.heap.size w W → Calls Tryz.prog 34 #[.string s, .string ⟨#[32]⟩, .int .i64 5] W fun e w' => ∃ v, e = .returned v ∧ ReadsS w' v [l0, l1, l2] ∧ Below W.heap.size W w')
    (hKo : ∀ W v, Below w.heap.size w W → ReadsS W v [l0, l1, l2] → Calls Tryz.prog 35 #[v] W fun e w' => e = .returned (.int .i64 1) ∧ Below W.heap.size W w')
    (hf0 : ¬ (textFault l1) = 0) (hf1 : (textFault l2) = 0) :
    Calls Tryz.prog 14 #[.string s] w fun e w' => e = .returned (.tuple #[.agg #[.int .i64 0, .slice none 0 0, .slice none 0 0, .int .i64 0], errV (toldN (textFault l1) (textFault l2) 0)]) ∧ Below w.heap.size w w' := by
  obtain ⟨w1, hw1⟩ : ∃ w1, w1 = w.alloc (.cells #[.int .i64 0, .slice none 0 0, .slice none 0 0, .int .i64 0] 24) := ⟨_, rfl⟩
  have HB1 : Hid (Below w.heap.size w w1) := by unfold Hid; rw [hw1]; exact below_alloc1 w _
  have HRc : Hid ((w1.cell? ⟨w.heap.size, 0, none⟩ = some (.int .i64 0) ∧ w1.cell? ⟨w.heap.size, 1, none⟩ = some (.slice none 0 0) ∧ w1.cell? ⟨w.heap.size, 2, none⟩ = some (.slice none 0 0) ∧ w1.cell? ⟨w.heap.size, 3, none⟩ = some (.int .i64 0)) ∧ (∀ j, w1.frozen? ⟨w.heap.size, j, none⟩ = false) ∧ w.heap.size < w1.heap.size) := by unfold Hid; rw [hw1]; exact ⟨⟨by simp, by simp, by simp, by simp⟩, fun j => by simp, by simp⟩
  have HSp : Hid (Calls Tryz.prog 34 #[.string s, .string ⟨#[32]⟩, .int .i64 5] w1 fun e w' => ∃ v, e = .returned v ∧ ReadsS w' v [l0, l1, l2] ∧ Below w1.heap.size w1 w') := hSp w1 HB1.out
  have HKo : Hid (∀ W v, Below w.heap.size w W → ReadsS W v [l0, l1, l2] → Calls Tryz.prog 35 #[v] W fun e w' => e = .returned (.int .i64 1) ∧ Below W.heap.size W w') := hKo
  have HPa : Hid (∀ (l : List UInt8), l.length ≤ 9223372036854775807 → ∀ W, Calls Tryz.prog 36 #[.string (strOf l)] W fun e w' => ∃ v, e = .returned (.tuple #[v, errV (textFault l)]) ∧ (textFault l = 0 → Reads w' v (readN l) ∧ ∃ g c, v = .slice (some ⟨g, 0, none⟩) c c ∧ W.heap.size ≤ g) ∧ (¬ textFault l = 0 → v = .slice none 0 0) ∧ Below W.heap.size W w') := fun l hl W => by
    have := parse_fresh (strOf l) (by rw [strOf_size]; exact hl) W
    rw [strOf_list] at this
    exact this
  have hT0 : ¬ (toldN (textFault l1) (textFault l2) 0) = 0 := by unfold toldN; split <;> (try split) <;> (try split) <;> omega
  have hTE : errV (toldN (textFault l1) (textFault l2) 0) = (.iface 51 (.int .i64 (toldN (textFault l1) (textFault l2) 0))) := errV_no hT0
  rw [hTE]
  have HTo : Hid (∀ W, Calls Tryz.prog 38 #[.agg #[.iface 51 (.int .i64 (textFault l1)), .nilIface, .nilIface]] W fun e w' => e = .returned (.iface 51 (.int .i64 (toldN (textFault l1) (textFault l2) 0))) ∧ Below W.heap.size W w') := fun W => by
    have h := told_any (textFault l1) (textFault l2) 0 (textFault_range _).1 (textFault_range _).2 (textFault_range _).1 (textFault_range _).2 (by decide) (by decide) W
    rw [hTE] at h
    have e0 : errV (textFault l1) = .iface 51 (.int .i64 (textFault l1)) := errV_no hf0
    have e1 : errV (textFault l2) = .nilIface := by rw [hf1]; rfl
    have e2 : errV 0 = .nilIface := rfl
    rw [e0, e1, e2] at h
    exact h
  clear hTE hT0
  obtain ⟨TT, hTT⟩ : ∃ TT, TT = (toldN (textFault l1) (textFault l2) 0) := ⟨_, rfl⟩
  rw [← hTT] at HTo ⊢
  clear hTT
  have HF0 : Hid (¬ (textFault l1) = 0) := hf0
  have HF1 : Hid ((textFault l2) = 0) := hf1
  clear hf0 hf1
  have HKL : Hid (KindsLaid w ∧ LibLaid w) := ⟨hK, hL⟩
  clear hSp hKo hK hL
  go_enter Tryz.func14, Tryz.ntmps14
  go_wp2_with fail
  rw [← hw1]
  clear hw1
  go_at_call 34
  refine HSp.out.mono ?_
  rintro e w2 ⟨v, rfl, hR, hb⟩
  have HZ2 : Hid (Below w1.heap.size w1 w2) := hb
  have HR2 : Hid (ReadsS w2 v [l0, l1, l2]) := hR
  clear hb hR
  go_wp2_with fail
  go_at_call 35
  refine (HKo.out _ _ (HB1.out.trans (HZ2.out.mono HB1.out.size)) HR2.out).mono ?_
  rintro e w3 ⟨rfl, hb⟩
  have HZ3 : Hid (Below w1.heap.size w1 w3) := HZ2.out.trans (hb.mono HZ2.out.size)
  have hR3 := HR2.out.below hb
  clear hb
  obtain ⟨wb, cap, rfl, hwb, hcap, hcell⟩ := hR3
  have HC : Hid (∀ j, j < 3 → w3.cell? ⟨wb, j, none⟩ = some (.string (strOf (List.getD [l0, l1, l2] j [])))) := hcell
  have HWb : Hid (wb < w3.heap.size) := hwb
  have HBw : Hid (∀ W, Below w3.heap.size w3 W → Below w.heap.size w W ∧ Below w1.heap.size w1 W) := fun W h => ⟨(HB1.out.trans (HZ3.out.mono HB1.out.size)).trans (h.mono (Nat.le_trans HB1.out.size HZ3.out.size)), HZ3.out.trans (h.mono HZ3.out.size)⟩
  have HKd : Hid (∀ W, Below w3.heap.size w3 W → KindsLaid W) := fun W h => HKL.out.1.below (HBw.out W h).1
  clear hcell hcap hwb
  obtain ⟨W4, hW4⟩ : ∃ W4, W4 = ((w3.alloc (.cells #[.int .i64 1, .slice none 0 0, .slice none 0 0, .int .i64 0] 24)).alloc (.cells #[.nilIface, .nilIface, .nilIface] 73)) := ⟨_, rfl⟩
  have HP4 : Hid (PS W4 w3.heap.size (.int .i64 1) (.slice none 0 0) (.slice none 0 0) (.int .i64 0) .nilIface .nilIface .nilIface) := by unfold Hid; rw [hW4]; exact ps_alloc _ _ _ _
  have HB4 : Hid (Below w3.heap.size w3 W4) := by unfold Hid; rw [hW4]; exact ((Below.refl _ _).alloc (Nat.le_refl _) _).alloc (by simp) _
  have c1 : W4.cell? ⟨wb, 1, none⟩ = some (.string (strOf l1)) := (HB4.out.cell HWb.out).trans (HC.out 1 (by decide))
  rw [hW4] at c1
  go_wp2_with fail
  rw [← hW4]
  clear hW4 c1

  go_at_call 36
  refine (HPa.out l1 z1 _).mono ?_
  rintro e w5 ⟨vv, rfl, hS, hSn, hb⟩
  obtain ⟨ao0, sn0, sc0, rfl⟩ : ∃ ao n c, vv = .slice ao n c := by
    by_cases h : textFault l1 = 0
    · obtain ⟨_, g, c, rfl, _⟩ := hS h; exact ⟨_, _, _, rfl⟩
    · exact ⟨_, _, _, hSn h⟩
  have hE : errV (textFault l1) = .iface 51 (.int .i64 (textFault l1)) := by exact errV_no HF0.out
  rw [hE]
  clear hE hS hSn

  have HP5 : Hid (PS w5 w3.heap.size (.int .i64 1) (.slice none 0 0) (.slice none 0 0) (.int .i64 0) (.nilIface) (.nilIface) (.nilIface)) := HP4.out.below hb
  have HB5 : Hid (Below w3.heap.size w3 w5) := HB4.out.trans (hb.mono HB4.out.size)
  have hbx := hb
  clear hb
  have f0 := HP5.out.2.2.1 1
  have f1 := HP5.out.2.2.2.1 0
  have g0 := HP5.out.1.2.1
  have g1 := HP5.out.2.1.1
  obtain ⟨W6, hW6⟩ : ∃ W6, W6 = (w5.setCell ⟨w3.heap.size, 1, none⟩ (.slice ao0 sn0 sc0)).setCell ⟨w3.heap.size + 1, 0, none⟩ (.iface 51 (.int .i64 (textFault l1))) := ⟨_, rfl⟩

  have HP6 : Hid (PS W6 w3.heap.size (.int .i64 1) (.slice ao0 sn0 sc0) (.slice none 0 0) (.int .i64 0) (.iface 51 (.int .i64 (textFault l1))) (.nilIface) (.nilIface)) := by unfold Hid; rw [hW6]; exact HP5.out.storeS _ _
  have HB6 : Hid (Below w3.heap.size w3 W6) := by unfold Hid; rw [hW6]; exact (HB5.out.setCell (Nat.le_refl _) _).setCell (by simp) _
  have k6 : W6.cell? ⟨0, 4, none⟩ = some (.bool true) := HKd.out _ HB6.out 4 (by decide)
  have k7 : W6.cell? ⟨0, 5, none⟩ = some (.bool false) := HKd.out _ HB6.out 5 (by decide)
  have q6 := HP6.out.1.1
  have q7 := HP6.out.2.1.1
  have q8 := HP6.out.2.1.2.1
  have q9 := HP6.out.2.1.2.2

  have c2 : W6.cell? ⟨wb, 2, none⟩ = some (.string (strOf l2)) := (HB6.out.cell HWb.out).trans (HC.out 2 (by decide))

  clear hbx
  rw [hW6] at k6 k7 q6 q7 q8 q9 c2
  go_wp2_with fail
  rw [← hW6]
  clear hW6 f0 f1 g0 g1 k6 k7 q6 q7 q8 q9 c2

  go_at_call 36
  refine (HPa.out l2 z2 _).mono ?_
  rintro e w7 ⟨vv, rfl, hS, hSn, hb⟩
  obtain ⟨ao1, sn1, sc1, rfl⟩ : ∃ ao n c, vv = .slice ao n c := by
    by_cases h : textFault l2 = 0
    · obtain ⟨_, g, c, rfl, _⟩ := hS h; exact ⟨_, _, _, rfl⟩
    · exact ⟨_, _, _, hSn h⟩
  have hE : errV (textFault l2) = .nilIface := by rw [HF1.out]; rfl
  rw [hE]
  clear hE hS hSn

  have HP7 : Hid (PS w7 w3.heap.size (.int .i64 1) (.slice ao0 sn0 sc0) (.slice none 0 0) (.int .i64 0) (.iface 51 (.int .i64 (textFault l1))) (.nilIface) (.nilIface)) := HP6.out.below hb
  have HB7 : Hid (Below w3.heap.size w3 w7) := HB6.out.trans (hb.mono HB6.out.size)
  have hbx := hb
  clear hb
  have f0 := HP7.out.2.2.1 2
  have f1 := HP7.out.2.2.2.1 1
  have g0 := HP7.out.1.2.2.1
  have g1 := HP7.out.2.1.2.1
  obtain ⟨W8, hW8⟩ : ∃ W8, W8 = (w7.setCell ⟨w3.heap.size, 2, none⟩ (.slice ao1 sn1 sc1)).setCell ⟨w3.heap.size + 1, 1, none⟩ (.nilIface) := ⟨_, rfl⟩

  have HP8 : Hid (PS W8 w3.heap.size (.int .i64 1) (.slice ao0 sn0 sc0) (.slice ao1 sn1 sc1) (.int .i64 0) (.iface 51 (.int .i64 (textFault l1))) (.nilIface) (.nilIface)) := by unfold Hid; rw [hW8]; exact HP7.out.storeT _ _
  have HB8 : Hid (Below w3.heap.size w3 W8) := by unfold Hid; rw [hW8]; exact (HB7.out.setCell (Nat.le_refl _) _).setCell (by simp) _
  have k6 : W8.cell? ⟨0, 4, none⟩ = some (.bool true) := HKd.out _ HB8.out 4 (by decide)
  have k7 : W8.cell? ⟨0, 5, none⟩ = some (.bool false) := HKd.out _ HB8.out 5 (by decide)
  have q6 := HP8.out.1.1
  have q7 := HP8.out.2.1.1
  have q8 := HP8.out.2.1.2.1
  have q9 := HP8.out.2.1.2.2

  clear hbx
  rw [hW8] at k6 k7 q6 q7 q8 q9
  go_wp2_with fail
  rw [← hW8]
  clear hW8 f0 f1 g0 g1 k6 k7 q6 q7 q8 q9

  go_at_call 38
  refine (HTo.out _).mono ?_
  rintro e w20 ⟨rfl, hb⟩
  have HB20 : Hid (Below w3.heap.size w3 w20) := HB8.out.trans (hb.mono HB8.out.size)
  have HR20 := (HBw.out _ HB20.out).2
  have r0 := (HR20.cell (p := ⟨w.heap.size, 0, none⟩) HRc.out.2.2).trans HRc.out.1.1
  have r1 := (HR20.cell (p := ⟨w.heap.size, 1, none⟩) HRc.out.2.2).trans HRc.out.1.2.1
  have r2 := (HR20.cell (p := ⟨w.heap.size, 2, none⟩) HRc.out.2.2).trans HRc.out.1.2.2.1
  have r3 := (HR20.cell (p := ⟨w.heap.size, 3, none⟩) HRc.out.2.2).trans HRc.out.1.2.2.2
  have p0 := (HR20.frozen (p := ⟨w.heap.size, 0, none⟩) HRc.out.2.2).trans (HRc.out.2.1 0)
  have p1 := (HR20.frozen (p := ⟨w.heap.size, 1, none⟩) HRc.out.2.2).trans (HRc.out.2.1 1)
  have p2 := (HR20.frozen (p := ⟨w.heap.size, 2, none⟩) HRc.out.2.2).trans (HRc.out.2.1 2)
  have p3 := (HR20.frozen (p := ⟨w.heap.size, 3, none⟩) HRc.out.2.2).trans (HRc.out.2.1 3)
  clear HR20 hb
  go_wp2_with fail
  have m0 : ((((w20.setCell ⟨w.heap.size, 0, none⟩ (.int .i64 0)).setCell ⟨w.heap.size, 1, none⟩ (.slice none 0 0)).setCell ⟨w.heap.size, 2, none⟩ (.slice none 0 0)).setCell ⟨w.heap.size, 3, none⟩ (.int .i64 0)).cell? ⟨w.heap.size, 0, none⟩ = some (.int .i64 0) := by
    rw [set_far (ne_off (by decide)), set_far (ne_off (by decide)), set_far (ne_off (by decide))]; exact set_same r0
  have m1 : ((((w20.setCell ⟨w.heap.size, 0, none⟩ (.int .i64 0)).setCell ⟨w.heap.size, 1, none⟩ (.slice none 0 0)).setCell ⟨w.heap.size, 2, none⟩ (.slice none 0 0)).setCell ⟨w.heap.size, 3, none⟩ (.int .i64 0)).cell? ⟨w.heap.size, 1, none⟩ = some (.slice none 0 0) := by
    rw [set_far (ne_off (by decide)), set_far (ne_off (by decide))]; exact set_same ((set_far (ne_off (by decide))).trans r1)
  have m2 : ((((w20.setCell ⟨w.heap.size, 0, none⟩ (.int .i64 0)).setCell ⟨w.heap.size, 1, none⟩ (.slice none 0 0)).setCell ⟨w.heap.size, 2, none⟩ (.slice none 0 0)).setCell ⟨w.heap.size, 3, none⟩ (.int .i64 0)).cell? ⟨w.heap.size, 2, none⟩ = some (.slice none 0 0) := by
    rw [set_far (ne_off (by decide))]; exact set_same ((set_far (ne_off (by decide))).trans ((set_far (ne_off (by decide))).trans r2))
  have m3 : ((((w20.setCell ⟨w.heap.size, 0, none⟩ (.int .i64 0)).setCell ⟨w.heap.size, 1, none⟩ (.slice none 0 0)).setCell ⟨w.heap.size, 2, none⟩ (.slice none 0 0)).setCell ⟨w.heap.size, 3, none⟩ (.int .i64 0)).cell? ⟨w.heap.size, 3, none⟩ = some (.int .i64 0) :=
    set_same ((set_far (ne_off (by decide))).trans ((set_far (ne_off (by decide))).trans ((set_far (ne_off (by decide))).trans r3)))
  have hld := load_atom m0 m1 m2 m3
  refine bodyPost_ret (v := .tuple #[.agg #[.int .i64 0, .slice none 0 0, .slice none 0 0, .int .i64 0], (.iface 51 (.int .i64 TT))]) ?_ rfl ⟨rfl, ?_⟩
  · rw [results_cell_tmp rfl]
    simp [asAddr, Result.andThen, hld]
  · have hb := (HBw.out _ HB20.out).1
    exact (((hb.setCell (Nat.le_refl _) _).setCell (Nat.le_refl _) _).setCell (Nat.le_refl _) _).setCell (Nat.le_refl _) _


set_option maxHeartbeats 4000000 in
theorem aparse_1_ne (s : ByteArray) (l0 l1 l2 : List UInt8) (w : World) (hK : KindsLaid w) (hL : LibLaid w) (z1 : l1.length ≤ 9223372036854775807) (z2 : l2.length ≤ 9223372036854775807)
    (hSp : ∀ W, Below w.heap.size w W → Calls Tryz.prog 34 #[.string s, .string ⟨#[32]⟩, .int .i64 5] W fun e w' => ∃ v, e = .returned v ∧ ReadsS w' v [l0, l1, l2] ∧ Below W.heap.size W w')
    (hKo : ∀ W v, Below w.heap.size w W → ReadsS W v [l0, l1, l2] → Calls Tryz.prog 35 #[v] W fun e w' => e = .returned (.int .i64 1) ∧ Below W.heap.size W w')
    (hf0 : (textFault l1) = 0) (hf1 : ¬ (textFault l2) = 0) :
    Calls Tryz.prog 14 #[.string s] w fun e w' => e = .returned (.tuple #[.agg #[.int .i64 0, .slice none 0 0, .slice none 0 0, .int .i64 0], errV (toldN (textFault l1) (textFault l2) 0)]) ∧ Below w.heap.size w w' := by
  obtain ⟨w1, hw1⟩ : ∃ w1, w1 = w.alloc (.cells #[.int .i64 0, .slice none 0 0, .slice none 0 0, .int .i64 0] 24) := ⟨_, rfl⟩
  have HB1 : Hid (Below w.heap.size w w1) := by unfold Hid; rw [hw1]; exact below_alloc1 w _
  have HRc : Hid ((w1.cell? ⟨w.heap.size, 0, none⟩ = some (.int .i64 0) ∧ w1.cell? ⟨w.heap.size, 1, none⟩ = some (.slice none 0 0) ∧ w1.cell? ⟨w.heap.size, 2, none⟩ = some (.slice none 0 0) ∧ w1.cell? ⟨w.heap.size, 3, none⟩ = some (.int .i64 0)) ∧ (∀ j, w1.frozen? ⟨w.heap.size, j, none⟩ = false) ∧ w.heap.size < w1.heap.size) := by unfold Hid; rw [hw1]; exact ⟨⟨by simp, by simp, by simp, by simp⟩, fun j => by simp, by simp⟩
  have HSp : Hid (Calls Tryz.prog 34 #[.string s, .string ⟨#[32]⟩, .int .i64 5] w1 fun e w' => ∃ v, e = .returned v ∧ ReadsS w' v [l0, l1, l2] ∧ Below w1.heap.size w1 w') := hSp w1 HB1.out
  have HKo : Hid (∀ W v, Below w.heap.size w W → ReadsS W v [l0, l1, l2] → Calls Tryz.prog 35 #[v] W fun e w' => e = .returned (.int .i64 1) ∧ Below W.heap.size W w') := hKo
  have HPa : Hid (∀ (l : List UInt8), l.length ≤ 9223372036854775807 → ∀ W, Calls Tryz.prog 36 #[.string (strOf l)] W fun e w' => ∃ v, e = .returned (.tuple #[v, errV (textFault l)]) ∧ (textFault l = 0 → Reads w' v (readN l) ∧ ∃ g c, v = .slice (some ⟨g, 0, none⟩) c c ∧ W.heap.size ≤ g) ∧ (¬ textFault l = 0 → v = .slice none 0 0) ∧ Below W.heap.size W w') := fun l hl W => by
    have := parse_fresh (strOf l) (by rw [strOf_size]; exact hl) W
    rw [strOf_list] at this
    exact this
  have hT0 : ¬ (toldN (textFault l1) (textFault l2) 0) = 0 := by unfold toldN; split <;> (try split) <;> (try split) <;> omega
  have hTE : errV (toldN (textFault l1) (textFault l2) 0) = (.iface 51 (.int .i64 (toldN (textFault l1) (textFault l2) 0))) := errV_no hT0
  rw [hTE]
  have HTo : Hid (∀ W, Calls Tryz.prog 38 #[.agg #[.nilIface, .iface 51 (.int .i64 (textFault l2)), .nilIface]] W fun e w' => e = .returned (.iface 51 (.int .i64 (toldN (textFault l1) (textFault l2) 0))) ∧ Below W.heap.size W w') := fun W => by
    have h := told_any (textFault l1) (textFault l2) 0 (textFault_range _).1 (textFault_range _).2 (textFault_range _).1 (textFault_range _).2 (by decide) (by decide) W
    rw [hTE] at h
    have e0 : errV (textFault l1) = .nilIface := by rw [hf0]; rfl
    have e1 : errV (textFault l2) = .iface 51 (.int .i64 (textFault l2)) := errV_no hf1
    have e2 : errV 0 = .nilIface := rfl
    rw [e0, e1, e2] at h
    exact h
  clear hTE hT0
  obtain ⟨TT, hTT⟩ : ∃ TT, TT = (toldN (textFault l1) (textFault l2) 0) := ⟨_, rfl⟩
  rw [← hTT] at HTo ⊢
  clear hTT
  have HF0 : Hid ((textFault l1) = 0) := hf0
  have HF1 : Hid (¬ (textFault l2) = 0) := hf1
  clear hf0 hf1
  have HKL : Hid (KindsLaid w ∧ LibLaid w) := ⟨hK, hL⟩
  clear hSp hKo hK hL
  go_enter Tryz.func14, Tryz.ntmps14
  go_wp2_with fail
  rw [← hw1]
  clear hw1
  go_at_call 34
  refine HSp.out.mono ?_
  rintro e w2 ⟨v, rfl, hR, hb⟩
  have HZ2 : Hid (Below w1.heap.size w1 w2) := hb
  have HR2 : Hid (ReadsS w2 v [l0, l1, l2]) := hR
  clear hb hR
  go_wp2_with fail
  go_at_call 35
  refine (HKo.out _ _ (HB1.out.trans (HZ2.out.mono HB1.out.size)) HR2.out).mono ?_
  rintro e w3 ⟨rfl, hb⟩
  have HZ3 : Hid (Below w1.heap.size w1 w3) := HZ2.out.trans (hb.mono HZ2.out.size)
  have hR3 := HR2.out.below hb
  clear hb
  obtain ⟨wb, cap, rfl, hwb, hcap, hcell⟩ := hR3
  have HC : Hid (∀ j, j < 3 → w3.cell? ⟨wb, j, none⟩ = some (.string (strOf (List.getD [l0, l1, l2] j [])))) := hcell
  have HWb : Hid (wb < w3.heap.size) := hwb
  have HBw : Hid (∀ W, Below w3.heap.size w3 W → Below w.heap.size w W ∧ Below w1.heap.size w1 W) := fun W h => ⟨(HB1.out.trans (HZ3.out.mono HB1.out.size)).trans (h.mono (Nat.le_trans HB1.out.size HZ3.out.size)), HZ3.out.trans (h.mono HZ3.out.size)⟩
  have HKd : Hid (∀ W, Below w3.heap.size w3 W → KindsLaid W) := fun W h => HKL.out.1.below (HBw.out W h).1
  clear hcell hcap hwb
  obtain ⟨W4, hW4⟩ : ∃ W4, W4 = ((w3.alloc (.cells #[.int .i64 1, .slice none 0 0, .slice none 0 0, .int .i64 0] 24)).alloc (.cells #[.nilIface, .nilIface, .nilIface] 73)) := ⟨_, rfl⟩
  have HP4 : Hid (PS W4 w3.heap.size (.int .i64 1) (.slice none 0 0) (.slice none 0 0) (.int .i64 0) .nilIface .nilIface .nilIface) := by unfold Hid; rw [hW4]; exact ps_alloc _ _ _ _
  have HB4 : Hid (Below w3.heap.size w3 W4) := by unfold Hid; rw [hW4]; exact ((Below.refl _ _).alloc (Nat.le_refl _) _).alloc (by simp) _
  have c1 : W4.cell? ⟨wb, 1, none⟩ = some (.string (strOf l1)) := (HB4.out.cell HWb.out).trans (HC.out 1 (by decide))
  rw [hW4] at c1
  go_wp2_with fail
  rw [← hW4]
  clear hW4 c1

  go_at_call 36
  refine (HPa.out l1 z1 _).mono ?_
  rintro e w5 ⟨vv, rfl, hS, hSn, hb⟩
  obtain ⟨ao0, sn0, sc0, rfl⟩ : ∃ ao n c, vv = .slice ao n c := by
    by_cases h : textFault l1 = 0
    · obtain ⟨_, g, c, rfl, _⟩ := hS h; exact ⟨_, _, _, rfl⟩
    · exact ⟨_, _, _, hSn h⟩
  have hE : errV (textFault l1) = .nilIface := by rw [HF0.out]; rfl
  rw [hE]
  clear hE hS hSn

  have HP5 : Hid (PS w5 w3.heap.size (.int .i64 1) (.slice none 0 0) (.slice none 0 0) (.int .i64 0) (.nilIface) (.nilIface) (.nilIface)) := HP4.out.below hb
  have HB5 : Hid (Below w3.heap.size w3 w5) := HB4.out.trans (hb.mono HB4.out.size)
  have hbx := hb
  clear hb
  have f0 := HP5.out.2.2.1 1
  have f1 := HP5.out.2.2.2.1 0
  have g0 := HP5.out.1.2.1
  have g1 := HP5.out.2.1.1
  obtain ⟨W6, hW6⟩ : ∃ W6, W6 = (w5.setCell ⟨w3.heap.size, 1, none⟩ (.slice ao0 sn0 sc0)).setCell ⟨w3.heap.size + 1, 0, none⟩ (.nilIface) := ⟨_, rfl⟩

  have HP6 : Hid (PS W6 w3.heap.size (.int .i64 1) (.slice ao0 sn0 sc0) (.slice none 0 0) (.int .i64 0) (.nilIface) (.nilIface) (.nilIface)) := by unfold Hid; rw [hW6]; exact HP5.out.storeS _ _
  have HB6 : Hid (Below w3.heap.size w3 W6) := by unfold Hid; rw [hW6]; exact (HB5.out.setCell (Nat.le_refl _) _).setCell (by simp) _
  have k6 : W6.cell? ⟨0, 4, none⟩ = some (.bool true) := HKd.out _ HB6.out 4 (by decide)
  have k7 : W6.cell? ⟨0, 5, none⟩ = some (.bool false) := HKd.out _ HB6.out 5 (by decide)
  have q6 := HP6.out.1.1
  have q7 := HP6.out.2.1.1
  have q8 := HP6.out.2.1.2.1
  have q9 := HP6.out.2.1.2.2

  have c2 : W6.cell? ⟨wb, 2, none⟩ = some (.string (strOf l2)) := (HB6.out.cell HWb.out).trans (HC.out 2 (by decide))

  clear hbx
  rw [hW6] at k6 k7 q6 q7 q8 q9 c2
  go_wp2_with fail
  rw [← hW6]
  clear hW6 f0 f1 g0 g1 k6 k7 q6 q7 q8 q9 c2

  go_at_call 36
  refine (HPa.out l2 z2 _).mono ?_
  rintro e w7 ⟨vv, rfl, hS, hSn, hb⟩
  obtain ⟨ao1, sn1, sc1, rfl⟩ : ∃ ao n c, vv = .slice ao n c := by
    by_cases h : textFault l2 = 0
    · obtain ⟨_, g, c, rfl, _⟩ := hS h; exact ⟨_, _, _, rfl⟩
    · exact ⟨_, _, _, hSn h⟩
  have hE : errV (textFault l2) = .iface 51 (.int .i64 (textFault l2)) := by exact errV_no HF1.out
  rw [hE]
  clear hE hS hSn

  have HP7 : Hid (PS w7 w3.heap.size (.int .i64 1) (.slice ao0 sn0 sc0) (.slice none 0 0) (.int .i64 0) (.nilIface) (.nilIface) (.nilIface)) := HP6.out.below hb
  have HB7 : Hid (Below w3.heap.size w3 w7) := HB6.out.trans (hb.mono HB6.out.size)
  have hbx := hb
  clear hb
  have f0 := HP7.out.2.2.1 2
  have f1 := HP7.out.2.2.2.1 1
  have g0 := HP7.out.1.2.2.1
  have g1 := HP7.out.2.1.2.1
  obtain ⟨W8, hW8⟩ : ∃ W8, W8 = (w7.setCell ⟨w3.heap.size, 2, none⟩ (.slice ao1 sn1 sc1)).setCell ⟨w3.heap.size + 1, 1, none⟩ (.iface 51 (.int .i64 (textFault l2))) := ⟨_, rfl⟩

  have HP8 : Hid (PS W8 w3.heap.size (.int .i64 1) (.slice ao0 sn0 sc0) (.slice ao1 sn1 sc1) (.int .i64 0) (.nilIface) (.iface 51 (.int .i64 (textFault l2))) (.nilIface)) := by unfold Hid; rw [hW8]; exact HP7.out.storeT _ _
  have HB8 : Hid (Below w3.heap.size w3 W8) := by unfold Hid; rw [hW8]; exact (HB7.out.setCell (Nat.le_refl _) _).setCell (by simp) _
  have k6 : W8.cell? ⟨0, 4, none⟩ = some (.bool true) := HKd.out _ HB8.out 4 (by decide)
  have k7 : W8.cell? ⟨0, 5, none⟩ = some (.bool false) := HKd.out _ HB8.out 5 (by decide)
  have q6 := HP8.out.1.1
  have q7 := HP8.out.2.1.1
  have q8 := HP8.out.2.1.2.1
  have q9 := HP8.out.2.1.2.2

  clear hbx
  rw [hW8] at k6 k7 q6 q7 q8 q9
  go_wp2_with fail
  rw [← hW8]
  clear hW8 f0 f1 g0 g1 k6 k7 q6 q7 q8 q9

  go_at_call 38
  refine (HTo.out _).mono ?_
  rintro e w20 ⟨rfl, hb⟩
  have HB20 : Hid (Below w3.heap.size w3 w20) := HB8.out.trans (hb.mono HB8.out.size)
  have HR20 := (HBw.out _ HB20.out).2
  have r0 := (HR20.cell (p := ⟨w.heap.size, 0, none⟩) HRc.out.2.2).trans HRc.out.1.1
  have r1 := (HR20.cell (p := ⟨w.heap.size, 1, none⟩) HRc.out.2.2).trans HRc.out.1.2.1
  have r2 := (HR20.cell (p := ⟨w.heap.size, 2, none⟩) HRc.out.2.2).trans HRc.out.1.2.2.1
  have r3 := (HR20.cell (p := ⟨w.heap.size, 3, none⟩) HRc.out.2.2).trans HRc.out.1.2.2.2
  have p0 := (HR20.frozen (p := ⟨w.heap.size, 0, none⟩) HRc.out.2.2).trans (HRc.out.2.1 0)
  have p1 := (HR20.frozen (p := ⟨w.heap.size, 1, none⟩) HRc.out.2.2).trans (HRc.out.2.1 1)
  have p2 := (HR20.frozen (p := ⟨w.heap.size, 2, none⟩) HRc.out.2.2).trans (HRc.out.2.1 2)
  have p3 := (HR20.frozen (p := ⟨w.heap.size, 3, none⟩) HRc.out.2.2).trans (HRc.out.2.1 3)
  clear HR20 hb
  go_wp2_with fail
  have m0 : ((((w20.setCell ⟨w.heap.size, 0, none⟩ (.int .i64 0)).setCell ⟨w.heap.size, 1, none⟩ (.slice none 0 0)).setCell ⟨w.heap.size, 2, none⟩ (.slice none 0 0)).setCell ⟨w.heap.size, 3, none⟩ (.int .i64 0)).cell? ⟨w.heap.size, 0, none⟩ = some (.int .i64 0) := by
    rw [set_far (ne_off (by decide)), set_far (ne_off (by decide)), set_far (ne_off (by decide))]; exact set_same r0
  have m1 : ((((w20.setCell ⟨w.heap.size, 0, none⟩ (.int .i64 0)).setCell ⟨w.heap.size, 1, none⟩ (.slice none 0 0)).setCell ⟨w.heap.size, 2, none⟩ (.slice none 0 0)).setCell ⟨w.heap.size, 3, none⟩ (.int .i64 0)).cell? ⟨w.heap.size, 1, none⟩ = some (.slice none 0 0) := by
    rw [set_far (ne_off (by decide)), set_far (ne_off (by decide))]; exact set_same ((set_far (ne_off (by decide))).trans r1)
  have m2 : ((((w20.setCell ⟨w.heap.size, 0, none⟩ (.int .i64 0)).setCell ⟨w.heap.size, 1, none⟩ (.slice none 0 0)).setCell ⟨w.heap.size, 2, none⟩ (.slice none 0 0)).setCell ⟨w.heap.size, 3, none⟩ (.int .i64 0)).cell? ⟨w.heap.size, 2, none⟩ = some (.slice none 0 0) := by
    rw [set_far (ne_off (by decide))]; exact set_same ((set_far (ne_off (by decide))).trans ((set_far (ne_off (by decide))).trans r2))
  have m3 : ((((w20.setCell ⟨w.heap.size, 0, none⟩ (.int .i64 0)).setCell ⟨w.heap.size, 1, none⟩ (.slice none 0 0)).setCell ⟨w.heap.size, 2, none⟩ (.slice none 0 0)).setCell ⟨w.heap.size, 3, none⟩ (.int .i64 0)).cell? ⟨w.heap.size, 3, none⟩ = some (.int .i64 0) :=
    set_same ((set_far (ne_off (by decide))).trans ((set_far (ne_off (by decide))).trans ((set_far (ne_off (by decide))).trans r3)))
  have hld := load_atom m0 m1 m2 m3
  refine bodyPost_ret (v := .tuple #[.agg #[.int .i64 0, .slice none 0 0, .slice none 0 0, .int .i64 0], (.iface 51 (.int .i64 TT))]) ?_ rfl ⟨rfl, ?_⟩
  · rw [results_cell_tmp rfl]
    simp [asAddr, Result.andThen, hld]
  · have hb := (HBw.out _ HB20.out).1
    exact (((hb.setCell (Nat.le_refl _) _).setCell (Nat.le_refl _) _).setCell (Nat.le_refl _) _).setCell (Nat.le_refl _) _


set_option maxHeartbeats 4000000 in
theorem aparse_1_nnF (s : ByteArray) (l0 l1 l2 : List UInt8) (w : World) (hK : KindsLaid w) (hL : LibLaid w) (z1 : l1.length ≤ 9223372036854775807) (z2 : l2.length ≤ 9223372036854775807)
    (hSp : ∀ W, Below w.heap.size w W → Calls Tryz.prog 34 #[.string s, .string ⟨#[32]⟩, .int .i64 5] W fun e w' => ∃ v, e = .returned v ∧ ReadsS w' v [l0, l1, l2] ∧ Below W.heap.size W w')
    (hKo : ∀ W v, Below w.heap.size w W → ReadsS W v [l0, l1, l2] → Calls Tryz.prog 35 #[v] W fun e w' => e = .returned (.int .i64 1) ∧ Below W.heap.size W w')
    (hf0 : (textFault l1) = 0) (hf1 : (textFault l2) = 0) (hA : ¬ (atomFault 1 (readN l1) (readN l2) 0) = 0) :
    Calls Tryz.prog 14 #[.string s] w fun e w' => e = .returned (.tuple #[.agg #[.int .i64 0, .slice none 0 0, .slice none 0 0, .int .i64 0], .iface 51 (.int .i64 (atomFault 1 (readN l1) (readN l2) 0))]) ∧ Below w.heap.size w w' := by
  obtain ⟨w1, hw1⟩ : ∃ w1, w1 = w.alloc (.cells #[.int .i64 0, .slice none 0 0, .slice none 0 0, .int .i64 0] 24) := ⟨_, rfl⟩
  have HB1 : Hid (Below w.heap.size w w1) := by unfold Hid; rw [hw1]; exact below_alloc1 w _
  have HRc : Hid ((w1.cell? ⟨w.heap.size, 0, none⟩ = some (.int .i64 0) ∧ w1.cell? ⟨w.heap.size, 1, none⟩ = some (.slice none 0 0) ∧ w1.cell? ⟨w.heap.size, 2, none⟩ = some (.slice none 0 0) ∧ w1.cell? ⟨w.heap.size, 3, none⟩ = some (.int .i64 0)) ∧ (∀ j, w1.frozen? ⟨w.heap.size, j, none⟩ = false) ∧ w.heap.size < w1.heap.size) := by unfold Hid; rw [hw1]; exact ⟨⟨by simp, by simp, by simp, by simp⟩, fun j => by simp, by simp⟩
  have HSp : Hid (Calls Tryz.prog 34 #[.string s, .string ⟨#[32]⟩, .int .i64 5] w1 fun e w' => ∃ v, e = .returned v ∧ ReadsS w' v [l0, l1, l2] ∧ Below w1.heap.size w1 w') := hSp w1 HB1.out
  have HKo : Hid (∀ W v, Below w.heap.size w W → ReadsS W v [l0, l1, l2] → Calls Tryz.prog 35 #[v] W fun e w' => e = .returned (.int .i64 1) ∧ Below W.heap.size W w') := hKo
  have HPa : Hid (∀ (l : List UInt8), l.length ≤ 9223372036854775807 → ∀ W, Calls Tryz.prog 36 #[.string (strOf l)] W fun e w' => ∃ v, e = .returned (.tuple #[v, errV (textFault l)]) ∧ (textFault l = 0 → Reads w' v (readN l) ∧ ∃ g c, v = .slice (some ⟨g, 0, none⟩) c c ∧ W.heap.size ≤ g) ∧ (¬ textFault l = 0 → v = .slice none 0 0) ∧ Below W.heap.size W w') := fun l hl W => by
    have := parse_fresh (strOf l) (by rw [strOf_size]; exact hl) W
    rw [strOf_list] at this
    exact this
  have hT0 : (toldN (textFault l1) (textFault l2) 0) = 0 := by unfold toldN; rw [if_neg (by omega), if_pos (by omega), if_pos (by omega)]; try omega
  have hTE : errV (toldN (textFault l1) (textFault l2) 0) = .nilIface := by rw [hT0]; rfl
  have HTo : Hid (∀ W, Calls Tryz.prog 38 #[.agg #[.nilIface, .nilIface, .nilIface]] W fun e w' => e = .returned .nilIface ∧ Below W.heap.size W w') := fun W => by
    have h := told_any (textFault l1) (textFault l2) 0 (textFault_range _).1 (textFault_range _).2 (textFault_range _).1 (textFault_range _).2 (by decide) (by decide) W
    rw [hTE] at h
    have e0 : errV (textFault l1) = .nilIface := by rw [hf0]; rfl
    have e1 : errV (textFault l2) = .nilIface := by rw [hf1]; rfl
    have e2 : errV 0 = .nilIface := rfl
    rw [e0, e1, e2] at h
    exact h
  clear hTE hT0
  have HF0 : Hid ((textFault l1) = 0) := hf0
  have HF1 : Hid ((textFault l2) = 0) := hf1
  clear hf0 hf1
  have HA : Hid (¬ (atomFault 1 (readN l1) (readN l2) 0) = 0) := hA
  clear hA
  obtain ⟨FF, hFF⟩ : ∃ FF, FF = (atomFault 1 (readN l1) (readN l2) 0) := ⟨_, rfl⟩
  rw [← hFF]
  have HFF : Hid (FF = (atomFault 1 (readN l1) (readN l2) 0)) := hFF
  clear hFF
  have HKL : Hid (KindsLaid w ∧ LibLaid w) := ⟨hK, hL⟩
  clear hSp hKo hK hL
  go_enter Tryz.func14, Tryz.ntmps14
  go_wp2_with fail
  rw [← hw1]
  clear hw1
  go_at_call 34
  refine HSp.out.mono ?_
  rintro e w2 ⟨v, rfl, hR, hb⟩
  have HZ2 : Hid (Below w1.heap.size w1 w2) := hb
  have HR2 : Hid (ReadsS w2 v [l0, l1, l2]) := hR
  clear hb hR
  go_wp2_with fail
  go_at_call 35
  refine (HKo.out _ _ (HB1.out.trans (HZ2.out.mono HB1.out.size)) HR2.out).mono ?_
  rintro e w3 ⟨rfl, hb⟩
  have HZ3 : Hid (Below w1.heap.size w1 w3) := HZ2.out.trans (hb.mono HZ2.out.size)
  have hR3 := HR2.out.below hb
  clear hb
  obtain ⟨wb, cap, rfl, hwb, hcap, hcell⟩ := hR3
  have HC : Hid (∀ j, j < 3 → w3.cell? ⟨wb, j, none⟩ = some (.string (strOf (List.getD [l0, l1, l2] j [])))) := hcell
  have HWb : Hid (wb < w3.heap.size) := hwb
  have HBw : Hid (∀ W, Below w3.heap.size w3 W → Below w.heap.size w W ∧ Below w1.heap.size w1 W) := fun W h => ⟨(HB1.out.trans (HZ3.out.mono HB1.out.size)).trans (h.mono (Nat.le_trans HB1.out.size HZ3.out.size)), HZ3.out.trans (h.mono HZ3.out.size)⟩
  have HKd : Hid (∀ W, Below w3.heap.size w3 W → KindsLaid W) := fun W h => HKL.out.1.below (HBw.out W h).1
  clear hcell hcap hwb
  obtain ⟨W4, hW4⟩ : ∃ W4, W4 = ((w3.alloc (.cells #[.int .i64 1, .slice none 0 0, .slice none 0 0, .int .i64 0] 24)).alloc (.cells #[.nilIface, .nilIface, .nilIface] 73)) := ⟨_, rfl⟩
  have HP4 : Hid (PS W4 w3.heap.size (.int .i64 1) (.slice none 0 0) (.slice none 0 0) (.int .i64 0) .nilIface .nilIface .nilIface) := by unfold Hid; rw [hW4]; exact ps_alloc _ _ _ _
  have HB4 : Hid (Below w3.heap.size w3 W4) := by unfold Hid; rw [hW4]; exact ((Below.refl _ _).alloc (Nat.le_refl _) _).alloc (by simp) _
  have c1 : W4.cell? ⟨wb, 1, none⟩ = some (.string (strOf l1)) := (HB4.out.cell HWb.out).trans (HC.out 1 (by decide))
  rw [hW4] at c1
  go_wp2_with fail
  rw [← hW4]
  clear hW4 c1

  go_at_call 36
  refine (HPa.out l1 z1 _).mono ?_
  rintro e w5 ⟨vv, rfl, hS, hSn, hb⟩
  obtain ⟨hRd, gb0, cb0, rfl, hg⟩ := hS HF0.out
  have HG0 : Hid (w3.heap.size + 1 < gb0) := Nat.lt_of_lt_of_le HP4.out.2.2.2.2 hg
  have HD0_5 : Hid (Reads w5 (.slice (some ⟨gb0, 0, none⟩) cb0 cb0) (readN l1)) := hRd
  clear hRd hg
  have hE : errV (textFault l1) = .nilIface := by rw [HF0.out]; rfl
  rw [hE]
  clear hE hS hSn

  have HP5 : Hid (PS w5 w3.heap.size (.int .i64 1) (.slice none 0 0) (.slice none 0 0) (.int .i64 0) (.nilIface) (.nilIface) (.nilIface)) := HP4.out.below hb
  have HB5 : Hid (Below w3.heap.size w3 w5) := HB4.out.trans (hb.mono HB4.out.size)
  have hbx := hb
  clear hb
  have f0 := HP5.out.2.2.1 1
  have f1 := HP5.out.2.2.2.1 0
  have g0 := HP5.out.1.2.1
  have g1 := HP5.out.2.1.1
  obtain ⟨W6, hW6⟩ : ∃ W6, W6 = (w5.setCell ⟨w3.heap.size, 1, none⟩ (.slice (some ⟨gb0, 0, none⟩) cb0 cb0)).setCell ⟨w3.heap.size + 1, 0, none⟩ (.nilIface) := ⟨_, rfl⟩

  have HP6 : Hid (PS W6 w3.heap.size (.int .i64 1) (.slice (some ⟨gb0, 0, none⟩) cb0 cb0) (.slice none 0 0) (.int .i64 0) (.nilIface) (.nilIface) (.nilIface)) := by unfold Hid; rw [hW6]; exact HP5.out.storeS _ _
  have HB6 : Hid (Below w3.heap.size w3 W6) := by unfold Hid; rw [hW6]; exact (HB5.out.setCell (Nat.le_refl _) _).setCell (by simp) _
  have k6 : W6.cell? ⟨0, 4, none⟩ = some (.bool true) := HKd.out _ HB6.out 4 (by decide)
  have k7 : W6.cell? ⟨0, 5, none⟩ = some (.bool false) := HKd.out _ HB6.out 5 (by decide)
  have HD0_6 : Hid (Reads W6 (.slice (some ⟨gb0, 0, none⟩) cb0 cb0) (readN l1)) := by
    have hg := HG0.out
    unfold Hid; rw [hW6]; exact (Reads.store (Reads.store HD0_5.out (by show w3.heap.size ≠ _; omega)) (by show w3.heap.size + 1 ≠ _; omega))
  have q6 := HP6.out.1.1
  have q7 := HP6.out.2.1.1
  have q8 := HP6.out.2.1.2.1
  have q9 := HP6.out.2.1.2.2

  have c2 : W6.cell? ⟨wb, 2, none⟩ = some (.string (strOf l2)) := (HB6.out.cell HWb.out).trans (HC.out 2 (by decide))

  clear hbx
  rw [hW6] at k6 k7 q6 q7 q8 q9 c2
  go_wp2_with fail
  rw [← hW6]
  clear hW6 f0 f1 g0 g1 k6 k7 q6 q7 q8 q9 c2

  go_at_call 36
  refine (HPa.out l2 z2 _).mono ?_
  rintro e w7 ⟨vv, rfl, hS, hSn, hb⟩
  obtain ⟨hRd, gb1, cb1, rfl, hg⟩ := hS HF1.out
  have HG1 : Hid (w3.heap.size + 1 < gb1) := Nat.lt_of_lt_of_le HP6.out.2.2.2.2 hg
  have HD1_7 : Hid (Reads w7 (.slice (some ⟨gb1, 0, none⟩) cb1 cb1) (readN l2)) := hRd
  clear hRd hg
  have hE : errV (textFault l2) = .nilIface := by rw [HF1.out]; rfl
  rw [hE]
  clear hE hS hSn

  have HP7 : Hid (PS w7 w3.heap.size (.int .i64 1) (.slice (some ⟨gb0, 0, none⟩) cb0 cb0) (.slice none 0 0) (.int .i64 0) (.nilIface) (.nilIface) (.nilIface)) := HP6.out.below hb
  have HB7 : Hid (Below w3.heap.size w3 w7) := HB6.out.trans (hb.mono HB6.out.size)
  have hbx := hb
  clear hb
  have f0 := HP7.out.2.2.1 2
  have f1 := HP7.out.2.2.2.1 1
  have g0 := HP7.out.1.2.2.1
  have g1 := HP7.out.2.1.2.1
  obtain ⟨W8, hW8⟩ : ∃ W8, W8 = (w7.setCell ⟨w3.heap.size, 2, none⟩ (.slice (some ⟨gb1, 0, none⟩) cb1 cb1)).setCell ⟨w3.heap.size + 1, 1, none⟩ (.nilIface) := ⟨_, rfl⟩

  have HP8 : Hid (PS W8 w3.heap.size (.int .i64 1) (.slice (some ⟨gb0, 0, none⟩) cb0 cb0) (.slice (some ⟨gb1, 0, none⟩) cb1 cb1) (.int .i64 0) (.nilIface) (.nilIface) (.nilIface)) := by unfold Hid; rw [hW8]; exact HP7.out.storeT _ _
  have HB8 : Hid (Below w3.heap.size w3 W8) := by unfold Hid; rw [hW8]; exact (HB7.out.setCell (Nat.le_refl _) _).setCell (by simp) _
  have k6 : W8.cell? ⟨0, 4, none⟩ = some (.bool true) := HKd.out _ HB8.out 4 (by decide)
  have k7 : W8.cell? ⟨0, 5, none⟩ = some (.bool false) := HKd.out _ HB8.out 5 (by decide)
  have HD0_8 : Hid (Reads W8 (.slice (some ⟨gb0, 0, none⟩) cb0 cb0) (readN l1)) := by
    have hg := HG0.out
    unfold Hid; rw [hW8]; exact (Reads.store (Reads.store (HD0_6.out.below hbx) (by show w3.heap.size ≠ _; omega)) (by show w3.heap.size + 1 ≠ _; omega))
  have HD1_8 : Hid (Reads W8 (.slice (some ⟨gb1, 0, none⟩) cb1 cb1) (readN l2)) := by
    have hg := HG1.out
    unfold Hid; rw [hW8]; exact (Reads.store (Reads.store HD1_7.out (by show w3.heap.size ≠ _; omega)) (by show w3.heap.size + 1 ≠ _; omega))
  have q6 := HP8.out.1.1
  have q7 := HP8.out.2.1.1
  have q8 := HP8.out.2.1.2.1
  have q9 := HP8.out.2.1.2.2

  clear hbx
  rw [hW8] at k6 k7 q6 q7 q8 q9
  go_wp2_with fail
  rw [← hW8]
  clear hW8 f0 f1 g0 g1 k6 k7 q6 q7 q8 q9

  go_at_call 38
  refine (HTo.out _).mono ?_
  rintro e w20 ⟨rfl, hb⟩
  have HB20 : Hid (Below w3.heap.size w3 w20) := HB8.out.trans (hb.mono HB8.out.size)
  have HP20 : Hid (PS w20 w3.heap.size (.int .i64 1) (.slice (some ⟨gb0, 0, none⟩) cb0 cb0) (.slice (some ⟨gb1, 0, none⟩) cb1 cb1) (.int .i64 0) (.nilIface) (.nilIface) (.nilIface)) := HP8.out.below hb
  have HD0_20 : Hid (Reads w20 (.slice (some ⟨gb0, 0, none⟩) cb0 cb0) (readN l1)) := HD0_8.out.below hb
  have HD1_20 : Hid (Reads w20 (.slice (some ⟨gb1, 0, none⟩) cb1 cb1) (readN l2)) := HD1_8.out.below hb
  have HCk : Hid (Calls Tryz.prog 7 #[.agg #[.int .i64 1, .slice (some ⟨gb0, 0, none⟩) cb0 cb0, .slice (some ⟨gb1, 0, none⟩) cb1 cb1, .int .i64 0]] w20 fun e w' => e = .returned (.iface 51 (.int .i64 FF)) ∧ Below w20.heap.size w20 w') := by
    have := acheck_any 1 0 (.slice (some ⟨gb0, 0, none⟩) cb0 cb0) (.slice (some ⟨gb1, 0, none⟩) cb1 cb1) (readN l1) (readN l2) w20 HD0_20.out HD1_20.out (HKd.out _ HB20.out)
    rw [errV_no HA.out, ← HFF.out] at this
    exact this
  clear hb

  obtain ⟨a0, a1, a2, a3⟩ := HP20.out.1
  go_wp2_with fail
  go_at_call 7
  refine HCk.out.mono ?_
  rintro e w21 ⟨rfl, hb⟩
  have HB21 : Hid (Below w3.heap.size w3 w21) := HB20.out.trans (hb.mono HB20.out.size)
  have HP21 : Hid (PS w21 w3.heap.size (.int .i64 1) (.slice (some ⟨gb0, 0, none⟩) cb0 cb0) (.slice (some ⟨gb1, 0, none⟩) cb1 cb1) (.int .i64 0) (.nilIface) (.nilIface) (.nilIface)) := HP20.out.below hb
  have HD0_21 : Hid (Reads w21 (.slice (some ⟨gb0, 0, none⟩) cb0 cb0) (readN l1)) := HD0_20.out.below hb
  have HD1_21 : Hid (Reads w21 (.slice (some ⟨gb1, 0, none⟩) cb1 cb1) (readN l2)) := HD1_20.out.below hb
  have HR21 := (HBw.out _ HB21.out).2
  have r0 := (HR21.cell (p := ⟨w.heap.size, 0, none⟩) HRc.out.2.2).trans HRc.out.1.1
  have r1 := (HR21.cell (p := ⟨w.heap.size, 1, none⟩) HRc.out.2.2).trans HRc.out.1.2.1
  have r2 := (HR21.cell (p := ⟨w.heap.size, 2, none⟩) HRc.out.2.2).trans HRc.out.1.2.2.1
  have r3 := (HR21.cell (p := ⟨w.heap.size, 3, none⟩) HRc.out.2.2).trans HRc.out.1.2.2.2
  have p0 := (HR21.frozen (p := ⟨w.heap.size, 0, none⟩) HRc.out.2.2).trans (HRc.out.2.1 0)
  have p1 := (HR21.frozen (p := ⟨w.heap.size, 1, none⟩) HRc.out.2.2).trans (HRc.out.2.1 1)
  have p2 := (HR21.frozen (p := ⟨w.heap.size, 2, none⟩) HRc.out.2.2).trans (HRc.out.2.1 2)
  have p3 := (HR21.frozen (p := ⟨w.heap.size, 3, none⟩) HRc.out.2.2).trans (HRc.out.2.1 3)
  have HRA : Hid (w.heap.size < w3.heap.size) := Nat.lt_of_lt_of_le HRc.out.2.2 HZ3.out.size
  clear HR21 hb a0 a1 a2 a3
  obtain ⟨a0, a1, a2, a3⟩ := HP21.out.1
  go_wp2_with fail
  have m0 : ((((w21.setCell ⟨w.heap.size, 0, none⟩ (.int .i64 0)).setCell ⟨w.heap.size, 1, none⟩ (.slice none 0 0)).setCell ⟨w.heap.size, 2, none⟩ (.slice none 0 0)).setCell ⟨w.heap.size, 3, none⟩ (.int .i64 0)).cell? ⟨w.heap.size, 0, none⟩ = some (.int .i64 0) := by
    rw [set_far (ne_off (by decide)), set_far (ne_off (by decide)), set_far (ne_off (by decide))]; exact set_same r0
  have m1 : ((((w21.setCell ⟨w.heap.size, 0, none⟩ (.int .i64 0)).setCell ⟨w.heap.size, 1, none⟩ (.slice none 0 0)).setCell ⟨w.heap.size, 2, none⟩ (.slice none 0 0)).setCell ⟨w.heap.size, 3, none⟩ (.int .i64 0)).cell? ⟨w.heap.size, 1, none⟩ = some (.slice none 0 0) := by
    rw [set_far (ne_off (by decide)), set_far (ne_off (by decide))]; exact set_same ((set_far (ne_off (by decide))).trans r1)
  have m2 : ((((w21.setCell ⟨w.heap.size, 0, none⟩ (.int .i64 0)).setCell ⟨w.heap.size, 1, none⟩ (.slice none 0 0)).setCell ⟨w.heap.size, 2, none⟩ (.slice none 0 0)).setCell ⟨w.heap.size, 3, none⟩ (.int .i64 0)).cell? ⟨w.heap.size, 2, none⟩ = some (.slice none 0 0) := by
    rw [set_far (ne_off (by decide))]; exact set_same ((set_far (ne_off (by decide))).trans ((set_far (ne_off (by decide))).trans r2))
  have m3 : ((((w21.setCell ⟨w.heap.size, 0, none⟩ (.int .i64 0)).setCell ⟨w.heap.size, 1, none⟩ (.slice none 0 0)).setCell ⟨w.heap.size, 2, none⟩ (.slice none 0 0)).setCell ⟨w.heap.size, 3, none⟩ (.int .i64 0)).cell? ⟨w.heap.size, 3, none⟩ = some (.int .i64 0) :=
    set_same ((set_far (ne_off (by decide))).trans ((set_far (ne_off (by decide))).trans ((set_far (ne_off (by decide))).trans r3)))
  have hld := load_atom m0 m1 m2 m3
  have hbF : Below w.heap.size w ((((w21.setCell ⟨w.heap.size, 0, none⟩ (.int .i64 0)).setCell ⟨w.heap.size, 1, none⟩ (.slice none 0 0)).setCell ⟨w.heap.size, 2, none⟩ (.slice none 0 0)).setCell ⟨w.heap.size, 3, none⟩ (.int .i64 0)) := by
    have hb := (HBw.out _ HB21.out).1
    exact (((hb.setCell (Nat.le_refl _) _).setCell (Nat.le_refl _) _).setCell (Nat.le_refl _) _).setCell (Nat.le_refl _) _

  refine bodyPost_ret (v := .tuple #[.agg #[.int .i64 0, .slice none 0 0, .slice none 0 0, .int .i64 0], (.iface 51 (.int .i64 FF))]) ?_ rfl ⟨rfl, hbF⟩
  rw [results_cell_tmp rfl]
  simp [asAddr, Result.andThen, hld]


set_option maxHeartbeats 4000000 in
theorem aparse_1_nnG (s : ByteArray) (l0 l1 l2 : List UInt8) (w : World) (hK : KindsLaid w) (hL : LibLaid w) (z1 : l1.length ≤ 9223372036854775807) (z2 : l2.length ≤ 9223372036854775807)
    (hSp : ∀ W, Below w.heap.size w W → Calls Tryz.prog 34 #[.string s, .string ⟨#[32]⟩, .int .i64 5] W fun e w' => ∃ v, e = .returned v ∧ ReadsS w' v [l0, l1, l2] ∧ Below W.heap.size W w')
    (hKo : ∀ W v, Below w.heap.size w W → ReadsS W v [l0, l1, l2] → Calls Tryz.prog 35 #[v] W fun e w' => e = .returned (.int .i64 1) ∧ Below W.heap.size W w')
    (hf0 : (textFault l1) = 0) (hf1 : (textFault l2) = 0) (hA : (atomFault 1 (readN l1) (readN l2) 0) = 0) :
    Calls Tryz.prog 14 #[.string s] w fun e w' => ∃ v0 v1, e = .returned (.tuple #[.agg #[.int .i64 1, v0, v1, .int .i64 0], .nilIface]) ∧ Reads w' v0 (readN l1) ∧ Reads w' v1 (readN l2) ∧ Below w.heap.size w w' := by
  obtain ⟨w1, hw1⟩ : ∃ w1, w1 = w.alloc (.cells #[.int .i64 0, .slice none 0 0, .slice none 0 0, .int .i64 0] 24) := ⟨_, rfl⟩
  have HB1 : Hid (Below w.heap.size w w1) := by unfold Hid; rw [hw1]; exact below_alloc1 w _
  have HRc : Hid ((w1.cell? ⟨w.heap.size, 0, none⟩ = some (.int .i64 0) ∧ w1.cell? ⟨w.heap.size, 1, none⟩ = some (.slice none 0 0) ∧ w1.cell? ⟨w.heap.size, 2, none⟩ = some (.slice none 0 0) ∧ w1.cell? ⟨w.heap.size, 3, none⟩ = some (.int .i64 0)) ∧ (∀ j, w1.frozen? ⟨w.heap.size, j, none⟩ = false) ∧ w.heap.size < w1.heap.size) := by unfold Hid; rw [hw1]; exact ⟨⟨by simp, by simp, by simp, by simp⟩, fun j => by simp, by simp⟩
  have HSp : Hid (Calls Tryz.prog 34 #[.string s, .string ⟨#[32]⟩, .int .i64 5] w1 fun e w' => ∃ v, e = .returned v ∧ ReadsS w' v [l0, l1, l2] ∧ Below w1.heap.size w1 w') := hSp w1 HB1.out
  have HKo : Hid (∀ W v, Below w.heap.size w W → ReadsS W v [l0, l1, l2] → Calls Tryz.prog 35 #[v] W fun e w' => e = .returned (.int .i64 1) ∧ Below W.heap.size W w') := hKo
  have HPa : Hid (∀ (l : List UInt8), l.length ≤ 9223372036854775807 → ∀ W, Calls Tryz.prog 36 #[.string (strOf l)] W fun e w' => ∃ v, e = .returned (.tuple #[v, errV (textFault l)]) ∧ (textFault l = 0 → Reads w' v (readN l) ∧ ∃ g c, v = .slice (some ⟨g, 0, none⟩) c c ∧ W.heap.size ≤ g) ∧ (¬ textFault l = 0 → v = .slice none 0 0) ∧ Below W.heap.size W w') := fun l hl W => by
    have := parse_fresh (strOf l) (by rw [strOf_size]; exact hl) W
    rw [strOf_list] at this
    exact this
  have hT0 : (toldN (textFault l1) (textFault l2) 0) = 0 := by unfold toldN; rw [if_neg (by omega), if_pos (by omega), if_pos (by omega)]; try omega
  have hTE : errV (toldN (textFault l1) (textFault l2) 0) = .nilIface := by rw [hT0]; rfl
  have HTo : Hid (∀ W, Calls Tryz.prog 38 #[.agg #[.nilIface, .nilIface, .nilIface]] W fun e w' => e = .returned .nilIface ∧ Below W.heap.size W w') := fun W => by
    have h := told_any (textFault l1) (textFault l2) 0 (textFault_range _).1 (textFault_range _).2 (textFault_range _).1 (textFault_range _).2 (by decide) (by decide) W
    rw [hTE] at h
    have e0 : errV (textFault l1) = .nilIface := by rw [hf0]; rfl
    have e1 : errV (textFault l2) = .nilIface := by rw [hf1]; rfl
    have e2 : errV 0 = .nilIface := rfl
    rw [e0, e1, e2] at h
    exact h
  clear hTE hT0
  have HF0 : Hid ((textFault l1) = 0) := hf0
  have HF1 : Hid ((textFault l2) = 0) := hf1
  clear hf0 hf1
  have HA : Hid ((atomFault 1 (readN l1) (readN l2) 0) = 0) := hA
  clear hA
  have HKL : Hid (KindsLaid w ∧ LibLaid w) := ⟨hK, hL⟩
  clear hSp hKo hK hL
  go_enter Tryz.func14, Tryz.ntmps14
  go_wp2_with fail
  rw [← hw1]
  clear hw1
  go_at_call 34
  refine HSp.out.mono ?_
  rintro e w2 ⟨v, rfl, hR, hb⟩
  have HZ2 : Hid (Below w1.heap.size w1 w2) := hb
  have HR2 : Hid (ReadsS w2 v [l0, l1, l2]) := hR
  clear hb hR
  go_wp2_with fail
  go_at_call 35
  refine (HKo.out _ _ (HB1.out.trans (HZ2.out.mono HB1.out.size)) HR2.out).mono ?_
  rintro e w3 ⟨rfl, hb⟩
  have HZ3 : Hid (Below w1.heap.size w1 w3) := HZ2.out.trans (hb.mono HZ2.out.size)
  have hR3 := HR2.out.below hb
  clear hb
  obtain ⟨wb, cap, rfl, hwb, hcap, hcell⟩ := hR3
  have HC : Hid (∀ j, j < 3 → w3.cell? ⟨wb, j, none⟩ = some (.string (strOf (List.getD [l0, l1, l2] j [])))) := hcell
  have HWb : Hid (wb < w3.heap.size) := hwb
  have HBw : Hid (∀ W, Below w3.heap.size w3 W → Below w.heap.size w W ∧ Below w1.heap.size w1 W) := fun W h => ⟨(HB1.out.trans (HZ3.out.mono HB1.out.size)).trans (h.mono (Nat.le_trans HB1.out.size HZ3.out.size)), HZ3.out.trans (h.mono HZ3.out.size)⟩
  have HKd : Hid (∀ W, Below w3.heap.size w3 W → KindsLaid W) := fun W h => HKL.out.1.below (HBw.out W h).1
  clear hcell hcap hwb
  obtain ⟨W4, hW4⟩ : ∃ W4, W4 = ((w3.alloc (.cells #[.int .i64 1, .slice none 0 0, .slice none 0 0, .int .i64 0] 24)).alloc (.cells #[.nilIface, .nilIface, .nilIface] 73)) := ⟨_, rfl⟩
  have HP4 : Hid (PS W4 w3.heap.size (.int .i64 1) (.slice none 0 0) (.slice none 0 0) (.int .i64 0) .nilIface .nilIface .nilIface) := by unfold Hid; rw [hW4]; exact ps_alloc _ _ _ _
  have HB4 : Hid (Below w3.heap.size w3 W4) := by unfold Hid; rw [hW4]; exact ((Below.refl _ _).alloc (Nat.le_refl _) _).alloc (by simp) _
  have c1 : W4.cell? ⟨wb, 1, none⟩ = some (.string (strOf l1)) := (HB4.out.cell HWb.out).trans (HC.out 1 (by decide))
  rw [hW4] at c1
  go_wp2_with fail
  rw [← hW4]
  clear hW4 c1

  go_at_call 36
  refine (HPa.out l1 z1 _).mono ?_
  rintro e w5 ⟨vv, rfl, hS, hSn, hb⟩
  obtain ⟨hRd, gb0, cb0, rfl, hg⟩ := hS HF0.out
  have HG0 : Hid (w3.heap.size + 1 < gb0) := Nat.lt_of_lt_of_le HP4.out.2.2.2.2 hg
  have HD0_5 : Hid (Reads w5 (.slice (some ⟨gb0, 0, none⟩) cb0 cb0) (readN l1)) := hRd
  clear hRd hg
  have hE : errV (textFault l1) = .nilIface := by rw [HF0.out]; rfl
  rw [hE]
  clear hE hS hSn

  have HP5 : Hid (PS w5 w3.heap.size (.int .i64 1) (.slice none 0 0) (.slice none 0 0) (.int .i64 0) (.nilIface) (.nilIface) (.nilIface)) := HP4.out.below hb
  have HB5 : Hid (Below w3.heap.size w3 w5) := HB4.out.trans (hb.mono HB4.out.size)
  have hbx := hb
  clear hb
  have f0 := HP5.out.2.2.1 1
  have f1 := HP5.out.2.2.2.1 0
  have g0 := HP5.out.1.2.1
  have g1 := HP5.out.2.1.1
  obtain ⟨W6, hW6⟩ : ∃ W6, W6 = (w5.setCell ⟨w3.heap.size, 1, none⟩ (.slice (some ⟨gb0, 0, none⟩) cb0 cb0)).setCell ⟨w3.heap.size + 1, 0, none⟩ (.nilIface) := ⟨_, rfl⟩

  have HP6 : Hid (PS W6 w3.heap.size (.int .i64 1) (.slice (some ⟨gb0, 0, none⟩) cb0 cb0) (.slice none 0 0) (.int .i64 0) (.nilIface) (.nilIface) (.nilIface)) := by unfold Hid; rw [hW6]; exact HP5.out.storeS _ _
  have HB6 : Hid (Below w3.heap.size w3 W6) := by unfold Hid; rw [hW6]; exact (HB5.out.setCell (Nat.le_refl _) _).setCell (by simp) _
  have k6 : W6.cell? ⟨0, 4, none⟩ = some (.bool true) := HKd.out _ HB6.out 4 (by decide)
  have k7 : W6.cell? ⟨0, 5, none⟩ = some (.bool false) := HKd.out _ HB6.out 5 (by decide)
  have HD0_6 : Hid (Reads W6 (.slice (some ⟨gb0, 0, none⟩) cb0 cb0) (readN l1)) := by
    have hg := HG0.out
    unfold Hid; rw [hW6]; exact (Reads.store (Reads.store HD0_5.out (by show w3.heap.size ≠ _; omega)) (by show w3.heap.size + 1 ≠ _; omega))
  have q6 := HP6.out.1.1
  have q7 := HP6.out.2.1.1
  have q8 := HP6.out.2.1.2.1
  have q9 := HP6.out.2.1.2.2

  have c2 : W6.cell? ⟨wb, 2, none⟩ = some (.string (strOf l2)) := (HB6.out.cell HWb.out).trans (HC.out 2 (by decide))

  clear hbx
  rw [hW6] at k6 k7 q6 q7 q8 q9 c2
  go_wp2_with fail
  rw [← hW6]
  clear hW6 f0 f1 g0 g1 k6 k7 q6 q7 q8 q9 c2

  go_at_call 36
  refine (HPa.out l2 z2 _).mono ?_
  rintro e w7 ⟨vv, rfl, hS, hSn, hb⟩
  obtain ⟨hRd, gb1, cb1, rfl, hg⟩ := hS HF1.out
  have HG1 : Hid (w3.heap.size + 1 < gb1) := Nat.lt_of_lt_of_le HP6.out.2.2.2.2 hg
  have HD1_7 : Hid (Reads w7 (.slice (some ⟨gb1, 0, none⟩) cb1 cb1) (readN l2)) := hRd
  clear hRd hg
  have hE : errV (textFault l2) = .nilIface := by rw [HF1.out]; rfl
  rw [hE]
  clear hE hS hSn

  have HP7 : Hid (PS w7 w3.heap.size (.int .i64 1) (.slice (some ⟨gb0, 0, none⟩) cb0 cb0) (.slice none 0 0) (.int .i64 0) (.nilIface) (.nilIface) (.nilIface)) := HP6.out.below hb
  have HB7 : Hid (Below w3.heap.size w3 w7) := HB6.out.trans (hb.mono HB6.out.size)
  have hbx := hb
  clear hb
  have f0 := HP7.out.2.2.1 2
  have f1 := HP7.out.2.2.2.1 1
  have g0 := HP7.out.1.2.2.1
  have g1 := HP7.out.2.1.2.1
  obtain ⟨W8, hW8⟩ : ∃ W8, W8 = (w7.setCell ⟨w3.heap.size, 2, none⟩ (.slice (some ⟨gb1, 0, none⟩) cb1 cb1)).setCell ⟨w3.heap.size + 1, 1, none⟩ (.nilIface) := ⟨_, rfl⟩

  have HP8 : Hid (PS W8 w3.heap.size (.int .i64 1) (.slice (some ⟨gb0, 0, none⟩) cb0 cb0) (.slice (some ⟨gb1, 0, none⟩) cb1 cb1) (.int .i64 0) (.nilIface) (.nilIface) (.nilIface)) := by unfold Hid; rw [hW8]; exact HP7.out.storeT _ _
  have HB8 : Hid (Below w3.heap.size w3 W8) := by unfold Hid; rw [hW8]; exact (HB7.out.setCell (Nat.le_refl _) _).setCell (by simp) _
  have k6 : W8.cell? ⟨0, 4, none⟩ = some (.bool true) := HKd.out _ HB8.out 4 (by decide)
  have k7 : W8.cell? ⟨0, 5, none⟩ = some (.bool false) := HKd.out _ HB8.out 5 (by decide)
  have HD0_8 : Hid (Reads W8 (.slice (some ⟨gb0, 0, none⟩) cb0 cb0) (readN l1)) := by
    have hg := HG0.out
    unfold Hid; rw [hW8]; exact (Reads.store (Reads.store (HD0_6.out.below hbx) (by show w3.heap.size ≠ _; omega)) (by show w3.heap.size + 1 ≠ _; omega))
  have HD1_8 : Hid (Reads W8 (.slice (some ⟨gb1, 0, none⟩) cb1 cb1) (readN l2)) := by
    have hg := HG1.out
    unfold Hid; rw [hW8]; exact (Reads.store (Reads.store HD1_7.out (by show w3.heap.size ≠ _; omega)) (by show w3.heap.size + 1 ≠ _; omega))
  have q6 := HP8.out.1.1
  have q7 := HP8.out.2.1.1
  have q8 := HP8.out.2.1.2.1
  have q9 := HP8.out.2.1.2.2

  clear hbx
  rw [hW8] at k6 k7 q6 q7 q8 q9
  go_wp2_with fail
  rw [← hW8]
  clear hW8 f0 f1 g0 g1 k6 k7 q6 q7 q8 q9

  go_at_call 38
  refine (HTo.out _).mono ?_
  rintro e w20 ⟨rfl, hb⟩
  have HB20 : Hid (Below w3.heap.size w3 w20) := HB8.out.trans (hb.mono HB8.out.size)
  have HP20 : Hid (PS w20 w3.heap.size (.int .i64 1) (.slice (some ⟨gb0, 0, none⟩) cb0 cb0) (.slice (some ⟨gb1, 0, none⟩) cb1 cb1) (.int .i64 0) (.nilIface) (.nilIface) (.nilIface)) := HP8.out.below hb
  have HD0_20 : Hid (Reads w20 (.slice (some ⟨gb0, 0, none⟩) cb0 cb0) (readN l1)) := HD0_8.out.below hb
  have HD1_20 : Hid (Reads w20 (.slice (some ⟨gb1, 0, none⟩) cb1 cb1) (readN l2)) := HD1_8.out.below hb
  have HCk : Hid (Calls Tryz.prog 7 #[.agg #[.int .i64 1, .slice (some ⟨gb0, 0, none⟩) cb0 cb0, .slice (some ⟨gb1, 0, none⟩) cb1 cb1, .int .i64 0]] w20 fun e w' => e = .returned .nilIface ∧ Below w20.heap.size w20 w') := by
    have := acheck_any 1 0 (.slice (some ⟨gb0, 0, none⟩) cb0 cb0) (.slice (some ⟨gb1, 0, none⟩) cb1 cb1) (readN l1) (readN l2) w20 HD0_20.out HD1_20.out (HKd.out _ HB20.out)
    rw [HA.out, errV_0] at this
    exact this
  clear hb

  obtain ⟨a0, a1, a2, a3⟩ := HP20.out.1
  go_wp2_with fail
  go_at_call 7
  refine HCk.out.mono ?_
  rintro e w21 ⟨rfl, hb⟩
  have HB21 : Hid (Below w3.heap.size w3 w21) := HB20.out.trans (hb.mono HB20.out.size)
  have HP21 : Hid (PS w21 w3.heap.size (.int .i64 1) (.slice (some ⟨gb0, 0, none⟩) cb0 cb0) (.slice (some ⟨gb1, 0, none⟩) cb1 cb1) (.int .i64 0) (.nilIface) (.nilIface) (.nilIface)) := HP20.out.below hb
  have HD0_21 : Hid (Reads w21 (.slice (some ⟨gb0, 0, none⟩) cb0 cb0) (readN l1)) := HD0_20.out.below hb
  have HD1_21 : Hid (Reads w21 (.slice (some ⟨gb1, 0, none⟩) cb1 cb1) (readN l2)) := HD1_20.out.below hb
  have HR21 := (HBw.out _ HB21.out).2
  have r0 := (HR21.cell (p := ⟨w.heap.size, 0, none⟩) HRc.out.2.2).trans HRc.out.1.1
  have r1 := (HR21.cell (p := ⟨w.heap.size, 1, none⟩) HRc.out.2.2).trans HRc.out.1.2.1
  have r2 := (HR21.cell (p := ⟨w.heap.size, 2, none⟩) HRc.out.2.2).trans HRc.out.1.2.2.1
  have r3 := (HR21.cell (p := ⟨w.heap.size, 3, none⟩) HRc.out.2.2).trans HRc.out.1.2.2.2
  have p0 := (HR21.frozen (p := ⟨w.heap.size, 0, none⟩) HRc.out.2.2).trans (HRc.out.2.1 0)
  have p1 := (HR21.frozen (p := ⟨w.heap.size, 1, none⟩) HRc.out.2.2).trans (HRc.out.2.1 1)
  have p2 := (HR21.frozen (p := ⟨w.heap.size, 2, none⟩) HRc.out.2.2).trans (HRc.out.2.1 2)
  have p3 := (HR21.frozen (p := ⟨w.heap.size, 3, none⟩) HRc.out.2.2).trans (HRc.out.2.1 3)
  have HRA : Hid (w.heap.size < w3.heap.size) := Nat.lt_of_lt_of_le HRc.out.2.2 HZ3.out.size
  clear HR21 hb a0 a1 a2 a3
  obtain ⟨a0, a1, a2, a3⟩ := HP21.out.1
  go_wp2_with fail
  have m0 : ((((w21.setCell ⟨w.heap.size, 0, none⟩ (.int .i64 1)).setCell ⟨w.heap.size, 1, none⟩ (.slice (some ⟨gb0, 0, none⟩) cb0 cb0)).setCell ⟨w.heap.size, 2, none⟩ (.slice (some ⟨gb1, 0, none⟩) cb1 cb1)).setCell ⟨w.heap.size, 3, none⟩ (.int .i64 0)).cell? ⟨w.heap.size, 0, none⟩ = some (.int .i64 1) := by
    rw [set_far (ne_off (by decide)), set_far (ne_off (by decide)), set_far (ne_off (by decide))]; exact set_same r0
  have m1 : ((((w21.setCell ⟨w.heap.size, 0, none⟩ (.int .i64 1)).setCell ⟨w.heap.size, 1, none⟩ (.slice (some ⟨gb0, 0, none⟩) cb0 cb0)).setCell ⟨w.heap.size, 2, none⟩ (.slice (some ⟨gb1, 0, none⟩) cb1 cb1)).setCell ⟨w.heap.size, 3, none⟩ (.int .i64 0)).cell? ⟨w.heap.size, 1, none⟩ = some (.slice (some ⟨gb0, 0, none⟩) cb0 cb0) := by
    rw [set_far (ne_off (by decide)), set_far (ne_off (by decide))]; exact set_same ((set_far (ne_off (by decide))).trans r1)
  have m2 : ((((w21.setCell ⟨w.heap.size, 0, none⟩ (.int .i64 1)).setCell ⟨w.heap.size, 1, none⟩ (.slice (some ⟨gb0, 0, none⟩) cb0 cb0)).setCell ⟨w.heap.size, 2, none⟩ (.slice (some ⟨gb1, 0, none⟩) cb1 cb1)).setCell ⟨w.heap.size, 3, none⟩ (.int .i64 0)).cell? ⟨w.heap.size, 2, none⟩ = some (.slice (some ⟨gb1, 0, none⟩) cb1 cb1) := by
    rw [set_far (ne_off (by decide))]; exact set_same ((set_far (ne_off (by decide))).trans ((set_far (ne_off (by decide))).trans r2))
  have m3 : ((((w21.setCell ⟨w.heap.size, 0, none⟩ (.int .i64 1)).setCell ⟨w.heap.size, 1, none⟩ (.slice (some ⟨gb0, 0, none⟩) cb0 cb0)).setCell ⟨w.heap.size, 2, none⟩ (.slice (some ⟨gb1, 0, none⟩) cb1 cb1)).setCell ⟨w.heap.size, 3, none⟩ (.int .i64 0)).cell? ⟨w.heap.size, 3, none⟩ = some (.int .i64 0) :=
    set_same ((set_far (ne_off (by decide))).trans ((set_far (ne_off (by decide))).trans ((set_far (ne_off (by decide))).trans r3)))
  have hld := load_atom m0 m1 m2 m3
  have hbF : Below w.heap.size w ((((w21.setCell ⟨w.heap.size, 0, none⟩ (.int .i64 1)).setCell ⟨w.heap.size, 1, none⟩ (.slice (some ⟨gb0, 0, none⟩) cb0 cb0)).setCell ⟨w.heap.size, 2, none⟩ (.slice (some ⟨gb1, 0, none⟩) cb1 cb1)).setCell ⟨w.heap.size, 3, none⟩ (.int .i64 0)) := by
    have hb := (HBw.out _ HB21.out).1
    exact (((hb.setCell (Nat.le_refl _) _).setCell (Nat.le_refl _) _).setCell (Nat.le_refl _) _).setCell (Nat.le_refl _) _

  refine bodyPost_ret (v := .tuple #[.agg #[(.int .i64 1), (.slice (some ⟨gb0, 0, none⟩) cb0 cb0), (.slice (some ⟨gb1, 0, none⟩) cb1 cb1), (.int .i64 0)], .nilIface]) ?_ rfl ⟨_, _, rfl, (Reads.store (Reads.store (Reads.store (Reads.store HD0_21.out (by have := HRA.out; have := HG0.out; show w.heap.size ≠ _; omega)) (by have := HRA.out; have := HG0.out; show w.heap.size ≠ _; omega)) (by have := HRA.out; have := HG0.out; show w.heap.size ≠ _; omega)) (by have := HRA.out; have := HG0.out; show w.heap.size ≠ _; omega)), (Reads.store (Reads.store (Reads.store (Reads.store HD1_21.out (by have := HRA.out; have := HG1.out; show w.heap.size ≠ _; omega)) (by have := HRA.out; have := HG1.out; show w.heap.size ≠ _; omega)) (by have := HRA.out; have := HG1.out; show w.heap.size ≠ _; omega)) (by have := HRA.out; have := HG1.out; show w.heap.size ≠ _; omega)), hbF⟩
  rw [results_cell_tmp rfl]
  simp [asAddr, Result.andThen, hld]


set_option maxHeartbeats 4000000 in
theorem aparse_2_ee (s : ByteArray) (l0 l1 l2 : List UInt8) (w : World) (hK : KindsLaid w) (hL : LibLaid w) (z1 : l1.length ≤ 9223372036854775807) (z2 : l2.length ≤ 9223372036854775807)
    (hSp : ∀ W, Below w.heap.size w W → Calls Tryz.prog 34 #[.string s, .string ⟨#[32]⟩, .int .i64 5] W fun e w' => ∃ v, e = .returned v ∧ ReadsS w' v [l0, l1, l2] ∧ Below W.heap.size W w')
    (hKo : ∀ W v, Below w.heap.size w W → ReadsS W v [l0, l1, l2] → Calls Tryz.prog 35 #[v] W fun e w' => e = .returned (.int .i64 2) ∧ Below W.heap.size W w')
    (hf0 : ¬ (textFault l1) = 0) (hf1 : ¬ (textFault l2) = 0) :
    Calls Tryz.prog 14 #[.string s] w fun e w' => e = .returned (.tuple #[.agg #[.int .i64 0, .slice none 0 0, .slice none 0 0, .int .i64 0], errV (toldN (textFault l1) (textFault l2) 0)]) ∧ Below w.heap.size w w' := by
  obtain ⟨w1, hw1⟩ : ∃ w1, w1 = w.alloc (.cells #[.int .i64 0, .slice none 0 0, .slice none 0 0, .int .i64 0] 24) := ⟨_, rfl⟩
  have HB1 : Hid (Below w.heap.size w w1) := by unfold Hid; rw [hw1]; exact below_alloc1 w _
  have HRc : Hid ((w1.cell? ⟨w.heap.size, 0, none⟩ = some (.int .i64 0) ∧ w1.cell? ⟨w.heap.size, 1, none⟩ = some (.slice none 0 0) ∧ w1.cell? ⟨w.heap.size, 2, none⟩ = some (.slice none 0 0) ∧ w1.cell? ⟨w.heap.size, 3, none⟩ = some (.int .i64 0)) ∧ (∀ j, w1.frozen? ⟨w.heap.size, j, none⟩ = false) ∧ w.heap.size < w1.heap.size) := by unfold Hid; rw [hw1]; exact ⟨⟨by simp, by simp, by simp, by simp⟩, fun j => by simp, by simp⟩
  have HSp : Hid (Calls Tryz.prog 34 #[.string s, .string ⟨#[32]⟩, .int .i64 5] w1 fun e w' => ∃ v, e = .returned v ∧ ReadsS w' v [l0, l1, l2] ∧ Below w1.heap.size w1 w') := hSp w1 HB1.out
  have HKo : Hid (∀ W v, Below w.heap.size w W → ReadsS W v [l0, l1, l2] → Calls Tryz.prog 35 #[v] W fun e w' => e = .returned (.int .i64 2) ∧ Below W.heap.size W w') := hKo
  have HPa : Hid (∀ (l : List UInt8), l.length ≤ 9223372036854775807 → ∀ W, Calls Tryz.prog 36 #[.string (strOf l)] W fun e w' => ∃ v, e = .returned (.tuple #[v, errV (textFault l)]) ∧ (textFault l = 0 → Reads w' v (readN l) ∧ ∃ g c, v = .slice (some ⟨g, 0, none⟩) c c ∧ W.heap.size ≤ g) ∧ (¬ textFault l = 0 → v = .slice none 0 0) ∧ Below W.heap.size W w') := fun l hl W => by
    have := parse_fresh (strOf l) (by rw [strOf_size]; exact hl) W
    rw [strOf_list] at this
    exact this
  have hT0 : ¬ (toldN (textFault l1) (textFault l2) 0) = 0 := by unfold toldN; split <;> (try split) <;> (try split) <;> omega
  have hTE : errV (toldN (textFault l1) (textFault l2) 0) = (.iface 51 (.int .i64 (toldN (textFault l1) (textFault l2) 0))) := errV_no hT0
  rw [hTE]
  have HTo : Hid (∀ W, Calls Tryz.prog 38 #[.agg #[.iface 51 (.int .i64 (textFault l1)), .iface 51 (.int .i64 (textFault l2)), .nilIface]] W fun e w' => e = .returned (.iface 51 (.int .i64 (toldN (textFault l1) (textFault l2) 0))) ∧ Below W.heap.size W w') := fun W => by
    have h := told_any (textFault l1) (textFault l2) 0 (textFault_range _).1 (textFault_range _).2 (textFault_range _).1 (textFault_range _).2 (by decide) (by decide) W
    rw [hTE] at h
    have e0 : errV (textFault l1) = .iface 51 (.int .i64 (textFault l1)) := errV_no hf0
    have e1 : errV (textFault l2) = .iface 51 (.int .i64 (textFault l2)) := errV_no hf1
    have e2 : errV 0 = .nilIface := rfl
    rw [e0, e1, e2] at h
    exact h
  clear hTE hT0
  obtain ⟨TT, hTT⟩ : ∃ TT, TT = (toldN (textFault l1) (textFault l2) 0) := ⟨_, rfl⟩
  rw [← hTT] at HTo ⊢
  clear hTT
  have HF0 : Hid (¬ (textFault l1) = 0) := hf0
  have HF1 : Hid (¬ (textFault l2) = 0) := hf1
  clear hf0 hf1
  have HKL : Hid (KindsLaid w ∧ LibLaid w) := ⟨hK, hL⟩
  clear hSp hKo hK hL
  go_enter Tryz.func14, Tryz.ntmps14
  go_wp2_with fail
  rw [← hw1]
  clear hw1
  go_at_call 34
  refine HSp.out.mono ?_
  rintro e w2 ⟨v, rfl, hR, hb⟩
  have HZ2 : Hid (Below w1.heap.size w1 w2) := hb
  have HR2 : Hid (ReadsS w2 v [l0, l1, l2]) := hR
  clear hb hR
  go_wp2_with fail
  go_at_call 35
  refine (HKo.out _ _ (HB1.out.trans (HZ2.out.mono HB1.out.size)) HR2.out).mono ?_
  rintro e w3 ⟨rfl, hb⟩
  have HZ3 : Hid (Below w1.heap.size w1 w3) := HZ2.out.trans (hb.mono HZ2.out.size)
  have hR3 := HR2.out.below hb
  clear hb
  obtain ⟨wb, cap, rfl, hwb, hcap, hcell⟩ := hR3
  have HC : Hid (∀ j, j < 3 → w3.cell? ⟨wb, j, none⟩ = some (.string (strOf (List.getD [l0, l1, l2] j [])))) := hcell
  have HWb : Hid (wb < w3.heap.size) := hwb
  have HBw : Hid (∀ W, Below w3.heap.size w3 W → Below w.heap.size w W ∧ Below w1.heap.size w1 W) := fun W h => ⟨(HB1.out.trans (HZ3.out.mono HB1.out.size)).trans (h.mono (Nat.le_trans HB1.out.size HZ3.out.size)), HZ3.out.trans (h.mono HZ3.out.size)⟩
  have HKd : Hid (∀ W, Below w3.heap.size w3 W → KindsLaid W) := fun W h => HKL.out.1.below (HBw.out W h).1
  clear hcell hcap hwb
  obtain ⟨W4, hW4⟩ : ∃ W4, W4 = ((w3.alloc (.cells #[.int .i64 2, .slice none 0 0, .slice none 0 0, .int .i64 0] 24)).alloc (.cells #[.nilIface, .nilIface, .nilIface] 73)) := ⟨_, rfl⟩
  have HP4 : Hid (PS W4 w3.heap.size (.int .i64 2) (.slice none 0 0) (.slice none 0 0) (.int .i64 0) .nilIface .nilIface .nilIface) := by unfold Hid; rw [hW4]; exact ps_alloc _ _ _ _
  have HB4 : Hid (Below w3.heap.size w3 W4) := by unfold Hid; rw [hW4]; exact ((Below.refl _ _).alloc (Nat.le_refl _) _).alloc (by simp) _
  have c1 : W4.cell? ⟨wb, 1, none⟩ = some (.string (strOf l1)) := (HB4.out.cell HWb.out).trans (HC.out 1 (by decide))
  rw [hW4] at c1
  go_wp2_with fail
  rw [← hW4]
  clear hW4 c1

  go_at_call 36
  refine (HPa.out l1 z1 _).mono ?_
  rintro e w5 ⟨vv, rfl, hS, hSn, hb⟩
  obtain ⟨ao0, sn0, sc0, rfl⟩ : ∃ ao n c, vv = .slice ao n c := by
    by_cases h : textFault l1 = 0
    · obtain ⟨_, g, c, rfl, _⟩ := hS h; exact ⟨_, _, _, rfl⟩
    · exact ⟨_, _, _, hSn h⟩
  have hE : errV (textFault l1) = .iface 51 (.int .i64 (textFault l1)) := by exact errV_no HF0.out
  rw [hE]
  clear hE hS hSn

  have HP5 : Hid (PS w5 w3.heap.size (.int .i64 2) (.slice none 0 0) (.slice none 0 0) (.int .i64 0) (.nilIface) (.nilIface) (.nilIface)) := HP4.out.below hb
  have HB5 : Hid (Below w3.heap.size w3 w5) := HB4.out.trans (hb.mono HB4.out.size)
  have hbx := hb
  clear hb
  have f0 := HP5.out.2.2.1 1
  have f1 := HP5.out.2.2.2.1 0
  have g0 := HP5.out.1.2.1
  have g1 := HP5.out.2.1.1
  obtain ⟨W6, hW6⟩ : ∃ W6, W6 = (w5.setCell ⟨w3.heap.size, 1, none⟩ (.slice ao0 sn0 sc0)).setCell ⟨w3.heap.size + 1, 0, none⟩ (.iface 51 (.int .i64 (textFault l1))) := ⟨_, rfl⟩

  have HP6 : Hid (PS W6 w3.heap.size (.int .i64 2) (.slice ao0 sn0 sc0) (.slice none 0 0) (.int .i64 0) (.iface 51 (.int .i64 (textFault l1))) (.nilIface) (.nilIface)) := by unfold Hid; rw [hW6]; exact HP5.out.storeS _ _
  have HB6 : Hid (Below w3.heap.size w3 W6) := by unfold Hid; rw [hW6]; exact (HB5.out.setCell (Nat.le_refl _) _).setCell (by simp) _
  have k6 : W6.cell? ⟨0, 7, none⟩ = some (.bool true) := HKd.out _ HB6.out 7 (by decide)
  have k7 : W6.cell? ⟨0, 8, none⟩ = some (.bool false) := HKd.out _ HB6.out 8 (by decide)
  have q6 := HP6.out.1.1
  have q7 := HP6.out.2.1.1
  have q8 := HP6.out.2.1.2.1
  have q9 := HP6.out.2.1.2.2

  have c2 : W6.cell? ⟨wb, 2, none⟩ = some (.string (strOf l2)) := (HB6.out.cell HWb.out).trans (HC.out 2 (by decide))

  clear hbx
  rw [hW6] at k6 k7 q6 q7 q8 q9 c2
  go_wp2_with fail
  rw [← hW6]
  clear hW6 f0 f1 g0 g1 k6 k7 q6 q7 q8 q9 c2

  go_at_call 36
  refine (HPa.out l2 z2 _).mono ?_
  rintro e w7 ⟨vv, rfl, hS, hSn, hb⟩
  obtain ⟨ao1, sn1, sc1, rfl⟩ : ∃ ao n c, vv = .slice ao n c := by
    by_cases h : textFault l2 = 0
    · obtain ⟨_, g, c, rfl, _⟩ := hS h; exact ⟨_, _, _, rfl⟩
    · exact ⟨_, _, _, hSn h⟩
  have hE : errV (textFault l2) = .iface 51 (.int .i64 (textFault l2)) := by exact errV_no HF1.out
  rw [hE]
  clear hE hS hSn

  have HP7 : Hid (PS w7 w3.heap.size (.int .i64 2) (.slice ao0 sn0 sc0) (.slice none 0 0) (.int .i64 0) (.iface 51 (.int .i64 (textFault l1))) (.nilIface) (.nilIface)) := HP6.out.below hb
  have HB7 : Hid (Below w3.heap.size w3 w7) := HB6.out.trans (hb.mono HB6.out.size)
  have hbx := hb
  clear hb
  have f0 := HP7.out.2.2.1 2
  have f1 := HP7.out.2.2.2.1 1
  have g0 := HP7.out.1.2.2.1
  have g1 := HP7.out.2.1.2.1
  obtain ⟨W8, hW8⟩ : ∃ W8, W8 = (w7.setCell ⟨w3.heap.size, 2, none⟩ (.slice ao1 sn1 sc1)).setCell ⟨w3.heap.size + 1, 1, none⟩ (.iface 51 (.int .i64 (textFault l2))) := ⟨_, rfl⟩

  have HP8 : Hid (PS W8 w3.heap.size (.int .i64 2) (.slice ao0 sn0 sc0) (.slice ao1 sn1 sc1) (.int .i64 0) (.iface 51 (.int .i64 (textFault l1))) (.iface 51 (.int .i64 (textFault l2))) (.nilIface)) := by unfold Hid; rw [hW8]; exact HP7.out.storeT _ _
  have HB8 : Hid (Below w3.heap.size w3 W8) := by unfold Hid; rw [hW8]; exact (HB7.out.setCell (Nat.le_refl _) _).setCell (by simp) _
  have k6 : W8.cell? ⟨0, 7, none⟩ = some (.bool true) := HKd.out _ HB8.out 7 (by decide)
  have k7 : W8.cell? ⟨0, 8, none⟩ = some (.bool false) := HKd.out _ HB8.out 8 (by decide)
  have q6 := HP8.out.1.1
  have q7 := HP8.out.2.1.1
  have q8 := HP8.out.2.1.2.1
  have q9 := HP8.out.2.1.2.2

  clear hbx
  rw [hW8] at k6 k7 q6 q7 q8 q9
  go_wp2_with fail
  rw [← hW8]
  clear hW8 f0 f1 g0 g1 k6 k7 q6 q7 q8 q9

  go_at_call 38
  refine (HTo.out _).mono ?_
  rintro e w20 ⟨rfl, hb⟩
  have HB20 : Hid (Below w3.heap.size w3 w20) := HB8.out.trans (hb.mono HB8.out.size)
  have HR20 := (HBw.out _ HB20.out).2
  have r0 := (HR20.cell (p := ⟨w.heap.size, 0, none⟩) HRc.out.2.2).trans HRc.out.1.1
  have r1 := (HR20.cell (p := ⟨w.heap.size, 1, none⟩) HRc.out.2.2).trans HRc.out.1.2.1
  have r2 := (HR20.cell (p := ⟨w.heap.size, 2, none⟩) HRc.out.2.2).trans HRc.out.1.2.2.1
  have r3 := (HR20.cell (p := ⟨w.heap.size, 3, none⟩) HRc.out.2.2).trans HRc.out.1.2.2.2
  have p0 := (HR20.frozen (p := ⟨w.heap.size, 0, none⟩) HRc.out.2.2).trans (HRc.out.2.1 0)
  have p1 := (HR20.frozen (p := ⟨w.heap.size, 1, none⟩) HRc.out.2.2).trans (HRc.out.2.1 1)
  have p2 := (HR20.frozen (p := ⟨w.heap.size, 2, none⟩) HRc.out.2.2).trans (HRc.out.2.1 2)
  have p3 := (HR20.frozen (p := ⟨w.heap.size, 3, none⟩) HRc.out.2.2).trans (HRc.out.2.1 3)
  clear HR20 hb
  go_wp2_with fail
  have m0 : ((((w20.setCell ⟨w.heap.size, 0, none⟩ (.int .i64 0)).setCell ⟨w.heap.size, 1, none⟩ (.slice none 0 0)).setCell ⟨w.heap.size, 2, none⟩ (.slice none 0 0)).setCell ⟨w.heap.size, 3, none⟩ (.int .i64 0)).cell? ⟨w.heap.size, 0, none⟩ = some (.int .i64 0) := by
    rw [set_far (ne_off (by decide)), set_far (ne_off (by decide)), set_far (ne_off (by decide))]; exact set_same r0
  have m1 : ((((w20.setCell ⟨w.heap.size, 0, none⟩ (.int .i64 0)).setCell ⟨w.heap.size, 1, none⟩ (.slice none 0 0)).setCell ⟨w.heap.size, 2, none⟩ (.slice none 0 0)).setCell ⟨w.heap.size, 3, none⟩ (.int .i64 0)).cell? ⟨w.heap.size, 1, none⟩ = some (.slice none 0 0) := by
    rw [set_far (ne_off (by decide)), set_far (ne_off (by decide))]; exact set_same ((set_far (ne_off (by decide))).trans r1)
  have m2 : ((((w20.setCell ⟨w.heap.size, 0, none⟩ (.int .i64 0)).setCell ⟨w.heap.size, 1, none⟩ (.slice none 0 0)).setCell ⟨w.heap.size, 2, none⟩ (.slice none 0 0)).setCell ⟨w.heap.size, 3, none⟩ (.int .i64 0)).cell? ⟨w.heap.size, 2, none⟩ = some (.slice none 0 0) := by
    rw [set_far (ne_off (by decide))]; exact set_same ((set_far (ne_off (by decide))).trans ((set_far (ne_off (by decide))).trans r2))
  have m3 : ((((w20.setCell ⟨w.heap.size, 0, none⟩ (.int .i64 0)).setCell ⟨w.heap.size, 1, none⟩ (.slice none 0 0)).setCell ⟨w.heap.size, 2, none⟩ (.slice none 0 0)).setCell ⟨w.heap.size, 3, none⟩ (.int .i64 0)).cell? ⟨w.heap.size, 3, none⟩ = some (.int .i64 0) :=
    set_same ((set_far (ne_off (by decide))).trans ((set_far (ne_off (by decide))).trans ((set_far (ne_off (by decide))).trans r3)))
  have hld := load_atom m0 m1 m2 m3
  refine bodyPost_ret (v := .tuple #[.agg #[.int .i64 0, .slice none 0 0, .slice none 0 0, .int .i64 0], (.iface 51 (.int .i64 TT))]) ?_ rfl ⟨rfl, ?_⟩
  · rw [results_cell_tmp rfl]
    simp [asAddr, Result.andThen, hld]
  · have hb := (HBw.out _ HB20.out).1
    exact (((hb.setCell (Nat.le_refl _) _).setCell (Nat.le_refl _) _).setCell (Nat.le_refl _) _).setCell (Nat.le_refl _) _


set_option maxHeartbeats 4000000 in
theorem aparse_2_en (s : ByteArray) (l0 l1 l2 : List UInt8) (w : World) (hK : KindsLaid w) (hL : LibLaid w) (z1 : l1.length ≤ 9223372036854775807) (z2 : l2.length ≤ 9223372036854775807)
    (hSp : ∀ W, Below w.heap.size w W → Calls Tryz.prog 34 #[.string s, .string ⟨#[32]⟩, .int .i64 5] W fun e w' => ∃ v, e = .returned v ∧ ReadsS w' v [l0, l1, l2] ∧ Below W.heap.size W w')
    (hKo : ∀ W v, Below w.heap.size w W → ReadsS W v [l0, l1, l2] → Calls Tryz.prog 35 #[v] W fun e w' => e = .returned (.int .i64 2) ∧ Below W.heap.size W w')
    (hf0 : ¬ (textFault l1) = 0) (hf1 : (textFault l2) = 0) :
    Calls Tryz.prog 14 #[.string s] w fun e w' => e = .returned (.tuple #[.agg #[.int .i64 0, .slice none 0 0, .slice none 0 0, .int .i64 0], errV (toldN (textFault l1) (textFault l2) 0)]) ∧ Below w.heap.size w w' := by
  obtain ⟨w1, hw1⟩ : ∃ w1, w1 = w.alloc (.cells #[.int .i64 0, .slice none 0 0, .slice none 0 0, .int .i64 0] 24) := ⟨_, rfl⟩
  have HB1 : Hid (Below w.heap.size w w1) := by unfold Hid; rw [hw1]; exact below_alloc1 w _
  have HRc : Hid ((w1.cell? ⟨w.heap.size, 0, none⟩ = some (.int .i64 0) ∧ w1.cell? ⟨w.heap.size, 1, none⟩ = some (.slice none 0 0) ∧ w1.cell? ⟨w.heap.size, 2, none⟩ = some (.slice none 0 0) ∧ w1.cell? ⟨w.heap.size, 3, none⟩ = some (.int .i64 0)) ∧ (∀ j, w1.frozen? ⟨w.heap.size, j, none⟩ = false) ∧ w.heap.size < w1.heap.size) := by unfold Hid; rw [hw1]; exact ⟨⟨by simp, by simp, by simp, by simp⟩, fun j => by simp, by simp⟩
  have HSp : Hid (Calls Tryz.prog 34 #[.string s, .string ⟨#[32]⟩, .int .i64 5] w1 fun e w' => ∃ v, e = .returned v ∧ ReadsS w' v [l0, l1, l2] ∧ Below w1.heap.size w1 w') := hSp w1 HB1.out
  have HKo : Hid (∀ W v, Below w.heap.size w W → ReadsS W v [l0, l1, l2] → Calls Tryz.prog 35 #[v] W fun e w' => e = .returned (.int .i64 2) ∧ Below W.heap.size W w') := hKo
  have HPa : Hid (∀ (l : List UInt8), l.length ≤ 9223372036854775807 → ∀ W, Calls Tryz.prog 36 #[.string (strOf l)] W fun e w' => ∃ v, e = .returned (.tuple #[v, errV (textFault l)]) ∧ (textFault l = 0 → Reads w' v (readN l) ∧ ∃ g c, v = .slice (some ⟨g, 0, none⟩) c c ∧ W.heap.size ≤ g) ∧ (¬ textFault l = 0 → v = .slice none 0 0) ∧ Below W.heap.size W w') := fun l hl W => by
    have := parse_fresh (strOf l) (by rw [strOf_size]; exact hl) W
    rw [strOf_list] at this
    exact this
  have hT0 : ¬ (toldN (textFault l1) (textFault l2) 0) = 0 := by unfold toldN; split <;> (try split) <;> (try split) <;> omega
  have hTE : errV (toldN (textFault l1) (textFault l2) 0) = (.iface 51 (.int .i64 (toldN (textFault l1) (textFault l2) 0))) := errV_no hT0
  rw [hTE]
  have HTo : Hid (∀ W, Calls Tryz.prog 38 #[.agg #[.iface 51 (.int .i64 (textFault l1)), .nilIface, .nilIface]] W fun e w' => e = .returned (.iface 51 (.int .i64 (toldN (textFault l1) (textFault l2) 0))) ∧ Below W.heap.size W w') := fun W => by
    have h := told_any (textFault l1) (textFault l2) 0 (textFault_range _).1 (textFault_range _).2 (textFault_range _).1 (textFault_range _).2 (by decide) (by decide) W
    rw [hTE] at h
    have e0 : errV (textFault l1) = .iface 51 (.int .i64 (textFault l1)) := errV_no hf0
    have e1 : errV (textFault l2) = .nilIface := by rw [hf1]; rfl
    have e2 : errV 0 = .nilIface := rfl
    rw [e0, e1, e2] at h
    exact h
  clear hTE hT0
  obtain ⟨TT, hTT⟩ : ∃ TT, TT = (toldN (textFault l1) (textFault l2) 0) := ⟨_, rfl⟩
  rw [← hTT] at HTo ⊢
  clear hTT
  have HF0 : Hid (¬ (textFault l1) = 0) := hf0
  have HF1 : Hid ((textFault l2) = 0) := hf1
  clear hf0 hf1
  have HKL : Hid (KindsLaid w ∧ LibLaid w) := ⟨hK, hL⟩
  clear hSp hKo hK hL
  go_enter Tryz.func14, Tryz.ntmps14
  go_wp2_with fail
  rw [← hw1]
  clear hw1
  go_at_call 34
  refine HSp.out.mono ?_
  rintro e w2 ⟨v, rfl, hR, hb⟩
  have HZ2 : Hid (Below w1.heap.size w1 w2) := hb
  have HR2 : Hid (ReadsS w2 v [l0, l1, l2]) := hR
  clear hb hR
  go_wp2_with fail
  go_at_call 35
  refine (HKo.out _ _ (HB1.out.trans (HZ2.out.mono HB1.out.size)) HR2.out).mono ?_
  rintro e w3 ⟨rfl, hb⟩
  have HZ3 : Hid (Below w1.heap.size w1 w3) := HZ2.out.trans (hb.mono HZ2.out.size)
  have hR3 := HR2.out.below hb
  clear hb
  obtain ⟨wb, cap, rfl, hwb, hcap, hcell⟩ := hR3
  have HC : Hid (∀ j, j < 3 → w3.cell? ⟨wb, j, none⟩ = some (.string (strOf (List.getD [l0, l1, l2] j [])))) := hcell
  have HWb : Hid (wb < w3.heap.size) := hwb
  have HBw : Hid (∀ W, Below w3.heap.size w3 W → Below w.heap.size w W ∧ Below w1.heap.size w1 W) := fun W h => ⟨(HB1.out.trans (HZ3.out.mono HB1.out.size)).trans (h.mono (Nat.le_trans HB1.out.size HZ3.out.size)), HZ3.out.trans (h.mono HZ3.out.size)⟩
  have HKd : Hid (∀ W, Below w3.heap.size w3 W → KindsLaid W) := fun W h => HKL.out.1.below (HBw.out W h).1
  clear hcell hcap hwb
  obtain ⟨W4, hW4⟩ : ∃ W4, W4 = ((w3.alloc (.cells #[.int .i64 2, .slice none 0 0, .slice none 0 0, .int .i64 0] 24)).alloc (.cells #[.nilIface, .nilIface, .nilIface] 73)) := ⟨_, rfl⟩
  have HP4 : Hid (PS W4 w3.heap.size (.int .i64 2) (.slice none 0 0) (.slice none 0 0) (.int .i64 0) .nilIface .nilIface .nilIface) := by unfold Hid; rw [hW4]; exact ps_alloc _ _ _ _
  have HB4 : Hid (Below w3.heap.size w3 W4) := by unfold Hid; rw [hW4]; exact ((Below.refl _ _).alloc (Nat.le_refl _) _).alloc (by simp) _
  have c1 : W4.cell? ⟨wb, 1, none⟩ = some (.string (strOf l1)) := (HB4.out.cell HWb.out).trans (HC.out 1 (by decide))
  rw [hW4] at c1
  go_wp2_with fail
  rw [← hW4]
  clear hW4 c1

  go_at_call 36
  refine (HPa.out l1 z1 _).mono ?_
  rintro e w5 ⟨vv, rfl, hS, hSn, hb⟩
  obtain ⟨ao0, sn0, sc0, rfl⟩ : ∃ ao n c, vv = .slice ao n c := by
    by_cases h : textFault l1 = 0
    · obtain ⟨_, g, c, rfl, _⟩ := hS h; exact ⟨_, _, _, rfl⟩
    · exact ⟨_, _, _, hSn h⟩
  have hE : errV (textFault l1) = .iface 51 (.int .i64 (textFault l1)) := by exact errV_no HF0.out
  rw [hE]
  clear hE hS hSn

  have HP5 : Hid (PS w5 w3.heap.size (.int .i64 2) (.slice none 0 0) (.slice none 0 0) (.int .i64 0) (.nilIface) (.nilIface) (.nilIface)) := HP4.out.below hb
  have HB5 : Hid (Below w3.heap.size w3 w5) := HB4.out.trans (hb.mono HB4.out.size)
  have hbx := hb
  clear hb
  have f0 := HP5.out.2.2.1 1
  have f1 := HP5.out.2.2.2.1 0
  have g0 := HP5.out.1.2.1
  have g1 := HP5.out.2.1.1
  obtain ⟨W6, hW6⟩ : ∃ W6, W6 = (w5.setCell ⟨w3.heap.size, 1, none⟩ (.slice ao0 sn0 sc0)).setCell ⟨w3.heap.size + 1, 0, none⟩ (.iface 51 (.int .i64 (textFault l1))) := ⟨_, rfl⟩

  have HP6 : Hid (PS W6 w3.heap.size (.int .i64 2) (.slice ao0 sn0 sc0) (.slice none 0 0) (.int .i64 0) (.iface 51 (.int .i64 (textFault l1))) (.nilIface) (.nilIface)) := by unfold Hid; rw [hW6]; exact HP5.out.storeS _ _
  have HB6 : Hid (Below w3.heap.size w3 W6) := by unfold Hid; rw [hW6]; exact (HB5.out.setCell (Nat.le_refl _) _).setCell (by simp) _
  have k6 : W6.cell? ⟨0, 7, none⟩ = some (.bool true) := HKd.out _ HB6.out 7 (by decide)
  have k7 : W6.cell? ⟨0, 8, none⟩ = some (.bool false) := HKd.out _ HB6.out 8 (by decide)
  have q6 := HP6.out.1.1
  have q7 := HP6.out.2.1.1
  have q8 := HP6.out.2.1.2.1
  have q9 := HP6.out.2.1.2.2

  have c2 : W6.cell? ⟨wb, 2, none⟩ = some (.string (strOf l2)) := (HB6.out.cell HWb.out).trans (HC.out 2 (by decide))

  clear hbx
  rw [hW6] at k6 k7 q6 q7 q8 q9 c2
  go_wp2_with fail
  rw [← hW6]
  clear hW6 f0 f1 g0 g1 k6 k7 q6 q7 q8 q9 c2

  go_at_call 36
  refine (HPa.out l2 z2 _).mono ?_
  rintro e w7 ⟨vv, rfl, hS, hSn, hb⟩
  obtain ⟨ao1, sn1, sc1, rfl⟩ : ∃ ao n c, vv = .slice ao n c := by
    by_cases h : textFault l2 = 0
    · obtain ⟨_, g, c, rfl, _⟩ := hS h; exact ⟨_, _, _, rfl⟩
    · exact ⟨_, _, _, hSn h⟩
  have hE : errV (textFault l2) = .nilIface := by rw [HF1.out]; rfl
  rw [hE]
  clear hE hS hSn

  have HP7 : Hid (PS w7 w3.heap.size (.int .i64 2) (.slice ao0 sn0 sc0) (.slice none 0 0) (.int .i64 0) (.iface 51 (.int .i64 (textFault l1))) (.nilIface) (.nilIface)) := HP6.out.below hb
  have HB7 : Hid (Below w3.heap.size w3 w7) := HB6.out.trans (hb.mono HB6.out.size)
  have hbx := hb
  clear hb
  have f0 := HP7.out.2.2.1 2
  have f1 := HP7.out.2.2.2.1 1
  have g0 := HP7.out.1.2.2.1
  have g1 := HP7.out.2.1.2.1
  obtain ⟨W8, hW8⟩ : ∃ W8, W8 = (w7.setCell ⟨w3.heap.size, 2, none⟩ (.slice ao1 sn1 sc1)).setCell ⟨w3.heap.size + 1, 1, none⟩ (.nilIface) := ⟨_, rfl⟩

  have HP8 : Hid (PS W8 w3.heap.size (.int .i64 2) (.slice ao0 sn0 sc0) (.slice ao1 sn1 sc1) (.int .i64 0) (.iface 51 (.int .i64 (textFault l1))) (.nilIface) (.nilIface)) := by unfold Hid; rw [hW8]; exact HP7.out.storeT _ _
  have HB8 : Hid (Below w3.heap.size w3 W8) := by unfold Hid; rw [hW8]; exact (HB7.out.setCell (Nat.le_refl _) _).setCell (by simp) _
  have k6 : W8.cell? ⟨0, 7, none⟩ = some (.bool true) := HKd.out _ HB8.out 7 (by decide)
  have k7 : W8.cell? ⟨0, 8, none⟩ = some (.bool false) := HKd.out _ HB8.out 8 (by decide)
  have q6 := HP8.out.1.1
  have q7 := HP8.out.2.1.1
  have q8 := HP8.out.2.1.2.1
  have q9 := HP8.out.2.1.2.2

  clear hbx
  rw [hW8] at k6 k7 q6 q7 q8 q9
  go_wp2_with fail
  rw [← hW8]
  clear hW8 f0 f1 g0 g1 k6 k7 q6 q7 q8 q9

  go_at_call 38
  refine (HTo.out _).mono ?_
  rintro e w20 ⟨rfl, hb⟩
  have HB20 : Hid (Below w3.heap.size w3 w20) := HB8.out.trans (hb.mono HB8.out.size)
  have HR20 := (HBw.out _ HB20.out).2
  have r0 := (HR20.cell (p := ⟨w.heap.size, 0, none⟩) HRc.out.2.2).trans HRc.out.1.1
  have r1 := (HR20.cell (p := ⟨w.heap.size, 1, none⟩) HRc.out.2.2).trans HRc.out.1.2.1
  have r2 := (HR20.cell (p := ⟨w.heap.size, 2, none⟩) HRc.out.2.2).trans HRc.out.1.2.2.1
  have r3 := (HR20.cell (p := ⟨w.heap.size, 3, none⟩) HRc.out.2.2).trans HRc.out.1.2.2.2
  have p0 := (HR20.frozen (p := ⟨w.heap.size, 0, none⟩) HRc.out.2.2).trans (HRc.out.2.1 0)
  have p1 := (HR20.frozen (p := ⟨w.heap.size, 1, none⟩) HRc.out.2.2).trans (HRc.out.2.1 1)
  have p2 := (HR20.frozen (p := ⟨w.heap.size, 2, none⟩) HRc.out.2.2).trans (HRc.out.2.1 2)
  have p3 := (HR20.frozen (p := ⟨w.heap.size, 3, none⟩) HRc.out.2.2).trans (HRc.out.2.1 3)
  clear HR20 hb
  go_wp2_with fail
  have m0 : ((((w20.setCell ⟨w.heap.size, 0, none⟩ (.int .i64 0)).setCell ⟨w.heap.size, 1, none⟩ (.slice none 0 0)).setCell ⟨w.heap.size, 2, none⟩ (.slice none 0 0)).setCell ⟨w.heap.size, 3, none⟩ (.int .i64 0)).cell? ⟨w.heap.size, 0, none⟩ = some (.int .i64 0) := by
    rw [set_far (ne_off (by decide)), set_far (ne_off (by decide)), set_far (ne_off (by decide))]; exact set_same r0
  have m1 : ((((w20.setCell ⟨w.heap.size, 0, none⟩ (.int .i64 0)).setCell ⟨w.heap.size, 1, none⟩ (.slice none 0 0)).setCell ⟨w.heap.size, 2, none⟩ (.slice none 0 0)).setCell ⟨w.heap.size, 3, none⟩ (.int .i64 0)).cell? ⟨w.heap.size, 1, none⟩ = some (.slice none 0 0) := by
    rw [set_far (ne_off (by decide)), set_far (ne_off (by decide))]; exact set_same ((set_far (ne_off (by decide))).trans r1)
  have m2 : ((((w20.setCell ⟨w.heap.size, 0, none⟩ (.int .i64 0)).setCell ⟨w.heap.size, 1, none⟩ (.slice none 0 0)).setCell ⟨w.heap.size, 2, none⟩ (.slice none 0 0)).setCell ⟨w.heap.size, 3, none⟩ (.int .i64 0)).cell? ⟨w.heap.size, 2, none⟩ = some (.slice none 0 0) := by
    rw [set_far (ne_off (by decide))]; exact set_same ((set_far (ne_off (by decide))).trans ((set_far (ne_off (by decide))).trans r2))
  have m3 : ((((w20.setCell ⟨w.heap.size, 0, none⟩ (.int .i64 0)).setCell ⟨w.heap.size, 1, none⟩ (.slice none 0 0)).setCell ⟨w.heap.size, 2, none⟩ (.slice none 0 0)).setCell ⟨w.heap.size, 3, none⟩ (.int .i64 0)).cell? ⟨w.heap.size, 3, none⟩ = some (.int .i64 0) :=
    set_same ((set_far (ne_off (by decide))).trans ((set_far (ne_off (by decide))).trans ((set_far (ne_off (by decide))).trans r3)))
  have hld := load_atom m0 m1 m2 m3
  refine bodyPost_ret (v := .tuple #[.agg #[.int .i64 0, .slice none 0 0, .slice none 0 0, .int .i64 0], (.iface 51 (.int .i64 TT))]) ?_ rfl ⟨rfl, ?_⟩
  · rw [results_cell_tmp rfl]
    simp [asAddr, Result.andThen, hld]
  · have hb := (HBw.out _ HB20.out).1
    exact (((hb.setCell (Nat.le_refl _) _).setCell (Nat.le_refl _) _).setCell (Nat.le_refl _) _).setCell (Nat.le_refl _) _


set_option maxHeartbeats 4000000 in
theorem aparse_2_ne (s : ByteArray) (l0 l1 l2 : List UInt8) (w : World) (hK : KindsLaid w) (hL : LibLaid w) (z1 : l1.length ≤ 9223372036854775807) (z2 : l2.length ≤ 9223372036854775807)
    (hSp : ∀ W, Below w.heap.size w W → Calls Tryz.prog 34 #[.string s, .string ⟨#[32]⟩, .int .i64 5] W fun e w' => ∃ v, e = .returned v ∧ ReadsS w' v [l0, l1, l2] ∧ Below W.heap.size W w')
    (hKo : ∀ W v, Below w.heap.size w W → ReadsS W v [l0, l1, l2] → Calls Tryz.prog 35 #[v] W fun e w' => e = .returned (.int .i64 2) ∧ Below W.heap.size W w')
    (hf0 : (textFault l1) = 0) (hf1 : ¬ (textFault l2) = 0) :
    Calls Tryz.prog 14 #[.string s] w fun e w' => e = .returned (.tuple #[.agg #[.int .i64 0, .slice none 0 0, .slice none 0 0, .int .i64 0], errV (toldN (textFault l1) (textFault l2) 0)]) ∧ Below w.heap.size w w' := by
  obtain ⟨w1, hw1⟩ : ∃ w1, w1 = w.alloc (.cells #[.int .i64 0, .slice none 0 0, .slice none 0 0, .int .i64 0] 24) := ⟨_, rfl⟩
  have HB1 : Hid (Below w.heap.size w w1) := by unfold Hid; rw [hw1]; exact below_alloc1 w _
  have HRc : Hid ((w1.cell? ⟨w.heap.size, 0, none⟩ = some (.int .i64 0) ∧ w1.cell? ⟨w.heap.size, 1, none⟩ = some (.slice none 0 0) ∧ w1.cell? ⟨w.heap.size, 2, none⟩ = some (.slice none 0 0) ∧ w1.cell? ⟨w.heap.size, 3, none⟩ = some (.int .i64 0)) ∧ (∀ j, w1.frozen? ⟨w.heap.size, j, none⟩ = false) ∧ w.heap.size < w1.heap.size) := by unfold Hid; rw [hw1]; exact ⟨⟨by simp, by simp, by simp, by simp⟩, fun j => by simp, by simp⟩
  have HSp : Hid (Calls Tryz.prog 34 #[.string s, .string ⟨#[32]⟩, .int .i64 5] w1 fun e w' => ∃ v, e = .returned v ∧ ReadsS w' v [l0, l1, l2] ∧ Below w1.heap.size w1 w') := hSp w1 HB1.out
  have HKo : Hid (∀ W v, Below w.heap.size w W → ReadsS W v [l0, l1, l2] → Calls Tryz.prog 35 #[v] W fun e w' => e = .returned (.int .i64 2) ∧ Below W.heap.size W w') := hKo
  have HPa : Hid (∀ (l : List UInt8), l.length ≤ 9223372036854775807 → ∀ W, Calls Tryz.prog 36 #[.string (strOf l)] W fun e w' => ∃ v, e = .returned (.tuple #[v, errV (textFault l)]) ∧ (textFault l = 0 → Reads w' v (readN l) ∧ ∃ g c, v = .slice (some ⟨g, 0, none⟩) c c ∧ W.heap.size ≤ g) ∧ (¬ textFault l = 0 → v = .slice none 0 0) ∧ Below W.heap.size W w') := fun l hl W => by
    have := parse_fresh (strOf l) (by rw [strOf_size]; exact hl) W
    rw [strOf_list] at this
    exact this
  have hT0 : ¬ (toldN (textFault l1) (textFault l2) 0) = 0 := by unfold toldN; split <;> (try split) <;> (try split) <;> omega
  have hTE : errV (toldN (textFault l1) (textFault l2) 0) = (.iface 51 (.int .i64 (toldN (textFault l1) (textFault l2) 0))) := errV_no hT0
  rw [hTE]
  have HTo : Hid (∀ W, Calls Tryz.prog 38 #[.agg #[.nilIface, .iface 51 (.int .i64 (textFault l2)), .nilIface]] W fun e w' => e = .returned (.iface 51 (.int .i64 (toldN (textFault l1) (textFault l2) 0))) ∧ Below W.heap.size W w') := fun W => by
    have h := told_any (textFault l1) (textFault l2) 0 (textFault_range _).1 (textFault_range _).2 (textFault_range _).1 (textFault_range _).2 (by decide) (by decide) W
    rw [hTE] at h
    have e0 : errV (textFault l1) = .nilIface := by rw [hf0]; rfl
    have e1 : errV (textFault l2) = .iface 51 (.int .i64 (textFault l2)) := errV_no hf1
    have e2 : errV 0 = .nilIface := rfl
    rw [e0, e1, e2] at h
    exact h
  clear hTE hT0
  obtain ⟨TT, hTT⟩ : ∃ TT, TT = (toldN (textFault l1) (textFault l2) 0) := ⟨_, rfl⟩
  rw [← hTT] at HTo ⊢
  clear hTT
  have HF0 : Hid ((textFault l1) = 0) := hf0
  have HF1 : Hid (¬ (textFault l2) = 0) := hf1
  clear hf0 hf1
  have HKL : Hid (KindsLaid w ∧ LibLaid w) := ⟨hK, hL⟩
  clear hSp hKo hK hL
  go_enter Tryz.func14, Tryz.ntmps14
  go_wp2_with fail
  rw [← hw1]
  clear hw1
  go_at_call 34
  refine HSp.out.mono ?_
  rintro e w2 ⟨v, rfl, hR, hb⟩
  have HZ2 : Hid (Below w1.heap.size w1 w2) := hb
  have HR2 : Hid (ReadsS w2 v [l0, l1, l2]) := hR
  clear hb hR
  go_wp2_with fail
  go_at_call 35
  refine (HKo.out _ _ (HB1.out.trans (HZ2.out.mono HB1.out.size)) HR2.out).mono ?_
  rintro e w3 ⟨rfl, hb⟩
  have HZ3 : Hid (Below w1.heap.size w1 w3) := HZ2.out.trans (hb.mono HZ2.out.size)
  have hR3 := HR2.out.below hb
  clear hb
  obtain ⟨wb, cap, rfl, hwb, hcap, hcell⟩ := hR3
  have HC : Hid (∀ j, j < 3 → w3.cell? ⟨wb, j, none⟩ = some (.string (strOf (List.getD [l0, l1, l2] j [])))) := hcell
  have HWb : Hid (wb < w3.heap.size) := hwb
  have HBw : Hid (∀ W, Below w3.heap.size w3 W → Below w.heap.size w W ∧ Below w1.heap.size w1 W) := fun W h => ⟨(HB1.out.trans (HZ3.out.mono HB1.out.size)).trans (h.mono (Nat.le_trans HB1.out.size HZ3.out.size)), HZ3.out.trans (h.mono HZ3.out.size)⟩
  have HKd : Hid (∀ W, Below w3.heap.size w3 W → KindsLaid W) := fun W h => HKL.out.1.below (HBw.out W h).1
  clear hcell hcap hwb
  obtain ⟨W4, hW4⟩ : ∃ W4, W4 = ((w3.alloc (.cells #[.int .i64 2, .slice none 0 0, .slice none 0 0, .int .i64 0] 24)).alloc (.cells #[.nilIface, .nilIface, .nilIface] 73)) := ⟨_, rfl⟩
  have HP4 : Hid (PS W4 w3.heap.size (.int .i64 2) (.slice none 0 0) (.slice none 0 0) (.int .i64 0) .nilIface .nilIface .nilIface) := by unfold Hid; rw [hW4]; exact ps_alloc _ _ _ _
  have HB4 : Hid (Below w3.heap.size w3 W4) := by unfold Hid; rw [hW4]; exact ((Below.refl _ _).alloc (Nat.le_refl _) _).alloc (by simp) _
  have c1 : W4.cell? ⟨wb, 1, none⟩ = some (.string (strOf l1)) := (HB4.out.cell HWb.out).trans (HC.out 1 (by decide))
  rw [hW4] at c1
  go_wp2_with fail
  rw [← hW4]
  clear hW4 c1

  go_at_call 36
  refine (HPa.out l1 z1 _).mono ?_
  rintro e w5 ⟨vv, rfl, hS, hSn, hb⟩
  obtain ⟨ao0, sn0, sc0, rfl⟩ : ∃ ao n c, vv = .slice ao n c := by
    by_cases h : textFault l1 = 0
    · obtain ⟨_, g, c, rfl, _⟩ := hS h; exact ⟨_, _, _, rfl⟩
    · exact ⟨_, _, _, hSn h⟩
  have hE : errV (textFault l1) = .nilIface := by rw [HF0.out]; rfl
  rw [hE]
  clear hE hS hSn

  have HP5 : Hid (PS w5 w3.heap.size (.int .i64 2) (.slice none 0 0) (.slice none 0 0) (.int .i64 0) (.nilIface) (.nilIface) (.nilIface)) := HP4.out.below hb
  have HB5 : Hid (Below w3.heap.size w3 w5) := HB4.out.trans (hb.mono HB4.out.size)
  have hbx := hb
  clear hb
  have f0 := HP5.out.2.2.1 1
  have f1 := HP5.out.2.2.2.1 0
  have g0 := HP5.out.1.2.1
  have g1 := HP5.out.2.1.1
  obtain ⟨W6, hW6⟩ : ∃ W6, W6 = (w5.setCell ⟨w3.heap.size, 1, none⟩ (.slice ao0 sn0 sc0)).setCell ⟨w3.heap.size + 1, 0, none⟩ (.nilIface) := ⟨_, rfl⟩

  have HP6 : Hid (PS W6 w3.heap.size (.int .i64 2) (.slice ao0 sn0 sc0) (.slice none 0 0) (.int .i64 0) (.nilIface) (.nilIface) (.nilIface)) := by unfold Hid; rw [hW6]; exact HP5.out.storeS _ _
  have HB6 : Hid (Below w3.heap.size w3 W6) := by unfold Hid; rw [hW6]; exact (HB5.out.setCell (Nat.le_refl _) _).setCell (by simp) _
  have k6 : W6.cell? ⟨0, 7, none⟩ = some (.bool true) := HKd.out _ HB6.out 7 (by decide)
  have k7 : W6.cell? ⟨0, 8, none⟩ = some (.bool false) := HKd.out _ HB6.out 8 (by decide)
  have q6 := HP6.out.1.1
  have q7 := HP6.out.2.1.1
  have q8 := HP6.out.2.1.2.1
  have q9 := HP6.out.2.1.2.2

  have c2 : W6.cell? ⟨wb, 2, none⟩ = some (.string (strOf l2)) := (HB6.out.cell HWb.out).trans (HC.out 2 (by decide))

  clear hbx
  rw [hW6] at k6 k7 q6 q7 q8 q9 c2
  go_wp2_with fail
  rw [← hW6]
  clear hW6 f0 f1 g0 g1 k6 k7 q6 q7 q8 q9 c2

  go_at_call 36
  refine (HPa.out l2 z2 _).mono ?_
  rintro e w7 ⟨vv, rfl, hS, hSn, hb⟩
  obtain ⟨ao1, sn1, sc1, rfl⟩ : ∃ ao n c, vv = .slice ao n c := by
    by_cases h : textFault l2 = 0
    · obtain ⟨_, g, c, rfl, _⟩ := hS h; exact ⟨_, _, _, rfl⟩
    · exact ⟨_, _, _, hSn h⟩
  have hE : errV (textFault l2) = .iface 51 (.int .i64 (textFault l2)) := by exact errV_no HF1.out
  rw [hE]
  clear hE hS hSn

  have HP7 : Hid (PS w7 w3.heap.size (.int .i64 2) (.slice ao0 sn0 sc0) (.slice none 0 0) (.int .i64 0) (.nilIface) (.nilIface) (.nilIface)) := HP6.out.below hb
  have HB7 : Hid (Below w3.heap.size w3 w7) := HB6.out.trans (hb.mono HB6.out.size)
  have hbx := hb
  clear hb
  have f0 := HP7.out.2.2.1 2
  have f1 := HP7.out.2.2.2.1 1
  have g0 := HP7.out.1.2.2.1
  have g1 := HP7.out.2.1.2.1
  obtain ⟨W8, hW8⟩ : ∃ W8, W8 = (w7.setCell ⟨w3.heap.size, 2, none⟩ (.slice ao1 sn1 sc1)).setCell ⟨w3.heap.size + 1, 1, none⟩ (.iface 51 (.int .i64 (textFault l2))) := ⟨_, rfl⟩

  have HP8 : Hid (PS W8 w3.heap.size (.int .i64 2) (.slice ao0 sn0 sc0) (.slice ao1 sn1 sc1) (.int .i64 0) (.nilIface) (.iface 51 (.int .i64 (textFault l2))) (.nilIface)) := by unfold Hid; rw [hW8]; exact HP7.out.storeT _ _
  have HB8 : Hid (Below w3.heap.size w3 W8) := by unfold Hid; rw [hW8]; exact (HB7.out.setCell (Nat.le_refl _) _).setCell (by simp) _
  have k6 : W8.cell? ⟨0, 7, none⟩ = some (.bool true) := HKd.out _ HB8.out 7 (by decide)
  have k7 : W8.cell? ⟨0, 8, none⟩ = some (.bool false) := HKd.out _ HB8.out 8 (by decide)
  have q6 := HP8.out.1.1
  have q7 := HP8.out.2.1.1
  have q8 := HP8.out.2.1.2.1
  have q9 := HP8.out.2.1.2.2

  clear hbx
  rw [hW8] at k6 k7 q6 q7 q8 q9
  go_wp2_with fail
  rw [← hW8]
  clear hW8 f0 f1 g0 g1 k6 k7 q6 q7 q8 q9

  go_at_call 38
  refine (HTo.out _).mono ?_
  rintro e w20 ⟨rfl, hb⟩
  have HB20 : Hid (Below w3.heap.size w3 w20) := HB8.out.trans (hb.mono HB8.out.size)
  have HR20 := (HBw.out _ HB20.out).2
  have r0 := (HR20.cell (p := ⟨w.heap.size, 0, none⟩) HRc.out.2.2).trans HRc.out.1.1
  have r1 := (HR20.cell (p := ⟨w.heap.size, 1, none⟩) HRc.out.2.2).trans HRc.out.1.2.1
  have r2 := (HR20.cell (p := ⟨w.heap.size, 2, none⟩) HRc.out.2.2).trans HRc.out.1.2.2.1
  have r3 := (HR20.cell (p := ⟨w.heap.size, 3, none⟩) HRc.out.2.2).trans HRc.out.1.2.2.2
  have p0 := (HR20.frozen (p := ⟨w.heap.size, 0, none⟩) HRc.out.2.2).trans (HRc.out.2.1 0)
  have p1 := (HR20.frozen (p := ⟨w.heap.size, 1, none⟩) HRc.out.2.2).trans (HRc.out.2.1 1)
  have p2 := (HR20.frozen (p := ⟨w.heap.size, 2, none⟩) HRc.out.2.2).trans (HRc.out.2.1 2)
  have p3 := (HR20.frozen (p := ⟨w.heap.size, 3, none⟩) HRc.out.2.2).trans (HRc.out.2.1 3)
  clear HR20 hb
  go_wp2_with fail
  have m0 : ((((w20.setCell ⟨w.heap.size, 0, none⟩ (.int .i64 0)).setCell ⟨w.heap.size, 1, none⟩ (.slice none 0 0)).setCell ⟨w.heap.size, 2, none⟩ (.slice none 0 0)).setCell ⟨w.heap.size, 3, none⟩ (.int .i64 0)).cell? ⟨w.heap.size, 0, none⟩ = some (.int .i64 0) := by
    rw [set_far (ne_off (by decide)), set_far (ne_off (by decide)), set_far (ne_off (by decide))]; exact set_same r0
  have m1 : ((((w20.setCell ⟨w.heap.size, 0, none⟩ (.int .i64 0)).setCell ⟨w.heap.size, 1, none⟩ (.slice none 0 0)).setCell ⟨w.heap.size, 2, none⟩ (.slice none 0 0)).setCell ⟨w.heap.size, 3, none⟩ (.int .i64 0)).cell? ⟨w.heap.size, 1, none⟩ = some (.slice none 0 0) := by
    rw [set_far (ne_off (by decide)), set_far (ne_off (by decide))]; exact set_same ((set_far (ne_off (by decide))).trans r1)
  have m2 : ((((w20.setCell ⟨w.heap.size, 0, none⟩ (.int .i64 0)).setCell ⟨w.heap.size, 1, none⟩ (.slice none 0 0)).setCell ⟨w.heap.size, 2, none⟩ (.slice none 0 0)).setCell ⟨w.heap.size, 3, none⟩ (.int .i64 0)).cell? ⟨w.heap.size, 2, none⟩ = some (.slice none 0 0) := by
    rw [set_far (ne_off (by decide))]; exact set_same ((set_far (ne_off (by decide))).trans ((set_far (ne_off (by decide))).trans r2))
  have m3 : ((((w20.setCell ⟨w.heap.size, 0, none⟩ (.int .i64 0)).setCell ⟨w.heap.size, 1, none⟩ (.slice none 0 0)).setCell ⟨w.heap.size, 2, none⟩ (.slice none 0 0)).setCell ⟨w.heap.size, 3, none⟩ (.int .i64 0)).cell? ⟨w.heap.size, 3, none⟩ = some (.int .i64 0) :=
    set_same ((set_far (ne_off (by decide))).trans ((set_far (ne_off (by decide))).trans ((set_far (ne_off (by decide))).trans r3)))
  have hld := load_atom m0 m1 m2 m3
  refine bodyPost_ret (v := .tuple #[.agg #[.int .i64 0, .slice none 0 0, .slice none 0 0, .int .i64 0], (.iface 51 (.int .i64 TT))]) ?_ rfl ⟨rfl, ?_⟩
  · rw [results_cell_tmp rfl]
    simp [asAddr, Result.andThen, hld]
  · have hb := (HBw.out _ HB20.out).1
    exact (((hb.setCell (Nat.le_refl _) _).setCell (Nat.le_refl _) _).setCell (Nat.le_refl _) _).setCell (Nat.le_refl _) _


set_option maxHeartbeats 4000000 in
theorem aparse_2_nnF (s : ByteArray) (l0 l1 l2 : List UInt8) (w : World) (hK : KindsLaid w) (hL : LibLaid w) (z1 : l1.length ≤ 9223372036854775807) (z2 : l2.length ≤ 9223372036854775807)
    (hSp : ∀ W, Below w.heap.size w W → Calls Tryz.prog 34 #[.string s, .string ⟨#[32]⟩, .int .i64 5] W fun e w' => ∃ v, e = .returned v ∧ ReadsS w' v [l0, l1, l2] ∧ Below W.heap.size W w')
    (hKo : ∀ W v, Below w.heap.size w W → ReadsS W v [l0, l1, l2] → Calls Tryz.prog 35 #[v] W fun e w' => e = .returned (.int .i64 2) ∧ Below W.heap.size W w')
    (hf0 : (textFault l1) = 0) (hf1 : (textFault l2) = 0) (hA : ¬ (atomFault 2 (readN l1) (readN l2) 0) = 0) :
    Calls Tryz.prog 14 #[.string s] w fun e w' => e = .returned (.tuple #[.agg #[.int .i64 0, .slice none 0 0, .slice none 0 0, .int .i64 0], .iface 51 (.int .i64 (atomFault 2 (readN l1) (readN l2) 0))]) ∧ Below w.heap.size w w' := by
  obtain ⟨w1, hw1⟩ : ∃ w1, w1 = w.alloc (.cells #[.int .i64 0, .slice none 0 0, .slice none 0 0, .int .i64 0] 24) := ⟨_, rfl⟩
  have HB1 : Hid (Below w.heap.size w w1) := by unfold Hid; rw [hw1]; exact below_alloc1 w _
  have HRc : Hid ((w1.cell? ⟨w.heap.size, 0, none⟩ = some (.int .i64 0) ∧ w1.cell? ⟨w.heap.size, 1, none⟩ = some (.slice none 0 0) ∧ w1.cell? ⟨w.heap.size, 2, none⟩ = some (.slice none 0 0) ∧ w1.cell? ⟨w.heap.size, 3, none⟩ = some (.int .i64 0)) ∧ (∀ j, w1.frozen? ⟨w.heap.size, j, none⟩ = false) ∧ w.heap.size < w1.heap.size) := by unfold Hid; rw [hw1]; exact ⟨⟨by simp, by simp, by simp, by simp⟩, fun j => by simp, by simp⟩
  have HSp : Hid (Calls Tryz.prog 34 #[.string s, .string ⟨#[32]⟩, .int .i64 5] w1 fun e w' => ∃ v, e = .returned v ∧ ReadsS w' v [l0, l1, l2] ∧ Below w1.heap.size w1 w') := hSp w1 HB1.out
  have HKo : Hid (∀ W v, Below w.heap.size w W → ReadsS W v [l0, l1, l2] → Calls Tryz.prog 35 #[v] W fun e w' => e = .returned (.int .i64 2) ∧ Below W.heap.size W w') := hKo
  have HPa : Hid (∀ (l : List UInt8), l.length ≤ 9223372036854775807 → ∀ W, Calls Tryz.prog 36 #[.string (strOf l)] W fun e w' => ∃ v, e = .returned (.tuple #[v, errV (textFault l)]) ∧ (textFault l = 0 → Reads w' v (readN l) ∧ ∃ g c, v = .slice (some ⟨g, 0, none⟩) c c ∧ W.heap.size ≤ g) ∧ (¬ textFault l = 0 → v = .slice none 0 0) ∧ Below W.heap.size W w') := fun l hl W => by
    have := parse_fresh (strOf l) (by rw [strOf_size]; exact hl) W
    rw [strOf_list] at this
    exact this
  have hT0 : (toldN (textFault l1) (textFault l2) 0) = 0 := by unfold toldN; rw [if_neg (by omega), if_pos (by omega), if_pos (by omega)]; try omega
  have hTE : errV (toldN (textFault l1) (textFault l2) 0) = .nilIface := by rw [hT0]; rfl
  have HTo : Hid (∀ W, Calls Tryz.prog 38 #[.agg #[.nilIface, .nilIface, .nilIface]] W fun e w' => e = .returned .nilIface ∧ Below W.heap.size W w') := fun W => by
    have h := told_any (textFault l1) (textFault l2) 0 (textFault_range _).1 (textFault_range _).2 (textFault_range _).1 (textFault_range _).2 (by decide) (by decide) W
    rw [hTE] at h
    have e0 : errV (textFault l1) = .nilIface := by rw [hf0]; rfl
    have e1 : errV (textFault l2) = .nilIface := by rw [hf1]; rfl
    have e2 : errV 0 = .nilIface := rfl
    rw [e0, e1, e2] at h
    exact h
  clear hTE hT0
  have HF0 : Hid ((textFault l1) = 0) := hf0
  have HF1 : Hid ((textFault l2) = 0) := hf1
  clear hf0 hf1
  have HA : Hid (¬ (atomFault 2 (readN l1) (readN l2) 0) = 0) := hA
  clear hA
  obtain ⟨FF, hFF⟩ : ∃ FF, FF = (atomFault 2 (readN l1) (readN l2) 0) := ⟨_, rfl⟩
  rw [← hFF]
  have HFF : Hid (FF = (atomFault 2 (readN l1) (readN l2) 0)) := hFF
  clear hFF
  have HKL : Hid (KindsLaid w ∧ LibLaid w) := ⟨hK, hL⟩
  clear hSp hKo hK hL
  go_enter Tryz.func14, Tryz.ntmps14
  go_wp2_with fail
  rw [← hw1]
  clear hw1
  go_at_call 34
  refine HSp.out.mono ?_
  rintro e w2 ⟨v, rfl, hR, hb⟩
  have HZ2 : Hid (Below w1.heap.size w1 w2) := hb
  have HR2 : Hid (ReadsS w2 v [l0, l1, l2]) := hR
  clear hb hR
  go_wp2_with fail
  go_at_call 35
  refine (HKo.out _ _ (HB1.out.trans (HZ2.out.mono HB1.out.size)) HR2.out).mono ?_
  rintro e w3 ⟨rfl, hb⟩
  have HZ3 : Hid (Below w1.heap.size w1 w3) := HZ2.out.trans (hb.mono HZ2.out.size)
  have hR3 := HR2.out.below hb
  clear hb
  obtain ⟨wb, cap, rfl, hwb, hcap, hcell⟩ := hR3
  have HC : Hid (∀ j, j < 3 → w3.cell? ⟨wb, j, none⟩ = some (.string (strOf (List.getD [l0, l1, l2] j [])))) := hcell
  have HWb : Hid (wb < w3.heap.size) := hwb
  have HBw : Hid (∀ W, Below w3.heap.size w3 W → Below w.heap.size w W ∧ Below w1.heap.size w1 W) := fun W h => ⟨(HB1.out.trans (HZ3.out.mono HB1.out.size)).trans (h.mono (Nat.le_trans HB1.out.size HZ3.out.size)), HZ3.out.trans (h.mono HZ3.out.size)⟩
  have HKd : Hid (∀ W, Below w3.heap.size w3 W → KindsLaid W) := fun W h => HKL.out.1.below (HBw.out W h).1
  clear hcell hcap hwb
  obtain ⟨W4, hW4⟩ : ∃ W4, W4 = ((w3.alloc (.cells #[.int .i64 2, .slice none 0 0, .slice none 0 0, .int .i64 0] 24)).alloc (.cells #[.nilIface, .nilIface, .nilIface] 73)) := ⟨_, rfl⟩
  have HP4 : Hid (PS W4 w3.heap.size (.int .i64 2) (.slice none 0 0) (.slice none 0 0) (.int .i64 0) .nilIface .nilIface .nilIface) := by unfold Hid; rw [hW4]; exact ps_alloc _ _ _ _
  have HB4 : Hid (Below w3.heap.size w3 W4) := by unfold Hid; rw [hW4]; exact ((Below.refl _ _).alloc (Nat.le_refl _) _).alloc (by simp) _
  have c1 : W4.cell? ⟨wb, 1, none⟩ = some (.string (strOf l1)) := (HB4.out.cell HWb.out).trans (HC.out 1 (by decide))
  rw [hW4] at c1
  go_wp2_with fail
  rw [← hW4]
  clear hW4 c1

  go_at_call 36
  refine (HPa.out l1 z1 _).mono ?_
  rintro e w5 ⟨vv, rfl, hS, hSn, hb⟩
  obtain ⟨hRd, gb0, cb0, rfl, hg⟩ := hS HF0.out
  have HG0 : Hid (w3.heap.size + 1 < gb0) := Nat.lt_of_lt_of_le HP4.out.2.2.2.2 hg
  have HD0_5 : Hid (Reads w5 (.slice (some ⟨gb0, 0, none⟩) cb0 cb0) (readN l1)) := hRd
  clear hRd hg
  have hE : errV (textFault l1) = .nilIface := by rw [HF0.out]; rfl
  rw [hE]
  clear hE hS hSn

  have HP5 : Hid (PS w5 w3.heap.size (.int .i64 2) (.slice none 0 0) (.slice none 0 0) (.int .i64 0) (.nilIface) (.nilIface) (.nilIface)) := HP4.out.below hb
  have HB5 : Hid (Below w3.heap.size w3 w5) := HB4.out.trans (hb.mono HB4.out.size)
  have hbx := hb
  clear hb
  have f0 := HP5.out.2.2.1 1
  have f1 := HP5.out.2.2.2.1 0
  have g0 := HP5.out.1.2.1
  have g1 := HP5.out.2.1.1
  obtain ⟨W6, hW6⟩ : ∃ W6, W6 = (w5.setCell ⟨w3.heap.size, 1, none⟩ (.slice (some ⟨gb0, 0, none⟩) cb0 cb0)).setCell ⟨w3.heap.size + 1, 0, none⟩ (.nilIface) := ⟨_, rfl⟩

  have HP6 : Hid (PS W6 w3.heap.size (.int .i64 2) (.slice (some ⟨gb0, 0, none⟩) cb0 cb0) (.slice none 0 0) (.int .i64 0) (.nilIface) (.nilIface) (.nilIface)) := by unfold Hid; rw [hW6]; exact HP5.out.storeS _ _
  have HB6 : Hid (Below w3.heap.size w3 W6) := by unfold Hid; rw [hW6]; exact (HB5.out.setCell (Nat.le_refl _) _).setCell (by simp) _
  have k6 : W6.cell? ⟨0, 7, none⟩ = some (.bool true) := HKd.out _ HB6.out 7 (by decide)
  have k7 : W6.cell? ⟨0, 8, none⟩ = some (.bool false) := HKd.out _ HB6.out 8 (by decide)
  have HD0_6 : Hid (Reads W6 (.slice (some ⟨gb0, 0, none⟩) cb0 cb0) (readN l1)) := by
    have hg := HG0.out
    unfold Hid; rw [hW6]; exact (Reads.store (Reads.store HD0_5.out (by show w3.heap.size ≠ _; omega)) (by show w3.heap.size + 1 ≠ _; omega))
  have q6 := HP6.out.1.1
  have q7 := HP6.out.2.1.1
  have q8 := HP6.out.2.1.2.1
  have q9 := HP6.out.2.1.2.2

  have c2 : W6.cell? ⟨wb, 2, none⟩ = some (.string (strOf l2)) := (HB6.out.cell HWb.out).trans (HC.out 2 (by decide))

  clear hbx
  rw [hW6] at k6 k7 q6 q7 q8 q9 c2
  go_wp2_with fail
  rw [← hW6]
  clear hW6 f0 f1 g0 g1 k6 k7 q6 q7 q8 q9 c2

  go_at_call 36
  refine (HPa.out l2 z2 _).mono ?_
  rintro e w7 ⟨vv, rfl, hS, hSn, hb⟩
  obtain ⟨hRd, gb1, cb1, rfl, hg⟩ := hS HF1.out
  have HG1 : Hid (w3.heap.size + 1 < gb1) := Nat.lt_of_lt_of_le HP6.out.2.2.2.2 hg
  have HD1_7 : Hid (Reads w7 (.slice (some ⟨gb1, 0, none⟩) cb1 cb1) (readN l2)) := hRd
  clear hRd hg
  have hE : errV (textFault l2) = .nilIface := by rw [HF1.out]; rfl
  rw [hE]
  clear hE hS hSn

  have HP7 : Hid (PS w7 w3.heap.size (.int .i64 2) (.slice (some ⟨gb0, 0, none⟩) cb0 cb0) (.slice none 0 0) (.int .i64 0) (.nilIface) (.nilIface) (.nilIface)) := HP6.out.below hb
  have HB7 : Hid (Below w3.heap.size w3 w7) := HB6.out.trans (hb.mono HB6.out.size)
  have hbx := hb
  clear hb
  have f0 := HP7.out.2.2.1 2
  have f1 := HP7.out.2.2.2.1 1
  have g0 := HP7.out.1.2.2.1
  have g1 := HP7.out.2.1.2.1
  obtain ⟨W8, hW8⟩ : ∃ W8, W8 = (w7.setCell ⟨w3.heap.size, 2, none⟩ (.slice (some ⟨gb1, 0, none⟩) cb1 cb1)).setCell ⟨w3.heap.size + 1, 1, none⟩ (.nilIface) := ⟨_, rfl⟩

  have HP8 : Hid (PS W8 w3.heap.size (.int .i64 2) (.slice (some ⟨gb0, 0, none⟩) cb0 cb0) (.slice (some ⟨gb1, 0, none⟩) cb1 cb1) (.int .i64 0) (.nilIface) (.nilIface) (.nilIface)) := by unfold Hid; rw [hW8]; exact HP7.out.storeT _ _
  have HB8 : Hid (Below w3.heap.size w3 W8) := by unfold Hid; rw [hW8]; exact (HB7.out.setCell (Nat.le_refl _) _).setCell (by simp) _
  have k6 : W8.cell? ⟨0, 7, none⟩ = some (.bool true) := HKd.out _ HB8.out 7 (by decide)
  have k7 : W8.cell? ⟨0, 8, none⟩ = some (.bool false) := HKd.out _ HB8.out 8 (by decide)
  have HD0_8 : Hid (Reads W8 (.slice (some ⟨gb0, 0, none⟩) cb0 cb0) (readN l1)) := by
    have hg := HG0.out
    unfold Hid; rw [hW8]; exact (Reads.store (Reads.store (HD0_6.out.below hbx) (by show w3.heap.size ≠ _; omega)) (by show w3.heap.size + 1 ≠ _; omega))
  have HD1_8 : Hid (Reads W8 (.slice (some ⟨gb1, 0, none⟩) cb1 cb1) (readN l2)) := by
    have hg := HG1.out
    unfold Hid; rw [hW8]; exact (Reads.store (Reads.store HD1_7.out (by show w3.heap.size ≠ _; omega)) (by show w3.heap.size + 1 ≠ _; omega))
  have q6 := HP8.out.1.1
  have q7 := HP8.out.2.1.1
  have q8 := HP8.out.2.1.2.1
  have q9 := HP8.out.2.1.2.2

  clear hbx
  rw [hW8] at k6 k7 q6 q7 q8 q9
  go_wp2_with fail
  rw [← hW8]
  clear hW8 f0 f1 g0 g1 k6 k7 q6 q7 q8 q9

  go_at_call 38
  refine (HTo.out _).mono ?_
  rintro e w20 ⟨rfl, hb⟩
  have HB20 : Hid (Below w3.heap.size w3 w20) := HB8.out.trans (hb.mono HB8.out.size)
  have HP20 : Hid (PS w20 w3.heap.size (.int .i64 2) (.slice (some ⟨gb0, 0, none⟩) cb0 cb0) (.slice (some ⟨gb1, 0, none⟩) cb1 cb1) (.int .i64 0) (.nilIface) (.nilIface) (.nilIface)) := HP8.out.below hb
  have HD0_20 : Hid (Reads w20 (.slice (some ⟨gb0, 0, none⟩) cb0 cb0) (readN l1)) := HD0_8.out.below hb
  have HD1_20 : Hid (Reads w20 (.slice (some ⟨gb1, 0, none⟩) cb1 cb1) (readN l2)) := HD1_8.out.below hb
  have HCk : Hid (Calls Tryz.prog 7 #[.agg #[.int .i64 2, .slice (some ⟨gb0, 0, none⟩) cb0 cb0, .slice (some ⟨gb1, 0, none⟩) cb1 cb1, .int .i64 0]] w20 fun e w' => e = .returned (.iface 51 (.int .i64 FF)) ∧ Below w20.heap.size w20 w') := by
    have := acheck_any 2 0 (.slice (some ⟨gb0, 0, none⟩) cb0 cb0) (.slice (some ⟨gb1, 0, none⟩) cb1 cb1) (readN l1) (readN l2) w20 HD0_20.out HD1_20.out (HKd.out _ HB20.out)
    rw [errV_no HA.out, ← HFF.out] at this
    exact this
  clear hb

  obtain ⟨a0, a1, a2, a3⟩ := HP20.out.1
  go_wp2_with fail
  go_at_call 7
  refine HCk.out.mono ?_
  rintro e w21 ⟨rfl, hb⟩
  have HB21 : Hid (Below w3.heap.size w3 w21) := HB20.out.trans (hb.mono HB20.out.size)
  have HP21 : Hid (PS w21 w3.heap.size (.int .i64 2) (.slice (some ⟨gb0, 0, none⟩) cb0 cb0) (.slice (some ⟨gb1, 0, none⟩) cb1 cb1) (.int .i64 0) (.nilIface) (.nilIface) (.nilIface)) := HP20.out.below hb
  have HD0_21 : Hid (Reads w21 (.slice (some ⟨gb0, 0, none⟩) cb0 cb0) (readN l1)) := HD0_20.out.below hb
  have HD1_21 : Hid (Reads w21 (.slice (some ⟨gb1, 0, none⟩) cb1 cb1) (readN l2)) := HD1_20.out.below hb
  have HR21 := (HBw.out _ HB21.out).2
  have r0 := (HR21.cell (p := ⟨w.heap.size, 0, none⟩) HRc.out.2.2).trans HRc.out.1.1
  have r1 := (HR21.cell (p := ⟨w.heap.size, 1, none⟩) HRc.out.2.2).trans HRc.out.1.2.1
  have r2 := (HR21.cell (p := ⟨w.heap.size, 2, none⟩) HRc.out.2.2).trans HRc.out.1.2.2.1
  have r3 := (HR21.cell (p := ⟨w.heap.size, 3, none⟩) HRc.out.2.2).trans HRc.out.1.2.2.2
  have p0 := (HR21.frozen (p := ⟨w.heap.size, 0, none⟩) HRc.out.2.2).trans (HRc.out.2.1 0)
  have p1 := (HR21.frozen (p := ⟨w.heap.size, 1, none⟩) HRc.out.2.2).trans (HRc.out.2.1 1)
  have p2 := (HR21.frozen (p := ⟨w.heap.size, 2, none⟩) HRc.out.2.2).trans (HRc.out.2.1 2)
  have p3 := (HR21.frozen (p := ⟨w.heap.size, 3, none⟩) HRc.out.2.2).trans (HRc.out.2.1 3)
  have HRA : Hid (w.heap.size < w3.heap.size) := Nat.lt_of_lt_of_le HRc.out.2.2 HZ3.out.size
  clear HR21 hb a0 a1 a2 a3
  obtain ⟨a0, a1, a2, a3⟩ := HP21.out.1
  go_wp2_with fail
  have m0 : ((((w21.setCell ⟨w.heap.size, 0, none⟩ (.int .i64 0)).setCell ⟨w.heap.size, 1, none⟩ (.slice none 0 0)).setCell ⟨w.heap.size, 2, none⟩ (.slice none 0 0)).setCell ⟨w.heap.size, 3, none⟩ (.int .i64 0)).cell? ⟨w.heap.size, 0, none⟩ = some (.int .i64 0) := by
    rw [set_far (ne_off (by decide)), set_far (ne_off (by decide)), set_far (ne_off (by decide))]; exact set_same r0
  have m1 : ((((w21.setCell ⟨w.heap.size, 0, none⟩ (.int .i64 0)).setCell ⟨w.heap.size, 1, none⟩ (.slice none 0 0)).setCell ⟨w.heap.size, 2, none⟩ (.slice none 0 0)).setCell ⟨w.heap.size, 3, none⟩ (.int .i64 0)).cell? ⟨w.heap.size, 1, none⟩ = some (.slice none 0 0) := by
    rw [set_far (ne_off (by decide)), set_far (ne_off (by decide))]; exact set_same ((set_far (ne_off (by decide))).trans r1)
  have m2 : ((((w21.setCell ⟨w.heap.size, 0, none⟩ (.int .i64 0)).setCell ⟨w.heap.size, 1, none⟩ (.slice none 0 0)).setCell ⟨w.heap.size, 2, none⟩ (.slice none 0 0)).setCell ⟨w.heap.size, 3, none⟩ (.int .i64 0)).cell? ⟨w.heap.size, 2, none⟩ = some (.slice none 0 0) := by
    rw [set_far (ne_off (by decide))]; exact set_same ((set_far (ne_off (by decide))).trans ((set_far (ne_off (by decide))).trans r2))
  have m3 : ((((w21.setCell ⟨w.heap.size, 0, none⟩ (.int .i64 0)).setCell ⟨w.heap.size, 1, none⟩ (.slice none 0 0)).setCell ⟨w.heap.size, 2, none⟩ (.slice none 0 0)).setCell ⟨w.heap.size, 3, none⟩ (.int .i64 0)).cell? ⟨w.heap.size, 3, none⟩ = some (.int .i64 0) :=
    set_same ((set_far (ne_off (by decide))).trans ((set_far (ne_off (by decide))).trans ((set_far (ne_off (by decide))).trans r3)))
  have hld := load_atom m0 m1 m2 m3
  have hbF : Below w.heap.size w ((((w21.setCell ⟨w.heap.size, 0, none⟩ (.int .i64 0)).setCell ⟨w.heap.size, 1, none⟩ (.slice none 0 0)).setCell ⟨w.heap.size, 2, none⟩ (.slice none 0 0)).setCell ⟨w.heap.size, 3, none⟩ (.int .i64 0)) := by
    have hb := (HBw.out _ HB21.out).1
    exact (((hb.setCell (Nat.le_refl _) _).setCell (Nat.le_refl _) _).setCell (Nat.le_refl _) _).setCell (Nat.le_refl _) _

  refine bodyPost_ret (v := .tuple #[.agg #[.int .i64 0, .slice none 0 0, .slice none 0 0, .int .i64 0], (.iface 51 (.int .i64 FF))]) ?_ rfl ⟨rfl, hbF⟩
  rw [results_cell_tmp rfl]
  simp [asAddr, Result.andThen, hld]


set_option maxHeartbeats 4000000 in
theorem aparse_2_nnG (s : ByteArray) (l0 l1 l2 : List UInt8) (w : World) (hK : KindsLaid w) (hL : LibLaid w) (z1 : l1.length ≤ 9223372036854775807) (z2 : l2.length ≤ 9223372036854775807)
    (hSp : ∀ W, Below w.heap.size w W → Calls Tryz.prog 34 #[.string s, .string ⟨#[32]⟩, .int .i64 5] W fun e w' => ∃ v, e = .returned v ∧ ReadsS w' v [l0, l1, l2] ∧ Below W.heap.size W w')
    (hKo : ∀ W v, Below w.heap.size w W → ReadsS W v [l0, l1, l2] → Calls Tryz.prog 35 #[v] W fun e w' => e = .returned (.int .i64 2) ∧ Below W.heap.size W w')
    (hf0 : (textFault l1) = 0) (hf1 : (textFault l2) = 0) (hA : (atomFault 2 (readN l1) (readN l2) 0) = 0) :
    Calls Tryz.prog 14 #[.string s] w fun e w' => ∃ v0 v1, e = .returned (.tuple #[.agg #[.int .i64 2, v0, v1, .int .i64 0], .nilIface]) ∧ Reads w' v0 (readN l1) ∧ Reads w' v1 (readN l2) ∧ Below w.heap.size w w' := by
  obtain ⟨w1, hw1⟩ : ∃ w1, w1 = w.alloc (.cells #[.int .i64 0, .slice none 0 0, .slice none 0 0, .int .i64 0] 24) := ⟨_, rfl⟩
  have HB1 : Hid (Below w.heap.size w w1) := by unfold Hid; rw [hw1]; exact below_alloc1 w _
  have HRc : Hid ((w1.cell? ⟨w.heap.size, 0, none⟩ = some (.int .i64 0) ∧ w1.cell? ⟨w.heap.size, 1, none⟩ = some (.slice none 0 0) ∧ w1.cell? ⟨w.heap.size, 2, none⟩ = some (.slice none 0 0) ∧ w1.cell? ⟨w.heap.size, 3, none⟩ = some (.int .i64 0)) ∧ (∀ j, w1.frozen? ⟨w.heap.size, j, none⟩ = false) ∧ w.heap.size < w1.heap.size) := by unfold Hid; rw [hw1]; exact ⟨⟨by simp, by simp, by simp, by simp⟩, fun j => by simp, by simp⟩
  have HSp : Hid (Calls Tryz.prog 34 #[.string s, .string ⟨#[32]⟩, .int .i64 5] w1 fun e w' => ∃ v, e = .returned v ∧ ReadsS w' v [l0, l1, l2] ∧ Below w1.heap.size w1 w') := hSp w1 HB1.out
  have HKo : Hid (∀ W v, Below w.heap.size w W → ReadsS W v [l0, l1, l2] → Calls Tryz.prog 35 #[v] W fun e w' => e = .returned (.int .i64 2) ∧ Below W.heap.size W w') := hKo
  have HPa : Hid (∀ (l : List UInt8), l.length ≤ 9223372036854775807 → ∀ W, Calls Tryz.prog 36 #[.string (strOf l)] W fun e w' => ∃ v, e = .returned (.tuple #[v, errV (textFault l)]) ∧ (textFault l = 0 → Reads w' v (readN l) ∧ ∃ g c, v = .slice (some ⟨g, 0, none⟩) c c ∧ W.heap.size ≤ g) ∧ (¬ textFault l = 0 → v = .slice none 0 0) ∧ Below W.heap.size W w') := fun l hl W => by
    have := parse_fresh (strOf l) (by rw [strOf_size]; exact hl) W
    rw [strOf_list] at this
    exact this
  have hT0 : (toldN (textFault l1) (textFault l2) 0) = 0 := by unfold toldN; rw [if_neg (by omega), if_pos (by omega), if_pos (by omega)]; try omega
  have hTE : errV (toldN (textFault l1) (textFault l2) 0) = .nilIface := by rw [hT0]; rfl
  have HTo : Hid (∀ W, Calls Tryz.prog 38 #[.agg #[.nilIface, .nilIface, .nilIface]] W fun e w' => e = .returned .nilIface ∧ Below W.heap.size W w') := fun W => by
    have h := told_any (textFault l1) (textFault l2) 0 (textFault_range _).1 (textFault_range _).2 (textFault_range _).1 (textFault_range _).2 (by decide) (by decide) W
    rw [hTE] at h
    have e0 : errV (textFault l1) = .nilIface := by rw [hf0]; rfl
    have e1 : errV (textFault l2) = .nilIface := by rw [hf1]; rfl
    have e2 : errV 0 = .nilIface := rfl
    rw [e0, e1, e2] at h
    exact h
  clear hTE hT0
  have HF0 : Hid ((textFault l1) = 0) := hf0
  have HF1 : Hid ((textFault l2) = 0) := hf1
  clear hf0 hf1
  have HA : Hid ((atomFault 2 (readN l1) (readN l2) 0) = 0) := hA
  clear hA
  have HKL : Hid (KindsLaid w ∧ LibLaid w) := ⟨hK, hL⟩
  clear hSp hKo hK hL
  go_enter Tryz.func14, Tryz.ntmps14
  go_wp2_with fail
  rw [← hw1]
  clear hw1
  go_at_call 34
  refine HSp.out.mono ?_
  rintro e w2 ⟨v, rfl, hR, hb⟩
  have HZ2 : Hid (Below w1.heap.size w1 w2) := hb
  have HR2 : Hid (ReadsS w2 v [l0, l1, l2]) := hR
  clear hb hR
  go_wp2_with fail
  go_at_call 35
  refine (HKo.out _ _ (HB1.out.trans (HZ2.out.mono HB1.out.size)) HR2.out).mono ?_
  rintro e w3 ⟨rfl, hb⟩
  have HZ3 : Hid (Below w1.heap.size w1 w3) := HZ2.out.trans (hb.mono HZ2.out.size)
  have hR3 := HR2.out.below hb
  clear hb
  obtain ⟨wb, cap, rfl, hwb, hcap, hcell⟩ := hR3
  have HC : Hid (∀ j, j < 3 → w3.cell? ⟨wb, j, none⟩ = some (.string (strOf (List.getD [l0, l1, l2] j [])))) := hcell
  have HWb : Hid (wb < w3.heap.size) := hwb
  have HBw : Hid (∀ W, Below w3.heap.size w3 W → Below w.heap.size w W ∧ Below w1.heap.size w1 W) := fun W h => ⟨(HB1.out.trans (HZ3.out.mono HB1.out.size)).trans (h.mono (Nat.le_trans HB1.out.size HZ3.out.size)), HZ3.out.trans (h.mono HZ3.out.size)⟩
  have HKd : Hid (∀ W, Below w3.heap.size w3 W → KindsLaid W) := fun W h => HKL.out.1.below (HBw.out W h).1
  clear hcell hcap hwb
  obtain ⟨W4, hW4⟩ : ∃ W4, W4 = ((w3.alloc (.cells #[.int .i64 2, .slice none 0 0, .slice none 0 0, .int .i64 0] 24)).alloc (.cells #[.nilIface, .nilIface, .nilIface] 73)) := ⟨_, rfl⟩
  have HP4 : Hid (PS W4 w3.heap.size (.int .i64 2) (.slice none 0 0) (.slice none 0 0) (.int .i64 0) .nilIface .nilIface .nilIface) := by unfold Hid; rw [hW4]; exact ps_alloc _ _ _ _
  have HB4 : Hid (Below w3.heap.size w3 W4) := by unfold Hid; rw [hW4]; exact ((Below.refl _ _).alloc (Nat.le_refl _) _).alloc (by simp) _
  have c1 : W4.cell? ⟨wb, 1, none⟩ = some (.string (strOf l1)) := (HB4.out.cell HWb.out).trans (HC.out 1 (by decide))
  rw [hW4] at c1
  go_wp2_with fail
  rw [← hW4]
  clear hW4 c1

  go_at_call 36
  refine (HPa.out l1 z1 _).mono ?_
  rintro e w5 ⟨vv, rfl, hS, hSn, hb⟩
  obtain ⟨hRd, gb0, cb0, rfl, hg⟩ := hS HF0.out
  have HG0 : Hid (w3.heap.size + 1 < gb0) := Nat.lt_of_lt_of_le HP4.out.2.2.2.2 hg
  have HD0_5 : Hid (Reads w5 (.slice (some ⟨gb0, 0, none⟩) cb0 cb0) (readN l1)) := hRd
  clear hRd hg
  have hE : errV (textFault l1) = .nilIface := by rw [HF0.out]; rfl
  rw [hE]
  clear hE hS hSn

  have HP5 : Hid (PS w5 w3.heap.size (.int .i64 2) (.slice none 0 0) (.slice none 0 0) (.int .i64 0) (.nilIface) (.nilIface) (.nilIface)) := HP4.out.below hb
  have HB5 : Hid (Below w3.heap.size w3 w5) := HB4.out.trans (hb.mono HB4.out.size)
  have hbx := hb
  clear hb
  have f0 := HP5.out.2.2.1 1
  have f1 := HP5.out.2.2.2.1 0
  have g0 := HP5.out.1.2.1
  have g1 := HP5.out.2.1.1
  obtain ⟨W6, hW6⟩ : ∃ W6, W6 = (w5.setCell ⟨w3.heap.size, 1, none⟩ (.slice (some ⟨gb0, 0, none⟩) cb0 cb0)).setCell ⟨w3.heap.size + 1, 0, none⟩ (.nilIface) := ⟨_, rfl⟩

  have HP6 : Hid (PS W6 w3.heap.size (.int .i64 2) (.slice (some ⟨gb0, 0, none⟩) cb0 cb0) (.slice none 0 0) (.int .i64 0) (.nilIface) (.nilIface) (.nilIface)) := by unfold Hid; rw [hW6]; exact HP5.out.storeS _ _
  have HB6 : Hid (Below w3.heap.size w3 W6) := by unfold Hid; rw [hW6]; exact (HB5.out.setCell (Nat.le_refl _) _).setCell (by simp) _
  have k6 : W6.cell? ⟨0, 7, none⟩ = some (.bool true) := HKd.out _ HB6.out 7 (by decide)
  have k7 : W6.cell? ⟨0, 8, none⟩ = some (.bool false) := HKd.out _ HB6.out 8 (by decide)
  have HD0_6 : Hid (Reads W6 (.slice (some ⟨gb0, 0, none⟩) cb0 cb0) (readN l1)) := by
    have hg := HG0.out
    unfold Hid; rw [hW6]; exact (Reads.store (Reads.store HD0_5.out (by show w3.heap.size ≠ _; omega)) (by show w3.heap.size + 1 ≠ _; omega))
  have q6 := HP6.out.1.1
  have q7 := HP6.out.2.1.1
  have q8 := HP6.out.2.1.2.1
  have q9 := HP6.out.2.1.2.2

  have c2 : W6.cell? ⟨wb, 2, none⟩ = some (.string (strOf l2)) := (HB6.out.cell HWb.out).trans (HC.out 2 (by decide))

  clear hbx
  rw [hW6] at k6 k7 q6 q7 q8 q9 c2
  go_wp2_with fail
  rw [← hW6]
  clear hW6 f0 f1 g0 g1 k6 k7 q6 q7 q8 q9 c2

  go_at_call 36
  refine (HPa.out l2 z2 _).mono ?_
  rintro e w7 ⟨vv, rfl, hS, hSn, hb⟩
  obtain ⟨hRd, gb1, cb1, rfl, hg⟩ := hS HF1.out
  have HG1 : Hid (w3.heap.size + 1 < gb1) := Nat.lt_of_lt_of_le HP6.out.2.2.2.2 hg
  have HD1_7 : Hid (Reads w7 (.slice (some ⟨gb1, 0, none⟩) cb1 cb1) (readN l2)) := hRd
  clear hRd hg
  have hE : errV (textFault l2) = .nilIface := by rw [HF1.out]; rfl
  rw [hE]
  clear hE hS hSn

  have HP7 : Hid (PS w7 w3.heap.size (.int .i64 2) (.slice (some ⟨gb0, 0, none⟩) cb0 cb0) (.slice none 0 0) (.int .i64 0) (.nilIface) (.nilIface) (.nilIface)) := HP6.out.below hb
  have HB7 : Hid (Below w3.heap.size w3 w7) := HB6.out.trans (hb.mono HB6.out.size)
  have hbx := hb
  clear hb
  have f0 := HP7.out.2.2.1 2
  have f1 := HP7.out.2.2.2.1 1
  have g0 := HP7.out.1.2.2.1
  have g1 := HP7.out.2.1.2.1
  obtain ⟨W8, hW8⟩ : ∃ W8, W8 = (w7.setCell ⟨w3.heap.size, 2, none⟩ (.slice (some ⟨gb1, 0, none⟩) cb1 cb1)).setCell ⟨w3.heap.size + 1, 1, none⟩ (.nilIface) := ⟨_, rfl⟩

  have HP8 : Hid (PS W8 w3.heap.size (.int .i64 2) (.slice (some ⟨gb0, 0, none⟩) cb0 cb0) (.slice (some ⟨gb1, 0, none⟩) cb1 cb1) (.int .i64 0) (.nilIface) (.nilIface) (.nilIface)) := by unfold Hid; rw [hW8]; exact HP7.out.storeT _ _
  have HB8 : Hid (Below w3.heap.size w3 W8) := by unfold Hid; rw [hW8]; exact (HB7.out.setCell (Nat.le_refl _) _).setCell (by simp) _
  have k6 : W8.cell? ⟨0, 7, none⟩ = some (.bool true) := HKd.out _ HB8.out 7 (by decide)
  have k7 : W8.cell? ⟨0, 8, none⟩ = some (.bool false) := HKd.out _ HB8.out 8 (by decide)
  have HD0_8 : Hid (Reads W8 (.slice (some ⟨gb0, 0, none⟩) cb0 cb0) (readN l1)) := by
    have hg := HG0.out
    unfold Hid; rw [hW8]; exact (Reads.store (Reads.store (HD0_6.out.below hbx) (by show w3.heap.size ≠ _; omega)) (by show w3.heap.size + 1 ≠ _; omega))
  have HD1_8 : Hid (Reads W8 (.slice (some ⟨gb1, 0, none⟩) cb1 cb1) (readN l2)) := by
    have hg := HG1.out
    unfold Hid; rw [hW8]; exact (Reads.store (Reads.store HD1_7.out (by show w3.heap.size ≠ _; omega)) (by show w3.heap.size + 1 ≠ _; omega))
  have q6 := HP8.out.1.1
  have q7 := HP8.out.2.1.1
  have q8 := HP8.out.2.1.2.1
  have q9 := HP8.out.2.1.2.2

  clear hbx
  rw [hW8] at k6 k7 q6 q7 q8 q9
  go_wp2_with fail
  rw [← hW8]
  clear hW8 f0 f1 g0 g1 k6 k7 q6 q7 q8 q9

  go_at_call 38
  refine (HTo.out _).mono ?_
  rintro e w20 ⟨rfl, hb⟩
  have HB20 : Hid (Below w3.heap.size w3 w20) := HB8.out.trans (hb.mono HB8.out.size)
  have HP20 : Hid (PS w20 w3.heap.size (.int .i64 2) (.slice (some ⟨gb0, 0, none⟩) cb0 cb0) (.slice (some ⟨gb1, 0, none⟩) cb1 cb1) (.int .i64 0) (.nilIface) (.nilIface) (.nilIface)) := HP8.out.below hb
  have HD0_20 : Hid (Reads w20 (.slice (some ⟨gb0, 0, none⟩) cb0 cb0) (readN l1)) := HD0_8.out.below hb
  have HD1_20 : Hid (Reads w20 (.slice (some ⟨gb1, 0, none⟩) cb1 cb1) (readN l2)) := HD1_8.out.below hb
  have HCk : Hid (Calls Tryz.prog 7 #[.agg #[.int .i64 2, .slice (some ⟨gb0, 0, none⟩) cb0 cb0, .slice (some ⟨gb1, 0, none⟩) cb1 cb1, .int .i64 0]] w20 fun e w' => e = .returned .nilIface ∧ Below w20.heap.size w20 w') := by
    have := acheck_any 2 0 (.slice (some ⟨gb0, 0, none⟩) cb0 cb0) (.slice (some ⟨gb1, 0, none⟩) cb1 cb1) (readN l1) (readN l2) w20 HD0_20.out HD1_20.out (HKd.out _ HB20.out)
    rw [HA.out, errV_0] at this
    exact this
  clear hb

  obtain ⟨a0, a1, a2, a3⟩ := HP20.out.1
  go_wp2_with fail
  go_at_call 7
  refine HCk.out.mono ?_
  rintro e w21 ⟨rfl, hb⟩
  have HB21 : Hid (Below w3.heap.size w3 w21) := HB20.out.trans (hb.mono HB20.out.size)
  have HP21 : Hid (PS w21 w3.heap.size (.int .i64 2) (.slice (some ⟨gb0, 0, none⟩) cb0 cb0) (.slice (some ⟨gb1, 0, none⟩) cb1 cb1) (.int .i64 0) (.nilIface) (.nilIface) (.nilIface)) := HP20.out.below hb
  have HD0_21 : Hid (Reads w21 (.slice (some ⟨gb0, 0, none⟩) cb0 cb0) (readN l1)) := HD0_20.out.below hb
  have HD1_21 : Hid (Reads w21 (.slice (some ⟨gb1, 0, none⟩) cb1 cb1) (readN l2)) := HD1_20.out.below hb
  have HR21 := (HBw.out _ HB21.out).2
  have r0 := (HR21.cell (p := ⟨w.heap.size, 0, none⟩) HRc.out.2.2).trans HRc.out.1.1
  have r1 := (HR21.cell (p := ⟨w.heap.size, 1, none⟩) HRc.out.2.2).trans HRc.out.1.2.1
  have r2 := (HR21.cell (p := ⟨w.heap.size, 2, none⟩) HRc.out.2.2).trans HRc.out.1.2.2.1
  have r3 := (HR21.cell (p := ⟨w.heap.size, 3, none⟩) HRc.out.2.2).trans HRc.out.1.2.2.2
  have p0 := (HR21.frozen (p := ⟨w.heap.size, 0, none⟩) HRc.out.2.2).trans (HRc.out.2.1 0)
  have p1 := (HR21.frozen (p := ⟨w.heap.size, 1, none⟩) HRc.out.2.2).trans (HRc.out.2.1 1)
  have p2 := (HR21.frozen (p := ⟨w.heap.size, 2, none⟩) HRc.out.2.2).trans (HRc.out.2.1 2)
  have p3 := (HR21.frozen (p := ⟨w.heap.size, 3, none⟩) HRc.out.2.2).trans (HRc.out.2.1 3)
  have HRA : Hid (w.heap.size < w3.heap.size) := Nat.lt_of_lt_of_le HRc.out.2.2 HZ3.out.size
  clear HR21 hb a0 a1 a2 a3
  obtain ⟨a0, a1, a2, a3⟩ := HP21.out.1
  go_wp2_with fail
  have m0 : ((((w21.setCell ⟨w.heap.size, 0, none⟩ (.int .i64 2)).setCell ⟨w.heap.size, 1, none⟩ (.slice (some ⟨gb0, 0, none⟩) cb0 cb0)).setCell ⟨w.heap.size, 2, none⟩ (.slice (some ⟨gb1, 0, none⟩) cb1 cb1)).setCell ⟨w.heap.size, 3, none⟩ (.int .i64 0)).cell? ⟨w.heap.size, 0, none⟩ = some (.int .i64 2) := by
    rw [set_far (ne_off (by decide)), set_far (ne_off (by decide)), set_far (ne_off (by decide))]; exact set_same r0
  have m1 : ((((w21.setCell ⟨w.heap.size, 0, none⟩ (.int .i64 2)).setCell ⟨w.heap.size, 1, none⟩ (.slice (some ⟨gb0, 0, none⟩) cb0 cb0)).setCell ⟨w.heap.size, 2, none⟩ (.slice (some ⟨gb1, 0, none⟩) cb1 cb1)).setCell ⟨w.heap.size, 3, none⟩ (.int .i64 0)).cell? ⟨w.heap.size, 1, none⟩ = some (.slice (some ⟨gb0, 0, none⟩) cb0 cb0) := by
    rw [set_far (ne_off (by decide)), set_far (ne_off (by decide))]; exact set_same ((set_far (ne_off (by decide))).trans r1)
  have m2 : ((((w21.setCell ⟨w.heap.size, 0, none⟩ (.int .i64 2)).setCell ⟨w.heap.size, 1, none⟩ (.slice (some ⟨gb0, 0, none⟩) cb0 cb0)).setCell ⟨w.heap.size, 2, none⟩ (.slice (some ⟨gb1, 0, none⟩) cb1 cb1)).setCell ⟨w.heap.size, 3, none⟩ (.int .i64 0)).cell? ⟨w.heap.size, 2, none⟩ = some (.slice (some ⟨gb1, 0, none⟩) cb1 cb1) := by
    rw [set_far (ne_off (by decide))]; exact set_same ((set_far (ne_off (by decide))).trans ((set_far (ne_off (by decide))).trans r2))
  have m3 : ((((w21.setCell ⟨w.heap.size, 0, none⟩ (.int .i64 2)).setCell ⟨w.heap.size, 1, none⟩ (.slice (some ⟨gb0, 0, none⟩) cb0 cb0)).setCell ⟨w.heap.size, 2, none⟩ (.slice (some ⟨gb1, 0, none⟩) cb1 cb1)).setCell ⟨w.heap.size, 3, none⟩ (.int .i64 0)).cell? ⟨w.heap.size, 3, none⟩ = some (.int .i64 0) :=
    set_same ((set_far (ne_off (by decide))).trans ((set_far (ne_off (by decide))).trans ((set_far (ne_off (by decide))).trans r3)))
  have hld := load_atom m0 m1 m2 m3
  have hbF : Below w.heap.size w ((((w21.setCell ⟨w.heap.size, 0, none⟩ (.int .i64 2)).setCell ⟨w.heap.size, 1, none⟩ (.slice (some ⟨gb0, 0, none⟩) cb0 cb0)).setCell ⟨w.heap.size, 2, none⟩ (.slice (some ⟨gb1, 0, none⟩) cb1 cb1)).setCell ⟨w.heap.size, 3, none⟩ (.int .i64 0)) := by
    have hb := (HBw.out _ HB21.out).1
    exact (((hb.setCell (Nat.le_refl _) _).setCell (Nat.le_refl _) _).setCell (Nat.le_refl _) _).setCell (Nat.le_refl _) _

  refine bodyPost_ret (v := .tuple #[.agg #[(.int .i64 2), (.slice (some ⟨gb0, 0, none⟩) cb0 cb0), (.slice (some ⟨gb1, 0, none⟩) cb1 cb1), (.int .i64 0)], .nilIface]) ?_ rfl ⟨_, _, rfl, (Reads.store (Reads.store (Reads.store (Reads.store HD0_21.out (by have := HRA.out; have := HG0.out; show w.heap.size ≠ _; omega)) (by have := HRA.out; have := HG0.out; show w.heap.size ≠ _; omega)) (by have := HRA.out; have := HG0.out; show w.heap.size ≠ _; omega)) (by have := HRA.out; have := HG0.out; show w.heap.size ≠ _; omega)), (Reads.store (Reads.store (Reads.store (Reads.store HD1_21.out (by have := HRA.out; have := HG1.out; show w.heap.size ≠ _; omega)) (by have := HRA.out; have := HG1.out; show w.heap.size ≠ _; omega)) (by have := HRA.out; have := HG1.out; show w.heap.size ≠ _; omega)) (by have := HRA.out; have := HG1.out; show w.heap.size ≠ _; omega)), hbF⟩
  rw [results_cell_tmp rfl]
  simp [asAddr, Result.andThen, hld]

end Go.Proofs.YtenmheenieifpabGreatDoor
