/-
  Proved: what atom.Parse returns, of words of no kind; what was in memory is as it was.
-/
import Derived.Test.YtenmheenieifpabGreatDoorAtomParseHead
namespace Go.Proofs.YtenmheenieifpabGreatDoor
open Go.ChangeShapes Go.WideShapes Go.ChangeAt Go.RowKit
set_option maxRecDepth 100000

set_option maxHeartbeats 4000000 in
theorem aparse_zero (s : ByteArray) (ws : List (List UInt8)) (w : World)
    (hSp : ∀ W, Below w.heap.size w W → Calls Tryz.prog 34 #[.string s, .string ⟨#[32]⟩, .int .i64 5] W fun e w' => ∃ v, e = .returned v ∧ ReadsS w' v ws ∧ Below W.heap.size W w')
    (hKo : ∀ W v, Below w.heap.size w W → ReadsS W v ws → Calls Tryz.prog 35 #[v] W fun e w' => e = .returned (.int .i64 0) ∧ Below W.heap.size W w') :
    Calls Tryz.prog 14 #[.string s] w fun e w' => e = .returned (.tuple #[.agg #[.int .i64 0, .slice none 0 0, .slice none 0 0, .int .i64 0], .iface 51 (.int .i64 2)]) ∧ Below w.heap.size w w' := by
  obtain ⟨w1, hw1⟩ : ∃ w1, w1 = w.alloc (.cells #[.int .i64 0, .slice none 0 0, .slice none 0 0, .int .i64 0] 24) := ⟨_, rfl⟩
  have HB1 : Hid (Below w.heap.size w w1) := by unfold Hid; rw [hw1]; exact below_alloc1 w _
  have HRc : Hid ((w1.cell? ⟨w.heap.size, 0, none⟩ = some (.int .i64 0) ∧ w1.cell? ⟨w.heap.size, 1, none⟩ = some (.slice none 0 0) ∧ w1.cell? ⟨w.heap.size, 2, none⟩ = some (.slice none 0 0) ∧ w1.cell? ⟨w.heap.size, 3, none⟩ = some (.int .i64 0)) ∧ (∀ j, w1.frozen? ⟨w.heap.size, j, none⟩ = false) ∧ w.heap.size < w1.heap.size) := by unfold Hid; rw [hw1]; exact ⟨⟨by simp, by simp, by simp, by simp⟩, fun j => by simp, by simp⟩
  have HSp : Hid (Calls Tryz.prog 34 #[.string s, .string ⟨#[32]⟩, .int .i64 5] w1 fun e w' => ∃ v, e = .returned v ∧ ReadsS w' v ws ∧ Below w1.heap.size w1 w') := hSp w1 HB1.out
  have HKo : Hid (∀ W v, Below w.heap.size w W → ReadsS W v ws → Calls Tryz.prog 35 #[v] W fun e w' => e = .returned (.int .i64 0) ∧ Below W.heap.size W w') := hKo
  clear hSp hKo
  go_enter Tryz.func14, Tryz.ntmps14
  go_wp2_with fail
  rw [← hw1]
  clear hw1
  go_at_call 34
  refine HSp.out.mono ?_
  rintro e w2 ⟨v, rfl, hR, hb⟩
  have HZ2 : Hid (Below w1.heap.size w1 w2) := hb
  have HR2 : Hid (ReadsS w2 v ws) := hR
  clear hb hR
  go_wp2_with fail
  go_at_call 35
  refine (HKo.out _ _ (HB1.out.trans (HZ2.out.mono HB1.out.size)) HR2.out).mono ?_
  rintro e w3 ⟨rfl, hb⟩
  have HZ3 : Hid (Below w1.heap.size w1 w3) := HZ2.out.trans (hb.mono HZ2.out.size)
  clear hb
  have HLt : Hid (w.heap.size < w3.heap.size) := Nat.lt_of_lt_of_le HRc.out.2.2 HZ3.out.size
  have s0 := (HZ3.out.cell (p := ⟨w.heap.size, 0, none⟩) HRc.out.2.2).trans HRc.out.1.1
  have s1 := (HZ3.out.cell (p := ⟨w.heap.size, 1, none⟩) HRc.out.2.2).trans HRc.out.1.2.1
  have s2 := (HZ3.out.cell (p := ⟨w.heap.size, 2, none⟩) HRc.out.2.2).trans HRc.out.1.2.2.1
  have s3 := (HZ3.out.cell (p := ⟨w.heap.size, 3, none⟩) HRc.out.2.2).trans HRc.out.1.2.2.2
  have p0 := (HZ3.out.frozen (p := ⟨w.heap.size, 0, none⟩) HRc.out.2.2).trans (HRc.out.2.1 0)
  have p1 := (HZ3.out.frozen (p := ⟨w.heap.size, 1, none⟩) HRc.out.2.2).trans (HRc.out.2.1 1)
  have p2 := (HZ3.out.frozen (p := ⟨w.heap.size, 2, none⟩) HRc.out.2.2).trans (HRc.out.2.1 2)
  have p3 := (HZ3.out.frozen (p := ⟨w.heap.size, 3, none⟩) HRc.out.2.2).trans (HRc.out.2.1 3)
  have r0 : (w3.alloc (.cells #[.int .i64 0, .slice none 0 0, .slice none 0 0, .int .i64 0] 24)).cell? ⟨w.heap.size, 0, none⟩ = some (.int .i64 0) := (World.cell?_alloc_lt _ _ ⟨w.heap.size, 0, none⟩ HLt.out).trans s0
  have r1 : (w3.alloc (.cells #[.int .i64 0, .slice none 0 0, .slice none 0 0, .int .i64 0] 24)).cell? ⟨w.heap.size, 1, none⟩ = some (.slice none 0 0) := (World.cell?_alloc_lt _ _ ⟨w.heap.size, 1, none⟩ HLt.out).trans s1
  have r2 : (w3.alloc (.cells #[.int .i64 0, .slice none 0 0, .slice none 0 0, .int .i64 0] 24)).cell? ⟨w.heap.size, 2, none⟩ = some (.slice none 0 0) := (World.cell?_alloc_lt _ _ ⟨w.heap.size, 2, none⟩ HLt.out).trans s2
  have r3 : (w3.alloc (.cells #[.int .i64 0, .slice none 0 0, .slice none 0 0, .int .i64 0] 24)).cell? ⟨w.heap.size, 3, none⟩ = some (.int .i64 0) := (World.cell?_alloc_lt _ _ ⟨w.heap.size, 3, none⟩ HLt.out).trans s3
  have hne : ¬ w.heap.size = w3.heap.size := by have := HLt.out; omega
  have f0 : (w3.alloc (.cells #[.int .i64 0, .slice none 0 0, .slice none 0 0, .int .i64 0] 24)).frozen? ⟨w.heap.size, 0, none⟩ = false := (World.frozen?_alloc_old _ _ ⟨w.heap.size, 0, none⟩ hne).trans p0
  have f1 : (w3.alloc (.cells #[.int .i64 0, .slice none 0 0, .slice none 0 0, .int .i64 0] 24)).frozen? ⟨w.heap.size, 1, none⟩ = false := (World.frozen?_alloc_old _ _ ⟨w.heap.size, 1, none⟩ hne).trans p1
  have f2 : (w3.alloc (.cells #[.int .i64 0, .slice none 0 0, .slice none 0 0, .int .i64 0] 24)).frozen? ⟨w.heap.size, 2, none⟩ = false := (World.frozen?_alloc_old _ _ ⟨w.heap.size, 2, none⟩ hne).trans p2
  have f3 : (w3.alloc (.cells #[.int .i64 0, .slice none 0 0, .slice none 0 0, .int .i64 0] 24)).frozen? ⟨w.heap.size, 3, none⟩ = false := (World.frozen?_alloc_old _ _ ⟨w.heap.size, 3, none⟩ hne).trans p3
  go_wp2_with fail
  have m0 : (((((w3.alloc (.cells #[.int .i64 0, .slice none 0 0, .slice none 0 0, .int .i64 0] 24)).setCell ⟨w.heap.size, 0, none⟩ (.int .i64 0)).setCell ⟨w.heap.size, 1, none⟩ (.slice none 0 0)).setCell ⟨w.heap.size, 2, none⟩ (.slice none 0 0)).setCell ⟨w.heap.size, 3, none⟩ (.int .i64 0)).cell? ⟨w.heap.size, 0, none⟩ = some (.int .i64 0) := by
    rw [set_far (ne_off (by decide)), set_far (ne_off (by decide)), set_far (ne_off (by decide))]; exact set_same r0
  have m1 : (((((w3.alloc (.cells #[.int .i64 0, .slice none 0 0, .slice none 0 0, .int .i64 0] 24)).setCell ⟨w.heap.size, 0, none⟩ (.int .i64 0)).setCell ⟨w.heap.size, 1, none⟩ (.slice none 0 0)).setCell ⟨w.heap.size, 2, none⟩ (.slice none 0 0)).setCell ⟨w.heap.size, 3, none⟩ (.int .i64 0)).cell? ⟨w.heap.size, 1, none⟩ = some (.slice none 0 0) := by
    rw [set_far (ne_off (by decide)), set_far (ne_off (by decide))]; exact set_same ((set_far (ne_off (by decide))).trans r1)
  have m2 : (((((w3.alloc (.cells #[.int .i64 0, .slice none 0 0, .slice none 0 0, .int .i64 0] 24)).setCell ⟨w.heap.size, 0, none⟩ (.int .i64 0)).setCell ⟨w.heap.size, 1, none⟩ (.slice none 0 0)).setCell ⟨w.heap.size, 2, none⟩ (.slice none 0 0)).setCell ⟨w.heap.size, 3, none⟩ (.int .i64 0)).cell? ⟨w.heap.size, 2, none⟩ = some (.slice none 0 0) := by
    rw [set_far (ne_off (by decide))]; exact set_same ((set_far (ne_off (by decide))).trans ((set_far (ne_off (by decide))).trans r2))
  have m3 : (((((w3.alloc (.cells #[.int .i64 0, .slice none 0 0, .slice none 0 0, .int .i64 0] 24)).setCell ⟨w.heap.size, 0, none⟩ (.int .i64 0)).setCell ⟨w.heap.size, 1, none⟩ (.slice none 0 0)).setCell ⟨w.heap.size, 2, none⟩ (.slice none 0 0)).setCell ⟨w.heap.size, 3, none⟩ (.int .i64 0)).cell? ⟨w.heap.size, 3, none⟩ = some (.int .i64 0) :=
    set_same ((set_far (ne_off (by decide))).trans ((set_far (ne_off (by decide))).trans ((set_far (ne_off (by decide))).trans r3)))
  have hld := load_atom m0 m1 m2 m3
  refine bodyPost_ret (v := .tuple #[.agg #[.int .i64 0, .slice none 0 0, .slice none 0 0, .int .i64 0], .iface 51 (.int .i64 2)]) ?_ rfl ⟨rfl, ?_⟩
  · rw [results_cell_tmp rfl]
    simp [asAddr, Result.andThen, hld]
  · have hb := (HB1.out.trans (HZ3.out.mono HB1.out.size)).alloc (Nat.le_of_lt HLt.out) (.cells #[.int .i64 0, .slice none 0 0, .slice none 0 0, .int .i64 0] 24)
    exact (((hb.setCell (Nat.le_refl _) _).setCell (Nat.le_refl _) _).setCell (Nat.le_refl _) _).setCell (Nat.le_refl _) _
end Go.Proofs.YtenmheenieifpabGreatDoor
