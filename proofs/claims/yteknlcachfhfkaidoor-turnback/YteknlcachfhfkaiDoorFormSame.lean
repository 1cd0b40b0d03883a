/-
  Proved: vennsame.Form, of two formulas that read alike, returns true; what was in memory is as it was (a contract that the statements lean on).
-/
import Derived.Test.YteknlcachfhfkaiDoorFormCheck
import Derived.Test.YteknlcachfhfkaiDoorAtomSame
import Derived.Deep.RegionWith
import Derived.Deep.Cut
import Derived.Deep.CutRange
namespace Go.Proofs.YteknlcachfhfkaiDoor
open Go.ChangeShapes Go.WideShapes Go.ChangeAt Go.RowKit
set_option maxRecDepth 100000

set_option maxHeartbeats 8000000 in
theorem form_same (va vc ua uc : Value) (ats : List At) (c : List Int) (w : World) (hA : ReadsA w va ats) (hC : Reads w vc c) (hA' : ReadsA w ua ats) (hC' : Reads w uc c) :
    Calls Tryd.prog 6 #[.agg #[va, vc], .agg #[ua, uc]] w fun e w' => e = .returned (.bool true) ∧ Below w.heap.size w w' := by
  obtain ⟨ao, acap, rfl, hm63⟩ := hA.slice
  obtain ⟨co, ccap, rfl, _⟩ := hC.slice
  obtain ⟨bo, bcap, rfl, _⟩ := hA'.slice
  obtain ⟨eo, ecap, rfl, _⟩ := hC'.slice
  obtain ⟨w1, hw1⟩ : ∃ w1, w1 = (w.alloc (.cells #[.slice ao ats.length acap, .slice co c.length ccap] 25)).alloc (.cells #[.slice bo ats.length bcap, .slice eo c.length ecap] 25) := ⟨_, rfl⟩
  have HB1 : Hid (Below w.heap.size w w1) := by unfold Hid; rw [hw1]; exact (below_alloc1 _ _).trans ((below_alloc1 _ _).mono (by simp))
  have HS1 : Hid (w1.heap.size = w.heap.size + 2) := by unfold Hid; rw [hw1]; simp
  have HX : Hid ((w1.cell? ⟨w.heap.size, 0, none⟩ = some (.slice ao ats.length acap) ∧ w1.cell? ⟨w.heap.size, 1, none⟩ = some (.slice co c.length ccap)) ∧ (w1.cell? ⟨w.heap.size + 1, 0, none⟩ = some (.slice bo ats.length bcap) ∧ w1.cell? ⟨w.heap.size + 1, 1, none⟩ = some (.slice eo c.length ecap))) := by
    unfold Hid; rw [hw1]
    have q : w.heap.size + 1 = (w.alloc (.cells #[.slice ao ats.length acap, .slice co c.length ccap] 25)).heap.size := by simp
    have r : ∀ o j, ((w.alloc (.cells #[.slice ao ats.length acap, .slice co c.length ccap] 25)).alloc o).cell? ⟨w.heap.size, j, none⟩ = (w.alloc (.cells #[.slice ao ats.length acap, .slice co c.length ccap] 25)).cell? ⟨w.heap.size, j, none⟩ := fun o j => World.cell?_alloc_lt _ _ ⟨w.heap.size, j, none⟩ (by simp)
    simp only [r]
    rw [q]
    simp
  have HA : Hid (ReadsA w1 (.slice ao ats.length acap) ats ∧ ReadsA w1 (.slice bo ats.length bcap) ats) := ⟨hA.below HB1.out, hA'.below HB1.out⟩
  have HC : Hid (Reads w1 (.slice co c.length ccap) c ∧ Reads w1 (.slice eo c.length ecap) c) := ⟨hC.below HB1.out, hC'.below HB1.out⟩
  clear hA hC hA' hC'
  obtain ⟨m, hm⟩ : ∃ m, m = ats.length := ⟨_, rfl⟩
  obtain ⟨n, hn⟩ : ∃ n, n = c.length := ⟨_, rfl⟩
  rw [← hm] at hw1 HX HA hm63 ⊢
  rw [← hn] at hw1 HX HC ⊢
  have HM : Hid (m = ats.length) := hm
  clear hm hn
  obtain ⟨⟨x0, x1⟩, ⟨z0, z1⟩⟩ := HX.out
  go_enter Tryd.func6, Tryd.ntmps6
  go_wp2
  rw [← hw1]
  clear hw1 x0 x1 z0 z1
  go_loopw [5] (fun i wr => ∃ k : Nat, k ≤ m ∧ i = .int .i64 k ∧ Below w1.heap.size w1 wr) (fun i _ => m - (intOf i).toNat)
  case atStart => exact ⟨0, Nat.zero_le _, rfl, Below.refl _ _⟩
  case round =>
    obtain ⟨k, hk, rfl, hbel⟩ := hrel
    have HB : Hid (Below w1.heap.size w1 wr) := hbel
    clear hbel
    have l0 : w.heap.size < w1.heap.size := by have := HS1.out; omega
    have l1 : w.heap.size + 1 < w1.heap.size := by have := HS1.out; omega
    have x0 : wr.cell? ⟨w.heap.size, 0, none⟩ = some (.slice ao m acap) := by rw [HB.out.cell l0]; exact HX.out.1.1
    have x1 : wr.cell? ⟨w.heap.size, 1, none⟩ = some (.slice co n ccap) := by rw [HB.out.cell l0]; exact HX.out.1.2
    have z0 : wr.cell? ⟨w.heap.size + 1, 0, none⟩ = some (.slice bo m bcap) := by rw [HB.out.cell l1]; exact HX.out.2.1
    have z1 : wr.cell? ⟨w.heap.size + 1, 1, none⟩ = some (.slice eo n ecap) := by rw [HB.out.cell l1]; exact HX.out.2.2
    clear l0 l1
    by_cases hlt : k < m
    · obtain ⟨a, ha⟩ : ∃ a, ats[k]? = some a := ⟨_, List.getElem?_eq_getElem (by have := HM.out; omega)⟩
      rcases HA.out.1.below HB.out with ⟨_, _, hv, hn⟩ | ⟨b, off, cap, hv, hb, _, _, hall⟩
      · have := HM.out; rw [hn] at this; simp at this; omega
      obtain rfl : ao = some ⟨b, off, none⟩ := by cases hv; rfl
      rcases HA.out.2.below HB.out with ⟨_, _, hv2, hn⟩ | ⟨b2, off2, cap2, hv2, hb2, _, _, hall2⟩
      · have := HM.out; rw [hn] at this; simp at this; omega
      obtain rfl : bo = some ⟨b2, off2, none⟩ := by cases hv2; rfl
      obtain ⟨vs, vt, c0, c1, c2, c3, r1, r2⟩ := hall k a ha
      obtain ⟨us, ut, d0, d1, d2, d3, r3, r4⟩ := hall2 k a ha
      obtain ⟨sao, scap, rfl, _⟩ := r1.slice
      obtain ⟨tao, tcap, rfl, _⟩ := r2.slice
      obtain ⟨sbo, sdap, rfl, _⟩ := r3.slice
      obtain ⟨tbo, tdap, rfl, _⟩ := r4.slice
      clear hv hall hv2 hall2
      have HCk : Hid (∀ W, Below wr.heap.size wr W → Calls Tryd.prog 18 #[.agg #[.int .i64 a.k, .slice sao a.s.length scap, .slice tao a.t.length tcap, .int .i64 a.n], .agg #[.int .i64 a.k, .slice sbo a.s.length sdap, .slice tbo a.t.length tdap, .int .i64 a.n]] W fun e w' => e = .returned (.bool true) ∧ Below W.heap.size W w') := fun W h => atom_same a.k a.n _ _ _ _ a.s a.t W (r1.below h) (r2.below h) (r3.below h) (r4.below h)
      clear r1 r2 r3 r4
      have hlt' : (k : Int) < (m : Int) := by omega
      go_wp2_with fail
      go_cut [6] from 14 to 33 (fun ok wx => ok = .bool true ∧ Below w1.heap.size w1 wx)
      case first =>
        go_region_with (go_at_call 18; refine (HCk.out _ (by first | exact Below.refl _ _ | exact below_drewNs _ _)).mono ?_; rintro e w3 ⟨rfl, hb3⟩)
        all_goals (try go_wp2_with fail)
        all_goals go_meet
        all_goals exact ⟨rfl, HB.out.trans (Below.mono (Below.trans (by first | exact Below.refl _ _ | exact below_drewNs _ _) (Below.mono hb3 (by first | exact Nat.le_refl _ | (have := (below_drewNs wr _).size; assumption)))) HB.out.size)⟩
      case rest =>
        obtain ⟨rfl, hbc⟩ := hcut
        have HB3 : Hid (Below w1.heap.size w1 wc) := hbc
        clear hbc
        go_wp2
        go_roundw
        case rel => exact ⟨k + 1, by omega, by go_num, HB3.out⟩
        case measure => simp [intOf]; omega
    · have HCk : Hid (Calls Tryd.prog 19 #[.slice co n ccap, .slice eo n ecap] wr fun e w' => e = .returned (.bool true) ∧ Below wr.heap.size wr w') := ints_same c _ _ wr (HC.out.1.below HB.out) (HC.out.2.below HB.out)
      go_wp2_with fail
      go_at_call 19
      refine HCk.out.mono ?_
      rintro e w3 ⟨rfl, hb3⟩
      have HB3 : Hid (Below w1.heap.size w1 w3) := HB.out.trans (hb3.mono HB.out.size)
      clear hb3 HCk
      go_wp2
      go_ret
      exact ⟨rfl, HB1.out.trans (HB3.out.mono HB1.out.size)⟩
end Go.Proofs.YteknlcachfhfkaiDoor
