/-
  Proved: vennsame.Ints of two lists that read as the same numbers returns true; what was in memory is as it was (a contract that the statements lean on).
  Proved: vennsame.Atom of two atoms that read as the same returns true; what was in memory is as it was (a contract that the statements lean on).
  Proved: vennsame.Form, of two formulas that read alike, returns true; what was in memory is as it was (a contract that the statements lean on).
  Plain facts on fields and formulas (chapter 6): whether a formula holds in a world hangs on how many things lie in each field alone. No program is read here.
  Plain facts on rows (chapter 7): the row of an atom, what it says of how many things lie in each field; rows that are so. No program is read here.
-/
import Derived.Test.YtfnkbbpjfjendaiGreatDoorLibTX2
import Derived.Test.YtfnkbbpjfjendaiGreatDoorLibTX6
import Derived.Test.YtfnkbbpjfjendaiGreatDoorLibTX11
import Derived.Deep.RegionWith
import Derived.Deep.Cut
import Derived.Deep.CutRange
import Derived.Test.YtfnkbbpjfjendaiGreatDoorLibTX9
namespace Go.Proofs.YtfnkbbpjfjendaiGreatDoor
open Go.ChangeShapes Go.WideShapes Go.ChangeAt Go.RowKit

set_option maxRecDepth 100000 in
set_option maxHeartbeats 1000000 in
theorem ints_same (t : List Int) (v v' : Value) (w : World) (h : Reads w v t) (h' : Reads w v' t) :
    Calls Tryz.prog 28 #[v, v'] w fun e w' => e = .returned (.bool true) ∧ Below w.heap.size w w' := by
  rcases h with ⟨ao, cap, rfl, rfl⟩ | ⟨b, off, cap, rfl, hB, h0, ⟨hl, _⟩, hc⟩
  · rcases h' with ⟨ao', cap', rfl, _⟩ | ⟨_, _, _, _, _, h0, _⟩
    · go_enter Tryz.func28, Tryz.ntmps28
      go_wp2
      refine wp_loop_rounds 1 ?_
      rw [rounds_succ]
      go_wp2
      go_ret
      exact ⟨rfl, Below.refl _ _⟩
    · simp at h0
  · rcases h' with ⟨_, _, _, rfl⟩ | ⟨b', off', cap', rfl, hB', _, _, hc'⟩
    · simp at h0
    · have HC : Hid (∀ k, k < t.length → w.cell? ⟨b, off + k, none⟩ = some (.int .i64 (t.getD k 0))) := hc
      have HC' : Hid (∀ k, k < t.length → w.cell? ⟨b', off' + k, none⟩ = some (.int .i64 (t.getD k 0))) := hc'
      have HB : Hid (b < w.heap.size ∧ b' < w.heap.size) := ⟨hB, hB'⟩
      clear hc hc' hB hB'
      obtain ⟨n, hn⟩ : ∃ n, n = t.length := ⟨_, rfl⟩
      rw [← hn] at hl h0 ⊢
      have HN : Hid (n = t.length) := hn
      clear hn
      go_enter Tryz.func28, Tryz.ntmps28
      go_wp2
      go_loopw [5] (fun i wr => ∃ k : Nat, k ≤ n ∧ i = .int .i64 k ∧ Below w.heap.size w wr) (fun i _ => n - (intOf i).toNat)
      case atStart => exact ⟨0, Nat.zero_le _, rfl, Below.refl _ _⟩
      case round =>
        obtain ⟨k, hk, rfl, hbel⟩ := hrel
        by_cases hlt : k < n
        · obtain ⟨s, hs⟩ : ∃ s, s = t.getD k 0 := ⟨_, rfl⟩
          have hkt : k < t.length := by rw [← HN.out]; exact hlt
          have c0 : wr.cell? ⟨b, off + k, none⟩ = some (.int .i64 s) := by rw [hs, hbel.cell HB.out.1]; exact HC.out k hkt
          have c1 : wr.cell? ⟨b', off' + k, none⟩ = some (.int .i64 s) := by rw [hs, hbel.cell HB.out.2]; exact HC'.out k hkt
          have HW : Hid (Below w.heap.size w wr) := hbel
          have hlt' : (k : Int) < (n : Int) := by omega
          clear hs hkt hbel
          go_wp2_with fail
          go_quiet (fail)
          go_wp2
          go_roundw
          case rel => exact ⟨k + 1, by omega, by go_num, HW.out.trans ((below_drewNs _ _).mono HW.out.size)⟩
          case measure => simp [intOf]; omega
        · obtain rfl : k = n := by omega
          have HW : Hid (Below w.heap.size w wr) := hbel
          clear hbel
          go_wp2
          go_ret
          exact ⟨rfl, HW.out⟩
end Go.Proofs.YtfnkbbpjfjendaiGreatDoor

namespace Go.Proofs.YtfnkbbpjfjendaiGreatDoor
open Go.ChangeShapes Go.WideShapes Go.ChangeAt Go.RowKit
set_option maxRecDepth 100000

set_option maxHeartbeats 2000000 in
theorem atom_same (k n : Int) (vs vt us ut : Value) (s t : List Int) (w : World) (hS : Reads w vs s) (hT : Reads w vt t) (hS' : Reads w us s) (hT' : Reads w ut t) :
    Calls Tryz.prog 27 #[.agg #[.int .i64 k, vs, vt, .int .i64 n], .agg #[.int .i64 k, us, ut, .int .i64 n]] w fun e w' => e = .returned (.bool true) ∧ Below w.heap.size w w' := by
  have h1 : ∀ W, Below w.heap.size w W → _ := fun W h => ints_same s vs us W (hS.below h) (hS'.below h)
  have h2 : ∀ W, Below w.heap.size w W → _ := fun W h => ints_same t vt ut W (hT.below h) (hT'.below h)
  obtain ⟨a0, b0, rfl, _⟩ := hS.slice
  obtain ⟨a1, b1, rfl, _⟩ := hT.slice
  obtain ⟨a2, b2, rfl, _⟩ := hS'.slice
  obtain ⟨a3, b3, rfl, _⟩ := hT'.slice
  clear hS hT hS' hT'
  obtain ⟨w1, hw1⟩ : ∃ w1, w1 = (w.alloc (.cells #[.int .i64 k, .slice a0 s.length b0, .slice a1 t.length b1, .int .i64 n] 40)).alloc (.cells #[.int .i64 k, .slice a2 s.length b2, .slice a3 t.length b3, .int .i64 n] 40) := ⟨_, rfl⟩
  have HB1 : Hid (Below w.heap.size w w1) := by unfold Hid; rw [hw1]; exact (below_alloc1 w _).trans ((below_alloc1 _ _).mono (by simp))
  have HX : Hid (w1.cell? ⟨w.heap.size, 2, none⟩ = some (.slice a1 t.length b1) ∧ w1.cell? ⟨w.heap.size + 1, 2, none⟩ = some (.slice a3 t.length b3) ∧ w.heap.size + 1 < w1.heap.size) := by
    unfold Hid; rw [hw1]
    refine ⟨?_, ?_, by simp⟩
    · rw [World.cell?_alloc_lt _ _ ⟨w.heap.size, 2, none⟩ (by simp)]; simp
    · rw [World.cell?_alloc_at _ _ _ _ (by simp)]; rfl
  have H1 : Hid (Calls Tryz.prog 28 #[.slice a0 s.length b0, .slice a2 s.length b2] w1 fun e w' => e = .returned (.bool true) ∧ Below w1.heap.size w1 w') := h1 w1 HB1.out
  have H2 : Hid (∀ W, Below w.heap.size w W → Calls Tryz.prog 28 #[.slice a1 t.length b1, .slice a3 t.length b3] W fun e w' => e = .returned (.bool true) ∧ Below W.heap.size W w') := h2
  clear h1 h2
  go_enter Tryz.func27, Tryz.ntmps27
  go_wp2_with fail
  rw [← hw1]
  clear hw1
  go_at_call 28
  refine H1.out.mono ?_
  rintro e w2 ⟨rfl, hb⟩
  have HB2 : Hid (Below w.heap.size w w2) := HB1.out.trans (hb.mono HB1.out.size)
  have x2 := (hb.cell (p := ⟨w.heap.size, 2, none⟩) (Nat.lt_of_succ_lt HX.out.2.2)).trans HX.out.1
  have y2 := (hb.cell (p := ⟨w.heap.size + 1, 2, none⟩) HX.out.2.2).trans HX.out.2.1
  clear hb
  go_wp2_with fail
  go_at_call 28
  refine (H2.out _ HB2.out).mono ?_
  rintro e w3 ⟨rfl, hb⟩
  have HB3 : Hid (Below w.heap.size w w3) := HB2.out.trans (hb.mono HB2.out.size)
  clear hb
  go_wp2
  go_ret
  exact ⟨rfl, HB3.out⟩
end Go.Proofs.YtfnkbbpjfjendaiGreatDoor

namespace Go.Proofs.YtfnkbbpjfjendaiGreatDoor
open Go.ChangeShapes Go.WideShapes Go.ChangeAt Go.RowKit
set_option maxRecDepth 100000

set_option maxHeartbeats 8000000 in
theorem form_same (va vc ua uc : Value) (ats : List At) (c : List Int) (w : World) (hA : ReadsA w va ats) (hC : Reads w vc c) (hA' : ReadsA w ua ats) (hC' : Reads w uc c) :
    Calls Tryz.prog 12 #[.agg #[va, vc], .agg #[ua, uc]] w fun e w' => e = .returned (.bool true) ∧ Below w.heap.size w w' := by
  obtain ⟨ao, acap, rfl, hm63⟩ := hA.slice
  obtain ⟨co, ccap, rfl, _⟩ := hC.slice
  obtain ⟨bo, bcap, rfl, _⟩ := hA'.slice
  obtain ⟨eo, ecap, rfl, _⟩ := hC'.slice
  obtain ⟨w1, hw1⟩ : ∃ w1, w1 = (w.alloc (.cells #[.slice ao ats.length acap, .slice co c.length ccap] 25)).alloc (.cells #[.slice bo ats.length bcap, .slice eo c.length ecap] 25) := ⟨_, rfl⟩
  have HB1 : Hid (Below w.heap.size w w1) := by unfold Hid; rw [hw1]; exact (below_alloc1 _ _).trans ((below_alloc1 _ _).mono (by simp))
  have HS1 : Hid (w1.heap.size = w.heap.size + 2) := by unfold Hid; rw [hw1]; simp
  have HX : Hid ((w1.cell? ⟨w.heap.size, 0, none⟩ = some (.slice ao ats.length acap) ∧ w1.cell? ⟨w.heap.size, 1, none⟩ = some (.slice co c.length ccap)) ∧ (w1.cell? ⟨w.heap.size + 1, 0, none⟩ = some (.slice bo ats.length bcap) ∧ w1.cell? ⟨w.heap.size + 1, 1, none⟩ = some (.slice eo c.length ecap))) := by
    unfold Hid; rw [hw1]
    have q : w.heap.size + 1 = (w.alloc (.cells #[.slice ao ats.length acap, .slice co c.length ccap] 25)).heap.size := by simp
    have r : ∀ o j, ((w.alloc (.cells #[.slice ao ats.length acap, .slice co c.length ccap] 25)).alloc o).cell? ⟨w.heap.size, j, none⟩ = (w.alloc (.cells #[.slice ao ats.length acap, .slice co c.length ccap] 25)).cell? ⟨w.heap.size, j, none⟩ := fun o j => World.cell?_alloc_lt _ _ ⟨w.heap.size, j, none⟩ (by simp)
    simp only [r]
    rw [q]
    simp
  have HA : Hid (ReadsA w1 (.slice ao ats.length acap) ats ∧ ReadsA w1 (.slice bo ats.length bcap) ats) := ⟨hA.below HB1.out, hA'.below HB1.out⟩
  have HC : Hid (Reads w1 (.slice co c.length ccap) c ∧ Reads w1 (.slice eo c.length ecap) c) := ⟨hC.below HB1.out, hC'.below HB1.out⟩
  clear hA hC hA' hC'
  obtain ⟨m, hm⟩ : ∃ m, m = ats.length := ⟨_, rfl⟩
  obtain ⟨n, hn⟩ : ∃ n, n = c.length := ⟨_, rfl⟩
  rw [← hm] at hw1 HX HA hm63 ⊢
  rw [← hn] at hw1 HX HC ⊢
  have HM : Hid (m = ats.length) := hm
  clear hm hn
  obtain ⟨⟨x0, x1⟩, ⟨z0, z1⟩⟩ := HX.out
  go_enter Tryz.func12, Tryz.ntmps12
  go_wp2
  rw [← hw1]
  clear hw1 x0 x1 z0 z1
  go_loopw [5] (fun i wr => ∃ k : Nat, k ≤ m ∧ i = .int .i64 k ∧ Below w1.heap.size w1 wr) (fun i _ => m - (intOf i).toNat)
  case atStart => exact ⟨0, Nat.zero_le _, rfl, Below.refl _ _⟩
  case round =>
    obtain ⟨k, hk, rfl, hbel⟩ := hrel
    have HB : Hid (Below w1.heap.size w1 wr) := hbel
    clear hbel
    have l0 : w.heap.size < w1.heap.size := by have := HS1.out; omega
    have l1 : w.heap.size + 1 < w1.heap.size := by have := HS1.out; omega
    have x0 : wr.cell? ⟨w.heap.size, 0, none⟩ = some (.slice ao m acap) := by rw [HB.out.cell l0]; exact HX.out.1.1
    have x1 : wr.cell? ⟨w.heap.size, 1, none⟩ = some (.slice co n ccap) := by rw [HB.out.cell l0]; exact HX.out.1.2
    have z0 : wr.cell? ⟨w.heap.size + 1, 0, none⟩ = some (.slice bo m bcap) := by rw [HB.out.cell l1]; exact HX.out.2.1
    have z1 : wr.cell? ⟨w.heap.size + 1, 1, none⟩ = some (.slice eo n ecap) := by rw [HB.out.cell l1]; exact HX.out.2.2
    clear l0 l1
    by_cases hlt : k < m
    · obtain ⟨a, ha⟩ : ∃ a, ats[k]? = some a := ⟨_, List.getElem?_eq_getElem (by have := HM.out; omega)⟩
      rcases HA.out.1.below HB.out with ⟨_, _, hv, hn⟩ | ⟨b, off, cap, hv, hb, _, _, hall⟩
      · have := HM.out; rw [hn] at this; simp at this; omega
      obtain rfl : ao = some ⟨b, off, none⟩ := by cases hv; rfl
      rcases HA.out.2.below HB.out with ⟨_, _, hv2, hn⟩ | ⟨b2, off2, cap2, hv2, hb2, _, _, hall2⟩
      · have := HM.out; rw [hn] at this; simp at this; omega
      obtain rfl : bo = some ⟨b2, off2, none⟩ := by cases hv2; rfl
      obtain ⟨vs, vt, c0, c1, c2, c3, r1, r2⟩ := hall k a ha
      obtain ⟨us, ut, d0, d1, d2, d3, r3, r4⟩ := hall2 k a ha
      obtain ⟨sao, scap, rfl, _⟩ := r1.slice
      obtain ⟨tao, tcap, rfl, _⟩ := r2.slice
      obtain ⟨sbo, sdap, rfl, _⟩ := r3.slice
      obtain ⟨tbo, tdap, rfl, _⟩ := r4.slice
      clear hv hall hv2 hall2
      have HCk : Hid (∀ W, Below wr.heap.size wr W → Calls Tryz.prog 27 #[.agg #[.int .i64 a.k, .slice sao a.s.length scap, .slice tao a.t.length tcap, .int .i64 a.n], .agg #[.int .i64 a.k, .slice sbo a.s.length sdap, .slice tbo a.t.length tdap, .int .i64 a.n]] W fun e w' => e = .returned (.bool true) ∧ Below W.heap.size W w') := fun W h => atom_same a.k a.n _ _ _ _ a.s a.t W (r1.below h) (r2.below h) (r3.below h) (r4.below h)
      clear r1 r2 r3 r4
      have hlt' : (k : Int) < (m : Int) := by omega
      go_wp2_with fail
      go_cut [6] from 14 to 33 (fun ok wx => ok = .bool true ∧ Below w1.heap.size w1 wx)
      case first =>
        go_region_with (go_at_call 27; refine (HCk.out _ (by first | exact Below.refl _ _ | exact below_drewNs _ _)).mono ?_; rintro e w3 ⟨rfl, hb3⟩)
        all_goals (try go_wp2_with fail)
        all_goals go_meet
        all_goals exact ⟨rfl, HB.out.trans (Below.mono (Below.trans (by first | exact Below.refl _ _ | exact below_drewNs _ _) (Below.mono hb3 (by first | exact Nat.le_refl _ | (have := (below_drewNs wr _).size; assumption)))) HB.out.size)⟩
      case rest =>
        obtain ⟨rfl, hbc⟩ := hcut
        have HB3 : Hid (Below w1.heap.size w1 wc) := hbc
        clear hbc
        go_wp2
        go_roundw
        case rel => exact ⟨k + 1, by omega, by go_num, HB3.out⟩
        case measure => simp [intOf]; omega
    · have HCk : Hid (Calls Tryz.prog 28 #[.slice co n ccap, .slice eo n ecap] wr fun e w' => e = .returned (.bool true) ∧ Below wr.heap.size wr w') := ints_same c _ _ wr (HC.out.1.below HB.out) (HC.out.2.below HB.out)
      go_wp2_with fail
      go_at_call 28
      refine HCk.out.mono ?_
      rintro e w3 ⟨rfl, hb3⟩
      have HB3 : Hid (Below w1.heap.size w1 w3) := HB.out.trans (hb3.mono HB.out.size)
      clear hb3 HCk
      go_wp2
      go_ret
      exact ⟨rfl, HB1.out.trans (HB3.out.mono HB1.out.size)⟩
end Go.Proofs.YtfnkbbpjfjendaiGreatDoor

namespace Go.Proofs.YtfnkbbpjfjendaiGreatDoor
open Go.RowKit

theorem none_of_size {u x : Int} (h : okB u x = true) : (x = 0 ↔ pcN x = 0) :=
  uptoSets (P := fun _ x _ => x = 0 ↔ pcN x = 0) (by decide +kernel) u x x h h
theorem same_of_less {u x y : Int} (hx : okB u x = true) (hy : okB u y = true) : (x = y ↔ lessN x y = 0 ∧ lessN y x = 0) :=
  uptoSets (P := fun _ x y => x = y ↔ lessN x y = 0 ∧ lessN y x = 0) (by decide +kernel) u x y hx hy

/-- two right worlds with as many things in each field. -/
structure Alike (w w' : Wd) : Prop where
  ok : w.ok = true
  ok' : w'.ok = true
  fc : ∀ f, f < 8 → w'.fc w'.u.toNat f = w.fc w.u.toNat f

theorem Alike.size {w w' : Wd} (h : Alike w w') {n : Nat} {t : List Int} (ht : isTm n t) : pcN (w'.val t) = pcN (w.val t) := size_same h.ok h.ok' h.fc ht
theorem Alike.less {w w' : Wd} (h : Alike w w') {n m : Nat} {s t : List Int} (hs : isTm n s) (ht : isTm m t) : (lessN (w'.val s) (w'.val t) = 0 ↔ lessN (w.val s) (w.val t) = 0) := by
  have e : ∀ v : Wd, v.val (s ++ (t ++ [7])) = lessN (v.val s) (v.val t) := fun v => by rw [val_bin v (by omega) (by omega) hs ht, doN7]
  have hn : isTm (n + m + 1) (s ++ (t ++ [7])) := Or.inr (Or.inr ⟨7, s, t, by omega, by omega, isTm_mono (by omega) hs, isTm_mono (by omega) ht, rfl⟩)
  rw [← e, ← e, none_of_size (ok_val h.ok' _), none_of_size (ok_val h.ok _), h.size hn]
theorem one_term {t : List Int} (h : faultN t = 0) : ∃ n, isTm n t := tree t (fault_zero.1 h).2.2.1 (fault_zero.1 h).2.2.2
theorem Alike.holds {w w' : Wd} (h : Alike w w') {k : Int} {s t : List Int} {n : Int} (hf : atomFault k s t n = 0) : w'.holds k s t n = w.holds k s t n := by
  obtain ⟨hk, hs, ht, _⟩ := atomFault_zero.1 hf
  obtain ⟨i, hi⟩ := one_term hs
  unfold Wd.holds Wd.snd saysB
  rcases five hk.1 hk.2 with rfl | rfl | rfl | rfl | rfl
  · obtain ⟨j, hj⟩ := one_term (second_reads ht (by decide))
    rw [if_pos (show secondB 1 = true by decide), if_pos rfl, if_pos (show secondB 1 = true by decide), if_pos rfl]
    exact decide_eq_decide.2 (h.less hi hj)
  · obtain ⟨j, hj⟩ := one_term (second_reads ht (by decide))
    rw [if_pos (show secondB 2 = true by decide), if_pos (show secondB 2 = true by decide), if_neg (by decide), if_pos rfl, if_neg (by decide), if_pos rfl]
    refine decide_eq_decide.2 ?_
    rw [same_of_less (ok_val h.ok' s) (ok_val h.ok' t), same_of_less (ok_val h.ok s) (ok_val h.ok t), h.less hi hj, h.less hj hi]
  · rw [if_neg (by decide), if_neg (by decide), if_pos rfl, if_neg (by decide), if_neg (by decide), if_pos rfl, h.size hi]
  · rw [if_neg (by decide), if_neg (by decide), if_neg (by decide), if_pos rfl, if_neg (by decide), if_neg (by decide), if_neg (by decide), if_pos rfl, h.size hi]
  · obtain ⟨j, hj⟩ := one_term (second_reads ht (by decide))
    rw [if_pos (show secondB 5 = true by decide), if_pos (show secondB 5 = true by decide), if_neg (by decide), if_neg (by decide), if_neg (by decide), if_neg (by decide), if_neg (by decide), if_neg (by decide), if_neg (by decide), if_neg (by decide), h.size hi, h.size hj]
theorem Alike.fault {w w' : Wd} (h : Alike w w') (ats : List At) (c : List Int) : w'.formFault ats c = w.formFault ats c := by
  unfold Wd.formFault; rw [h.ok, h.ok']
/-- a formula holds in a world just if in one with as many things in each field. -/
theorem Alike.form {w w' : Wd} (h : Alike w w') (ats : List At) (c : List Int) : w'.formIs ats c = w.formIs ats c := by
  unfold Wd.formIs
  rw [h.fault]
  by_cases hf : w.formFault ats c = 0
  · rw [if_pos hf, if_pos hf]
    obtain ⟨_, _, hall, _⟩ := formFault_zero.1 (wdForm_zero.1 hf).1
    have e : w'.heldL ats = w.heldL ats := by
      unfold Wd.heldL
      exact List.map_congr_left fun a ha => h.holds (hall a ha)
    rw [e]
  · rw [if_neg hf, if_neg hf]
/-- the world of the counts of a world is like it. -/
theorem alike_made {w : Wd} (h : w.ok = true) : Alike w (madeN (w.fc w.u.toNat) 8) :=
  ⟨h, made_ok (counts_fc h), fun _ hf => made_fc (counts_fc h) hf⟩
theorem made_things {w : Wd} (h : w.ok = true) : (madeN (w.fc w.u.toNat) 8).u = w.u := by
  rw [made_u (counts_fc h), sum_fc]
  have := (ok_u h).1
  omega
end Go.Proofs.YtfnkbbpjfjendaiGreatDoor

namespace Go.Proofs.YtfnkbbpjfjendaiGreatDoor
open Go.RowKit

/-- how many times a field is counted, of a kind, by whether it is in S, and in T. -/
def timesK (k : Int) (x y : Bool) : Int :=
  if k = 1 then oneB (x && !y) else if k = 2 then oneB (x && !y) + oneB (y && !x) else if k = 3 then - oneB (x && !y) else if k = 4 then oneB (x && !y) else oneB x - oneB y
/-- the most that they may be, of a kind. -/
def mostK (k n : Int) : Int := if k = 3 then -n else n
/-- the row of an atom that holds, or does not. -/
def baseT (k : Int) (s t : List Int) (f : Nat) : Int := timesK k (liesB s f) (liesB t f)
def rowT (k : Int) (s t : List Int) (h : Bool) (f : Nat) : Int := if h = true then baseT k s t f else - baseT k s t f
def rowM (k n : Int) (h : Bool) : Int := if h = true then mostK k n else -(mostK k n + 1)
theorem timesK_le (k : Int) (x y : Bool) : -1 ≤ timesK k x y ∧ timesK k x y ≤ 1 := by
  unfold timesK
  split
  · cases x <;> cases y <;> decide
  split
  · cases x <;> cases y <;> decide
  split
  · cases x <;> cases y <;> decide
  split
  · cases x <;> cases y <;> decide
  · cases x <;> cases y <;> decide
theorem rowT_le (k : Int) (s t : List Int) (h : Bool) (f : Nat) : -1 ≤ rowT k s t h f ∧ rowT k s t h f ≤ 1 := by
  have := timesK_le k (liesB s f) (liesB t f)
  unfold rowT baseT; split <;> omega
theorem mostN_le (k : Int) : 0 ≤ mostN k ∧ mostN k ≤ 20 := by unfold mostN; split <;> omega
theorem rowM_le {k : Int} {s t : List Int} {n : Int} (hf : atomFault k s t n = 0) (h : Bool) : -21 ≤ rowM k n h ∧ rowM k n h ≤ 20 := by
  obtain ⟨_, _, _, h1, h2⟩ := atomFault_zero.1 hf
  have := mostN_le k
  unfold rowM mostK
  split <;> split <;> omega

/-- a row: how many times each field is counted, and the most. -/
structure Rw where
  t : Nat → Int
  m : Int
def sumT (T N : Nat → Int) : Nat → Int
  | 0 => 0
  | k + 1 => sumT T N k + T k * N k
/-- is each of the times right? -/
def okT (T : Nat → Int) : Nat → Bool
  | 0 => true
  | k + 1 => okT T k && decide (-2 ≤ T k ∧ T k ≤ 2)
def Rw.wrong (r : Rw) : Bool := !(okT r.t 8 && decide (-100 ≤ r.m ∧ r.m ≤ 100))
def Rw.so (r : Rw) (N : Nat → Int) : Bool := decide (sumT r.t N 8 ≤ r.m)
/-- what is wrong with rows; with rows and counts; whether all are so. -/
def rowsFault (l : List Rw) : Int := if 12 < l.length then 4 else if l.any Rw.wrong = true then 1 else 0
def fitsFault (l : List Rw) (N : Nat → Int) : Int := if rowsFault l = 0 then countsFault N else rowsFault l
def fitsIs (l : List Rw) (N : Nat → Int) : Bool := if fitsFault l N = 0 then l.all (fun r => r.so N) else false
theorem okT_iff {T : Nat → Int} {k : Nat} : okT T k = true ↔ ∀ f, f < k → -2 ≤ T f ∧ T f ≤ 2 := by
  induction k with
  | zero => exact ⟨fun _ f hf => by omega, fun _ => rfl⟩
  | succ k ih =>
    unfold okT
    rw [Bool.and_eq_true, ih, decide_eq_true_iff]
    refine ⟨fun h f hf => ?_, fun h => ⟨fun f hf => h f (by omega), h k (by omega)⟩⟩
    rcases Nat.lt_or_ge f k with h' | h'
    · exact h.1 f h'
    · obtain rfl : f = k := by omega
      exact h.2
theorem right_iff {r : Rw} : r.wrong = false ↔ (∀ f, f < 8 → -2 ≤ r.t f ∧ r.t f ≤ 2) ∧ -100 ≤ r.m ∧ r.m ≤ 100 := by
  unfold Rw.wrong
  rw [Bool.not_eq_false', Bool.and_eq_true, okT_iff, decide_eq_true_iff]
theorem wrong_time {r : Rw} {f : Nat} (hf : f < 8) (h : ¬ (-2 ≤ r.t f ∧ r.t f ≤ 2)) : r.wrong = true := by
  rcases (Bool.eq_false_or_eq_true r.wrong).symm with e | e
  · exact absurd ((right_iff.1 e).1 f hf) h
  · exact e
theorem wrong_most {r : Rw} (h : ¬ (-100 ≤ r.m ∧ r.m ≤ 100)) : r.wrong = true := by
  rcases (Bool.eq_false_or_eq_true r.wrong).symm with e | e
  · exact absurd (right_iff.1 e).2 h
  · exact e
theorem mul_le {x y : Int} (hx : -2 ≤ x ∧ x ≤ 2) (hy : 0 ≤ y ∧ y ≤ 6) : -12 ≤ x * y ∧ x * y ≤ 12 := by
  obtain ⟨x0, x1⟩ := hx
  have d : x = -2 ∨ x = -1 ∨ x = 0 ∨ x = 1 ∨ x = 2 := by omega
  rcases d with rfl | rfl | rfl | rfl | rfl <;> omega
theorem sumT_le {T N : Nat → Int} {k : Nat} (hT : ∀ f, f < k → -2 ≤ T f ∧ T f ≤ 2) (hN : ∀ f, f < k → 0 ≤ N f ∧ N f ≤ 6) : -12 * (k : Int) ≤ sumT T N k ∧ sumT T N k ≤ 12 * k := by
  induction k with
  | zero => exact ⟨Int.le_refl _, Int.le_refl _⟩
  | succ k ih =>
    have := ih (fun f hf => hT f (by omega)) fun f hf => hN f (by omega)
    have := mul_le (hT k (by omega)) (hN k (by omega))
    unfold sumT; push_cast; omega
theorem sumT_same {T S N M : Nat → Int} {k : Nat} (h : ∀ f, f < k → T f = S f) (h' : ∀ f, f < k → N f = M f) : sumT T N k = sumT S M k := by
  induction k with
  | zero => rfl
  | succ k ih => unfold sumT; rw [ih (fun f hf => h f (by omega)) fun f hf => h' f (by omega), h k (by omega), h' k (by omega)]
theorem sumT_one (L : Nat → Bool) (N : Nat → Int) (k : Nat) : sumT (fun f => oneB (L f)) N k = sumIn L N k := by
  induction k with
  | zero => rfl
  | succ k ih =>
    unfold sumT sumIn
    rw [ih]
    unfold oneB
    split <;> omega
theorem sumT_neg (T N : Nat → Int) (k : Nat) : sumT (fun f => - T f) N k = - sumT T N k := by
  induction k with
  | zero => rfl
  | succ k ih => unfold sumT; rw [ih, Int.neg_mul]; omega
theorem sumT_add (T S N : Nat → Int) (k : Nat) : sumT (fun f => T f + S f) N k = sumT T N k + sumT S N k := by
  induction k with
  | zero => rfl
  | succ k ih => unfold sumT; rw [ih, Int.add_mul]; omega
theorem sumT_sub (T S N : Nat → Int) (k : Nat) : sumT (fun f => T f - S f) N k = sumT T N k - sumT S N k := by
  induction k with
  | zero => rfl
  | succ k ih => unfold sumT; rw [ih, Int.sub_mul]; omega

/-! ### a row says what the atom says -/
theorem lies_none (f : Nat) : liesB [] f = false := by
  show hasB 0 ((0 : Nat) : Int) = false
  decide
theorem lies_less {n m : Nat} {s t : List Int} (hs : isTm n s) (ht : isTm m t) (f : Nat) : liesB (s ++ (t ++ [7])) f = (liesB s f && !liesB t f) := by
  unfold liesB
  rw [has_two (oneW_ok f) (by omega) (by omega) hs ht 0 (by rw [oneW_u]; decide)]
  rfl
/-- how many are in the first, and not in the second. -/
theorem size_less {w : Wd} (h : w.ok = true) {n m : Nat} {s t : List Int} (hs : isTm n s) (ht : isTm m t) : pcN (lessN (w.val s) (w.val t)) = sumT (fun f => oneB (liesB s f && !liesB t f)) (w.fc w.u.toNat) 8 := by
  have e : w.val (s ++ (t ++ [7])) = lessN (w.val s) (w.val t) := by rw [val_bin w (by omega) (by omega) hs ht, doN7]
  have hn : isTm (n + m + 1) (s ++ (t ++ [7])) := Or.inr (Or.inr ⟨7, s, t, by omega, by omega, isTm_mono (by omega) hs, isTm_mono (by omega) ht, rfl⟩)
  rw [← e, size_fields h hn, ← sumT_one]
  exact sumT_same (fun f _ => by rw [lies_less hs ht]) fun _ _ => rfl
theorem size_one {w : Wd} (h : w.ok = true) {n : Nat} {s : List Int} (hs : isTm n s) : pcN (w.val s) = sumT (fun f => oneB (liesB s f)) (w.fc w.u.toNat) 8 := by
  rw [size_fields h hs, sumT_one]
theorem less_ok {w : Wd} (h : w.ok = true) (s t : List Int) : okB w.u (lessN (w.val s) (w.val t)) = true := by
  have := ok_do (what := 7) (ok_val h s) (ok_val h t)
  rw [doN7] at this
  exact this
theorem second_none {k : Int} {t : List Int} (ht : secondFault k t = 0) (hk : secondB k = false) : t = [] := by
  unfold secondFault at ht
  rw [hk] at ht
  cases t with
  | nil => rfl
  | cons a t => simp at ht
theorem row_says {w : Wd} (h : w.ok = true) {k : Int} {s t : List Int} {n : Int} (hf : atomFault k s t n = 0) : (sumT (baseT k s t) (w.fc w.u.toNat) 8 ≤ mostK k n ↔ w.holds k s t n = true) := by
  obtain ⟨hk, hs, ht, n0, n1⟩ := atomFault_zero.1 hf
  obtain ⟨i, hi⟩ := one_term hs
  unfold Wd.holds Wd.snd saysB
  rcases five hk.1 hk.2 with rfl | rfl | rfl | rfl | rfl
  · obtain ⟨j, hj⟩ := one_term (second_reads ht (by decide))
    have e : baseT 1 s t = fun f => oneB (liesB s f && !liesB t f) := by funext f; rfl
    have en : n = 0 := by have : mostN 1 = 0 := by decide
                          omega
    rw [if_pos (show secondB 1 = true by decide), if_pos rfl, decide_eq_true_iff, e, ← size_less h hi hj, none_of_size (less_ok h s t), en]
    have := pcN_le (lessN (w.val s) (w.val t))
    show _ ≤ (0 : Int) ↔ _
    omega
  · obtain ⟨j, hj⟩ := one_term (second_reads ht (by decide))
    have e : baseT 2 s t = fun f => oneB (liesB s f && !liesB t f) + oneB (liesB t f && !liesB s f) := by funext f; rfl
    have en : n = 0 := by have : mostN 2 = 0 := by decide
                          omega
    rw [if_pos (show secondB 2 = true by decide), if_neg (by decide), if_pos rfl, decide_eq_true_iff, e, sumT_add, ← size_less h hi hj, ← size_less h hj hi, same_of_less (ok_val h s) (ok_val h t), none_of_size (less_ok h s t), none_of_size (less_ok h t s), en]
    have := pcN_le (lessN (w.val s) (w.val t))
    have := pcN_le (lessN (w.val t) (w.val s))
    show _ ≤ (0 : Int) ↔ _
    omega
  · obtain rfl := second_none ht (by decide)
    have e : baseT 3 s [] = fun f => - oneB (liesB s f) := by
      funext f
      show - oneB (liesB s f && !liesB [] f) = _
      rw [lies_none]; simp
    rw [if_neg (by decide), if_neg (by decide), if_pos rfl, decide_eq_true_iff, e, sumT_neg, ← size_one h hi]
    show _ ≤ -n ↔ _
    omega
  · obtain rfl := second_none ht (by decide)
    have e : baseT 4 s [] = fun f => oneB (liesB s f) := by
      funext f
      show oneB (liesB s f && !liesB [] f) = _
      rw [lies_none]; simp
    rw [if_neg (by decide), if_neg (by decide), if_neg (by decide), if_pos rfl, decide_eq_true_iff, e, ← size_one h hi]
    show _ ≤ n ↔ _
    omega
  · obtain ⟨j, hj⟩ := one_term (second_reads ht (by decide))
    have e : baseT 5 s t = fun f => oneB (liesB s f) - oneB (liesB t f) := by funext f; rfl
    rw [if_pos (show secondB 5 = true by decide), if_neg (by decide), if_neg (by decide), if_neg (by decide), if_neg (by decide), decide_eq_true_iff, e, sumT_sub, ← size_one h hi, ← size_one h hj]
    show _ ≤ n ↔ _
    omega
/-- the row is so just if the atom holds; the other one just if it does not. -/
theorem rows_say {w : Wd} (h : w.ok = true) {k : Int} {s t : List Int} {n : Int} (hf : atomFault k s t n = 0) (hh : Bool) : (Rw.mk (rowT k s t hh) (rowM k n hh)).so (w.fc w.u.toNat) = (if hh = true then w.holds k s t n else !w.holds k s t n) := by
  have e := row_says h hf
  unfold Rw.so
  cases hh
  · have e' : rowT k s t false = fun f => - baseT k s t f := by funext f; rfl
    have em : rowM k n false = -(mostK k n + 1) := rfl
    rw [e', sumT_neg, em, if_neg (by decide)]
    rcases (Bool.eq_false_or_eq_true (w.holds k s t n)).symm with q | q
    · rw [q] at e ⊢
      simp only [Bool.not_false, decide_eq_true_eq]
      have := mt e.1 (by decide)
      omega
    · rw [q] at e ⊢
      simp only [Bool.not_true, decide_eq_false_iff_not]
      have := e.2 rfl
      omega
  · have e' : rowT k s t true = baseT k s t := by funext f; rfl
    have em : rowM k n true = mostK k n := rfl
    rw [e', em, if_pos rfl, Bool.eq_iff_iff, decide_eq_true_iff, e]
theorem row_right {k : Int} {s t : List Int} {n : Int} (hf : atomFault k s t n = 0) (hh : Bool) : (Rw.mk (rowT k s t hh) (rowM k n hh)).wrong = false := by
  refine right_iff.2 ⟨fun f _ => ?_, ?_⟩
  · have := rowT_le k s t hh f
    show -2 ≤ rowT k s t hh f ∧ rowT k s t hh f ≤ 2
    omega
  · have := rowM_le hf hh
    show -100 ≤ rowM k n hh ∧ rowM k n hh ≤ 100
    omega
end Go.Proofs.YtfnkbbpjfjendaiGreatDoor
