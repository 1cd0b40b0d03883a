/-
  Proved: what slices.Equal returns, of any two rows of numbers, and what cubes.with returns: one cube more, unless that has an atom both ways, or was there ahead; what else was in memory is as it was (contracts that the statements lean on).
-/
import Derived.Test.YtenmheenieifpacGreatDoorCubesAny
import Derived.Test.YtenmheenieifpacGreatDoorTermMade
import Derived.Deep.AppendLies
import Derived.BigQuiet
namespace Go.Proofs.YtenmheenieifpacGreatDoor
open Go.ChangeShapes Go.WideShapes Go.ChangeAt Go.RowKit
set_option maxRecDepth 100000

theorem infoS : (Tryz.prog.info? 23).map (fun i => (i.zero, i.size, i.bytes)) = some (some (.slice none 0 0), 1, 24) := by kernel_rfl
theorem getD_eq_of_len {s t : List Int} (hl : s.length = t.length) (h : ∀ j, j < s.length → s.getD j 0 = t.getD j 0) : s = t := by
  apply List.ext_getElem hl
  intro i h1 h2
  have := h i h1
  simpa [List.getD_eq_getElem?_getD, List.getElem?_eq_getElem h1, List.getElem?_eq_getElem h2] using this

set_option maxHeartbeats 2000000 in
theorem eqI (s t : List Int) (v v' : Value) (w : World) (h : Reads w v s) (h' : Reads w v' t) :
    Calls Tryz.prog 68 #[v, v'] w fun e w' => e = .returned (.bool (s == t)) ∧ Below w.heap.size w w' := by
  obtain ⟨ao, acap, rfl, hm⟩ : ∃ ao cap, v = .slice ao s.length cap ∧ s.length ≤ 9223372036854775807 := (h.rs (S := fun _ => True) (fun _ _ => trivial)).slice
  obtain ⟨bo, bcap, rfl, hn⟩ : ∃ ao cap, v' = .slice ao t.length cap ∧ t.length ≤ 9223372036854775807 := (h'.rs (S := fun _ => True) (fun _ _ => trivial)).slice
  by_cases hl : s.length = t.length
  · rcases h with ⟨_, _, hv, rfl⟩ | ⟨b, off, cap, hv, hB, h0, _, hc⟩
    · obtain rfl : t = [] := List.eq_nil_of_length_eq_zero (by simpa using hl.symm)
      go_enter Tryz.func68, Tryz.ntmps68
      go_wp2
      refine wp_loop_rounds 1 ?_
      rw [rounds_succ]
      go_wp2
      go_ret
      exact ⟨rfl, Below.refl _ _⟩
    · rcases h' with ⟨_, _, _, rfl⟩ | ⟨b', off', cap', hv', hB', _, _, hc'⟩
      · simp at hl; rw [hl] at h0; simp at h0
      · obtain rfl : ao = some ⟨b, off, none⟩ := by cases hv; rfl
        obtain rfl : bo = some ⟨b', off', none⟩ := by cases hv'; rfl
        clear hv hv'
        have HC : Hid (∀ k, k < s.length → w.cell? ⟨b, off + k, none⟩ = some (.int .i64 (s.getD k 0))) := hc
        have HC' : Hid (∀ k, k < t.length → w.cell? ⟨b', off' + k, none⟩ = some (.int .i64 (t.getD k 0))) := hc'
        have HB : Hid (b < w.heap.size ∧ b' < w.heap.size) := ⟨hB, hB'⟩
        have HL : Hid (s.length = t.length) := hl
        clear hc hc' hB hB'
        obtain ⟨n, hn'⟩ : ∃ n, n = s.length := ⟨_, rfl⟩
        rw [← hl]
        rw [← hn'] at hm h0 ⊢
        have HN : Hid (n = s.length) := hn'
        clear hn' hn hl
        obtain ⟨R, hR⟩ : ∃ R, R = (s == t) := ⟨_, rfl⟩
        rw [← hR]
        have HR : Hid (R = (s == t)) := hR
        clear hR
        go_enter Tryz.func68, Tryz.ntmps68
        go_wp2
        go_loopw [5, 13] (fun _ i wr => ∃ k : Nat, k ≤ n ∧ i = .int .i64 k ∧ Below w.heap.size w wr ∧ Hid (∀ j, j < k → s.getD j 0 = t.getD j 0)) (fun _ i _ => n - (intOf i).toNat)
        case atStart => exact ⟨0, Nat.zero_le _, rfl, Below.refl _ _, fun j hj => absurd hj (Nat.not_lt_zero _)⟩
        case round =>
          obtain ⟨k, hk, rfl, hbel, A⟩ := hrel
          by_cases hlt : k < n
          · obtain ⟨x, hx⟩ : ∃ x, x = s.getD k 0 := ⟨_, rfl⟩
            obtain ⟨y, hy⟩ : ∃ y, y = t.getD k 0 := ⟨_, rfl⟩
            have hks : k < s.length := by rw [← HN.out]; exact hlt
            have hkt : k < t.length := by rw [← HL.out]; exact hks
            have c0 : wr.cell? ⟨b, off + k, none⟩ = some (.int .i64 x) := by rw [hx, hbel.cell HB.out.1]; exact HC.out k hks
            have c1 : wr.cell? ⟨b', off' + k, none⟩ = some (.int .i64 y) := by rw [hy, hbel.cell HB.out.2]; exact HC'.out k hkt
            have HW : Hid (Below w.heap.size w wr) := hbel
            have HXY : Hid (x = s.getD k 0 ∧ y = t.getD k 0) := ⟨hx, hy⟩
            have hlt' : (k : Int) < (n : Int) := by omega
            clear hx hy hks hkt hbel
            by_cases hxy : x = y
            · have HE : Hid (s.getD k 0 = t.getD k 0) := by unfold Hid; rw [← HXY.out.1, ← HXY.out.2, hxy]
              have hb : (x != y) = false := by simp [hxy]
              clear hxy
              go_wp2_with fail
              go_quiet (fail)
              go_wp2
              go_roundw
              case rel =>
                refine ⟨k + 1, by omega, by go_num, HW.out.trans ((below_drewNs _ _).mono HW.out.size), fun j hj => ?_⟩
                by_cases e : j = k
                · rw [e]; exact HE.out
                · exact A.out j (by omega)
              case measure => simp [intOf]; omega
            · have HE : Hid (R = false) := by
                unfold Hid
                rw [HR.out]
                have : s ≠ t := fun e => hxy (by rw [HXY.out.1, HXY.out.2, e])
                simpa using this
              have hb : (x != y) = true := by simpa using hxy
              clear hxy
              go_wp2_with fail
              go_quiet (fail)
              go_wp2
              go_ret
              exact ⟨back_b HE.out.symm, HW.out.trans ((below_drewNs _ _).mono HW.out.size)⟩
          · obtain rfl : k = n := by omega
            have HW : Hid (Below w.heap.size w wr) := hbel
            have HE : Hid (R = true) := by
              unfold Hid
              rw [HR.out]
              have : s = t := getD_eq_of_len HL.out (fun j hj => A.out j (by rw [HN.out]; exact hj))
              simp [this]
            clear hbel
            go_wp2
            go_ret
            exact ⟨back_b HE.out.symm, HW.out⟩
  · have hne : ((s.length : Int) != (t.length : Int)) = true := by simp; omega
    have HE : Hid ((s == t) = false) := by
      unfold Hid
      have : s ≠ t := fun e => hl (by rw [e])
      simpa using this
    obtain ⟨R, hR⟩ : ∃ R, R = (s == t) := ⟨_, rfl⟩
    rw [← hR]
    rw [← hR] at HE
    clear hR hl
    go_enter Tryz.func68, Tryz.ntmps68
    go_wp2
    go_ret
    exact ⟨back_b HE.out.symm, Below.refl _ _⟩
/-- the cube has this member, turned round. -/
theorem turns_any (c : List Int) (u : Value) (P : Nat) (m : Int) (w : World) (hm : m.natAbs ≤ 6) (hP : w.cell? ⟨P, 0, none⟩ = some u) (hu : Reads w u c) :
    Calls Tryz.prog 65 #[.int .i64 m, .pointer (some ⟨P, 0, none⟩)] w fun e w' => e = .returned (.bool (c.contains (-m))) ∧ Below w.heap.size w w' := by
  have h := hasI c u (-m) w hu
  obtain ⟨R, hR⟩ : ∃ R, R = c.contains (-m) := ⟨_, rfl⟩
  rw [← hR] at h ⊢
  obtain ⟨ao, cap, rfl, _⟩ := (hu.rs (S := fun _ => True) (fun _ _ => trivial)).slice
  clear hR hu
  have h1 : -9223372036854775808 ≤ -m := by omega
  have h2 : -m ≤ 9223372036854775807 := by omega
  have H : Hid (Calls Tryz.prog 66 #[.slice ao c.length cap, .int .i64 (-m)] w fun e w' => e = .returned (.bool R) ∧ w = w') := h
  clear h hm
  go_enter Tryz.func65, Tryz.ntmps65
  go_wp2_with (go_at_call 66; refine H.out.mono ?_; rintro e w' ⟨rfl, rfl⟩)
  go_ret
  exact ⟨rfl, Below.refl _ _⟩
/-- it is the same as another one. -/
theorem sameC_any (t c : List Int) (v u : Value) (P : Nat) (w : World) (hP : w.cell? ⟨P, 0, none⟩ = some u) (hv : Reads w v t) (hu : Reads w u c) :
    Calls Tryz.prog 67 #[v, .pointer (some ⟨P, 0, none⟩)] w fun e w' => e = .returned (.bool (t == c)) ∧ Below w.heap.size w w' := by
  have H : Hid (Calls Tryz.prog 68 #[v, u] w fun e w' => e = .returned (.bool (t == c)) ∧ Below w.heap.size w w') := eqI t c v u w hv hu
  obtain ⟨R, hR⟩ : ∃ R, R = (t == c) := ⟨_, rfl⟩
  rw [← hR] at H ⊢
  obtain ⟨ao, cap, rfl, _⟩ := (hu.rs (S := fun _ => True) (fun _ _ => trivial)).slice
  obtain ⟨bo, bcap, rfl, _⟩ := (hv.rs (S := fun _ => True) (fun _ _ => trivial)).slice
  clear hR hu hv
  go_enter Tryz.func67, Tryz.ntmps67
  go_wp2_with (go_at_call 68; refine H.out.mono ?_; rintro e w' ⟨rfl, hb⟩)
  go_ret
  exact ⟨rfl, hb⟩
end Go.Proofs.YtenmheenieifpacGreatDoor
