/-
  Proved: what cubes.Holds returns, of any formula, any cubes and any world; what was in memory is as it was (a contract that the statements lean on).
-/
import Derived.Test.YtenmheenieifpacDoorCubesHolding
import Derived.Test.YtenmheenieifpacDoorCubesAny
namespace Go.Proofs.YtenmheenieifpacDoor
open Go.ChangeShapes Go.WideShapes Go.ChangeAt Go.RowKit
set_option maxRecDepth 100000

/-- is it no member, where there are so many atoms? -/
def badM (M : Nat) (m : Int) : Bool := decide (m = 0) || (decide ((M : Int) < m) || decide (m < -(M : Int)))
theorem badM_no {M : Nat} {m : Int} (h : badM M m = false) : m ≠ 0 ∧ m.natAbs ≤ M ∧ 1 ≤ m.natAbs := by
  unfold badM at h
  simp at h
  omega
theorem noMember_any (M : Nat) (ao : Option Addr) (acap P : Nat) (m : Int) (w : World) (hM : M ≤ 6) (hP : w.cell? ⟨P, 0, none⟩ = some (.slice ao M acap)) :
    Calls Tryd.prog 37 #[.int .i64 m, .pointer (some ⟨P, 0, none⟩)] w fun e w' => e = .returned (.bool (badM M m)) ∧ Below w.heap.size w w' := by
  have n1 : -9223372036854775808 ≤ -(M : Int) := by omega
  have n2 : -(M : Int) ≤ 9223372036854775807 := by omega
  by_cases h0 : m = 0
  · have e : badM M m = true := by unfold badM; simp [h0]
    have hb : (m == 0) = true := by simpa using h0
    rw [e]
    clear e h0
    go_enter Tryd.func37, Tryd.ntmps37
    go_wp2
    go_ret
    exact ⟨rfl, Below.refl _ _⟩
  · have hb : (m == 0) = false := by simpa using h0
    by_cases h1 : (M : Int) < m
    · have e : badM M m = true := by unfold badM; simp [h1]
      rw [e]
      clear e h0
      go_enter Tryd.func37, Tryd.ntmps37
      go_wp2
      go_ret
      exact ⟨rfl, Below.refl _ _⟩
    · have e : badM M m = decide (m < -(M : Int)) := by unfold badM; simp [h0, h1]
      rw [e]
      clear e h0
      go_enter Tryd.func37, Tryd.ntmps37
      go_wp2
      go_ret
      exact ⟨rfl, Below.refl _ _⟩
theorem noCube_any (M : Nat) (ao : Option Addr) (acap P1 P2 : Nat) (c : List Int) (v : Value) (w : World) (hM : M ≤ 6) (hB : P1 < w.heap.size) (hP1 : w.cell? ⟨P1, 0, none⟩ = some (.slice ao M acap)) (hP2 : w.cell? ⟨P2, 0, none⟩ = some (.func (.func 37) #[] #[.pointer (some ⟨P1, 0, none⟩)])) (hv : Reads w v c) :
    Calls Tryd.prog 39 #[v, .pointer (some ⟨P2, 0, none⟩)] w fun e w' => e = .returned (.bool (c.any (badM M))) ∧ Below w.heap.size w w' := by
  have e1 : ∀ args w, (callFunc 37 args).run Tryd.prog w = .ok (.enter 37 args) w := enters_of Tryd.func37 (by kernel_rfl) rfl
  have H : Hid (Calls Tryd.prog 40 #[v, .func (.func 37) #[] #[.pointer (some ⟨P1, 0, none⟩)]] w fun e w' => e = .returned (.bool (c.any (badM M))) ∧ Below w.heap.size w w') := anyI c v P1 _ (badM M) w hv e1 (fun W m hW _ => noMember_any M ao acap P1 m W hM (by rw [hW.cell (show (⟨P1, 0, none⟩ : Addr).block < _ from hB)]; exact hP1))
  obtain ⟨R, hR⟩ : ∃ R, R = c.any (badM M) := ⟨_, rfl⟩
  rw [← hR] at H ⊢
  obtain ⟨vo, vcap, rfl, _⟩ := (hv.rs (S := fun _ => True) (fun _ _ => trivial)).slice
  clear hR hv e1 hP1
  go_enter Tryd.func39, Tryd.ntmps39
  go_wp2_with fail
  go_at_call 40
  refine H.out.mono ?_
  rintro e w' ⟨rfl, hb⟩
  have HB : Hid (Below w.heap.size w w') := hb
  clear hb
  go_wp2
  go_ret
  exact ⟨rfl, HB.out⟩
theorem fails_any (held : List Bool) (G P : Nat) (m : Int) (w : World) (h6 : held.length ≤ 6) (hm : badM held.length m = false) (hP : w.cell? ⟨P, 0, none⟩ = some (.slice (some ⟨G, 0, none⟩) held.length held.length)) (hR : ReadsB w G 0 held) :
    Calls Tryd.prog 42 #[.int .i64 m, .pointer (some ⟨P, 0, none⟩)] w fun e w' => e = .returned (.bool (!litC held m)) ∧ Below w.heap.size w w' := by
  obtain ⟨h0, h1, h2⟩ := badM_no hm
  have hc := hR.2 (m.natAbs - 1) (by omega)
  rw [Nat.zero_add] at hc
  have hl : (!litC held m) = (held.getD (m.natAbs - 1) false != decide (0 < m)) := by unfold litC; rfl
  rw [hl]
  obtain ⟨x, hx⟩ : ∃ x, x = held.getD (m.natAbs - 1) false := ⟨_, rfl⟩
  rw [← hx] at hc ⊢
  obtain ⟨j, hj⟩ : ∃ j, j = m.natAbs - 1 := ⟨_, rfl⟩
  rw [← hj] at hc
  obtain ⟨l, hlen⟩ : ∃ l, l = held.length := ⟨_, rfl⟩
  rw [← hlen] at hP h6 h1
  have hjl : (j : Int) < (l : Int) := by omega
  have hj0 : (0 : Int) ≤ (j : Int) := by omega
  by_cases hp : 0 < m
  · obtain rfl : m = (j : Int) + 1 := by omega
    have hd : decide ((0 : Int) < (j : Int) + 1) = true := decide_eq_true (by omega)
    rw [hd]
    have x1 : -9223372036854775808 ≤ -((j : Int) + 1) := by omega
    have x2 : -((j : Int) + 1) ≤ 9223372036854775807 := by omega
    clear hx hl hm hR hlen hj h2 h1 h0 hd
    go_enter Tryd.func42, Tryd.ntmps42
    go_wp2
    go_ret
    exact ⟨back_b (by cases x <;> rfl), Below.refl _ _⟩
  · obtain rfl : m = -((j : Int) + 1) := by omega
    have hd : decide ((0 : Int) < -((j : Int) + 1)) = false := decide_eq_false (by omega)
    rw [hd]
    clear hx hl hm hR hlen hj h2 h1 h0 hd
    go_enter Tryd.func42, Tryd.ntmps42
    go_wp2
    go_ret
    exact ⟨back_b (by cases x <;> rfl), Below.refl _ _⟩
theorem holdsC_any (held : List Bool) (G P1 P2 : Nat) (c : List Int) (v : Value) (w : World) (h6 : held.length ≤ 6) (hc : ∀ m ∈ c, badM held.length m = false) (hB : P1 < w.heap.size) (hP1 : w.cell? ⟨P1, 0, none⟩ = some (.slice (some ⟨G, 0, none⟩) held.length held.length)) (hP2 : w.cell? ⟨P2, 0, none⟩ = some (.func (.func 42) #[] #[.pointer (some ⟨P1, 0, none⟩)])) (hR : ReadsB w G 0 held) (hv : Reads w v c) :
    Calls Tryd.prog 43 #[v, .pointer (some ⟨P2, 0, none⟩)] w fun e w' => e = .returned (.bool (allC held c)) ∧ Below w.heap.size w w' := by
  have e1 : ∀ args w, (callFunc 42 args).run Tryd.prog w = .ok (.enter 42 args) w := enters_of Tryd.func42 (by kernel_rfl) rfl
  have H : Hid (Calls Tryd.prog 40 #[v, .func (.func 42) #[] #[.pointer (some ⟨P1, 0, none⟩)]] w fun e w' => e = .returned (.bool (c.any (fun m => !litC held m))) ∧ Below w.heap.size w w') := anyI c v P1 _ (fun m => !litC held m) w hv e1 (fun W m hW hm => fails_any held G P1 m W h6 (hc m hm) (by rw [hW.cell (show (⟨P1, 0, none⟩ : Addr).block < _ from hB)]; exact hP1) ⟨Nat.lt_of_lt_of_le hR.1 hW.size, fun k hk => by rw [hW.cell (show (⟨G, 0 + k, none⟩ : Addr).block < _ from hR.1)]; exact hR.2 k hk⟩)
  obtain ⟨R, hRR⟩ : ∃ R, R = c.any (fun m => !litC held m) := ⟨_, rfl⟩
  have HE : Hid (allC held c = !R) := by
    unfold Hid
    rw [hRR]
    unfold allC
    rw [List.not_any_eq_all_not]
    simp
  rw [← hRR] at H
  obtain ⟨vo, vcap, rfl, _⟩ := (hv.rs (S := fun _ => True) (fun _ _ => trivial)).slice
  clear hRR hv e1 hP1 hR hc
  rw [HE.out]
  go_enter Tryd.func43, Tryd.ntmps43
  go_wp2_with fail
  go_at_call 40
  refine H.out.mono ?_
  rintro e w' ⟨rfl, hb⟩
  have HB : Hid (Below w.heap.size w w') := hb
  clear hb
  go_wp2
  go_ret
  exact ⟨rfl, HB.out⟩
end Go.Proofs.YtenmheenieifpacDoor
