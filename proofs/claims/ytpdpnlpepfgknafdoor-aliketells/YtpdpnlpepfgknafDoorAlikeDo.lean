/-
  Proved: what alike.masks, Same, Part and Apart return, of any two rows of signs; what was in memory is as it was (contracts that the statements lean on).
-/
import Derived.Test.YtpdpnlpepfgknafDoorAlikeMath
import Derived.Test.YtpdpnlpepfgknafDoorFieldsMask
import Derived.OwnWalk
namespace Go.Proofs.YtpdpnlpepfgknafDoor
open Go.ChangeShapes Go.WideShapes Go.ChangeAt Go.RowKit
set_option maxRecDepth 100000

theorem and256 : ∀ n : Nat, n < 256 → ∀ m : Nat, m < 256 → bits .and .i64 (n : Int) (m : Int) = ((n &&& m : Nat) : Int) := by decide +kernel
theorem andNot256 : ∀ n : Nat, n < 256 → ∀ m : Nat, m < 256 → bits .andNot .i64 (n : Int) (m : Int) = ((n &&& (255 ^^^ m) : Nat) : Int) := by decide +kernel
/-- the mask, field by field. -/
theorem mask_nat (L : Nat → Bool) : ∃ n : Nat, maskTo L 8 = (n : Int) ∧ n < 256 ∧ ∀ f, n.testBit f = (decide (f < 8) && L f) := by
  obtain ⟨m0, m1⟩ := maskTo_le L 8
  obtain ⟨n, hn⟩ := Int.eq_ofNat_of_zero_le m0
  have hp : pw 8 = 256 := rfl
  have hlt : n < 256 := by rw [hn, hp] at m1; omega
  refine ⟨n, hn, hlt, fun f => ?_⟩
  by_cases hf : f < 8
  · have h := has_mask L (Nat.le_refl 8) hf
    rw [hn] at h
    rw [decide_eq_true hf, Bool.true_and, ← h, Nat.testBit_eq_decide_div_mod_eq]
    unfold hasB
    apply decide_eq_decide.2
    have e : ((n : Int) / 2 ^ ((f : Int)).toNat % 2) = ((n / 2 ^ f % 2 : Nat) : Int) := by simp
    rw [e]
    omega
  · rw [decide_eq_false hf, Bool.false_and]
    exact Nat.testBit_lt_two_pow (Nat.lt_of_lt_of_le hlt (Nat.le_trans (by decide) (Nat.pow_le_pow_right (by decide) (Nat.le_of_not_lt hf) : 2 ^ 8 ≤ 2 ^ f)))
theorem zero_iff (n : Nat) : n = 0 ↔ ∀ f, n.testBit f = false := by
  constructor
  · rintro rfl f; exact Nat.zero_testBit f
  · intro h; exact Nat.eq_of_testBit_eq fun f => by rw [h f, Nat.zero_testBit]
theorem mask_same (L M : Nat → Bool) : decide (maskTo L 8 = maskTo M 8) = ((List.range 8).all fun f => L f == M f) := by
  obtain ⟨n, hn, _, hf⟩ := mask_nat L
  obtain ⟨m, hm, _, hg⟩ := mask_nat M
  rw [hn, hm, Bool.eq_iff_iff, decide_eq_true_iff, List.all_eq_true]
  constructor
  · intro h f hf8
    have e : n = m := by omega
    have h8 := List.mem_range.1 hf8
    have := (hf f).symm.trans ((congrArg (fun x => Nat.testBit x f) e).trans (hg f))
    rw [decide_eq_true h8, Bool.true_and, Bool.true_and] at this
    rw [this]; simp
  · intro h
    have e : n = m := Nat.eq_of_testBit_eq fun f => by
      rw [hf, hg]
      by_cases h8 : f < 8
      · have := h f (List.mem_range.2 h8)
        rw [eq_of_beq this]
      · rw [decide_eq_false h8, Bool.false_and, Bool.false_and]
    rw [e]
theorem mask_part (L M : Nat → Bool) : decide (bits .andNot .i64 (maskTo L 8) (maskTo M 8) = 0) = ((List.range 8).all fun f => !L f || M f) := by
  obtain ⟨n, hn, n1, hf⟩ := mask_nat L
  obtain ⟨m, hm, m1, hg⟩ := mask_nat M
  rw [hn, hm, andNot256 n n1 m m1, Bool.eq_iff_iff, decide_eq_true_iff, List.all_eq_true]
  have e : (((n &&& (255 ^^^ m) : Nat) : Int) = 0) ↔ ∀ f, (n &&& (255 ^^^ m)).testBit f = false := by rw [← zero_iff]; omega
  rw [e]
  have h255 : ∀ f, Nat.testBit 255 f = decide (f < 8) := fun f => Nat.testBit_two_pow_sub_one 8 f
  constructor
  · intro h f hf8
    have h8 := List.mem_range.1 hf8
    have := h f
    rw [Nat.testBit_and, Nat.testBit_xor, hf, hg, h255, decide_eq_true h8] at this
    revert this
    cases L f <;> cases M f <;> decide
  · intro h f
    rw [Nat.testBit_and, Nat.testBit_xor, hf, hg, h255]
    by_cases h8 : f < 8
    · have := h f (List.mem_range.2 h8)
      rw [decide_eq_true h8]
      revert this
      cases L f <;> cases M f <;> decide
    · rw [decide_eq_false h8]; rfl
theorem mask_apart (L M : Nat → Bool) : decide (bits .and .i64 (maskTo L 8) (maskTo M 8) = 0) = ((List.range 8).all fun f => !(L f && M f)) := by
  obtain ⟨n, hn, n1, hf⟩ := mask_nat L
  obtain ⟨m, hm, m1, hg⟩ := mask_nat M
  rw [hn, hm, and256 n n1 m m1, Bool.eq_iff_iff, decide_eq_true_iff, List.all_eq_true]
  have e : (((n &&& m : Nat) : Int) = 0) ↔ ∀ f, (n &&& m).testBit f = false := by rw [← zero_iff]; omega
  rw [e]
  constructor
  · intro h f hf8
    have h8 := List.mem_range.1 hf8
    have := h f
    rw [Nat.testBit_and, hf, hg, decide_eq_true h8] at this
    revert this
    cases L f <;> cases M f <;> decide
  · intro h f
    rw [Nat.testBit_and, hf, hg]
    by_cases h8 : f < 8
    · have := h f (List.mem_range.2 h8)
      rw [decide_eq_true h8]
      revert this
      cases L f <;> cases M f <;> decide
    · rw [decide_eq_false h8]; rfl

theorem errV_some {n : Int} (h : ¬ n = 0) : errV n = .iface 59 (.int .i64 n) := by unfold errV; rw [if_neg h]

def pairM (s t : List Int) (m : Int) : Int := if alikeFault s t = 0 then m else 0

set_option maxHeartbeats 4000000 in
theorem masks_any (vs vt : Value) (s t : List Int) (w : World) (hS : Reads w vs s) (hT : Reads w vt t) :
    Calls Tryd.prog 39 #[vs, vt] w fun e w' => e = .returned (.tuple #[.int .i64 (pairM s t (maskN s)), .int .i64 (pairM s t (maskN t)), errV (alikeFault s t)]) ∧ Below w.heap.size w w' := by
  have HS : Hid (∀ W, Below w.heap.size w W → Calls Tryd.prog 60 #[vs] W fun e w' => e = .returned (.tuple #[.int .i64 (maskN s), errV (faultN s)]) ∧ Below W.heap.size W w') := fun W hW => mask_any s vs W (hS.below hW)
  have HT : Hid (∀ W, Below w.heap.size w W → Calls Tryd.prog 60 #[vt] W fun e w' => e = .returned (.tuple #[.int .i64 (maskN t), errV (faultN t)]) ∧ Below W.heap.size W w') := fun W hW => mask_any t vt W (hT.below hW)
  clear hS hT
  by_cases h1 : faultN s = 0
  · have e1 : alikeFault s t = faultN t := by unfold alikeFault; rw [if_pos h1]
    have e2 : errV (faultN s) = .nilIface := by rw [h1]; rfl
    rw [e2] at HS
    by_cases h2 : faultN t = 0
    · have p : ∀ m, pairM s t m = m := fun m => by unfold pairM; rw [if_pos (by rw [e1]; exact h2)]
      have e3 : errV (faultN t) = .nilIface := by rw [h2]; rfl
      rw [p, p, e1, e3]
      rw [e3] at HT
      clear p e1 e2 e3 h1 h2
      obtain ⟨m, hm⟩ : ∃ m, m = maskN s := ⟨_, rfl⟩
      obtain ⟨n, hn⟩ : ∃ n, n = maskN t := ⟨_, rfl⟩
      rw [← hm] at HS ⊢
      rw [← hn] at HT ⊢
      clear hm hn
      go_enter Tryd.func39, Tryd.ntmps39
      go_wp2_with fail
      go_at_call 60
      refine (HS.out _ (Below.refl _ _)).mono ?_
      rintro e w1 ⟨rfl, hb⟩
      have HB1 : Hid (Below w.heap.size w w1) := hb
      clear hb
      go_wp2_with fail
      go_at_call 60
      refine (HT.out _ HB1.out).mono ?_
      rintro e w2 ⟨rfl, hb⟩
      have HB2 : Hid (Below w.heap.size w w2) := HB1.out.trans (hb.mono HB1.out.size)
      clear hb
      go_wp2
      go_ret3
      exact ⟨rfl, HB2.out⟩
    · have p : ∀ m, pairM s t m = 0 := fun m => by unfold pairM; rw [if_neg (by rw [e1]; exact h2)]
      have e3 := errV_some h2
      rw [p, p, e1, e3]
      rw [e3] at HT
      clear p e1 e2 e3 h1 h2
      obtain ⟨m, hm⟩ : ∃ m, m = maskN s := ⟨_, rfl⟩
      obtain ⟨n, hn⟩ : ∃ n, n = maskN t := ⟨_, rfl⟩
      obtain ⟨f, hf⟩ : ∃ f, f = faultN t := ⟨_, rfl⟩
      rw [← hm] at HS
      rw [← hn, ← hf] at HT
      rw [← hf]
      clear hm hn hf
      go_enter Tryd.func39, Tryd.ntmps39
      go_wp2_with fail
      go_at_call 60
      refine (HS.out _ (Below.refl _ _)).mono ?_
      rintro e w1 ⟨rfl, hb⟩
      have HB1 : Hid (Below w.heap.size w w1) := hb
      clear hb
      go_wp2_with fail
      go_at_call 60
      refine (HT.out _ HB1.out).mono ?_
      rintro e w2 ⟨rfl, hb⟩
      have HB2 : Hid (Below w.heap.size w w2) := HB1.out.trans (hb.mono HB1.out.size)
      clear hb
      go_wp2
      go_ret3
      exact ⟨rfl, HB2.out⟩
  · have e1 : alikeFault s t = faultN s := by unfold alikeFault; rw [if_neg h1]
    have p : ∀ m, pairM s t m = 0 := fun m => by unfold pairM; rw [if_neg (by rw [e1]; exact h1)]
    have e2 := errV_some h1
    rw [p, p, e1, e2]
    rw [e2] at HS
    clear p e1 e2 h1
    obtain ⟨m, hm⟩ : ∃ m, m = maskN s := ⟨_, rfl⟩
    obtain ⟨f, hf⟩ : ∃ f, f = faultN s := ⟨_, rfl⟩
    rw [← hm, ← hf] at HS
    rw [← hf]
    clear hm hf
    go_enter Tryd.func39, Tryd.ntmps39
    go_wp2_with fail
    go_at_call 60
    refine (HS.out _ (Below.refl _ _)).mono ?_
    rintro e w1 ⟨rfl, hb⟩
    have HB1 : Hid (Below w.heap.size w w1) := hb
    clear hb
    go_wp2
    go_ret3
    exact ⟨rfl, HB1.out⟩

/-- of two right rows the masks are those of their fields; else there is a fault. -/
theorem pair_good {s t : List Int} (h : alikeFault s t = 0) : pairM s t (maskN s) = maskTo (liesB s) 8 ∧ pairM s t (maskN t) = maskTo (liesB t) 8 := by
  obtain ⟨h1, h2⟩ := alike_zero.1 h
  unfold pairM maskN
  rw [if_pos h, if_pos h, if_pos h1, if_pos h2]
  exact ⟨rfl, rfl⟩

set_option maxHeartbeats 4000000 in
theorem alikeSame_any (vs vt : Value) (s t : List Int) (w : World) (hS : Reads w vs s) (hT : Reads w vt t) :
    Calls Tryd.prog 20 #[vs, vt] w fun e w' => e = .returned (.tuple #[.bool (sameT s t), errV (alikeFault s t)]) ∧ Below w.heap.size w w' := by
  have HM : Hid (Calls Tryd.prog 39 #[vs, vt] w fun e w' => e = .returned (.tuple #[.int .i64 (pairM s t (maskN s)), .int .i64 (pairM s t (maskN t)), errV (alikeFault s t)]) ∧ Below w.heap.size w w') := masks_any vs vt s t w hS hT
  clear hS hT
  by_cases h : alikeFault s t = 0
  · have e0 : errV (alikeFault s t) = .nilIface := by rw [h]; rfl
    obtain ⟨p1, p2⟩ := pair_good h
    have e1 : sameT s t = sameTo s t 8 := by unfold sameT; rw [if_pos h]
    rw [e0, p1, p2] at HM
    rw [e0, e1]
    have HQ := mask_same (liesB s) (liesB t)
    obtain ⟨m, hm⟩ : ∃ m, m = maskTo (liesB s) 8 := ⟨_, rfl⟩
    obtain ⟨n, hn⟩ : ∃ n, n = maskTo (liesB t) 8 := ⟨_, rfl⟩
    rw [← hm, ← hn] at HM HQ
    obtain ⟨b, hb⟩ : ∃ b, b = sameTo s t 8 := ⟨_, rfl⟩
    have HQ2 : Hid ((m == n) = b) := by
      unfold Hid
      rw [hb]
      unfold sameTo
      rw [← HQ]
      by_cases hq : m = n
      · rw [decide_eq_true hq]; rw [hq]; simp
      · rw [decide_eq_false hq]; exact beq_false_of_ne hq
    rw [← hb]
    clear hm hn hb HQ e0 e1 p1 p2 h
    go_enter Tryd.func20, Tryd.ntmps20
    go_wp2_with fail
    go_at_call 39
    refine HM.out.mono ?_
    rintro e w1 ⟨rfl, hb⟩
    have HB1 : Hid (Below w.heap.size w w1) := hb
    clear hb
    go_wp2
    go_ret2
    exact ⟨by rw [HQ2.out]; rfl, HB1.out⟩
  · have e0 := errV_some h
    have e1 : sameT s t = false := by unfold sameT; rw [if_neg h]
    rw [e0] at HM
    rw [e0, e1]
    clear e0 e1 h
    obtain ⟨m, hm⟩ : ∃ m, m = pairM s t (maskN s) := ⟨_, rfl⟩
    obtain ⟨n, hn⟩ : ∃ n, n = pairM s t (maskN t) := ⟨_, rfl⟩
    obtain ⟨f, hf⟩ : ∃ f, f = alikeFault s t := ⟨_, rfl⟩
    rw [← hm, ← hn, ← hf] at HM
    rw [← hf]
    clear hm hn hf
    go_enter Tryd.func20, Tryd.ntmps20
    go_wp2_with fail
    go_at_call 39
    refine HM.out.mono ?_
    rintro e w1 ⟨rfl, hb⟩
    have HB1 : Hid (Below w.heap.size w w1) := hb
    clear hb
    go_wp2
    go_ret2
    exact ⟨rfl, HB1.out⟩
set_option maxHeartbeats 4000000 in
theorem alikePart_any (vs vt : Value) (s t : List Int) (w : World) (hS : Reads w vs s) (hT : Reads w vt t) :
    Calls Tryd.prog 21 #[vs, vt] w fun e w' => e = .returned (.tuple #[.bool (partT s t), errV (alikeFault s t)]) ∧ Below w.heap.size w w' := by
  have HM : Hid (Calls Tryd.prog 39 #[vs, vt] w fun e w' => e = .returned (.tuple #[.int .i64 (pairM s t (maskN s)), .int .i64 (pairM s t (maskN t)), errV (alikeFault s t)]) ∧ Below w.heap.size w w') := masks_any vs vt s t w hS hT
  clear hS hT
  by_cases h : alikeFault s t = 0
  · have e0 : errV (alikeFault s t) = .nilIface := by rw [h]; rfl
    obtain ⟨p1, p2⟩ := pair_good h
    have e1 : partT s t = partTo s t 8 := by unfold partT; rw [if_pos h]
    rw [e0, p1, p2] at HM
    rw [e0, e1]
    have HQ := mask_part (liesB s) (liesB t)
    obtain ⟨m, hm⟩ : ∃ m, m = maskTo (liesB s) 8 := ⟨_, rfl⟩
    obtain ⟨n, hn⟩ : ∃ n, n = maskTo (liesB t) 8 := ⟨_, rfl⟩
    rw [← hm, ← hn] at HM HQ
    obtain ⟨b, hb⟩ : ∃ b, b = partTo s t 8 := ⟨_, rfl⟩
    have HQ2 : Hid ((bits .andNot .i64 m n == 0) = b) := by
      unfold Hid
      rw [hb]
      unfold partTo
      rw [← HQ]
      by_cases hq : bits .andNot .i64 m n = 0
      · rw [decide_eq_true hq]; rw [hq]; simp
      · rw [decide_eq_false hq]; exact beq_false_of_ne hq
    rw [← hb]
    clear hm hn hb HQ e0 e1 p1 p2 h
    go_enter Tryd.func21, Tryd.ntmps21
    go_wp2_with fail
    go_at_call 39
    refine HM.out.mono ?_
    rintro e w1 ⟨rfl, hb⟩
    have HB1 : Hid (Below w.heap.size w w1) := hb
    clear hb
    go_wp2
    go_ret2
    exact ⟨by rw [HQ2.out]; rfl, HB1.out⟩
  · have e0 := errV_some h
    have e1 : partT s t = false := by unfold partT; rw [if_neg h]
    rw [e0] at HM
    rw [e0, e1]
    clear e0 e1 h
    obtain ⟨m, hm⟩ : ∃ m, m = pairM s t (maskN s) := ⟨_, rfl⟩
    obtain ⟨n, hn⟩ : ∃ n, n = pairM s t (maskN t) := ⟨_, rfl⟩
    obtain ⟨f, hf⟩ : ∃ f, f = alikeFault s t := ⟨_, rfl⟩
    rw [← hm, ← hn, ← hf] at HM
    rw [← hf]
    clear hm hn hf
    go_enter Tryd.func21, Tryd.ntmps21
    go_wp2_with fail
    go_at_call 39
    refine HM.out.mono ?_
    rintro e w1 ⟨rfl, hb⟩
    have HB1 : Hid (Below w.heap.size w w1) := hb
    clear hb
    go_wp2
    go_ret2
    exact ⟨rfl, HB1.out⟩
set_option maxHeartbeats 4000000 in
theorem alikeApart_any (vs vt : Value) (s t : List Int) (w : World) (hS : Reads w vs s) (hT : Reads w vt t) :
    Calls Tryd.prog 22 #[vs, vt] w fun e w' => e = .returned (.tuple #[.bool (apartT s t), errV (alikeFault s t)]) ∧ Below w.heap.size w w' := by
  have HM : Hid (Calls Tryd.prog 39 #[vs, vt] w fun e w' => e = .returned (.tuple #[.int .i64 (pairM s t (maskN s)), .int .i64 (pairM s t (maskN t)), errV (alikeFault s t)]) ∧ Below w.heap.size w w') := masks_any vs vt s t w hS hT
  clear hS hT
  by_cases h : alikeFault s t = 0
  · have e0 : errV (alikeFault s t) = .nilIface := by rw [h]; rfl
    obtain ⟨p1, p2⟩ := pair_good h
    have e1 : apartT s t = apartTo s t 8 := by unfold apartT; rw [if_pos h]
    rw [e0, p1, p2] at HM
    rw [e0, e1]
    have HQ := mask_apart (liesB s) (liesB t)
    obtain ⟨m, hm⟩ : ∃ m, m = maskTo (liesB s) 8 := ⟨_, rfl⟩
    obtain ⟨n, hn⟩ : ∃ n, n = maskTo (liesB t) 8 := ⟨_, rfl⟩
    rw [← hm, ← hn] at HM HQ
    obtain ⟨b, hb⟩ : ∃ b, b = apartTo s t 8 := ⟨_, rfl⟩
    have HQ2 : Hid ((bits .and .i64 m n == 0) = b) := by
      unfold Hid
      rw [hb]
      unfold apartTo
      rw [← HQ]
      by_cases hq : bits .and .i64 m n = 0
      · rw [decide_eq_true hq]; rw [hq]; simp
      · rw [decide_eq_false hq]; exact beq_false_of_ne hq
    rw [← hb]
    clear hm hn hb HQ e0 e1 p1 p2 h
    go_enter Tryd.func22, Tryd.ntmps22
    go_wp2_with fail
    go_at_call 39
    refine HM.out.mono ?_
    rintro e w1 ⟨rfl, hb⟩
    have HB1 : Hid (Below w.heap.size w w1) := hb
    clear hb
    go_wp2
    go_ret2
    exact ⟨by rw [HQ2.out]; rfl, HB1.out⟩
  · have e0 := errV_some h
    have e1 : apartT s t = false := by unfold apartT; rw [if_neg h]
    rw [e0] at HM
    rw [e0, e1]
    clear e0 e1 h
    obtain ⟨m, hm⟩ : ∃ m, m = pairM s t (maskN s) := ⟨_, rfl⟩
    obtain ⟨n, hn⟩ : ∃ n, n = pairM s t (maskN t) := ⟨_, rfl⟩
    obtain ⟨f, hf⟩ : ∃ f, f = alikeFault s t := ⟨_, rfl⟩
    rw [← hm, ← hn, ← hf] at HM
    rw [← hf]
    clear hm hn hf
    go_enter Tryd.func22, Tryd.ntmps22
    go_wp2_with fail
    go_at_call 39
    refine HM.out.mono ?_
    rintro e w1 ⟨rfl, hb⟩
    have HB1 : Hid (Below w.heap.size w w1) := hb
    clear hb
    go_wp2
    go_ret2
    exact ⟨rfl, HB1.out⟩
end Go.Proofs.YtpdpnlpepfgknafDoor
