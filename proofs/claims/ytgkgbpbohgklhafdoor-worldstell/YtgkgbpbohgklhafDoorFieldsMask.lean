/-
  Proved: what fields.Mask returns, of any row of signs; what was in memory is as it was (contracts that the statements lean on).
-/
import Derived.Test.YtgkgbpbohgklhafDoorFieldsWith
namespace Go.Proofs.YtgkgbpbohgklhafDoor
open Go.ChangeShapes Go.WideShapes Go.ChangeAt Go.RowKit

/-- where the term lies, 2^f for each field, added up; 0, if it is none. -/
def maskN (t : List Int) : Int := if faultN t = 0 then maskTo (liesB t) 8 else 0
theorem with_one (f : Nat) (hf : f < 8) (w : World) :
    Calls Tryd.prog 74 #[.agg #[.int .i64 0, .int .i64 0, .int .i64 0, .int .i64 0], .int .i64 f] w fun e w' => e = .returned (.agg #[.int .i64 1, .int .i64 (oneW f).a, .int .i64 (oneW f).b, .int .i64 (oneW f).c]) ∧ Below w.heap.size w w' :=
  with_field 0 0 0 0 f (by decide) (by omega) hf w
theorem one_value (t : List Int) (v : Value) (f : Nat) (w : World) (h : Reads w v t) :
    Calls Tryd.prog 77 #[v, .agg #[.int .i64 1, .int .i64 (oneW f).a, .int .i64 (oneW f).b, .int .i64 (oneW f).c]] w fun e w' => e = .returned (.tuple #[.int .i64 (if faultN t = 0 then oneB (liesB t f) else 0), errV (faultN t)]) ∧ Below w.heap.size w w' := by
  have hv := value_any t v 1 (oneW f).a (oneW f).b (oneW f).c w h
  have e : (Wd.mk 1 (oneW f).a (oneW f).b (oneW f).c) = oneW f := rfl
  rw [e] at hv
  have e1 : (oneW f).answer t = if faultN t = 0 then oneB (liesB t f) else 0 := by unfold Wd.answer; rw [if_pos (oneW_ok f), oneW_val]
  have e2 : (oneW f).fault t = faultN t := by
    unfold Wd.fault; rw [if_pos (oneW_ok f)]
    split
    · rename_i h0; exact h0.symm
    · rfl
  rw [e1, e2] at hv
  exact hv
theorem or_mask1 : ∀ k : Nat, k < 8 → ∀ m : Nat, m < 2 ^ k → ∀ x, bits .or .i64 (m : Int) (wrap64 (oneB x * 2 ^ k)) = (m : Int) + oneB x * pw k := by decide +kernel
theorem or_mask (L : Nat → Bool) {k : Nat} (hk : k < 8) : bits .or .i64 (maskTo L k) (wrap64 (oneB (L k) * 2 ^ k)) = maskTo L (k + 1) := by
  obtain ⟨m0, m1⟩ := maskTo_le L k
  obtain ⟨m, hm⟩ := Int.eq_ofNat_of_zero_le m0
  have hp : pw k = ((2 ^ k : Nat) : Int) := by unfold pw; simp
  have h := or_mask1 k hk m (by rw [hm, hp] at m1; omega) (L k)
  show _ = maskTo L k + oneB (L k) * pw k
  rw [hm]; exact h

set_option maxRecDepth 100000 in
set_option maxHeartbeats 4000000 in
theorem mask_any (t : List Int) (v : Value) (w : World) (h : Reads w v t) :
    Calls Tryd.prog 60 #[v] w fun e w' => e = .returned (.tuple #[.int .i64 (maskN t), errV (faultN t)]) ∧ Below w.heap.size w w' := by
  have HV : Hid (∀ f W, Below w.heap.size w W → Calls Tryd.prog 77 #[v, .agg #[.int .i64 1, .int .i64 (oneW f).a, .int .i64 (oneW f).b, .int .i64 (oneW f).c]] W fun e w' => e = .returned (.tuple #[.int .i64 (if faultN t = 0 then oneB (liesB t f) else 0), errV (faultN t)]) ∧ Below W.heap.size W w') := fun f W hb => one_value t v f W (h.below hb)
  clear h
  by_cases hf : faultN t = 0
  · have e1 : maskN t = maskTo (liesB t) 8 := by unfold maskN; rw [if_pos hf]
    have e2 : errV (faultN t) = .nilIface := by rw [hf]; rfl
    rw [e1, e2]
    rw [e2] at HV
    simp only [if_pos hf] at HV
    clear e1 e2 hf
    obtain ⟨L, hL⟩ : ∃ L, L = liesB t := ⟨_, rfl⟩
    rw [← hL] at HV ⊢
    clear hL
    go_enter Tryd.func60, Tryd.ntmps60
    go_wp2
    go_loopw [4, 8] (fun m i wr => ∃ k : Nat, k ≤ 8 ∧ i = .int .i64 k ∧ m = .int .i64 (maskTo L k) ∧ Below w.heap.size w wr) (fun _ i _ => 8 - (intOf i).toNat)
    case atStart => exact ⟨0, Nat.zero_le _, rfl, rfl, Below.refl _ _⟩
    case round =>
      obtain ⟨k, hk, rfl, rfl, hb⟩ := hrel
      have HB : Hid (Below w.heap.size w wr) := hb
      clear hb
      by_cases hlt : k < 8
      · have HS : Hid (bits .or .i64 (maskTo L k) (wrap64 (oneB (L k) * 2 ^ k)) = maskTo L (k + 1)) := or_mask L hlt
        go_wp2_with fail
        go_at_call 74
        refine (with_one k hlt _).mono ?_
        rintro e w2 ⟨rfl, hb2⟩
        have HB2 : Hid (Below w.heap.size w w2) := HB.out.trans (hb2.mono HB.out.size)
        clear hb2
        go_wp2_with fail
        go_at_call 77
        refine (HV.out k w2 HB2.out).mono ?_
        rintro e w3 ⟨rfl, hb3⟩
        have HB3 : Hid (Below w.heap.size w w3) := HB2.out.trans (hb3.mono HB2.out.size)
        clear hb3
        go_wp2
        go_roundw
        case rel => exact ⟨k + 1, by omega, by go_num, by rw [HS.out], HB3.out⟩
        case measure => simp [intOf]; omega
      · obtain rfl : k = 8 := by omega
        go_wp2
        go_ret2
        exact ⟨rfl, HB.out⟩
  · have e1 : maskN t = 0 := by unfold maskN; rw [if_neg hf]
    have e2 : errV (faultN t) = .iface 59 (.int .i64 (faultN t)) := by unfold errV; rw [if_neg hf]
    rw [e1, e2]
    rw [e2] at HV
    simp only [if_neg hf] at HV
    clear e1 e2 hf
    obtain ⟨F, hF⟩ : ∃ F, F = faultN t := ⟨_, rfl⟩
    rw [← hF] at HV ⊢
    clear hF
    go_enter Tryd.func60, Tryd.ntmps60
    go_wp2
    refine wp_loop_rounds 1 ?_
    rw [rounds_succ]
    go_wp2_with fail
    go_at_call 74
    refine (with_one 0 (by omega) _).mono ?_
    rintro e w2 ⟨rfl, hb2⟩
    have HB2 : Hid (Below w.heap.size w w2) := hb2
    clear hb2
    go_wp2_with fail
    go_at_call 77
    refine (HV.out 0 w2 HB2.out).mono ?_
    rintro e w3 ⟨rfl, hb3⟩
    have HB3 : Hid (Below w.heap.size w w3) := HB2.out.trans (hb3.mono HB2.out.size)
    clear hb3
    go_wp2
    go_ret2
    exact ⟨rfl, HB3.out⟩
end Go.Proofs.YtgkgbpbohgklhafDoor
