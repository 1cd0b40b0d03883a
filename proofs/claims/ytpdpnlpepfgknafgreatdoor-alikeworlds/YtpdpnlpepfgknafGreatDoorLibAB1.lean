/-
  Plain facts on terms that are the same, part, or apart, whatever the world, and on names that are swapped (chapter 12). No program is read here.
  Proved: what alike.masks, Same, Part and Apart return, of any two rows of signs; what was in memory is as it was (contracts that the statements lean on).
  Plain facts on a row of cells that is filled one by one.
  Proved: what alike.Swap returns, of any row of signs and any two numbers: a new row; what was in memory is as it was (contracts that the statements lean on).
-/
import Derived.Test.YtpdpnlpepfgknafGreatDoorLibPB5
import Derived.Test.YtpdpnlpepfgknafGreatDoorLibPB3
import Derived.OwnWalk
import Derived.Test.YtpdpnlpepfgknafGreatDoorLibPB2
namespace Go.Proofs.YtpdpnlpepfgknafGreatDoor
open Go.RowKit

def sameTo (s t : List Int) (k : Nat) : Bool := (List.range k).all fun f => liesB s f == liesB t f
def partTo (s t : List Int) (k : Nat) : Bool := (List.range k).all fun f => !liesB s f || liesB t f
def apartTo (s t : List Int) (k : Nat) : Bool := (List.range k).all fun f => !(liesB s f && liesB t f)
def alikeFault (s t : List Int) : Int := if faultN s = 0 then faultN t else faultN s
def sameT (s t : List Int) : Bool := if alikeFault s t = 0 then sameTo s t 8 else false
def partT (s t : List Int) : Bool := if alikeFault s t = 0 then partTo s t 8 else false
def apartT (s t : List Int) : Bool := if alikeFault s t = 0 then apartTo s t 8 else false
def swapS (x y n : Int) : Int := if n = x then y else if n = y then x else n
def swapFault (s : List Int) (x y : Int) : Int := if faultN s = 0 then (if (0 ≤ x ∧ x ≤ 2) ∧ 0 ≤ y ∧ y ≤ 2 then 0 else 1) else faultN s
def swapL (s : List Int) (x y : Int) : List Int := if swapFault s x y = 0 then s.map (swapS x y) else []

theorem alike_zero {s t : List Int} : alikeFault s t = 0 ↔ faultN s = 0 ∧ faultN t = 0 := by
  unfold alikeFault
  by_cases h : faultN s = 0
  · rw [if_pos h]; exact ⟨fun g => ⟨h, g⟩, fun g => g.2⟩
  · rw [if_neg h]; exact ⟨fun g => absurd g h, fun g => absurd g.1 h⟩
theorem sameTo_step (s t : List Int) (k : Nat) : sameTo s t (k + 1) = (sameTo s t k && (liesB s k == liesB t k)) := by unfold sameTo; rw [List.range_succ, List.all_append]; simp
theorem partTo_step (s t : List Int) (k : Nat) : partTo s t (k + 1) = (partTo s t k && (!liesB s k || liesB t k)) := by unfold partTo; rw [List.range_succ, List.all_append]; simp
theorem apartTo_step (s t : List Int) (k : Nat) : apartTo s t (k + 1) = (apartTo s t k && !(liesB s k && liesB t k)) := by unfold apartTo; rw [List.range_succ, List.all_append]; simp
theorem sameTo_iff {s t : List Int} {k : Nat} : sameTo s t k = true ↔ ∀ f, f < k → liesB s f = liesB t f := by
  unfold sameTo; rw [List.all_eq_true]; simp
theorem partTo_iff {s t : List Int} {k : Nat} : partTo s t k = true ↔ ∀ f, f < k → liesB s f = true → liesB t f = true := by
  unfold partTo; rw [List.all_eq_true]; simp
  constructor
  · intro h f hf h1
    rcases h f hf with h2 | h2
    · rw [h1] at h2; exact absurd h2 (by decide)
    · exact h2
  · intro h f hf
    cases e : liesB s f
    · exact Or.inl rfl
    · exact Or.inr (h f hf e)
theorem apartTo_iff {s t : List Int} {k : Nat} : apartTo s t k = true ↔ ∀ f, f < k → liesB s f = true → liesB t f = false := by
  unfold apartTo; rw [List.all_eq_true]; simp
  constructor
  · intro h f hf h1
    rcases h f hf with h2 | h2
    · rw [h1] at h2; exact absurd h2 (by decide)
    · exact h2
  · intro h f hf
    cases e : liesB s f
    · exact Or.inl rfl
    · exact Or.inr (h f hf e)
theorem same_both (s t : List Int) : sameTo s t 8 = (partTo s t 8 && partTo t s 8) := by
  rw [Bool.eq_iff_iff, Bool.and_eq_true, sameTo_iff, partTo_iff, partTo_iff]
  constructor
  · intro h; exact ⟨fun f hf h1 => by rw [← h f hf]; exact h1, fun f hf h1 => by rw [h f hf]; exact h1⟩
  · rintro ⟨h1, h2⟩ f hf
    cases e : liesB s f
    · cases e2 : liesB t f
      · rfl
      · rw [h2 f hf e2] at e; exact absurd e (by decide)
    · rw [h1 f hf e]
theorem eq_of_has {u a b : Int} (ha : okB u a = true) (hb : okB u b = true) (h : ∀ i : Nat, (i : Int) < u → hasB a i = hasB b i) : a = b := by
  have hu := (okB_lt ha).1
  have e : ∀ k : Nat, (k : Int) ≤ u → sumTo a k = sumTo b k := by
    intro k
    induction k with
    | zero => intro _; rfl
    | succ k ih => intro hk; unfold sumTo; rw [ih (by omega), h k (by omega)]
  rw [← sumTo_all ha, ← sumTo_all hb, e u.toNat (by omega)]
theorem same_world {s t : List Int} (hs : faultN s = 0) (ht : faultN t = 0) (h : sameTo s t 8 = true) {w : Wd} (hw : w.ok = true) : w.val s = w.val t := by
  obtain ⟨n, hn⟩ := one_term hs
  obtain ⟨m, hm⟩ := one_term ht
  refine eq_of_has (ok_val hw s) (ok_val hw t) fun i hi => ?_
  rw [has_field hw i hi n s hn, has_field hw i hi m t hm]
  exact sameTo_iff.1 h _ (field_lt w i)
theorem part_world {s t : List Int} (hs : faultN s = 0) (ht : faultN t = 0) (h : partTo s t 8 = true) {w : Wd} (hw : w.ok = true) : doN 7 w.u (w.val s) (w.val t) = 0 := by
  obtain ⟨n, hn⟩ := one_term hs
  obtain ⟨m, hm⟩ := one_term ht
  have hu := ok_u hw
  refine eq_of_has (ok_do (ok_val hw s) (ok_val hw t)) (ok_zero hu.1 hu.2) fun i hi => ?_
  rw [has_do (by decide) (by decide) (ok_val hw s) (ok_val hw t) i hi, has_none, has_field hw i hi n s hn, has_field hw i hi m t hm]
  have := partTo_iff.1 h _ (field_lt w i)
  show (liesB s (w.field i) && !liesB t (w.field i)) = false
  cases e : liesB s (w.field i)
  · rfl
  · rw [this e]; rfl
theorem apart_world {s t : List Int} (hs : faultN s = 0) (ht : faultN t = 0) (h : apartTo s t 8 = true) {w : Wd} (hw : w.ok = true) : doN 6 w.u (w.val s) (w.val t) = 0 := by
  obtain ⟨n, hn⟩ := one_term hs
  obtain ⟨m, hm⟩ := one_term ht
  have hu := ok_u hw
  refine eq_of_has (ok_do (ok_val hw s) (ok_val hw t)) (ok_zero hu.1 hu.2) fun i hi => ?_
  rw [has_do (by decide) (by decide) (ok_val hw s) (ok_val hw t) i hi, has_none, has_field hw i hi n s hn, has_field hw i hi m t hm]
  have := apartTo_iff.1 h _ (field_lt w i)
  show (liesB s (w.field i) && liesB t (w.field i)) = false
  cases e : liesB s (w.field i)
  · rfl
  · rw [this e]; rfl

/-- the formula that two terms are the same. -/
def sameA (s t : List Int) : List At := [⟨2, s, t, 0⟩]
theorem sameA_good {s t : List Int} (hs : faultN s = 0) (ht : faultN t = 0) : formFault (sameA s t) [0] = 0 := by
  refine formFault_zero.2 ⟨⟨by simp [sameA], by simp [sameA]⟩, ⟨by simp, by simp⟩, fun a ha => ?_, by simp [sameA]; decide, by decide⟩
  obtain rfl : a = ⟨2, s, t, 0⟩ := by simpa [sameA] using ha
  show atomFault 2 s t 0 = 0
  have h2 : secondFault 2 t = 0 := by unfold secondFault; rw [if_pos (by decide)]; exact ht
  unfold atomFault
  rw [if_pos (by decide), if_pos hs, if_pos h2, if_pos (by decide)]
theorem sameA_is {s t : List Int} (hs : faultN s = 0) (ht : faultN t = 0) {w : Wd} (hw : w.ok = true) : w.formIs (sameA s t) [0] = decide (w.val s = w.val t) := by
  unfold Wd.formIs
  rw [if_pos (wdForm_zero.2 ⟨sameA_good hs ht, hw⟩)]
  rfl
theorem sameA_cubes : ∃ L, cubesC ([0] ++ [12]) = some L := ⟨_, rfl⟩
/-- it is sure of one thing just if they are the same. -/
theorem sure_same {s t : List Int} (hs : faultN s = 0) (ht : faultN t = 0) : sureB (sameA s t) [0] 1 = sameTo s t 8 ∧ sureFault (sameA s t) [0] 1 = 0 := by
  have hf := sameA_good hs ht
  have hn : negFault (sameA s t) [0] = 0 := by unfold negFault; rw [if_pos hf, if_neg (by decide)]
  obtain ⟨_, h19, hf'⟩ := neg_good hn
  have ea : againstFault (sameA s t) [0] 1 = modelFault (sameA s t) ([0] ++ [12]) 1 := by unfold againstFault; rw [if_pos hn]
  obtain ⟨L, hL⟩ := sameA_cubes
  have h05 : modelFault (sameA s t) ([0] ++ [12]) 1 = 0 ∨ modelFault (sameA s t) ([0] ++ [12]) 1 = 5 := by
    unfold modelFault
    rw [if_pos hf', hL]
    simp only
    rw [if_pos (by decide)]
    by_cases h : (modelL (sameA s t) (1 : Int).toNat L).isSome = true
    · rw [if_pos h]; exact Or.inl rfl
    · rw [if_neg h]; exact Or.inr rfl
  have key : ∀ w : Wd, w.ok = true → w.formIs (sameA s t) ([0] ++ [12]) = !decide (w.val s = w.val t) := fun w hw => by
    rw [formIs_no hf h19 hw, sameA_is hs ht hw]
  rcases h05 with h | h
  · obtain ⟨_, g2, _, g4⟩ := model_zero h
    rw [key _ g2] at g4
    have hne : sameTo s t 8 = false := by
      cases e : sameTo s t 8
      · rfl
      · rw [same_world hs ht e g2] at g4; simp at g4
    have es : sureB (sameA s t) [0] 1 = false := by unfold sureB; exact decide_eq_false fun g => by rw [ea, h] at g; exact absurd g.1 (by decide)
    exact ⟨by rw [es, hne], by unfold sureFault; rw [if_neg (by rw [es]; decide), ea, h]⟩
  · have hes : sameTo s t 8 = true := by
      rw [sameTo_iff]
      intro f hf8
      have h5 := model_five h hf' (oneW_ok f) (oneW_u f)
      rw [key _ (oneW_ok f), oneW_val, oneW_val] at h5
      have : oneB (liesB s f) = oneB (liesB t f) := by simpa using h5
      cases e1 : liesB s f <;> cases e2 : liesB t f <;> rw [e1, e2] at this <;> first | rfl | exact absurd this (by decide)
    have es : sureB (sameA s t) [0] 1 = true := by unfold sureB; exact decide_eq_true ⟨by rw [ea]; exact h, hf⟩
    exact ⟨by rw [es, hes], by unfold sureFault; rw [if_pos es]⟩

/-! ### swapped -/
theorem swapS_swap (x y n : Int) : swapS x y (swapS x y n) = n := by
  unfold swapS
  by_cases h1 : n = x
  · subst h1
    rw [if_pos rfl]
    by_cases h2 : y = n
    · rw [if_pos h2]; exact h2
    · rw [if_neg h2, if_pos rfl]
  · rw [if_neg h1]
    by_cases h2 : n = y
    · subst h2; rw [if_pos rfl, if_pos rfl]
    · rw [if_neg h2, if_neg h1, if_neg h2]
theorem swap_range {x y : Int} (hx : 0 ≤ x ∧ x ≤ 2) (hy : 0 ≤ y ∧ y ≤ 2) (n : Int) : takesN (swapS x y n) = takesN n ∧ signB (swapS x y n) = signB n := by
  unfold swapS
  by_cases h1 : n = x
  · rw [if_pos h1, takes5 y (by omega), takes5 n (by omega)]
    refine ⟨rfl, ?_⟩
    unfold signB
    rw [decide_eq_true (by omega : 0 ≤ y ∧ y ≤ 8), decide_eq_true (by omega : 0 ≤ n ∧ n ≤ 8)]
  · rw [if_neg h1]
    by_cases h2 : n = y
    · rw [if_pos h2, takes5 x (by omega), takes5 n (by omega)]
      refine ⟨rfl, ?_⟩
      unfold signB
      rw [decide_eq_true (by omega : 0 ≤ x ∧ x ≤ 8), decide_eq_true (by omega : 0 ≤ n ∧ n ≤ 8)]
    · rw [if_neg h2]; exact ⟨rfl, rfl⟩
theorem cnt_map {g : Int → Int} (h : ∀ n, takesN (g n) = takesN n) : ∀ (t : List Int) (n : Int), cnt (t.map g) n = cnt t n := by
  intro t
  induction t with
  | nil => intro n; rfl
  | cons s t ih => intro n; simp only [List.map_cons, cnt]; rw [h s, ih]
theorem fault_map {g : Int → Int} (h : ∀ n, takesN (g n) = takesN n ∧ signB (g n) = signB n) (t : List Int) : faultN (t.map g) = faultN t := by
  unfold faultN
  rw [List.length_map, cnt_map fun n => (h n).1, List.all_map]
  have e : (signB ∘ g) = signB := by funext n; exact (h n).2
  rw [e]
theorem swap_zero {s : List Int} {x y : Int} : swapFault s x y = 0 ↔ faultN s = 0 ∧ (0 ≤ x ∧ x ≤ 2) ∧ 0 ≤ y ∧ y ≤ 2 := by
  unfold swapFault
  by_cases h : faultN s = 0
  · rw [if_pos h]
    by_cases g : (0 ≤ x ∧ x ≤ 2) ∧ 0 ≤ y ∧ y ≤ 2
    · rw [if_pos g]; exact ⟨fun _ => ⟨h, g⟩, fun _ => rfl⟩
    · rw [if_neg g]; exact ⟨fun e => absurd e (by decide), fun e => absurd e.2 g⟩
  · rw [if_neg h]; exact ⟨fun e => absurd e h, fun e => absurd e.1 h⟩
/-- swapped twice it is itself. -/
theorem swap_twice {s : List Int} {x y : Int} (h : swapFault s x y = 0) : swapFault (swapL s x y) x y = 0 ∧ swapL (swapL s x y) x y = s := by
  obtain ⟨hs, hx, hy⟩ := swap_zero.1 h
  have e : swapL s x y = s.map (swapS x y) := by unfold swapL; rw [if_pos h]
  have h2 : swapFault (swapL s x y) x y = 0 := by
    rw [e]
    exact swap_zero.2 ⟨by rw [fault_map (swap_range hx hy)]; exact hs, hx, hy⟩
  refine ⟨h2, ?_⟩
  unfold swapL at h2 ⊢
  rw [if_pos h] at h2 ⊢
  rw [if_pos h2, List.map_map]
  have : (swapS x y ∘ swapS x y) = id := by funext n; exact swapS_swap x y n
  rw [this, List.map_id]

/-! ### itself -/
theorem lies_all (f : Nat) : liesB [4] f = true := by
  have h : ∀ f, liesB [4] f = liesB [4] (f % 8) := fun f => by
    have h1 : (oneW f).val [4] = (oneW (f % 8)).val [4] := by
      rw [val_leaf _ 4 (by decide), val_leaf _ 4 (by decide)]; rfl
    unfold liesB; rw [h1]
  have h8 : ∀ f, f < 8 → liesB [4] f = true := by decide
  rw [h f]; exact h8 _ (by omega)
theorem part_all (t : List Int) : partTo t [4] 8 = true := partTo_iff.2 fun f _ _ => lies_all f
theorem same_self (t : List Int) : sameTo t t 8 = true := sameTo_iff.2 fun _ _ => rfl
theorem not_good {t : List Int} (ht : faultN t = 0) (hl : t.length ≤ 11) : faultN (t ++ [8]) = 0 := by
  obtain ⟨h1, h2, h3, h4⟩ := fault_zero.1 ht
  refine fault_zero.2 ⟨by simp, by simp; omega, by rw [List.all_append, h3]; rfl, ?_⟩
  rw [cnt_append, h4]; rfl
theorem apart_not {t : List Int} (ht : faultN t = 0) : apartTo t (t ++ [8]) 8 = true := by
  refine apartTo_iff.2 fun f _ h => ?_
  obtain ⟨n, hn⟩ := one_term ht
  have := has_opp (oneW_ok f) hn 0 (by rw [oneW_u]; decide)
  unfold liesB at h ⊢
  rw [this, h]; rfl
end Go.Proofs.YtpdpnlpepfgknafGreatDoor

namespace Go.Proofs.YtpdpnlpepfgknafGreatDoor
open Go.ChangeShapes Go.WideShapes Go.ChangeAt Go.RowKit
set_option maxRecDepth 100000

theorem and256 : ∀ n : Nat, n < 256 → ∀ m : Nat, m < 256 → bits .and .i64 (n : Int) (m : Int) = ((n &&& m : Nat) : Int) := by decide +kernel
theorem andNot256 : ∀ n : Nat, n < 256 → ∀ m : Nat, m < 256 → bits .andNot .i64 (n : Int) (m : Int) = ((n &&& (255 ^^^ m) : Nat) : Int) := by decide +kernel
/-- the mask, field by field. -/
theorem mask_nat (L : Nat → Bool) : ∃ n : Nat, maskTo L 8 = (n : Int) ∧ n < 256 ∧ ∀ f, n.testBit f = (decide (f < 8) && L f) := by
  obtain ⟨m0, m1⟩ := maskTo_le L 8
  obtain ⟨n, hn⟩ := Int.eq_ofNat_of_zero_le m0
  have hp : pw 8 = 256 := rfl
  have hlt : n < 256 := by rw [hn, hp] at m1; omega
  refine ⟨n, hn, hlt, fun f => ?_⟩
  by_cases hf : f < 8
  · have h := has_mask L (Nat.le_refl 8) hf
    rw [hn] at h
    rw [decide_eq_true hf, Bool.true_and, ← h, Nat.testBit_eq_decide_div_mod_eq]
    unfold hasB
    apply decide_eq_decide.2
    have e : ((n : Int) / 2 ^ ((f : Int)).toNat % 2) = ((n / 2 ^ f % 2 : Nat) : Int) := by simp
    rw [e]
    omega
  · rw [decide_eq_false hf, Bool.false_and]
    exact Nat.testBit_lt_two_pow (Nat.lt_of_lt_of_le hlt (Nat.le_trans (by decide) (Nat.pow_le_pow_right (by decide) (Nat.le_of_not_lt hf) : 2 ^ 8 ≤ 2 ^ f)))
theorem zero_iff (n : Nat) : n = 0 ↔ ∀ f, n.testBit f = false := by
  constructor
  · rintro rfl f; exact Nat.zero_testBit f
  · intro h; exact Nat.eq_of_testBit_eq fun f => by rw [h f, Nat.zero_testBit]
theorem mask_same (L M : Nat → Bool) : decide (maskTo L 8 = maskTo M 8) = ((List.range 8).all fun f => L f == M f) := by
  obtain ⟨n, hn, _, hf⟩ := mask_nat L
  obtain ⟨m, hm, _, hg⟩ := mask_nat M
  rw [hn, hm, Bool.eq_iff_iff, decide_eq_true_iff, List.all_eq_true]
  constructor
  · intro h f hf8
    have e : n = m := by omega
    have h8 := List.mem_range.1 hf8
    have := (hf f).symm.trans ((congrArg (fun x => Nat.testBit x f) e).trans (hg f))
    rw [decide_eq_true h8, Bool.true_and, Bool.true_and] at this
    rw [this]; simp
  · intro h
    have e : n = m := Nat.eq_of_testBit_eq fun f => by
      rw [hf, hg]
      by_cases h8 : f < 8
      · have := h f (List.mem_range.2 h8)
        rw [eq_of_beq this]
      · rw [decide_eq_false h8, Bool.false_and, Bool.false_and]
    rw [e]
theorem mask_part (L M : Nat → Bool) : decide (bits .andNot .i64 (maskTo L 8) (maskTo M 8) = 0) = ((List.range 8).all fun f => !L f || M f) := by
  obtain ⟨n, hn, n1, hf⟩ := mask_nat L
  obtain ⟨m, hm, m1, hg⟩ := mask_nat M
  rw [hn, hm, andNot256 n n1 m m1, Bool.eq_iff_iff, decide_eq_true_iff, List.all_eq_true]
  have e : (((n &&& (255 ^^^ m) : Nat) : Int) = 0) ↔ ∀ f, (n &&& (255 ^^^ m)).testBit f = false := by rw [← zero_iff]; omega
  rw [e]
  have h255 : ∀ f, Nat.testBit 255 f = decide (f < 8) := fun f => Nat.testBit_two_pow_sub_one 8 f
  constructor
  · intro h f hf8
    have h8 := List.mem_range.1 hf8
    have := h f
    rw [Nat.testBit_and, Nat.testBit_xor, hf, hg, h255, decide_eq_true h8] at this
    revert this
    cases L f <;> cases M f <;> decide
  · intro h f
    rw [Nat.testBit_and, Nat.testBit_xor, hf, hg, h255]
    by_cases h8 : f < 8
    · have := h f (List.mem_range.2 h8)
      rw [decide_eq_true h8]
      revert this
      cases L f <;> cases M f <;> decide
    · rw [decide_eq_false h8]; rfl
theorem mask_apart (L M : Nat → Bool) : decide (bits .and .i64 (maskTo L 8) (maskTo M 8) = 0) = ((List.range 8).all fun f => !(L f && M f)) := by
  obtain ⟨n, hn, n1, hf⟩ := mask_nat L
  obtain ⟨m, hm, m1, hg⟩ := mask_nat M
  rw [hn, hm, and256 n n1 m m1, Bool.eq_iff_iff, decide_eq_true_iff, List.all_eq_true]
  have e : (((n &&& m : Nat) : Int) = 0) ↔ ∀ f, (n &&& m).testBit f = false := by rw [← zero_iff]; omega
  rw [e]
  constructor
  · intro h f hf8
    have h8 := List.mem_range.1 hf8
    have := h f
    rw [Nat.testBit_and, hf, hg, decide_eq_true h8] at this
    revert this
    cases L f <;> cases M f <;> decide
  · intro h f
    rw [Nat.testBit_and, hf, hg]
    by_cases h8 : f < 8
    · have := h f (List.mem_range.2 h8)
      rw [decide_eq_true h8]
      revert this
      cases L f <;> cases M f <;> decide
    · rw [decide_eq_false h8]; rfl

theorem errV_some {n : Int} (h : ¬ n = 0) : errV n = .iface 61 (.int .i64 n) := by unfold errV; rw [if_neg h]

def pairM (s t : List Int) (m : Int) : Int := if alikeFault s t = 0 then m else 0

set_option maxHeartbeats 4000000 in
theorem masks_any (vs vt : Value) (s t : List Int) (w : World) (hS : Reads w vs s) (hT : Reads w vt t) :
    Calls Tryz.prog 42 #[vs, vt] w fun e w' => e = .returned (.tuple #[.int .i64 (pairM s t (maskN s)), .int .i64 (pairM s t (maskN t)), errV (alikeFault s t)]) ∧ Below w.heap.size w w' := by
  have HS : Hid (∀ W, Below w.heap.size w W → Calls Tryz.prog 70 #[vs] W fun e w' => e = .returned (.tuple #[.int .i64 (maskN s), errV (faultN s)]) ∧ Below W.heap.size W w') := fun W hW => mask_any s vs W (hS.below hW)
  have HT : Hid (∀ W, Below w.heap.size w W → Calls Tryz.prog 70 #[vt] W fun e w' => e = .returned (.tuple #[.int .i64 (maskN t), errV (faultN t)]) ∧ Below W.heap.size W w') := fun W hW => mask_any t vt W (hT.below hW)
  clear hS hT
  by_cases h1 : faultN s = 0
  · have e1 : alikeFault s t = faultN t := by unfold alikeFault; rw [if_pos h1]
    have e2 : errV (faultN s) = .nilIface := by rw [h1]; rfl
    rw [e2] at HS
    by_cases h2 : faultN t = 0
    · have p : ∀ m, pairM s t m = m := fun m => by unfold pairM; rw [if_pos (by rw [e1]; exact h2)]
      have e3 : errV (faultN t) = .nilIface := by rw [h2]; rfl
      rw [p, p, e1, e3]
      rw [e3] at HT
      clear p e1 e2 e3 h1 h2
      obtain ⟨m, hm⟩ : ∃ m, m = maskN s := ⟨_, rfl⟩
      obtain ⟨n, hn⟩ : ∃ n, n = maskN t := ⟨_, rfl⟩
      rw [← hm] at HS ⊢
      rw [← hn] at HT ⊢
      clear hm hn
      go_enter Tryz.func42, Tryz.ntmps42
      go_wp2_with fail
      go_at_call 70
      refine (HS.out _ (Below.refl _ _)).mono ?_
      rintro e w1 ⟨rfl, hb⟩
      have HB1 : Hid (Below w.heap.size w w1) := hb
      clear hb
      go_wp2_with fail
      go_at_call 70
      refine (HT.out _ HB1.out).mono ?_
      rintro e w2 ⟨rfl, hb⟩
      have HB2 : Hid (Below w.heap.size w w2) := HB1.out.trans (hb.mono HB1.out.size)
      clear hb
      go_wp2
      go_ret3
      exact ⟨rfl, HB2.out⟩
    · have p : ∀ m, pairM s t m = 0 := fun m => by unfold pairM; rw [if_neg (by rw [e1]; exact h2)]
      have e3 := errV_some h2
      rw [p, p, e1, e3]
      rw [e3] at HT
      clear p e1 e2 e3 h1 h2
      obtain ⟨m, hm⟩ : ∃ m, m = maskN s := ⟨_, rfl⟩
      obtain ⟨n, hn⟩ : ∃ n, n = maskN t := ⟨_, rfl⟩
      obtain ⟨f, hf⟩ : ∃ f, f = faultN t := ⟨_, rfl⟩
      rw [← hm] at HS
      rw [← hn, ← hf] at HT
      rw [← hf]
      clear hm hn hf
      go_enter Tryz.func42, Tryz.ntmps42
      go_wp2_with fail
      go_at_call 70
      refine (HS.out _ (Below.refl _ _)).mono ?_
      rintro e w1 ⟨rfl, hb⟩
      have HB1 : Hid (Below w.heap.size w w1) := hb
      clear hb
      go_wp2_with fail
      go_at_call 70
      refine (HT.out _ HB1.out).mono ?_
      rintro e w2 ⟨rfl, hb⟩
      have HB2 : Hid (Below w.heap.size w w2) := HB1.out.trans (hb.mono HB1.out.size)
      clear hb
      go_wp2
      go_ret3
      exact ⟨rfl, HB2.out⟩
  · have e1 : alikeFault s t = faultN s := by unfold alikeFault; rw [if_neg h1]
    have p : ∀ m, pairM s t m = 0 := fun m => by unfold pairM; rw [if_neg (by rw [e1]; exact h1)]
    have e2 := errV_some h1
    rw [p, p, e1, e2]
    rw [e2] at HS
    clear p e1 e2 h1
    obtain ⟨m, hm⟩ : ∃ m, m = maskN s := ⟨_, rfl⟩
    obtain ⟨f, hf⟩ : ∃ f, f = faultN s := ⟨_, rfl⟩
    rw [← hm, ← hf] at HS
    rw [← hf]
    clear hm hf
    go_enter Tryz.func42, Tryz.ntmps42
    go_wp2_with fail
    go_at_call 70
    refine (HS.out _ (Below.refl _ _)).mono ?_
    rintro e w1 ⟨rfl, hb⟩
    have HB1 : Hid (Below w.heap.size w w1) := hb
    clear hb
    go_wp2
    go_ret3
    exact ⟨rfl, HB1.out⟩

/-- of two right rows the masks are those of their fields; else there is a fault. -/
theorem pair_good {s t : List Int} (h : alikeFault s t = 0) : pairM s t (maskN s) = maskTo (liesB s) 8 ∧ pairM s t (maskN t) = maskTo (liesB t) 8 := by
  obtain ⟨h1, h2⟩ := alike_zero.1 h
  unfold pairM maskN
  rw [if_pos h, if_pos h, if_pos h1, if_pos h2]
  exact ⟨rfl, rfl⟩

set_option maxHeartbeats 4000000 in
theorem alikeSame_any (vs vt : Value) (s t : List Int) (w : World) (hS : Reads w vs s) (hT : Reads w vt t) :
    Calls Tryz.prog 16 #[vs, vt] w fun e w' => e = .returned (.tuple #[.bool (sameT s t), errV (alikeFault s t)]) ∧ Below w.heap.size w w' := by
  have HM : Hid (Calls Tryz.prog 42 #[vs, vt] w fun e w' => e = .returned (.tuple #[.int .i64 (pairM s t (maskN s)), .int .i64 (pairM s t (maskN t)), errV (alikeFault s t)]) ∧ Below w.heap.size w w') := masks_any vs vt s t w hS hT
  clear hS hT
  by_cases h : alikeFault s t = 0
  · have e0 : errV (alikeFault s t) = .nilIface := by rw [h]; rfl
    obtain ⟨p1, p2⟩ := pair_good h
    have e1 : sameT s t = sameTo s t 8 := by unfold sameT; rw [if_pos h]
    rw [e0, p1, p2] at HM
    rw [e0, e1]
    have HQ := mask_same (liesB s) (liesB t)
    obtain ⟨m, hm⟩ : ∃ m, m = maskTo (liesB s) 8 := ⟨_, rfl⟩
    obtain ⟨n, hn⟩ : ∃ n, n = maskTo (liesB t) 8 := ⟨_, rfl⟩
    rw [← hm, ← hn] at HM HQ
    obtain ⟨b, hb⟩ : ∃ b, b = sameTo s t 8 := ⟨_, rfl⟩
    have HQ2 : Hid ((m == n) = b) := by
      unfold Hid
      rw [hb]
      unfold sameTo
      rw [← HQ]
      by_cases hq : m = n
      · rw [decide_eq_true hq]; rw [hq]; simp
      · rw [decide_eq_false hq]; exact beq_false_of_ne hq
    rw [← hb]
    clear hm hn hb HQ e0 e1 p1 p2 h
    go_enter Tryz.func16, Tryz.ntmps16
    go_wp2_with fail
    go_at_call 42
    refine HM.out.mono ?_
    rintro e w1 ⟨rfl, hb⟩
    have HB1 : Hid (Below w.heap.size w w1) := hb
    clear hb
    go_wp2
    go_ret2
    exact ⟨by rw [HQ2.out]; rfl, HB1.out⟩
  · have e0 := errV_some h
    have e1 : sameT s t = false := by unfold sameT; rw [if_neg h]
    rw [e0] at HM
    rw [e0, e1]
    clear e0 e1 h
    obtain ⟨m, hm⟩ : ∃ m, m = pairM s t (maskN s) := ⟨_, rfl⟩
    obtain ⟨n, hn⟩ : ∃ n, n = pairM s t (maskN t) := ⟨_, rfl⟩
    obtain ⟨f, hf⟩ : ∃ f, f = alikeFault s t := ⟨_, rfl⟩
    rw [← hm, ← hn, ← hf] at HM
    rw [← hf]
    clear hm hn hf
    go_enter Tryz.func16, Tryz.ntmps16
    go_wp2_with fail
    go_at_call 42
    refine HM.out.mono ?_
    rintro e w1 ⟨rfl, hb⟩
    have HB1 : Hid (Below w.heap.size w w1) := hb
    clear hb
    go_wp2
    go_ret2
    exact ⟨rfl, HB1.out⟩
set_option maxHeartbeats 4000000 in
theorem alikePart_any (vs vt : Value) (s t : List Int) (w : World) (hS : Reads w vs s) (hT : Reads w vt t) :
    Calls Tryz.prog 17 #[vs, vt] w fun e w' => e = .returned (.tuple #[.bool (partT s t), errV (alikeFault s t)]) ∧ Below w.heap.size w w' := by
  have HM : Hid (Calls Tryz.prog 42 #[vs, vt] w fun e w' => e = .returned (.tuple #[.int .i64 (pairM s t (maskN s)), .int .i64 (pairM s t (maskN t)), errV (alikeFault s t)]) ∧ Below w.heap.size w w') := masks_any vs vt s t w hS hT
  clear hS hT
  by_cases h : alikeFault s t = 0
  · have e0 : errV (alikeFault s t) = .nilIface := by rw [h]; rfl
    obtain ⟨p1, p2⟩ := pair_good h
    have e1 : partT s t = partTo s t 8 := by unfold partT; rw [if_pos h]
    rw [e0, p1, p2] at HM
    rw [e0, e1]
    have HQ := mask_part (liesB s) (liesB t)
    obtain ⟨m, hm⟩ : ∃ m, m = maskTo (liesB s) 8 := ⟨_, rfl⟩
    obtain ⟨n, hn⟩ : ∃ n, n = maskTo (liesB t) 8 := ⟨_, rfl⟩
    rw [← hm, ← hn] at HM HQ
    obtain ⟨b, hb⟩ : ∃ b, b = partTo s t 8 := ⟨_, rfl⟩
    have HQ2 : Hid ((bits .andNot .i64 m n == 0) = b) := by
      unfold Hid
      rw [hb]
      unfold partTo
      rw [← HQ]
      by_cases hq : bits .andNot .i64 m n = 0
      · rw [decide_eq_true hq]; rw [hq]; simp
      · rw [decide_eq_false hq]; exact beq_false_of_ne hq
    rw [← hb]
    clear hm hn hb HQ e0 e1 p1 p2 h
    go_enter Tryz.func17, Tryz.ntmps17
    go_wp2_with fail
    go_at_call 42
    refine HM.out.mono ?_
    rintro e w1 ⟨rfl, hb⟩
    have HB1 : Hid (Below w.heap.size w w1) := hb
    clear hb
    go_wp2
    go_ret2
    exact ⟨by rw [HQ2.out]; rfl, HB1.out⟩
  · have e0 := errV_some h
    have e1 : partT s t = false := by unfold partT; rw [if_neg h]
    rw [e0] at HM
    rw [e0, e1]
    clear e0 e1 h
    obtain ⟨m, hm⟩ : ∃ m, m = pairM s t (maskN s) := ⟨_, rfl⟩
    obtain ⟨n, hn⟩ : ∃ n, n = pairM s t (maskN t) := ⟨_, rfl⟩
    obtain ⟨f, hf⟩ : ∃ f, f = alikeFault s t := ⟨_, rfl⟩
    rw [← hm, ← hn, ← hf] at HM
    rw [← hf]
    clear hm hn hf
    go_enter Tryz.func17, Tryz.ntmps17
    go_wp2_with fail
    go_at_call 42
    refine HM.out.mono ?_
    rintro e w1 ⟨rfl, hb⟩
    have HB1 : Hid (Below w.heap.size w w1) := hb
    clear hb
    go_wp2
    go_ret2
    exact ⟨rfl, HB1.out⟩
set_option maxHeartbeats 4000000 in
theorem alikeApart_any (vs vt : Value) (s t : List Int) (w : World) (hS : Reads w vs s) (hT : Reads w vt t) :
    Calls Tryz.prog 18 #[vs, vt] w fun e w' => e = .returned (.tuple #[.bool (apartT s t), errV (alikeFault s t)]) ∧ Below w.heap.size w w' := by
  have HM : Hid (Calls Tryz.prog 42 #[vs, vt] w fun e w' => e = .returned (.tuple #[.int .i64 (pairM s t (maskN s)), .int .i64 (pairM s t (maskN t)), errV (alikeFault s t)]) ∧ Below w.heap.size w w') := masks_any vs vt s t w hS hT
  clear hS hT
  by_cases h : alikeFault s t = 0
  · have e0 : errV (alikeFault s t) = .nilIface := by rw [h]; rfl
    obtain ⟨p1, p2⟩ := pair_good h
    have e1 : apartT s t = apartTo s t 8 := by unfold apartT; rw [if_pos h]
    rw [e0, p1, p2] at HM
    rw [e0, e1]
    have HQ := mask_apart (liesB s) (liesB t)
    obtain ⟨m, hm⟩ : ∃ m, m = maskTo (liesB s) 8 := ⟨_, rfl⟩
    obtain ⟨n, hn⟩ : ∃ n, n = maskTo (liesB t) 8 := ⟨_, rfl⟩
    rw [← hm, ← hn] at HM HQ
    obtain ⟨b, hb⟩ : ∃ b, b = apartTo s t 8 := ⟨_, rfl⟩
    have HQ2 : Hid ((bits .and .i64 m n == 0) = b) := by
      unfold Hid
      rw [hb]
      unfold apartTo
      rw [← HQ]
      by_cases hq : bits .and .i64 m n = 0
      · rw [decide_eq_true hq]; rw [hq]; simp
      · rw [decide_eq_false hq]; exact beq_false_of_ne hq
    rw [← hb]
    clear hm hn hb HQ e0 e1 p1 p2 h
    go_enter Tryz.func18, Tryz.ntmps18
    go_wp2_with fail
    go_at_call 42
    refine HM.out.mono ?_
    rintro e w1 ⟨rfl, hb⟩
    have HB1 : Hid (Below w.heap.size w w1) := hb
    clear hb
    go_wp2
    go_ret2
    exact ⟨by rw [HQ2.out]; rfl, HB1.out⟩
  · have e0 := errV_some h
    have e1 : apartT s t = false := by unfold apartT; rw [if_neg h]
    rw [e0] at HM
    rw [e0, e1]
    clear e0 e1 h
    obtain ⟨m, hm⟩ : ∃ m, m = pairM s t (maskN s) := ⟨_, rfl⟩
    obtain ⟨n, hn⟩ : ∃ n, n = pairM s t (maskN t) := ⟨_, rfl⟩
    obtain ⟨f, hf⟩ : ∃ f, f = alikeFault s t := ⟨_, rfl⟩
    rw [← hm, ← hn, ← hf] at HM
    rw [← hf]
    clear hm hn hf
    go_enter Tryz.func18, Tryz.ntmps18
    go_wp2_with fail
    go_at_call 42
    refine HM.out.mono ?_
    rintro e w1 ⟨rfl, hb⟩
    have HB1 : Hid (Below w.heap.size w w1) := hb
    clear hb
    go_wp2
    go_ret2
    exact ⟨rfl, HB1.out⟩
end Go.Proofs.YtpdpnlpepfgknafGreatDoor

namespace Go.Proofs.YtpdpnlpepfgknafGreatDoor
open Go.ChangeShapes Go.WideShapes Go.ChangeAt Go.RowKit

/-- a row of n cells of which the first k are filled. -/
def fill (f : Nat → Value) (z : Value) (n k : Nat) : List Value := (List.range n).map fun j => if j < k then f j else z
theorem fill_zero (f : Nat → Value) (z : Value) (n : Nat) : fill f z n 0 = List.replicate n z := by
  apply List.ext_getElem
  · simp [fill]
  · intro j h1 h2; simp [fill]
theorem fill_set (f : Nat → Value) (z : Value) (n k : Nat) : (fill f z n k).set k (f k) = fill f z n (k + 1) := by
  apply List.ext_getElem
  · simp [fill]
  · intro j h1 h2
    simp only [fill, List.getElem_set, List.getElem_map, List.getElem_range]
    by_cases h : k = j
    · subst h; simp
    · rw [if_neg h]
      by_cases h' : j < k
      · rw [if_pos h', if_pos (by omega)]
      · rw [if_neg h', if_neg (by omega)]
theorem fill_get (f : Nat → Value) (z : Value) (n k j : Nat) (hj : j < n) : (fill f z n k)[j]? = some (if j < k then f j else z) := by
  simp [fill, hj]

end Go.Proofs.YtpdpnlpepfgknafGreatDoor

namespace Go.Proofs.YtpdpnlpepfgknafGreatDoor
open Go.ChangeShapes Go.WideShapes Go.ChangeAt Go.RowKit
set_option maxRecDepth 100000

theorem isName_any (x : Int) (w : World) :
    Calls Tryz.prog 48 #[.int .i64 x] w fun e w' => e = .returned (.bool (decide (0 ≤ x ∧ x ≤ 2))) ∧ w = w' := by
  by_cases h0 : x < 0
  · have e : decide (0 ≤ x ∧ x ≤ 2) = false := by simp; omega
    rw [e]
    clear e
    go_enter Tryz.func48, Tryz.ntmps48
    go_wp2
    go_ret
    exact ⟨rfl, rfl⟩
  by_cases h2 : 2 < x
  · have e : decide (0 ≤ x ∧ x ≤ 2) = false := by simp; omega
    rw [e]
    clear e
    go_enter Tryz.func48, Tryz.ntmps48
    go_wp2
    go_ret
    refine ⟨?_, rfl⟩
    show Ending.returned (Value.bool (decide (x ≤ 2))) = _
    rw [decide_eq_false (by omega)]
  have e : decide (0 ≤ x ∧ x ≤ 2) = true := by simp; omega
  rw [e]
  clear e
  go_enter Tryz.func48, Tryz.ntmps48
  go_wp2
  go_ret
  exact ⟨rfl, rfl⟩

theorem swapped_any (n x y : Int) (w : World) :
    Calls Tryz.prog 49 #[.int .i64 n, .int .i64 x, .int .i64 y] w fun e w' => e = .returned (.int .i64 (swapS x y n)) ∧ w = w' := by
  by_cases h1 : n = x
  · have e : swapS x y n = y := by unfold swapS; rw [if_pos h1]
    rw [e]
    clear e
    have h1' : (n == x) = true := by simpa using h1
    clear h1
    go_enter Tryz.func49, Tryz.ntmps49
    go_wp2
    go_ret
    exact ⟨rfl, rfl⟩
  by_cases h2 : n = y
  · have e : swapS x y n = x := by unfold swapS; rw [if_neg h1, if_pos h2]
    rw [e]
    clear e
    have h1' : (n == x) = false := by simpa using h1
    have h2' : (n == y) = true := by simpa using h2
    clear h1 h2
    go_enter Tryz.func49, Tryz.ntmps49
    go_wp2
    go_ret
    exact ⟨rfl, rfl⟩
  have e : swapS x y n = n := by unfold swapS; rw [if_neg h1, if_neg h2]
  rw [e]
  clear e
  have h1' : (n == x) = false := by simpa using h1
  have h2' : (n == y) = false := by simpa using h2
  clear h1 h2
  go_enter Tryz.func49, Tryz.ntmps49
  go_wp2
  go_ret
  exact ⟨rfl, rfl⟩

theorem infoSw : (Tryz.prog.info? 3).map (fun i => (i.zero, i.size, i.bytes)) = some (some (.int .i64 0), 1, 8) := by kernel_rfl
theorem own_readsW {w : World} {base : Nat} {e : TypeId} {g cap n : Nat} {xs : List Value} {t : List Int} (h : w.ownsRow base e 1 (.slice (some ⟨g, 0, none⟩) n cap) n xs) (hn : t.length = n) (hx : ∀ j, j < n → xs[j]? = some (.int .i64 (t.getD j 0))) (hm : n ≤ 13) : Reads w (.slice (some ⟨g, 0, none⟩) n cap) t := by
  rcases Nat.eq_zero_or_pos n with h0 | h0
  · exact Or.inl ⟨_, cap, by rw [h0], List.eq_nil_of_length_eq_zero (by omega)⟩
  · refine Or.inr ⟨g, 0, cap, by rw [hn], (ownsRow_block h).2.1, by omega, ⟨by omega, by have := (ownsRow_block h).2.2; omega⟩, fun k hk => ?_⟩
    rw [Nat.zero_add, h.cellAt k (by omega)]
    exact hx k (by omega)

set_option maxHeartbeats 4000000 in
theorem swap_good (B off cap m : Nat) (t : List Int) (x y : Int) (w : World) (hm : m = t.length) (hm0 : 0 < m) (hm12 : m ≤ 12) (hmc : m ≤ cap) (hB : B < w.heap.size)
    (hc : ∀ k, k < t.length → w.cell? ⟨B, off + k, none⟩ = some (.int .i64 (t.getD k 0)))
    (hC : Calls Tryz.prog 43 #[.slice (some ⟨B, off, none⟩) m cap] w fun e w' => e = .returned .nilIface ∧ w = w')
    (hx : decide (0 ≤ x ∧ x ≤ 2) = true) (hy : decide (0 ≤ y ∧ y ≤ 2) = true) :
    Calls Tryz.prog 22 #[.slice (some ⟨B, off, none⟩) m cap, .int .i64 x, .int .i64 y] w fun e w' => (∃ v, e = .returned (.tuple #[v, .nilIface]) ∧ Reads w' v (t.map (swapS x y))) ∧ Below w.heap.size w w' := by
  obtain ⟨i0, hi, hz0, hz1, hz2⟩ := info_parts infoSw
  have HNx : Hid (∀ W, Calls Tryz.prog 48 #[.int .i64 x] W fun e w' => e = .returned (.bool true) ∧ W = w') := fun W => by have := isName_any x W; rw [hx] at this; exact this
  have HNy : Hid (∀ W, Calls Tryz.prog 48 #[.int .i64 y] W fun e w' => e = .returned (.bool true) ∧ W = w') := fun W => by have := isName_any y W; rw [hy] at this; exact this
  have HC : Hid (Calls Tryz.prog 43 #[.slice (some ⟨B, off, none⟩) m cap] w fun e w' => e = .returned .nilIface ∧ w = w') := hC
  have HCell : Hid (∀ W, Below w.heap.size w W → ∀ k, k < m → W.cell? ⟨B, off + k, none⟩ = some (.int .i64 (t.getD k 0))) := fun W hW k hk => by rw [hW.cell hB]; exact hc k (by omega)
  obtain ⟨f, hf⟩ : ∃ f : Nat → Value, f = fun j => .int .i64 (swapS x y (t.getD j 0)) := ⟨_, rfl⟩
  have HF : Hid (f = fun j => .int .i64 (swapS x y (t.getD j 0))) := hf
  have HM : Hid (m = t.length) := hm
  obtain ⟨G, hG⟩ : ∃ G, G = w.heap.size := ⟨_, rfl⟩
  have HG : Hid (w.heap.size ≤ G) := by unfold Hid; omega
  have HBG : Hid (B < G) := by unfold Hid; omega
  clear hC hc hx hy hf hm hB
  go_enter Tryz.func22, Tryz.ntmps22
  go_wp2_with fail
  go_at_call 43
  refine HC.out.mono ?_
  rintro e w' ⟨rfl, rfl⟩
  go_wp2_with fail
  go_at_call 48
  refine (HNx.out _).mono ?_
  rintro e w' ⟨rfl, rfl⟩
  go_wp2_with fail
  go_at_call 48
  refine (HNy.out _).mono ?_
  rintro e w' ⟨rfl, rfl⟩
  go_wp2_with (first | (at_make; refine wpList_make_full _ rfl _ _ 27 rfl G 3 i0 (.int .i64 0) 1 Tryz.underlying27 hi hz0 hz1 .i64 .i64 _ _ m rfl rfl ?m0 ?m1 ?m2 ?m3 ?m4 ?_))
  case m0 => rfl
  case m1 => rfl
  case m2 => rw [hz2]; omega
  case m3 => unfold maxLen; omega
  case m4 => omega
  intro w1 hown1 hgrow1
  have HO : Hid (w1.ownsRow G 3 1 (.slice (some ⟨G, 0, none⟩) m m) m (fill f (.int .i64 0) m 0) ∧ Below w.heap.size w w1) := by
    refine ⟨?_, ?_⟩
    · rw [fill_zero, ← toList_madeCells_one, hG]
      simpa [Value.cells] using hown1
    · exact (Below.refl _ _).grown hgrow1 (by omega) (fun k hk => by cases hk)
  rw [← hG]
  clear hown1 hgrow1 hG HC HNx HNy
  go_wp2
  go_loopw [31] (fun i wr => ∃ k : Nat, k ≤ m ∧ i = .int .i64 k ∧ wr.ownsRow G 3 1 (.slice (some ⟨G, 0, none⟩) m m) m (fill f (.int .i64 0) m k) ∧ Below w.heap.size w wr) (fun i _ => m - (intOf i).toNat)
  case atStart => exact ⟨0, Nat.zero_le _, rfl, HO.out.1, HO.out.2⟩
  case round =>
    obtain ⟨k, hk, rfl, hown, hbel⟩ := hrel
    by_cases hlt : k < m
    · have hfr : wr.frozen? ⟨G, k, none⟩ = false := hown.frozenAt k
      have hcg : wr.cell? ⟨G, k, none⟩ = some (.int .i64 0) := by rw [hown.cellAt k (by omega), fill_get _ _ _ _ _ hlt, if_neg (by omega)]
      have hcb := HCell.out wr hbel k hlt
      obtain ⟨q, hq⟩ : ∃ q, q = t.getD k 0 := ⟨_, rfl⟩
      rw [← hq] at hcb
      have HR : Hid ((wr.setCell ⟨G, k, none⟩ (.int .i64 (swapS x y q))).ownsRow G 3 1 (.slice (some ⟨G, 0, none⟩) m m) m (fill f (.int .i64 0) m (k + 1)) ∧ Below w.heap.size w (wr.setCell ⟨G, k, none⟩ (.int .i64 (swapS x y q)))) := by
        have := hown.stored k (f k)
        rw [fill_set] at this
        have e : f k = .int .i64 (swapS x y q) := by rw [HF.out, hq]
        rw [e] at this
        exact ⟨this.1, hbel.setCell HG.out _⟩
      clear hown hbel hq
      go_wp2_with fail
      go_at_call 49
      refine (swapped_any _ _ _ _).mono ?_
      rintro e w' ⟨rfl, rfl⟩
      obtain ⟨Q, hQ⟩ : ∃ Q, Q = swapS x y q := ⟨_, rfl⟩
      rw [← hQ] at HR ⊢
      clear hQ
      go_wp2
      go_roundw
      case rel => exact ⟨k + 1, by omega, by go_num, HR.out.1, HR.out.2⟩
      case measure => simp [intOf]; omega
    · obtain rfl : k = m := by omega
      have hR : Reads wr (.slice (some ⟨G, 0, none⟩) k k) (t.map (swapS x y)) := own_readsW hown (by rw [List.length_map]; exact HM.out.symm) (fun j hj => by
        rw [fill_get _ _ _ _ _ hj, if_pos hj, HF.out]
        have hjt : j < t.length := by have := HM.out; omega
        show some (Value.int .i64 (swapS x y (t.getD j 0))) = _
        rw [List.getD_eq_getElem?_getD, List.getD_eq_getElem?_getD, List.getElem?_map, List.getElem?_eq_getElem hjt]; rfl) (by omega)
      have HRd : Hid (Reads wr (.slice (some ⟨G, 0, none⟩) k k) (t.map (swapS x y))) := hR
      have HBw : Hid (Below w.heap.size w wr) := hbel
      clear hown hbel hR
      go_wp2
      go_ret2
      exact ⟨⟨_, rfl, HRd.out⟩, HBw.out⟩

set_option maxHeartbeats 4000000 in
theorem swap_bad (ao : Option Addr) (m cap : Nat) (x y F : Int) (w : World) 
    (hC : Calls Tryz.prog 43 #[.slice ao m cap] w fun e w' => e = .returned (.iface 61 (.int .i64 F)) ∧ w = w') :
    Calls Tryz.prog 22 #[.slice ao m cap, .int .i64 x, .int .i64 y] w fun e w' => e = .returned (.tuple #[.slice none 0 0, .iface 61 (.int .i64 F)]) ∧ w = w' := by
  have HC : Hid (Calls Tryz.prog 43 #[.slice ao m cap] w fun e w' => e = .returned (.iface 61 (.int .i64 F)) ∧ w = w') := hC
  clear hC
  go_enter Tryz.func22, Tryz.ntmps22
  go_wp2_with fail
  go_at_call 43
  refine HC.out.mono ?_
  rintro e w' ⟨rfl, rfl⟩
  go_wp2
  go_ret2
  exact ⟨rfl, rfl⟩

set_option maxHeartbeats 4000000 in
theorem swap_range1 (ao : Option Addr) (m cap : Nat) (x y : Int) (w : World) 
    (hC : Calls Tryz.prog 43 #[.slice ao m cap] w fun e w' => e = .returned .nilIface ∧ w = w') (hx : decide (0 ≤ x ∧ x ≤ 2) = false) :
    Calls Tryz.prog 22 #[.slice ao m cap, .int .i64 x, .int .i64 y] w fun e w' => e = .returned (.tuple #[.slice none 0 0, .iface 61 (.int .i64 1)]) ∧ w = w' := by
  have HC : Hid (Calls Tryz.prog 43 #[.slice ao m cap] w fun e w' => e = .returned .nilIface ∧ w = w') := hC
  have HNx : Hid (∀ W, Calls Tryz.prog 48 #[.int .i64 x] W fun e w' => e = .returned (.bool false) ∧ W = w') := fun W => by have := isName_any x W; rw [hx] at this; exact this
  clear hC hx
  go_enter Tryz.func22, Tryz.ntmps22
  go_wp2_with fail
  go_at_call 43
  refine HC.out.mono ?_
  rintro e w' ⟨rfl, rfl⟩
  go_wp2_with fail
  go_at_call 48
  refine (HNx.out _).mono ?_
  rintro e w' ⟨rfl, rfl⟩
  go_wp2
  go_ret2
  exact ⟨rfl, rfl⟩

set_option maxHeartbeats 4000000 in
theorem swap_range2 (ao : Option Addr) (m cap : Nat) (x y : Int) (w : World) 
    (hC : Calls Tryz.prog 43 #[.slice ao m cap] w fun e w' => e = .returned .nilIface ∧ w = w') (hx : decide (0 ≤ x ∧ x ≤ 2) = true) (hy : decide (0 ≤ y ∧ y ≤ 2) = false) :
    Calls Tryz.prog 22 #[.slice ao m cap, .int .i64 x, .int .i64 y] w fun e w' => e = .returned (.tuple #[.slice none 0 0, .iface 61 (.int .i64 1)]) ∧ w = w' := by
  have HC : Hid (Calls Tryz.prog 43 #[.slice ao m cap] w fun e w' => e = .returned .nilIface ∧ w = w') := hC
  have HNx : Hid (∀ W, Calls Tryz.prog 48 #[.int .i64 x] W fun e w' => e = .returned (.bool true) ∧ W = w') := fun W => by have := isName_any x W; rw [hx] at this; exact this
  have HNy : Hid (∀ W, Calls Tryz.prog 48 #[.int .i64 y] W fun e w' => e = .returned (.bool false) ∧ W = w') := fun W => by have := isName_any y W; rw [hy] at this; exact this
  clear hC hx hy
  go_enter Tryz.func22, Tryz.ntmps22
  go_wp2_with fail
  go_at_call 43
  refine HC.out.mono ?_
  rintro e w' ⟨rfl, rfl⟩
  go_wp2_with fail
  go_at_call 48
  refine (HNx.out _).mono ?_
  rintro e w' ⟨rfl, rfl⟩
  go_wp2_with fail
  go_at_call 48
  refine (HNy.out _).mono ?_
  rintro e w' ⟨rfl, rfl⟩
  go_wp2
  go_ret2
  exact ⟨rfl, rfl⟩

theorem alikeSwap_any (vs : Value) (s : List Int) (x y : Int) (w : World) (hS : Reads w vs s) :
    Calls Tryz.prog 22 #[vs, .int .i64 x, .int .i64 y] w fun e w' => (∃ v, e = .returned (.tuple #[v, errV (swapFault s x y)]) ∧ Reads w' v (swapL s x y)) ∧ Below w.heap.size w w' := by
  have hC := tcheck_any s vs w hS
  obtain ⟨so, sc, hv⟩ : ∃ so sc, vs = .slice so s.length sc := by
    rcases hS with ⟨ao, cap, rfl, rfl⟩ | ⟨b, off, cap, rfl, _⟩
    · exact ⟨ao, cap, rfl⟩
    · exact ⟨_, cap, rfl⟩
  have hnone : ∀ (W : World), Reads W (.slice none 0 0) [] := fun W => Or.inl ⟨none, 0, rfl, rfl⟩
  by_cases hf : faultN s = 0
  · have e0 : errV (faultN s) = .nilIface := by rw [hf]; rfl
    rw [e0] at hC
    by_cases hx : 0 ≤ x ∧ x ≤ 2
    · by_cases hy : 0 ≤ y ∧ y ≤ 2
      · have hz : swapFault s x y = 0 := swap_zero.2 ⟨hf, hx, hy⟩
        have el : swapL s x y = s.map (swapS x y) := by unfold swapL; rw [if_pos hz]
        rw [hz, el]
        obtain ⟨l0, l1, _, _⟩ := fault_zero.1 hf
        rcases hS with ⟨ao, cap, rfl, rfl⟩ | ⟨b, off, cap, rfl, hb, hl, ⟨_, hcp⟩, hcell⟩
        · exact absurd rfl l0
        · exact swap_good b off cap s.length s x y w rfl (by omega) l1 hcp hb hcell hC (decide_eq_true hx) (decide_eq_true hy)
      · have hz : swapFault s x y = 1 := by unfold swapFault; rw [if_pos hf, if_neg (fun h => hy h.2)]
        have el : swapL s x y = [] := by unfold swapL; rw [if_neg (by rw [hz]; decide)]
        rw [hz, el]
        subst hv
        refine (swap_range2 so _ sc x y w hC (decide_eq_true hx) (decide_eq_false hy)).mono ?_
        rintro e w' ⟨rfl, rfl⟩
        exact ⟨⟨_, rfl, hnone _⟩, Below.refl _ _⟩
    · have hz : swapFault s x y = 1 := by unfold swapFault; rw [if_pos hf, if_neg (fun h => hx h.1)]
      have el : swapL s x y = [] := by unfold swapL; rw [if_neg (by rw [hz]; decide)]
      rw [hz, el]
      subst hv
      refine (swap_range1 so _ sc x y w hC (decide_eq_false hx)).mono ?_
      rintro e w' ⟨rfl, rfl⟩
      exact ⟨⟨_, rfl, hnone _⟩, Below.refl _ _⟩
  · have hz : swapFault s x y = faultN s := by unfold swapFault; rw [if_neg hf]
    have el : swapL s x y = [] := by unfold swapL; rw [if_neg (by rw [hz]; exact hf)]
    have e0 : errV (faultN s) = .iface 61 (.int .i64 (faultN s)) := by unfold errV; rw [if_neg hf]
    rw [hz, el, e0]
    rw [e0] at hC
    subst hv
    refine (swap_bad so _ sc x y (faultN s) w hC).mono ?_
    rintro e w' ⟨rfl, rfl⟩
    exact ⟨⟨_, rfl, hnone _⟩, Below.refl _ _⟩
end Go.Proofs.YtpdpnlpepfgknafGreatDoor
