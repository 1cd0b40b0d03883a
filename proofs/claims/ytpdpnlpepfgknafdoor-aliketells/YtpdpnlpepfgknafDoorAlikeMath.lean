/-
  Plain facts on terms that are the same, part, or apart, whatever the world, and on names that are swapped (chapter 12). No program is read here.
-/
import Derived.Test.YtpdpnlpepfgknafDoorModelFacts
namespace Go.Proofs.YtpdpnlpepfgknafDoor
open Go.RowKit

def sameTo (s t : List Int) (k : Nat) : Bool := (List.range k).all fun f => liesB s f == liesB t f
def partTo (s t : List Int) (k : Nat) : Bool := (List.range k).all fun f => !liesB s f || liesB t f
def apartTo (s t : List Int) (k : Nat) : Bool := (List.range k).all fun f => !(liesB s f && liesB t f)
def alikeFault (s t : List Int) : Int := if faultN s = 0 then faultN t else faultN s
def sameT (s t : List Int) : Bool := if alikeFault s t = 0 then sameTo s t 8 else false
def partT (s t : List Int) : Bool := if alikeFault s t = 0 then partTo s t 8 else false
def apartT (s t : List Int) : Bool := if alikeFault s t = 0 then apartTo s t 8 else false
def swapS (x y n : Int) : Int := if n = x then y else if n = y then x else n
def swapFault (s : List Int) (x y : Int) : Int := if faultN s = 0 then (if (0 ≤ x ∧ x ≤ 2) ∧ 0 ≤ y ∧ y ≤ 2 then 0 else 1) else faultN s
def swapL (s : List Int) (x y : Int) : List Int := if swapFault s x y = 0 then s.map (swapS x y) else []

theorem alike_zero {s t : List Int} : alikeFault s t = 0 ↔ faultN s = 0 ∧ faultN t = 0 := by
  unfold alikeFault
  by_cases h : faultN s = 0
  · rw [if_pos h]; exact ⟨fun g => ⟨h, g⟩, fun g => g.2⟩
  · rw [if_neg h]; exact ⟨fun g => absurd g h, fun g => absurd g.1 h⟩
theorem sameTo_step (s t : List Int) (k : Nat) : sameTo s t (k + 1) = (sameTo s t k && (liesB s k == liesB t k)) := by unfold sameTo; rw [List.range_succ, List.all_append]; simp
theorem partTo_step (s t : List Int) (k : Nat) : partTo s t (k + 1) = (partTo s t k && (!liesB s k || liesB t k)) := by unfold partTo; rw [List.range_succ, List.all_append]; simp
theorem apartTo_step (s t : List Int) (k : Nat) : apartTo s t (k + 1) = (apartTo s t k && !(liesB s k && liesB t k)) := by unfold apartTo; rw [List.range_succ, List.all_append]; simp
theorem sameTo_iff {s t : List Int} {k : Nat} : sameTo s t k = true ↔ ∀ f, f < k → liesB s f = liesB t f := by
  unfold sameTo; rw [List.all_eq_true]; simp
theorem partTo_iff {s t : List Int} {k : Nat} : partTo s t k = true ↔ ∀ f, f < k → liesB s f = true → liesB t f = true := by
  unfold partTo; rw [List.all_eq_true]; simp
  constructor
  · intro h f hf h1
    rcases h f hf with h2 | h2
    · rw [h1] at h2; exact absurd h2 (by decide)
    · exact h2
  · intro h f hf
    cases e : liesB s f
    · exact Or.inl rfl
    · exact Or.inr (h f hf e)
theorem apartTo_iff {s t : List Int} {k : Nat} : apartTo s t k = true ↔ ∀ f, f < k → liesB s f = true → liesB t f = false := by
  unfold apartTo; rw [List.all_eq_true]; simp
  constructor
  · intro h f hf h1
    rcases h f hf with h2 | h2
    · rw [h1] at h2; exact absurd h2 (by decide)
    · exact h2
  · intro h f hf
    cases e : liesB s f
    · exact Or.inl rfl
    · exact Or.inr (h f hf e)
theorem same_both (s t : List Int) : sameTo s t 8 = (partTo s t 8 && partTo t s 8) := by
  rw [Bool.eq_iff_iff, Bool.and_eq_true, sameTo_iff, partTo_iff, partTo_iff]
  constructor
  · intro h; exact ⟨fun f hf h1 => by rw [← h f hf]; exact h1, fun f hf h1 => by rw [h f hf]; exact h1⟩
  · rintro ⟨h1, h2⟩ f hf
    cases e : liesB s f
    · cases e2 : liesB t f
      · rfl
      · rw [h2 f hf e2] at e; exact absurd e (by decide)
    · rw [h1 f hf e]
theorem eq_of_has {u a b : Int} (ha : okB u a = true) (hb : okB u b = true) (h : ∀ i : Nat, (i : Int) < u → hasB a i = hasB b i) : a = b := by
  have hu := (okB_lt ha).1
  have e : ∀ k : Nat, (k : Int) ≤ u → sumTo a k = sumTo b k := by
    intro k
    induction k with
    | zero => intro _; rfl
    | succ k ih => intro hk; unfold sumTo; rw [ih (by omega), h k (by omega)]
  rw [← sumTo_all ha, ← sumTo_all hb, e u.toNat (by omega)]
theorem same_world {s t : List Int} (hs : faultN s = 0) (ht : faultN t = 0) (h : sameTo s t 8 = true) {w : Wd} (hw : w.ok = true) : w.val s = w.val t := by
  obtain ⟨n, hn⟩ := one_term hs
  obtain ⟨m, hm⟩ := one_term ht
  refine eq_of_has (ok_val hw s) (ok_val hw t) fun i hi => ?_
  rw [has_field hw i hi n s hn, has_field hw i hi m t hm]
  exact sameTo_iff.1 h _ (field_lt w i)
theorem part_world {s t : List Int} (hs : faultN s = 0) (ht : faultN t = 0) (h : partTo s t 8 = true) {w : Wd} (hw : w.ok = true) : doN 7 w.u (w.val s) (w.val t) = 0 := by
  obtain ⟨n, hn⟩ := one_term hs
  obtain ⟨m, hm⟩ := one_term ht
  have hu := ok_u hw
  refine eq_of_has (ok_do (ok_val hw s) (ok_val hw t)) (ok_zero hu.1 hu.2) fun i hi => ?_
  rw [has_do (by decide) (by decide) (ok_val hw s) (ok_val hw t) i hi, has_none, has_field hw i hi n s hn, has_field hw i hi m t hm]
  have := partTo_iff.1 h _ (field_lt w i)
  show (liesB s (w.field i) && !liesB t (w.field i)) = false
  cases e : liesB s (w.field i)
  · rfl
  · rw [this e]; rfl
theorem apart_world {s t : List Int} (hs : faultN s = 0) (ht : faultN t = 0) (h : apartTo s t 8 = true) {w : Wd} (hw : w.ok = true) : doN 6 w.u (w.val s) (w.val t) = 0 := by
  obtain ⟨n, hn⟩ := one_term hs
  obtain ⟨m, hm⟩ := one_term ht
  have hu := ok_u hw
  refine eq_of_has (ok_do (ok_val hw s) (ok_val hw t)) (ok_zero hu.1 hu.2) fun i hi => ?_
  rw [has_do (by decide) (by decide) (ok_val hw s) (ok_val hw t) i hi, has_none, has_field hw i hi n s hn, has_field hw i hi m t hm]
  have := apartTo_iff.1 h _ (field_lt w i)
  show (liesB s (w.field i) && liesB t (w.field i)) = false
  cases e : liesB s (w.field i)
  · rfl
  · rw [this e]; rfl

/-- the formula that two terms are the same. -/
def sameA (s t : List Int) : List At := [⟨2, s, t, 0⟩]
theorem sameA_good {s t : List Int} (hs : faultN s = 0) (ht : faultN t = 0) : formFault (sameA s t) [0] = 0 := by
  refine formFault_zero.2 ⟨⟨by simp [sameA], by simp [sameA]⟩, ⟨by simp, by simp⟩, fun a ha => ?_, by simp [sameA]; decide, by decide⟩
  obtain rfl : a = ⟨2, s, t, 0⟩ := by simpa [sameA] using ha
  show atomFault 2 s t 0 = 0
  have h2 : secondFault 2 t = 0 := by unfold secondFault; rw [if_pos (by decide)]; exact ht
  unfold atomFault
  rw [if_pos (by decide), if_pos hs, if_pos h2, if_pos (by decide)]
theorem sameA_is {s t : List Int} (hs : faultN s = 0) (ht : faultN t = 0) {w : Wd} (hw : w.ok = true) : w.formIs (sameA s t) [0] = decide (w.val s = w.val t) := by
  unfold Wd.formIs
  rw [if_pos (wdForm_zero.2 ⟨sameA_good hs ht, hw⟩)]
  rfl
theorem sameA_cubes : ∃ L, cubesC ([0] ++ [12]) = some L := ⟨_, rfl⟩
/-- it is sure of one thing just if they are the same. -/
theorem sure_same {s t : List Int} (hs : faultN s = 0) (ht : faultN t = 0) : sureB (sameA s t) [0] 1 = sameTo s t 8 ∧ sureFault (sameA s t) [0] 1 = 0 := by
  have hf := sameA_good hs ht
  have hn : negFault (sameA s t) [0] = 0 := by unfold negFault; rw [if_pos hf, if_neg (by decide)]
  obtain ⟨_, h19, hf'⟩ := neg_good hn
  have ea : againstFault (sameA s t) [0] 1 = modelFault (sameA s t) ([0] ++ [12]) 1 := by unfold againstFault; rw [if_pos hn]
  obtain ⟨L, hL⟩ := sameA_cubes
  have h05 : modelFault (sameA s t) ([0] ++ [12]) 1 = 0 ∨ modelFault (sameA s t) ([0] ++ [12]) 1 = 5 := by
    unfold modelFault
    rw [if_pos hf', hL]
    simp only
    rw [if_pos (by decide)]
    by_cases h : (modelL (sameA s t) (1 : Int).toNat L).isSome = true
    · rw [if_pos h]; exact Or.inl rfl
    · rw [if_neg h]; exact Or.inr rfl
  have key : ∀ w : Wd, w.ok = true → w.formIs (sameA s t) ([0] ++ [12]) = !decide (w.val s = w.val t) := fun w hw => by
    rw [formIs_no hf h19 hw, sameA_is hs ht hw]
  rcases h05 with h | h
  · obtain ⟨_, g2, _, g4⟩ := model_zero h
    rw [key _ g2] at g4
    have hne : sameTo s t 8 = false := by
      cases e : sameTo s t 8
      · rfl
      · rw [same_world hs ht e g2] at g4; simp at g4
    have es : sureB (sameA s t) [0] 1 = false := by unfold sureB; exact decide_eq_false fun g => by rw [ea, h] at g; exact absurd g.1 (by decide)
    exact ⟨by rw [es, hne], by unfold sureFault; rw [if_neg (by rw [es]; decide), ea, h]⟩
  · have hes : sameTo s t 8 = true := by
      rw [sameTo_iff]
      intro f hf8
      have h5 := model_five h hf' (oneW_ok f) (oneW_u f)
      rw [key _ (oneW_ok f), oneW_val, oneW_val] at h5
      have : oneB (liesB s f) = oneB (liesB t f) := by simpa using h5
      cases e1 : liesB s f <;> cases e2 : liesB t f <;> rw [e1, e2] at this <;> first | rfl | exact absurd this (by decide)
    have es : sureB (sameA s t) [0] 1 = true := by unfold sureB; exact decide_eq_true ⟨by rw [ea]; exact h, hf⟩
    exact ⟨by rw [es, hes], by unfold sureFault; rw [if_pos es]⟩

/-! ### swapped -/
theorem swapS_swap (x y n : Int) : swapS x y (swapS x y n) = n := by
  unfold swapS
  by_cases h1 : n = x
  · subst h1
    rw [if_pos rfl]
    by_cases h2 : y = n
    · rw [if_pos h2]; exact h2
    · rw [if_neg h2, if_pos rfl]
  · rw [if_neg h1]
    by_cases h2 : n = y
    · subst h2; rw [if_pos rfl, if_pos rfl]
    · rw [if_neg h2, if_neg h1, if_neg h2]
theorem swap_range {x y : Int} (hx : 0 ≤ x ∧ x ≤ 2) (hy : 0 ≤ y ∧ y ≤ 2) (n : Int) : takesN (swapS x y n) = takesN n ∧ signB (swapS x y n) = signB n := by
  unfold swapS
  by_cases h1 : n = x
  · rw [if_pos h1, takes5 y (by omega), takes5 n (by omega)]
    refine ⟨rfl, ?_⟩
    unfold signB
    rw [decide_eq_true (by omega : 0 ≤ y ∧ y ≤ 8), decide_eq_true (by omega : 0 ≤ n ∧ n ≤ 8)]
  · rw [if_neg h1]
    by_cases h2 : n = y
    · rw [if_pos h2, takes5 x (by omega), takes5 n (by omega)]
      refine ⟨rfl, ?_⟩
      unfold signB
      rw [decide_eq_true (by omega : 0 ≤ x ∧ x ≤ 8), decide_eq_true (by omega : 0 ≤ n ∧ n ≤ 8)]
    · rw [if_neg h2]; exact ⟨rfl, rfl⟩
theorem cnt_map {g : Int → Int} (h : ∀ n, takesN (g n) = takesN n) : ∀ (t : List Int) (n : Int), cnt (t.map g) n = cnt t n := by
  intro t
  induction t with
  | nil => intro n; rfl
  | cons s t ih => intro n; simp only [List.map_cons, cnt]; rw [h s, ih]
theorem fault_map {g : Int → Int} (h : ∀ n, takesN (g n) = takesN n ∧ signB (g n) = signB n) (t : List Int) : faultN (t.map g) = faultN t := by
  unfold faultN
  rw [List.length_map, cnt_map fun n => (h n).1, List.all_map]
  have e : (signB ∘ g) = signB := by funext n; exact (h n).2
  rw [e]
theorem swap_zero {s : List Int} {x y : Int} : swapFault s x y = 0 ↔ faultN s = 0 ∧ (0 ≤ x ∧ x ≤ 2) ∧ 0 ≤ y ∧ y ≤ 2 := by
  unfold swapFault
  by_cases h : faultN s = 0
  · rw [if_pos h]
    by_cases g : (0 ≤ x ∧ x ≤ 2) ∧ 0 ≤ y ∧ y ≤ 2
    · rw [if_pos g]; exact ⟨fun _ => ⟨h, g⟩, fun _ => rfl⟩
    · rw [if_neg g]; exact ⟨fun e => absurd e (by decide), fun e => absurd e.2 g⟩
  · rw [if_neg h]; exact ⟨fun e => absurd e h, fun e => absurd e.1 h⟩
/-- swapped twice it is itself. -/
theorem swap_twice {s : List Int} {x y : Int} (h : swapFault s x y = 0) : swapFault (swapL s x y) x y = 0 ∧ swapL (swapL s x y) x y = s := by
  obtain ⟨hs, hx, hy⟩ := swap_zero.1 h
  have e : swapL s x y = s.map (swapS x y) := by unfold swapL; rw [if_pos h]
  have h2 : swapFault (swapL s x y) x y = 0 := by
    rw [e]
    exact swap_zero.2 ⟨by rw [fault_map (swap_range hx hy)]; exact hs, hx, hy⟩
  refine ⟨h2, ?_⟩
  unfold swapL at h2 ⊢
  rw [if_pos h] at h2 ⊢
  rw [if_pos h2, List.map_map]
  have : (swapS x y ∘ swapS x y) = id := by funext n; exact swapS_swap x y n
  rw [this, List.map_id]

/-! ### itself -/
theorem lies_all (f : Nat) : liesB [4] f = true := by
  have h : ∀ f, liesB [4] f = liesB [4] (f % 8) := fun f => by
    have h1 : (oneW f).val [4] = (oneW (f % 8)).val [4] := by
      rw [val_leaf _ 4 (by decide), val_leaf _ 4 (by decide)]; rfl
    unfold liesB; rw [h1]
  have h8 : ∀ f, f < 8 → liesB [4] f = true := by decide
  rw [h f]; exact h8 _ (by omega)
theorem part_all (t : List Int) : partTo t [4] 8 = true := partTo_iff.2 fun f _ _ => lies_all f
theorem same_self (t : List Int) : sameTo t t 8 = true := sameTo_iff.2 fun _ _ => rfl
theorem not_good {t : List Int} (ht : faultN t = 0) (hl : t.length ≤ 11) : faultN (t ++ [8]) = 0 := by
  obtain ⟨h1, h2, h3, h4⟩ := fault_zero.1 ht
  refine fault_zero.2 ⟨by simp, by simp; omega, by rw [List.all_append, h3]; rfl, ?_⟩
  rw [cnt_append, h4]; rfl
theorem apart_not {t : List Int} (ht : faultN t = 0) : apartTo t (t ++ [8]) 8 = true := by
  refine apartTo_iff.2 fun f _ h => ?_
  obtain ⟨n, hn⟩ := one_term ht
  have := has_opp (oneW_ok f) hn 0 (by rw [oneW_u]; decide)
  unfold liesB at h ⊢
  rw [this, h]; rfl
end Go.Proofs.YtpdpnlpepfgknafDoor
