/-
  Plain facts on other names: terms, formulas and worlds with names changed (chapter 16). No program is read here.
-/
import Derived.Test.YteknlcachfhfkaiDoorFormsMath
namespace Go.Proofs.YteknlcachfhfkaiDoor
open Go.RowKit

/-- has a list each number from 0 on just once? -/
def onceB (l : List Int) : Bool := (List.range l.length).all fun i => decide (l.count (i : Int) = 1)
def listP (p : Nat → Int) : List Int := [p 0, p 1, p 2]
def renS (p : Nat → Int) (s : Int) : Int := if s < 3 then p s.toNat else s
def renT (p : Nat → Int) (t : List Int) : List Int := t.map (renS p)
def renA (p : Nat → Int) (a : At) : At := ⟨a.k, renT p a.s, renT p a.t, a.n⟩
def renL (p : Nat → Int) (ats : List At) : List At := ats.map (renA p)
/-- what the name that is now j had. -/
def pickN (p : Nat → Int) (w : Wd) (j : Int) : Int := if p 0 = j then w.a else if p 1 = j then w.b else w.c
def turnW (p : Nat → Int) (w : Wd) : Wd := ⟨w.u, pickN p w 0, pickN p w 1, pickN p w 2⟩
def namesFault (ats : List At) (c : List Int) (p : Nat → Int) : Int := if formFault ats c = 0 then (if onceB (listP p) = true then 0 else 1) else formFault ats c
def turnFault (p : Nat → Int) (w : Wd) : Int := if onceB (listP p) = true then (if w.ok = true then 0 else 1) else 1

theorem perm_six {p : Nat → Int} (h : onceB (listP p) = true) : (p 0 = 0 ∧ p 1 = 1 ∧ p 2 = 2) ∨ (p 0 = 0 ∧ p 1 = 2 ∧ p 2 = 1) ∨ (p 0 = 1 ∧ p 1 = 0 ∧ p 2 = 2) ∨ (p 0 = 1 ∧ p 1 = 2 ∧ p 2 = 0) ∨ (p 0 = 2 ∧ p 1 = 0 ∧ p 2 = 1) ∨ (p 0 = 2 ∧ p 1 = 1 ∧ p 2 = 0) := by
  have key : ∀ x : Int, x = 0 ∨ x = 1 ∨ x = 2 ∨ ((x == 0) = false ∧ (x == 1) = false ∧ (x == 2) = false) := fun x => by
    by_cases h0 : x = 0
    · exact Or.inl h0
    · by_cases h1 : x = 1
      · exact Or.inr (Or.inl h1)
      · by_cases h2 : x = 2
        · exact Or.inr (Or.inr (Or.inl h2))
        · exact Or.inr (Or.inr (Or.inr ⟨by simp [h0], by simp [h1], by simp [h2]⟩))
  unfold onceB listP at h
  generalize p 0 = a at h ⊢
  generalize p 1 = b at h ⊢
  generalize p 2 = c at h ⊢
  have c0 : [a, b, c].count 0 = 1 := of_decide_eq_true (List.all_eq_true.1 h 0 (by simp))
  have c1 : [a, b, c].count 1 = 1 := of_decide_eq_true (List.all_eq_true.1 h 1 (by simp))
  have c2 : [a, b, c].count 2 = 1 := of_decide_eq_true (List.all_eq_true.1 h 2 (by simp))
  clear h
  rcases key a with rfl | rfl | rfl | ⟨a0, a1, a2⟩ <;> rcases key b with rfl | rfl | rfl | ⟨b0, b1, b2⟩ <;> rcases key c with rfl | rfl | rfl | ⟨d0, d1, d2⟩ <;> simp_all [List.count_cons]
theorem ren_low {p : Nat → Int} (h : onceB (listP p) = true) {i : Nat} (hi : i < 3) : 0 ≤ p i ∧ p i ≤ 2 := by
  rcases (by omega : i = 0 ∨ i = 1 ∨ i = 2) with rfl | rfl | rfl <;> rcases perm_six h with ⟨a, b, c⟩ | ⟨a, b, c⟩ | ⟨a, b, c⟩ | ⟨a, b, c⟩ | ⟨a, b, c⟩ | ⟨a, b, c⟩ <;> omega
theorem ren_name {p : Nat → Int} (h : onceB (listP p) = true) (w : Wd) {i : Nat} (hi : i < 3) : (turnW p w).name (p i) = w.name (i : Int) := by
  rcases (by omega : i = 0 ∨ i = 1 ∨ i = 2) with rfl | rfl | rfl <;> rcases perm_six h with ⟨a, b, c⟩ | ⟨a, b, c⟩ | ⟨a, b, c⟩ | ⟨a, b, c⟩ | ⟨a, b, c⟩ | ⟨a, b, c⟩ <;> simp [turnW, pickN, Wd.name, a, b, c]
theorem ren_takes {p : Nat → Int} (h : onceB (listP p) = true) {s : Int} (h0 : 0 ≤ s) : takesN (renS p s) = takesN s := by
  unfold renS
  by_cases h3 : s < 3
  · rw [if_pos h3, takes5 s (by omega), takes5 _ (by have := (ren_low h (i := s.toNat) (by omega)).2; omega)]
  · rw [if_neg h3]
theorem ren_made {p : Nat → Int} (h : onceB (listP p) = true) (w : Wd) {s : Int} (h0 : 0 ≤ s) (l : List Int) : (turnW p w).made (renS p s) l = w.made s l := by
  unfold renS
  by_cases h3 : s < 3
  · have hl := ren_low h (i := s.toNat) (by omega)
    rw [if_pos h3]
    unfold Wd.made
    rw [if_pos (by omega), if_pos h3, ren_name h w (by omega)]
    congr 1
    omega
  · rw [if_neg h3]
    unfold Wd.made
    rw [if_neg h3, if_neg h3]
    rfl
theorem ren_step {p : Nat → Int} (h : onceB (listP p) = true) (w : Wd) {s : Int} (h0 : 0 ≤ s) (l : List Int) : (turnW p w).step l (renS p s) = w.step l s := by
  unfold Wd.step restN
  rw [ren_takes h h0, ren_made h w h0]
theorem ren_pile {p : Nat → Int} (h : onceB (listP p) = true) (w : Wd) : ∀ (t : List Int), (∀ s ∈ t, 0 ≤ s) → ∀ l, (turnW p w).pile (renT p t) l = w.pile t l := by
  intro t
  induction t with
  | nil => intro _ l; rfl
  | cons s t ih =>
    intro hs l
    have e1 : (turnW p w).pile (renT p (s :: t)) l = (turnW p w).pile (renT p t) ((turnW p w).step l (renS p s)) := rfl
    have e2 : w.pile (s :: t) l = w.pile t (w.step l s) := rfl
    rw [e1, e2, ren_step h w (hs s List.mem_cons_self), ih fun x hx => hs x (List.mem_cons_of_mem _ hx)]
theorem ren_val {p : Nat → Int} (h : onceB (listP p) = true) (w : Wd) {t : List Int} (hs : ∀ s ∈ t, 0 ≤ s) : (turnW p w).val (renT p t) = w.val t := by
  unfold Wd.val
  rw [ren_pile h w t hs]
theorem signs_pos {t : List Int} (h : t.all signB = true) : ∀ s ∈ t, 0 ≤ s := fun s hs => (signB_iff.1 (List.all_eq_true.1 h s hs)).1
theorem ren_cnt {p : Nat → Int} (h : onceB (listP p) = true) : ∀ (t : List Int), (∀ s ∈ t, 0 ≤ s) → ∀ n, cnt (renT p t) n = cnt t n := by
  intro t
  induction t with
  | nil => intro _ n; rfl
  | cons s t ih =>
    intro hs n
    show (if n < takesN (renS p s) then none else cnt (renT p t) (n + 1 - takesN (renS p s))) = (if n < takesN s then none else cnt t (n + 1 - takesN s))
    rw [ren_takes h (hs s List.mem_cons_self), ih fun x hx => hs x (List.mem_cons_of_mem _ hx)]
theorem ren_sign {p : Nat → Int} (h : onceB (listP p) = true) {s : Int} (hs : signB s = true) : signB (renS p s) = true := by
  obtain ⟨h0, h8⟩ := signB_iff.1 hs
  unfold renS
  by_cases h3 : s < 3
  · have hl := ren_low h (i := s.toNat) (by omega)
    rw [if_pos h3]; exact signB_iff.2 ⟨hl.1, by omega⟩
  · rw [if_neg h3]; exact hs
theorem ren_fault {p : Nat → Int} (h : onceB (listP p) = true) {t : List Int} (ht : faultN t = 0) : faultN (renT p t) = 0 := by
  obtain ⟨h1, h2, h3, h4⟩ := fault_zero.1 ht
  have hl : (renT p t).length = t.length := by unfold renT; simp
  refine fault_zero.2 ⟨by rw [hl]; exact h1, by rw [hl]; exact h2, ?_, by rw [ren_cnt h t (signs_pos h3)]; exact h4⟩
  rw [List.all_eq_true]
  intro x hx
  unfold renT at hx
  obtain ⟨s, hs, rfl⟩ := List.mem_map.1 hx
  exact ren_sign h (List.all_eq_true.1 h3 s hs)
theorem ren_atom {p : Nat → Int} (h : onceB (listP p) = true) {a : At} (ha : a.fault = 0) : (renA p a).fault = 0 := by
  obtain ⟨hk, hs, ht, hn⟩ := atomFault_zero.1 ha
  refine atomFault_zero.2 ⟨hk, ren_fault h hs, ?_, hn⟩
  unfold secondFault at ht ⊢
  show (if secondB a.k = true then faultN (renT p a.t) else if 0 < (renT p a.t).length then 3 else 0) = 0
  by_cases hb : secondB a.k = true
  · rw [if_pos hb] at ht ⊢; exact ren_fault h ht
  · rw [if_neg hb] at ht ⊢
    have hl : (renT p a.t).length = a.t.length := by unfold renT; simp
    rw [hl]; exact ht
theorem ren_form {p : Nat → Int} (h : onceB (listP p) = true) {ats : List At} {c : List Int} (hf : formFault ats c = 0) : formFault (renL p ats) c = 0 := by
  obtain ⟨h1, h2, h3, h4, h5⟩ := formFault_zero.1 hf
  have hl : (renL p ats).length = ats.length := by unfold renL; simp
  refine formFault_zero.2 ⟨by rw [hl]; exact h1, h2, fun a ha => ?_, by rw [hl]; exact h4, h5⟩
  unfold renL at ha
  obtain ⟨b, hb, rfl⟩ := List.mem_map.1 ha
  exact ren_atom h (h3 b hb)
theorem turnW_ok {p : Nat → Int} (h : onceB (listP p) = true) (w : Wd) : (turnW p w).ok = w.ok := by
  rw [Bool.eq_iff_iff, Wd.ok_iff, Wd.ok_iff]
  rcases perm_six h with ⟨a, b, c⟩ | ⟨a, b, c⟩ | ⟨a, b, c⟩ | ⟨a, b, c⟩ | ⟨a, b, c⟩ | ⟨a, b, c⟩
  · rw [show turnW p w = ⟨w.u, w.a, w.b, w.c⟩ by unfold turnW pickN; rw [a, b]; rfl]
  · rw [show turnW p w = ⟨w.u, w.a, w.c, w.b⟩ by unfold turnW pickN; rw [a, b]; rfl]
    exact ⟨fun ⟨x, y, z⟩ => ⟨x, z, y⟩, fun ⟨x, y, z⟩ => ⟨x, z, y⟩⟩
  · rw [show turnW p w = ⟨w.u, w.b, w.a, w.c⟩ by unfold turnW pickN; rw [a, b]; rfl]
    exact ⟨fun ⟨x, y, z⟩ => ⟨y, x, z⟩, fun ⟨x, y, z⟩ => ⟨y, x, z⟩⟩
  · rw [show turnW p w = ⟨w.u, w.c, w.a, w.b⟩ by unfold turnW pickN; rw [a, b]; rfl]
    exact ⟨fun ⟨x, y, z⟩ => ⟨y, z, x⟩, fun ⟨x, y, z⟩ => ⟨z, x, y⟩⟩
  · rw [show turnW p w = ⟨w.u, w.b, w.c, w.a⟩ by unfold turnW pickN; rw [a, b]; rfl]
    exact ⟨fun ⟨x, y, z⟩ => ⟨z, x, y⟩, fun ⟨x, y, z⟩ => ⟨y, z, x⟩⟩
  · rw [show turnW p w = ⟨w.u, w.c, w.b, w.a⟩ by unfold turnW pickN; rw [a, b]; rfl]
    exact ⟨fun ⟨x, y, z⟩ => ⟨z, y, x⟩, fun ⟨x, y, z⟩ => ⟨z, y, x⟩⟩
theorem ren_held {p : Nat → Int} (h : onceB (listP p) = true) (w : Wd) {ats : List At} {c : List Int} (hf : formFault ats c = 0) : (turnW p w).heldL (renL p ats) = w.heldL ats := by
  obtain ⟨_, _, h3, _⟩ := formFault_zero.1 hf
  unfold Wd.heldL renL
  rw [List.map_map]
  refine List.map_congr_left fun a ha => ?_
  obtain ⟨hk, hs, ht, hn⟩ := atomFault_zero.1 (h3 a ha)
  show (turnW p w).holds a.k (renT p a.s) (renT p a.t) a.n = w.holds a.k a.s a.t a.n
  unfold Wd.holds Wd.snd
  rw [ren_val h w (signs_pos (fault_zero.1 hs).2.2.1)]
  by_cases hb : secondB a.k = true
  · rw [if_pos hb, if_pos hb]
    unfold secondFault at ht
    rw [if_pos hb] at ht
    rw [ren_val h w (signs_pos (fault_zero.1 ht).2.2.1)]
  · rw [if_neg hb, if_neg hb]
/-- a formula with other names holds in the world with these just if it did. -/
theorem ren_is {p : Nat → Int} (h : onceB (listP p) = true) (w : Wd) {ats : List At} {c : List Int} (hf : formFault ats c = 0) : (turnW p w).formIs (renL p ats) c = w.formIs ats c := by
  unfold Wd.formIs
  by_cases hok : w.ok = true
  · rw [if_pos (wdForm_zero.2 ⟨hf, hok⟩), if_pos (wdForm_zero.2 ⟨ren_form h hf, by rw [turnW_ok h]; exact hok⟩), ren_held h w hf]
  · rw [if_neg (fun g => hok (wdForm_zero.1 g).2), if_neg (fun g => hok (by rw [← turnW_ok h]; exact (wdForm_zero.1 g).2))]
end Go.Proofs.YteknlcachfhfkaiDoor
