/-
  Plain facts on where a formula does not hold, whether it is sure, and on a formula that a name has at least so many things (chapter 9). No program is read here.
  Plain facts on some formulas together: whether they are open, and which are enough not to be (chapter 13). No program is read here.
  Plain facts on other names: terms, formulas and worlds with names changed (chapter 16). No program is read here.
  Plain facts on other things: a world with things changed has as many in each field (chapter 16). No program is read here.
-/
import Derived.Test.YteknlcachfhfkahDoorLibTU4
namespace Go.Proofs.YteknlcachfhfkahDoor
open Go.RowKit

def againstFault (ats : List At) (c : List Int) (u : Int) : Int := if negFault ats c = 0 then modelFault ats (c ++ [12]) u else negFault ats c
def againstW (ats : List At) (c : List Int) (u : Int) : Wd := if negFault ats c = 0 then modelW ats (c ++ [12]) u else ⟨0, 0, 0, 0⟩
def sureB (ats : List At) (c : List Int) (u : Int) : Bool := decide (againstFault ats c u = 5 ∧ formFault ats c = 0)
def sureFault (ats : List At) (c : List Int) (u : Int) : Int := if sureB ats c u = true then 0 else againstFault ats c u
theorem neg_good {ats : List At} {c : List Int} (h : negFault ats c = 0) : formFault ats c = 0 ∧ c.length ≤ 19 ∧ formFault ats (c ++ [12]) = 0 := by
  unfold negFault at h
  by_cases hf : formFault ats c = 0
  · rw [if_pos hf] at h
    by_cases h19 : 19 < c.length
    · rw [if_pos h19] at h; exact absurd h (by decide)
    · exact ⟨hf, by omega, good_no hf (by omega)⟩
  · rw [if_neg hf] at h; exact absurd h hf
theorem neg_five {ats : List At} {c : List Int} (h : negFault ats c = 5) : formFault ats c = 5 := by
  unfold negFault at h
  by_cases hf : formFault ats c = 0
  · rw [if_pos hf] at h
    by_cases h19 : 19 < c.length
    · rw [if_pos h19] at h; exact absurd h (by decide)
    · rw [if_neg h19] at h; exact absurd h (by decide)
  · rw [if_neg hf] at h; exact h
/-- the formula that a name has at least n things. -/
def manyA (name n : Int) : List At := [⟨3, [name], [], n⟩]
/-- what a world has of a name. -/
def Wd.has (w : Wd) : Nat → Int
  | 0 => w.a
  | 1 => w.b
  | _ => w.c
theorem many_facts : ∀ name : Nat, name < 3 → ∀ n : Nat, n < 6 → modelFault (manyA (name : Int) ((n : Int) + 1)) [0] ((n : Int) + 1) = 0 ∧ (modelW (manyA (name : Int) ((n : Int) + 1)) [0] ((n : Int) + 1)).has name + 1 = pw (n + 1) ∧ modelFault (manyA (name : Int) ((n : Int) + 1)) [0] (n : Int) = 5 ∧ sureB (manyA (name : Int) ((n : Int) + 1)) [0] (n : Int) = false ∧ sureFault (manyA (name : Int) ((n : Int) + 1)) [0] (n : Int) = 0 := by decide +kernel
theorem model_zero {ats : List At} {c : List Int} {u : Int} (h : modelFault ats c u = 0) : formFault ats c = 0 ∧ (modelW ats c u).ok = true ∧ (modelW ats c u).u = u ∧ (modelW ats c u).formIs ats c = true := by
  have h0 := h
  unfold modelFault at h
  by_cases hf : formFault ats c = 0
  · rw [if_pos hf] at h
    cases hL : cubesC c with
    | none => rw [hL] at h; have h : (4 : Int) = 0 := h; omega
    | some L =>
      rw [hL] at h
      have h : (if 0 ≤ u ∧ u ≤ 6 then (if (modelL ats u.toNat L).isSome = true then (0 : Int) else 5) else 1) = 0 := h
      by_cases hu : 0 ≤ u ∧ u ≤ 6
      · rw [if_pos hu] at h
        cases hm : modelL ats u.toNat L with
        | none => rw [hm] at h; have h : (5 : Int) = 0 := h; omega
        | some N =>
          have e : modelW ats c u = madeN N 8 := by
            unfold modelW modelN
            rw [if_pos h0, hL]
            show madeN ((modelL ats u.toNat L).getD zeroC) 8 = _
            rw [hm]; rfl
          obtain ⟨_, g2, g3, g4⟩ := model_holds hf hL (by omega) hm
          rw [e]
          exact ⟨hf, g2, by rw [g3]; omega, g4⟩
      · rw [if_neg hu] at h; exact absurd h (by decide)
  · rw [if_neg hf] at h; exact absurd h hf
theorem model_five {ats : List At} {c : List Int} {u : Int} (h : modelFault ats c u = 5) (hf : formFault ats c = 0) {w : Wd} (hw : w.ok = true) (hwu : w.u = u) : w.formIs ats c = false := by
  unfold modelFault at h
  rw [if_pos hf] at h
  cases hL : cubesC c with
  | none => rw [hL] at h; have h : (4 : Int) = 5 := h; omega
  | some L =>
    rw [hL] at h
    have h : (if 0 ≤ u ∧ u ≤ 6 then (if (modelL ats u.toNat L).isSome = true then (0 : Int) else 5) else 1) = 5 := h
    by_cases hu : 0 ≤ u ∧ u ≤ 6
    · rw [if_pos hu] at h
      cases hm : modelL ats u.toNat L with
      | none => exact model_never hf hL hm hw (by rw [hwu]; omega)
      | some N => rw [hm] at h; have h : (0 : Int) = 5 := h; omega
    · rw [if_neg hu] at h; exact absurd h (by decide)
theorem formIs_no {ats : List At} {c : List Int} (hf : formFault ats c = 0) (h19 : c.length ≤ 19) {w : Wd} (hw : w.ok = true) : w.formIs ats (c ++ [12]) = !w.formIs ats c := by
  unfold Wd.formIs
  rw [if_pos (wdForm_zero.2 ⟨hf, hw⟩), if_pos (wdForm_zero.2 ⟨good_no hf h19, hw⟩)]
  exact val_no _ (formFault_zero.1 hf).2.2.2.2
theorem one_facts : modelFault (manyA 0 2) [0] 2 = 0 ∧ modelW (manyA 0 2) [0] 2 = ⟨2, 3, 3, 3⟩ ∧ modelFault (manyA 0 2) [0] 1 = 5 ∧ modelW (manyA 0 2) [0] 1 = ⟨0, 0, 0, 0⟩ := by
  have h : modelFault (manyA 0 2) [0] 2 = 0 ∧ ((modelW (manyA 0 2) [0] 2).u = 2 ∧ (modelW (manyA 0 2) [0] 2).a = 3 ∧ (modelW (manyA 0 2) [0] 2).b = 3 ∧ (modelW (manyA 0 2) [0] 2).c = 3) ∧ modelFault (manyA 0 2) [0] 1 = 5 := by decide +kernel
  obtain ⟨h1, ⟨h2, h3, h4, h5⟩, h6⟩ := h
  refine ⟨h1, ?_, h6, by unfold modelW; rw [if_neg (by rw [h6]; decide)]⟩
  cases e : modelW (manyA 0 2) [0] 2 with
  | mk u a b c => rw [e] at h2 h3 h4 h5; simp only at h2 h3 h4 h5; rw [h2, h3, h4, h5]
end Go.Proofs.YteknlcachfhfkahDoor

namespace Go.Proofs.YteknlcachfhfkahDoor
open Go.RowKit

structure Fm where
  ats : List At
  c : List Int
def fmZ : Fm := ⟨[], []⟩
def Fm.fault (f : Fm) : Int := formFault f.ats f.c
/-- do all hold in a world? -/
def Wd.so (w : Wd) (fs : List Fm) : Bool := fs.all fun f => w.formIs f.ats f.c
/-- what is wrong with the first that is wrong. -/
def firstForm : List Fm → Int
  | [] => 0
  | f :: l => if f.fault = 0 then firstForm l else f.fault
def formsFault (fs : List Fm) (u : Int) : Int := if fs.length = 0 then 5 else if 6 < fs.length then 4 else if firstForm fs = 0 then (if 0 ≤ u ∧ u ≤ 6 then 0 else 1) else firstForm fs
/-- is there a world of u things in which all hold? -/
def openN (fs : List Fm) (u : Nat) : Bool := (everyC u).any fun N => (madeN N 8).so fs
def openB (fs : List Fm) (u : Int) : Bool := if formsFault fs u = 0 then openN fs u.toNat else false

theorem firstForm_zero {fs : List Fm} : firstForm fs = 0 ↔ ∀ f ∈ fs, f.fault = 0 := by
  induction fs with
  | nil => exact ⟨fun _ f hf => (by cases hf), fun _ => rfl⟩
  | cons f l ih =>
    unfold firstForm
    by_cases h : f.fault = 0
    · rw [if_pos h, ih]
      exact ⟨fun g x hx => by
        rcases List.mem_cons.1 hx with rfl | hx
        · exact h
        · exact g x hx, fun g x hx => g x (List.mem_cons_of_mem _ hx)⟩
    · rw [if_neg h]
      exact ⟨fun g => absurd g h, fun g => absurd (g f List.mem_cons_self) h⟩
theorem firstForm_at {fs : List Fm} {k : Nat} {f : Fm} (hk : fs[k]? = some f) (h : ∀ j, j < k → ∀ g, fs[j]? = some g → g.fault = 0) (hf : ¬ f.fault = 0) : firstForm fs = f.fault := by
  induction fs generalizing k with
  | nil => simp at hk
  | cons g l ih =>
    unfold firstForm
    cases k with
    | zero =>
      obtain rfl : g = f := by simpa using hk
      rw [if_neg hf]
    | succ k =>
      rw [if_pos (h 0 (by omega) g rfl)]
      exact ih (by simpa using hk) fun j hj x hx => h (j + 1) (by omega) x (by simpa using hx)
theorem forms_zero {fs : List Fm} {u : Int} : formsFault fs u = 0 ↔ (1 ≤ fs.length ∧ fs.length ≤ 6) ∧ (∀ f ∈ fs, f.fault = 0) ∧ 0 ≤ u ∧ u ≤ 6 := by
  unfold formsFault
  by_cases h0 : fs.length = 0
  · rw [if_pos h0]; exact ⟨fun h => absurd h (by decide), fun h => by omega⟩
  · rw [if_neg h0]
    by_cases h6 : 6 < fs.length
    · rw [if_pos h6]; exact ⟨fun h => absurd h (by decide), fun h => by omega⟩
    · rw [if_neg h6]
      by_cases hf : firstForm fs = 0
      · rw [if_pos hf]
        by_cases hu : 0 ≤ u ∧ u ≤ 6
        · rw [if_pos hu]; exact ⟨fun _ => ⟨⟨by omega, by omega⟩, firstForm_zero.1 hf, hu⟩, fun _ => rfl⟩
        · rw [if_neg hu]; exact ⟨fun h => absurd h (by decide), fun h => absurd h.2.2 hu⟩
      · rw [if_neg hf]; exact ⟨fun h => absurd h hf, fun h => absurd (firstForm_zero.2 h.2.1) hf⟩
/-- in a world where all hold they are open. -/
theorem open_of {fs : List Fm} {w : Wd} (hw : w.ok = true) {u : Int} (hu : w.u = u) (h : w.so fs = true) : openN fs u.toNat = true := by
  have hcf := counts_fc hw
  have hsum : sumN (w.fc w.u.toNat) 8 = ((u.toNat : Nat) : Int) := by rw [sum_fc, hu]
  obtain ⟨A, hA, hAw⟩ := everyC_all (u := u.toNat) (fun g hg => ((counts_zero.1 hcf).1 g hg).1) hsum
  unfold openN
  rw [List.any_eq_true]
  refine ⟨A, hA, ?_⟩
  have e : ∀ k, k ≤ 8 → madeN A k = madeN (w.fc w.u.toNat) k := by
    intro k
    induction k with
    | zero => intro _; rfl
    | succ k ih => intro hk; unfold madeN; rw [ih (by omega), hAw k (by omega)]
  unfold Wd.so at h ⊢
  rw [List.all_eq_true] at h ⊢
  intro f hf
  rw [e 8 (Nat.le_refl _), (alike_made hw).form f.ats f.c]
  exact h f hf
/-- what is open has a world. -/
theorem open_has {fs : List Fm} {u : Nat} (hu : u ≤ 6) (h : openN fs u = true) : ∃ w : Wd, w.ok = true ∧ w.u = u ∧ w.so fs = true := by
  unfold openN at h
  rw [List.any_eq_true] at h
  obtain ⟨N, hN, hs⟩ := h
  have hc := everyC_right hu hN
  exact ⟨madeN N 8, made_ok hc, by rw [made_u hc, (everyC_sum hN).2], hs⟩
theorem open_less {fs gs : List Fm} {u : Nat} (h : ∀ f ∈ gs, f ∈ fs) (ho : openN fs u = true) : openN gs u = true := by
  unfold openN at ho ⊢
  rw [List.any_eq_true] at ho ⊢
  obtain ⟨N, hN, hs⟩ := ho
  refine ⟨N, hN, ?_⟩
  unfold Wd.so at hs ⊢
  rw [List.all_eq_true] at hs ⊢
  exact fun f hf => hs f (h f hf)
theorem open_nil (u : Nat) : openN [] u = true := by
  unfold openN
  rw [List.any_eq_true]
  cases h : everyC u with
  | nil => exact absurd h (allF_ne 7 u _)
  | cons N A => exact ⟨N, List.mem_cons_self, rfl⟩

/-- the worlds of all counts, in order. -/
def worldsL (u : Nat) : List Wd := (everyC u).map fun N => madeN N 8
theorem worldsL_length (u : Nat) : (worldsL u).length = (everyC u).length := by unfold worldsL; rw [List.length_map]
theorem worldsL_ok {u : Nat} (hu : u ≤ 6) {D : Wd} (h : D ∈ worldsL u) : D.ok = true := by
  unfold worldsL at h
  obtain ⟨N, hN, rfl⟩ := List.mem_map.1 h
  exact made_ok (everyC_right hu hN)

/-- in the list of all worlds is one like this. -/
theorem worldsL_like {w : Wd} (hw : w.ok = true) {u : Nat} (hu : w.u = u) : ∃ D ∈ worldsL u, Alike w D := by
  have hcf := counts_fc hw
  have hsum : sumN (w.fc w.u.toNat) 8 = (u : Int) := by rw [sum_fc, hu, Int.toNat_natCast]
  obtain ⟨A, hA, hAw⟩ := everyC_all (u := u) (fun g hg => ((counts_zero.1 hcf).1 g hg).1) hsum
  have e : ∀ k, k ≤ 8 → madeN A k = madeN (w.fc w.u.toNat) k := by
    intro k
    induction k with
    | zero => intro _; rfl
    | succ k ih => intro hk; unfold madeN; rw [ih (by omega), hAw k (by omega)]
  refine ⟨madeN A 8, List.mem_map.2 ⟨A, hA, rfl⟩, ?_⟩
  rw [e 8 (Nat.le_refl _)]
  exact alike_made hw
theorem worldsL_u {u : Nat} (hu : u ≤ 6) {D : Wd} (h : D ∈ worldsL u) : D.u = u := by
  unfold worldsL at h
  obtain ⟨N, hN, rfl⟩ := List.mem_map.1 h
  rw [made_u (everyC_right hu hN), (everyC_sum hN).2]

/-! ### the core: one by one -/
def putG (g : Nat → Bool) (i : Nat) (b : Bool) : Nat → Bool := fun k => if k = i then b else g k
/-- those that are not gone, of the first k. -/
def leftTo (fs : List Fm) (g : Nat → Bool) : Nat → List Fm
  | 0 => []
  | k + 1 => leftTo fs g k ++ (if g k = true then [] else (match fs[k]? with | some f => [f] | none => []))
def leftF (fs : List Fm) (g : Nat → Bool) : List Fm := leftTo fs g fs.length
/-- which are gone, behind the first i. -/
def goneTo (fs : List Fm) (u : Nat) : Nat → (Nat → Bool)
  | 0 => fun _ => false
  | i + 1 => if openN (leftF fs (putG (goneTo fs u i) i true)) u = true then putG (goneTo fs u i) i false else putG (goneTo fs u i) i true
def coreTo (fs : List Fm) (u : Nat) : Nat → List Int
  | 0 => []
  | i + 1 => if openN (leftF fs (putG (goneTo fs u i) i true)) u = true then coreTo fs u i ++ [(i : Int)] else coreTo fs u i
def coreFault (fs : List Fm) (u : Int) : Int := if formsFault fs u = 0 then (if openB fs u = true then 8 else 0) else formsFault fs u
def coreL (fs : List Fm) (u : Int) : List Int := if coreFault fs u = 0 then coreTo fs u.toNat fs.length else []
end Go.Proofs.YteknlcachfhfkahDoor

namespace Go.Proofs.YteknlcachfhfkahDoor
open Go.RowKit

/-- has a list each number from 0 on just once? -/
def onceB (l : List Int) : Bool := (List.range l.length).all fun i => decide (l.count (i : Int) = 1)
def listP (p : Nat → Int) : List Int := [p 0, p 1, p 2]
def renS (p : Nat → Int) (s : Int) : Int := if s < 3 then p s.toNat else s
def renT (p : Nat → Int) (t : List Int) : List Int := t.map (renS p)
def renA (p : Nat → Int) (a : At) : At := ⟨a.k, renT p a.s, renT p a.t, a.n⟩
def renL (p : Nat → Int) (ats : List At) : List At := ats.map (renA p)
/-- what the name that is now j had. -/
def pickN (p : Nat → Int) (w : Wd) (j : Int) : Int := if p 0 = j then w.a else if p 1 = j then w.b else w.c
def turnW (p : Nat → Int) (w : Wd) : Wd := ⟨w.u, pickN p w 0, pickN p w 1, pickN p w 2⟩
def namesFault (ats : List At) (c : List Int) (p : Nat → Int) : Int := if formFault ats c = 0 then (if onceB (listP p) = true then 0 else 1) else formFault ats c
def turnFault (p : Nat → Int) (w : Wd) : Int := if onceB (listP p) = true then (if w.ok = true then 0 else 1) else 1

theorem perm_six {p : Nat → Int} (h : onceB (listP p) = true) : (p 0 = 0 ∧ p 1 = 1 ∧ p 2 = 2) ∨ (p 0 = 0 ∧ p 1 = 2 ∧ p 2 = 1) ∨ (p 0 = 1 ∧ p 1 = 0 ∧ p 2 = 2) ∨ (p 0 = 1 ∧ p 1 = 2 ∧ p 2 = 0) ∨ (p 0 = 2 ∧ p 1 = 0 ∧ p 2 = 1) ∨ (p 0 = 2 ∧ p 1 = 1 ∧ p 2 = 0) := by
  have key : ∀ x : Int, x = 0 ∨ x = 1 ∨ x = 2 ∨ ((x == 0) = false ∧ (x == 1) = false ∧ (x == 2) = false) := fun x => by
    by_cases h0 : x = 0
    · exact Or.inl h0
    · by_cases h1 : x = 1
      · exact Or.inr (Or.inl h1)
      · by_cases h2 : x = 2
        · exact Or.inr (Or.inr (Or.inl h2))
        · exact Or.inr (Or.inr (Or.inr ⟨by simp [h0], by simp [h1], by simp [h2]⟩))
  unfold onceB listP at h
  generalize p 0 = a at h ⊢
  generalize p 1 = b at h ⊢
  generalize p 2 = c at h ⊢
  have c0 : [a, b, c].count 0 = 1 := of_decide_eq_true (List.all_eq_true.1 h 0 (by simp))
  have c1 : [a, b, c].count 1 = 1 := of_decide_eq_true (List.all_eq_true.1 h 1 (by simp))
  have c2 : [a, b, c].count 2 = 1 := of_decide_eq_true (List.all_eq_true.1 h 2 (by simp))
  clear h
  rcases key a with rfl | rfl | rfl | ⟨a0, a1, a2⟩ <;> rcases key b with rfl | rfl | rfl | ⟨b0, b1, b2⟩ <;> rcases key c with rfl | rfl | rfl | ⟨d0, d1, d2⟩ <;> simp_all [List.count_cons]
theorem ren_low {p : Nat → Int} (h : onceB (listP p) = true) {i : Nat} (hi : i < 3) : 0 ≤ p i ∧ p i ≤ 2 := by
  rcases (by omega : i = 0 ∨ i = 1 ∨ i = 2) with rfl | rfl | rfl <;> rcases perm_six h with ⟨a, b, c⟩ | ⟨a, b, c⟩ | ⟨a, b, c⟩ | ⟨a, b, c⟩ | ⟨a, b, c⟩ | ⟨a, b, c⟩ <;> omega
theorem ren_name {p : Nat → Int} (h : onceB (listP p) = true) (w : Wd) {i : Nat} (hi : i < 3) : (turnW p w).name (p i) = w.name (i : Int) := by
  rcases (by omega : i = 0 ∨ i = 1 ∨ i = 2) with rfl | rfl | rfl <;> rcases perm_six h with ⟨a, b, c⟩ | ⟨a, b, c⟩ | ⟨a, b, c⟩ | ⟨a, b, c⟩ | ⟨a, b, c⟩ | ⟨a, b, c⟩ <;> simp [turnW, pickN, Wd.name, a, b, c]
theorem ren_takes {p : Nat → Int} (h : onceB (listP p) = true) {s : Int} (h0 : 0 ≤ s) : takesN (renS p s) = takesN s := by
  unfold renS
  by_cases h3 : s < 3
  · rw [if_pos h3, takes5 s (by omega), takes5 _ (by have := (ren_low h (i := s.toNat) (by omega)).2; omega)]
  · rw [if_neg h3]
theorem ren_made {p : Nat → Int} (h : onceB (listP p) = true) (w : Wd) {s : Int} (h0 : 0 ≤ s) (l : List Int) : (turnW p w).made (renS p s) l = w.made s l := by
  unfold renS
  by_cases h3 : s < 3
  · have hl := ren_low h (i := s.toNat) (by omega)
    rw [if_pos h3]
    unfold Wd.made
    rw [if_pos (by omega), if_pos h3, ren_name h w (by omega)]
    congr 1
    omega
  · rw [if_neg h3]
    unfold Wd.made
    rw [if_neg h3, if_neg h3]
    rfl
theorem ren_step {p : Nat → Int} (h : onceB (listP p) = true) (w : Wd) {s : Int} (h0 : 0 ≤ s) (l : List Int) : (turnW p w).step l (renS p s) = w.step l s := by
  unfold Wd.step restN
  rw [ren_takes h h0, ren_made h w h0]
theorem ren_pile {p : Nat → Int} (h : onceB (listP p) = true) (w : Wd) : ∀ (t : List Int), (∀ s ∈ t, 0 ≤ s) → ∀ l, (turnW p w).pile (renT p t) l = w.pile t l := by
  intro t
  induction t with
  | nil => intro _ l; rfl
  | cons s t ih =>
    intro hs l
    have e1 : (turnW p w).pile (renT p (s :: t)) l = (turnW p w).pile (renT p t) ((turnW p w).step l (renS p s)) := rfl
    have e2 : w.pile (s :: t) l = w.pile t (w.step l s) := rfl
    rw [e1, e2, ren_step h w (hs s List.mem_cons_self), ih fun x hx => hs x (List.mem_cons_of_mem _ hx)]
theorem ren_val {p : Nat → Int} (h : onceB (listP p) = true) (w : Wd) {t : List Int} (hs : ∀ s ∈ t, 0 ≤ s) : (turnW p w).val (renT p t) = w.val t := by
  unfold Wd.val
  rw [ren_pile h w t hs]
theorem signs_pos {t : List Int} (h : t.all signB = true) : ∀ s ∈ t, 0 ≤ s := fun s hs => (signB_iff.1 (List.all_eq_true.1 h s hs)).1
theorem ren_cnt {p : Nat → Int} (h : onceB (listP p) = true) : ∀ (t : List Int), (∀ s ∈ t, 0 ≤ s) → ∀ n, cnt (renT p t) n = cnt t n := by
  intro t
  induction t with
  | nil => intro _ n; rfl
  | cons s t ih =>
    intro hs n
    show (if n < takesN (renS p s) then none else cnt (renT p t) (n + 1 - takesN (renS p s))) = (if n < takesN s then none else cnt t (n + 1 - takesN s))
    rw [ren_takes h (hs s List.mem_cons_self), ih fun x hx => hs x (List.mem_cons_of_mem _ hx)]
theorem ren_sign {p : Nat → Int} (h : onceB (listP p) = true) {s : Int} (hs : signB s = true) : signB (renS p s) = true := by
  obtain ⟨h0, h8⟩ := signB_iff.1 hs
  unfold renS
  by_cases h3 : s < 3
  · have hl := ren_low h (i := s.toNat) (by omega)
    rw [if_pos h3]; exact signB_iff.2 ⟨hl.1, by omega⟩
  · rw [if_neg h3]; exact hs
theorem ren_fault {p : Nat → Int} (h : onceB (listP p) = true) {t : List Int} (ht : faultN t = 0) : faultN (renT p t) = 0 := by
  obtain ⟨h1, h2, h3, h4⟩ := fault_zero.1 ht
  have hl : (renT p t).length = t.length := by unfold renT; simp
  refine fault_zero.2 ⟨by rw [hl]; exact h1, by rw [hl]; exact h2, ?_, by rw [ren_cnt h t (signs_pos h3)]; exact h4⟩
  rw [List.all_eq_true]
  intro x hx
  unfold renT at hx
  obtain ⟨s, hs, rfl⟩ := List.mem_map.1 hx
  exact ren_sign h (List.all_eq_true.1 h3 s hs)
theorem ren_atom {p : Nat → Int} (h : onceB (listP p) = true) {a : At} (ha : a.fault = 0) : (renA p a).fault = 0 := by
  obtain ⟨hk, hs, ht, hn⟩ := atomFault_zero.1 ha
  refine atomFault_zero.2 ⟨hk, ren_fault h hs, ?_, hn⟩
  unfold secondFault at ht ⊢
  show (if secondB a.k = true then faultN (renT p a.t) else if 0 < (renT p a.t).length then 3 else 0) = 0
  by_cases hb : secondB a.k = true
  · rw [if_pos hb] at ht ⊢; exact ren_fault h ht
  · rw [if_neg hb] at ht ⊢
    have hl : (renT p a.t).length = a.t.length := by unfold renT; simp
    rw [hl]; exact ht
theorem ren_form {p : Nat → Int} (h : onceB (listP p) = true) {ats : List At} {c : List Int} (hf : formFault ats c = 0) : formFault (renL p ats) c = 0 := by
  obtain ⟨h1, h2, h3, h4, h5⟩ := formFault_zero.1 hf
  have hl : (renL p ats).length = ats.length := by unfold renL; simp
  refine formFault_zero.2 ⟨by rw [hl]; exact h1, h2, fun a ha => ?_, by rw [hl]; exact h4, h5⟩
  unfold renL at ha
  obtain ⟨b, hb, rfl⟩ := List.mem_map.1 ha
  exact ren_atom h (h3 b hb)
theorem turnW_ok {p : Nat → Int} (h : onceB (listP p) = true) (w : Wd) : (turnW p w).ok = w.ok := by
  rw [Bool.eq_iff_iff, Wd.ok_iff, Wd.ok_iff]
  rcases perm_six h with ⟨a, b, c⟩ | ⟨a, b, c⟩ | ⟨a, b, c⟩ | ⟨a, b, c⟩ | ⟨a, b, c⟩ | ⟨a, b, c⟩
  · rw [show turnW p w = ⟨w.u, w.a, w.b, w.c⟩ by unfold turnW pickN; rw [a, b]; rfl]
  · rw [show turnW p w = ⟨w.u, w.a, w.c, w.b⟩ by unfold turnW pickN; rw [a, b]; rfl]
    exact ⟨fun ⟨x, y, z⟩ => ⟨x, z, y⟩, fun ⟨x, y, z⟩ => ⟨x, z, y⟩⟩
  · rw [show turnW p w = ⟨w.u, w.b, w.a, w.c⟩ by unfold turnW pickN; rw [a, b]; rfl]
    exact ⟨fun ⟨x, y, z⟩ => ⟨y, x, z⟩, fun ⟨x, y, z⟩ => ⟨y, x, z⟩⟩
  · rw [show turnW p w = ⟨w.u, w.c, w.a, w.b⟩ by unfold turnW pickN; rw [a, b]; rfl]
    exact ⟨fun ⟨x, y, z⟩ => ⟨y, z, x⟩, fun ⟨x, y, z⟩ => ⟨z, x, y⟩⟩
  · rw [show turnW p w = ⟨w.u, w.b, w.c, w.a⟩ by unfold turnW pickN; rw [a, b]; rfl]
    exact ⟨fun ⟨x, y, z⟩ => ⟨z, x, y⟩, fun ⟨x, y, z⟩ => ⟨y, z, x⟩⟩
  · rw [show turnW p w = ⟨w.u, w.c, w.b, w.a⟩ by unfold turnW pickN; rw [a, b]; rfl]
    exact ⟨fun ⟨x, y, z⟩ => ⟨z, y, x⟩, fun ⟨x, y, z⟩ => ⟨z, y, x⟩⟩
theorem ren_held {p : Nat → Int} (h : onceB (listP p) = true) (w : Wd) {ats : List At} {c : List Int} (hf : formFault ats c = 0) : (turnW p w).heldL (renL p ats) = w.heldL ats := by
  obtain ⟨_, _, h3, _⟩ := formFault_zero.1 hf
  unfold Wd.heldL renL
  rw [List.map_map]
  refine List.map_congr_left fun a ha => ?_
  obtain ⟨hk, hs, ht, hn⟩ := atomFault_zero.1 (h3 a ha)
  show (turnW p w).holds a.k (renT p a.s) (renT p a.t) a.n = w.holds a.k a.s a.t a.n
  unfold Wd.holds Wd.snd
  rw [ren_val h w (signs_pos (fault_zero.1 hs).2.2.1)]
  by_cases hb : secondB a.k = true
  · rw [if_pos hb, if_pos hb]
    unfold secondFault at ht
    rw [if_pos hb] at ht
    rw [ren_val h w (signs_pos (fault_zero.1 ht).2.2.1)]
  · rw [if_neg hb, if_neg hb]
/-- a formula with other names holds in the world with these just if it did. -/
theorem ren_is {p : Nat → Int} (h : onceB (listP p) = true) (w : Wd) {ats : List At} {c : List Int} (hf : formFault ats c = 0) : (turnW p w).formIs (renL p ats) c = w.formIs ats c := by
  unfold Wd.formIs
  by_cases hok : w.ok = true
  · rw [if_pos (wdForm_zero.2 ⟨hf, hok⟩), if_pos (wdForm_zero.2 ⟨ren_form h hf, by rw [turnW_ok h]; exact hok⟩), ren_held h w hf]
  · rw [if_neg (fun g => hok (wdForm_zero.1 g).2), if_neg (fun g => hok (by rw [← turnW_ok h]; exact (wdForm_zero.1 g).2))]
end Go.Proofs.YteknlcachfhfkahDoor

namespace Go.Proofs.YteknlcachfhfkahDoor
open Go.RowKit

/-- the set of the new places of a set's first k things. -/
def movedN (q : List Int) (x : Int) : Nat → Int
  | 0 => 0
  | i + 1 => movedN q x i + if hasB x i = true then pw (q.getD i 0).toNat else 0
def thingsW (q : List Int) (w : Wd) : Wd := ⟨w.u, movedN q w.a w.u.toNat, movedN q w.b w.u.toNat, movedN q w.c w.u.toNat⟩
def thingsFault (w : Wd) (q : List Int) : Int := if w.ok = true then (if (q.length : Int) = w.u then (if onceB q = true then 0 else 1) else 3) else 1

def turnA (p : Nat → Int) (w : Wd) : Wd := if turnFault p w = 0 then turnW p w else ⟨0, 0, 0, 0⟩
def thingsA (w : Wd) (q : List Int) : Wd := if thingsFault w q = 0 then thingsW q w else ⟨0, 0, 0, 0⟩
theorem turn_zero {p : Nat → Int} {w : Wd} : turnFault p w = 0 ↔ onceB (listP p) = true ∧ w.ok = true := by
  unfold turnFault
  by_cases h : onceB (listP p) = true
  · rw [if_pos h]
    by_cases g : w.ok = true
    · rw [if_pos g]; exact ⟨fun _ => ⟨h, g⟩, fun _ => rfl⟩
    · rw [if_neg g]; exact ⟨fun x => absurd x (by decide), fun x => absurd x.2 g⟩
  · rw [if_neg h]; exact ⟨fun x => absurd x (by decide), fun x => absurd x.1 h⟩
theorem things_zero {q : List Int} {w : Wd} : thingsFault w q = 0 ↔ w.ok = true ∧ (q.length : Int) = w.u ∧ onceB q = true := by
  unfold thingsFault
  by_cases h : w.ok = true
  · rw [if_pos h]
    by_cases g : (q.length : Int) = w.u
    · rw [if_pos g]
      by_cases k : onceB q = true
      · rw [if_pos k]; exact ⟨fun _ => ⟨h, g, k⟩, fun _ => rfl⟩
      · rw [if_neg k]; exact ⟨fun x => absurd x (by decide), fun x => absurd x.2.2 k⟩
    · rw [if_neg g]; exact ⟨fun x => absurd x (by decide), fun x => absurd x.2.1 g⟩
  · rw [if_neg h]; exact ⟨fun x => absurd x (by decide), fun x => absurd x.1 h⟩
theorem names_zero {p : Nat → Int} {ats : List At} {c : List Int} : namesFault ats c p = 0 ↔ formFault ats c = 0 ∧ onceB (listP p) = true := by
  unfold namesFault
  by_cases h : formFault ats c = 0
  · rw [if_pos h]
    by_cases g : onceB (listP p) = true
    · rw [if_pos g]; exact ⟨fun _ => ⟨h, g⟩, fun _ => rfl⟩
    · rw [if_neg g]; exact ⟨fun x => absurd x (by decide), fun x => absurd x.2 g⟩
  · rw [if_neg h]; exact ⟨fun x => absurd x h, fun x => absurd x.1 h⟩

/-- how many of a list are below u, from 0 on. -/
theorem count_sum (u : Nat) : ∀ l : List Int, (((List.range u).map fun i : Nat => l.count (i : Int)).sum) = (l.filter fun x => decide (0 ≤ x ∧ x < (u : Int))).length := by
  have one : ∀ (a : Int) (n : Nat), ((List.range n).map fun i : Nat => if a = (i : Int) then 1 else 0).sum = if 0 ≤ a ∧ a < (n : Int) then 1 else 0 := by
    intro a n
    induction n with
    | zero => simp
    | succ n ih =>
      rw [List.range_succ, List.map_append, List.sum_append, ih]
      simp only [List.map_cons, List.map_nil, List.sum_cons, List.sum_nil]
      by_cases h1 : a = (n : Int)
      · rw [if_pos h1, if_neg (by omega), if_pos (by omega)]; rfl
      · rw [if_neg h1]
        by_cases h2 : 0 ≤ a ∧ a < (n : Int)
        · rw [if_pos h2, if_pos (by omega)]; rfl
        · rw [if_neg h2, if_neg (by omega)]; rfl
  have add : ∀ (f g : Nat → Nat) (n : Nat), ((List.range n).map fun i : Nat => f i + g i).sum = ((List.range n).map f).sum + ((List.range n).map g).sum := by
    intro f g n
    induction n with
    | zero => rfl
    | succ n ih => rw [List.range_succ, List.map_append, List.map_append, List.map_append, List.sum_append, List.sum_append, List.sum_append, ih]; simp; omega
  intro l
  induction l with
  | nil =>
    have : ∀ n, ((List.range n).map fun i : Nat => ([] : List Int).count (i : Int)).sum = 0 := by
      intro n
      induction n with
      | zero => rfl
      | succ n ih => rw [List.range_succ, List.map_append, List.sum_append, ih]; simp
    rw [this]; rfl
  | cons a l ih =>
    have e : (fun i : Nat => (a :: l).count (i : Int)) = fun i : Nat => l.count (i : Int) + if a = (i : Int) then 1 else 0 := by
      funext i
      rw [List.count_cons]
      by_cases h : a = (i : Int)
      · simp [h]
      · simp [h]
    rw [e, add, ih, one, List.filter_cons]
    by_cases h : 0 ≤ a ∧ a < (u : Int)
    · rw [if_pos h, if_pos (decide_eq_true h)]; simp
    · rw [if_neg h, if_neg (by simpa using h)]; simp
theorem once_in {q : List Int} (h : onceB q = true) : (∀ i, i < q.length → q.count (i : Int) = 1) ∧ ∀ x ∈ q, 0 ≤ x ∧ x < (q.length : Int) := by
  have h1 : ∀ i, i < q.length → q.count (i : Int) = 1 := fun i hi => of_decide_eq_true (List.all_eq_true.1 h i (List.mem_range.2 hi))
  have hs := count_sum q.length q
  have e : ((List.range q.length).map fun i : Nat => q.count (i : Int)) = (List.range q.length).map fun _ : Nat => 1 := List.map_congr_left fun i hi => h1 i (List.mem_range.1 hi)
  rw [e] at hs
  have hlen : ∀ n, ((List.range n).map fun _ : Nat => 1).sum = n := by
    intro n
    induction n with
    | zero => rfl
    | succ n ih => rw [List.range_succ, List.map_append, List.sum_append, ih]; simp
  rw [hlen] at hs
  refine ⟨h1, fun x hx => ?_⟩
  have := (List.length_filter_eq_length_iff (p := fun x : Int => decide (0 ≤ x ∧ x < (q.length : Int)))).1 hs.symm x hx
  exact of_decide_eq_true this
theorem once_perm {q : List Int} (h : onceB q = true) : q.Perm ((List.range q.length).map fun i : Nat => (i : Int)) := by
  obtain ⟨h1, hall⟩ := once_in h
  rw [List.perm_iff_count]
  intro a
  by_cases ha : 0 ≤ a ∧ a < (q.length : Int)
  · obtain ⟨n, rfl⟩ := Int.eq_ofNat_of_zero_le ha.1
    have hn : n < q.length := by omega
    rw [h1 n hn]
    have : ∀ m, n < m → ((List.range m).map fun i : Nat => (i : Int)).count (n : Int) = 1 := by
      intro m
      induction m with
      | zero => intro h; omega
      | succ m ih =>
        intro hm
        rw [List.range_succ, List.map_append, List.count_append]
        by_cases h2 : n < m
        · rw [ih h2]
          have : ¬ (m : Int) = (n : Int) := by omega
          simp [this]
        · obtain rfl : n = m := by omega
          have : ((List.range n).map fun i : Nat => (i : Int)).count (n : Int) = 0 := by
            rw [List.count_eq_zero]
            intro hx
            obtain ⟨j, hj, e⟩ := List.mem_map.1 hx
            have := List.mem_range.1 hj
            omega
          rw [this]
          simp
    exact (this q.length hn).symm
  · have h0 : q.count a = 0 := by
      rw [List.count_eq_zero]
      exact fun hx => ha (hall a hx)
    rw [h0]
    symm
    rw [List.count_eq_zero]
    intro hx
    obtain ⟨j, hj, rfl⟩ := List.mem_map.1 hx
    have := List.mem_range.1 hj
    exact ha ⟨by omega, by omega⟩
/-- a sum over a list does not hang on its order. -/
theorem perm_sum {α : Type} {l l' : List α} (h : l.Perm l') (f : α → Int) : (l.map f).sum = (l'.map f).sum := by
  induction h with
  | nil => rfl
  | cons a _ ih => simp only [List.map_cons, List.sum_cons]; rw [ih]
  | swap a b l => simp only [List.map_cons, List.sum_cons]; omega
  | trans _ _ ih1 ih2 => rw [ih1, ih2]
/-- a sum over the first n places of a list. -/
theorem map_range {q : List Int} (g : Int → Int) : (q.map g).sum = ((List.range q.length).map fun i : Nat => g (q.getD i 0)).sum := by
  have e : (List.range q.length).map (fun i : Nat => g (q.getD i 0)) = q.map g := by
    apply List.ext_getElem
    · simp
    · intro i h1 h2
      simp at h1 h2 ⊢
      rw [List.getElem?_eq_getElem h2]
      rfl
  rw [e]
theorem once_sum {q : List Int} (h : onceB q = true) (g : Int → Int) : ((List.range q.length).map fun i : Nat => g (q.getD i 0)).sum = ((List.range q.length).map fun j : Nat => g (j : Int)).sum := by
  rw [← map_range, perm_sum (once_perm h) g, List.map_map]
  rfl
/-- where a number lies in a list. -/
def placeN (q : List Int) (j : Int) : Nat := q.findIdx fun x => x == j
theorem once_place {q : List Int} (h : onceB q = true) {i : Nat} (hi : i < q.length) : placeN q (q.getD i 0) = i ∧ 0 ≤ q.getD i 0 ∧ q.getD i 0 < (q.length : Int) := by
  have hp := once_perm h
  have hm : q[i] ∈ q := List.getElem_mem _
  have hr := (hp.mem_iff (a := q[i])).1 hm
  obtain ⟨j, hj, ej⟩ := List.mem_map.1 hr
  have hjl := List.mem_range.1 hj
  have eg : q.getD i 0 = q[i] := by rw [List.getD_eq_getElem?_getD, List.getElem?_eq_getElem hi]; rfl
  have hnd : q.Nodup := by
    rw [List.nodup_iff_count]
    intro a
    obtain ⟨h1, hall⟩ := once_in h
    by_cases ha : a ∈ q
    · obtain ⟨n, rfl⟩ := Int.eq_ofNat_of_zero_le (hall a ha).1
      have := (hall _ ha).2
      rw [h1 n (by omega)]
      exact Nat.le_refl _
    · rw [List.count_eq_zero.2 ha]
      exact Nat.zero_le _
  rw [eg]
  refine ⟨?_, by omega, by omega⟩
  unfold placeN
  have hlt : q.findIdx (fun x => x == q[i]) < q.length := List.findIdx_lt_length_of_exists ⟨q[i], hm, by simp⟩
  have hf : q[q.findIdx (fun x => x == q[i])] = q[i] := by
    have := List.findIdx_getElem (w := hlt)
    simpa using this
  obtain ⟨m, hme⟩ : ∃ m, m = q.findIdx (fun x => x == q[i]) := ⟨_, rfl⟩
  have hlt' : m < q.length := by rw [hme]; exact hlt
  have hf' : q[m] = q[i] := by
    have : ∀ (k : Nat) (hk : k < q.length), k = q.findIdx (fun x => x == q[i]) → q[k] = q[i] := fun k hk e => by subst e; exact hf
    exact this m hlt' hme
  rw [← hme]
  have hpw := List.pairwise_iff_getElem.1 hnd
  rcases Nat.lt_trichotomy m i with hc | hc | hc
  · exact absurd hf' (hpw m i hlt' hi hc)
  · exact hc
  · exact absurd hf'.symm (hpw i m hi hlt' hc)

theorem moved_sum (q : List Int) (x : Int) : ∀ n, movedN q x n = ((List.range n).map fun i : Nat => if hasB x i = true then pw (q.getD i 0).toNat else 0).sum := by
  intro n
  induction n with
  | zero => rfl
  | succ n ih =>
    rw [List.range_succ, List.map_append, List.sum_append, ← ih]
    simp [movedN]
theorem mask_sum (L : Nat → Bool) : ∀ n, maskTo L n = ((List.range n).map fun j : Nat => if L j = true then pw j else 0).sum := by
  intro n
  induction n with
  | zero => rfl
  | succ n ih =>
    rw [List.range_succ, List.map_append, List.sum_append, ← ih]
    show maskTo L n + oneB (L n) * pw n = _
    cases h : L n
    · simp [oneB, h]
    · simp [oneB, h]
/-- the set of the new places has a thing just if the old one had the one that is there now. -/
theorem moved_mask {q : List Int} (h : onceB q = true) (x : Int) : movedN q x q.length = maskTo (fun j => hasB x (placeN q (j : Int))) q.length := by
  rw [moved_sum, mask_sum]
  have e := once_sum h fun y => if hasB x (placeN q y) = true then pw y.toNat else 0
  have e1 : ((List.range q.length).map fun i : Nat => if hasB x i = true then pw (q.getD i 0).toNat else 0) = (List.range q.length).map fun i : Nat => if hasB x (placeN q (q.getD i 0)) = true then pw (q.getD i 0).toNat else 0 := by
    refine List.map_congr_left fun i hi => ?_
    rw [(once_place h (List.mem_range.1 hi)).1]
  rw [e1]
  refine e.trans ?_
  congr 1
theorem moved_has {q : List Int} (h : onceB q = true) (h8 : q.length ≤ 8) (x : Int) {i : Nat} (hi : i < q.length) : hasB (movedN q x q.length) ((q.getD i 0).toNat : Nat) = hasB x i := by
  obtain ⟨h1, h2, h3⟩ := once_place h hi
  rw [moved_mask h, has_mask _ h8 (by omega)]
  have : (((q.getD i 0).toNat : Nat) : Int) = q.getD i 0 := by omega
  rw [this, h1]
theorem moved_ok {q : List Int} (h : onceB q = true) (h6 : q.length ≤ 6) (x : Int) : okB (q.length : Int) (movedN q x q.length) = true := by
  rw [moved_mask h]
  have := maskTo_le (fun j => hasB x (placeN q (j : Int))) q.length
  refine okB_iff.2 ⟨by omega, by omega, this.1, ?_⟩
  unfold allN
  rw [Int.toNat_natCast]
  have e : pw q.length = 2 ^ q.length := rfl
  omega
theorem fc_sum (w : Wd) (f : Nat) : ∀ n, w.fc n f = ((List.range n).map fun i : Nat => if w.field i = f then (1 : Int) else 0).sum := by
  intro n
  induction n with
  | zero => rfl
  | succ n ih =>
    rw [List.range_succ, List.map_append, List.sum_append, ← ih]
    simp [Wd.fc]
/-- a world of other things has as many in each field. -/
theorem things_alike {q : List Int} {w : Wd} (hw : w.ok = true) (hl : (q.length : Int) = w.u) (h : onceB q = true) : Alike w (thingsW q w) := by
  have hu := ok_u hw
  have hn : w.u.toNat = q.length := by omega
  have hok : (thingsW q w).ok = true := by
    unfold thingsW
    rw [hn]
    refine Wd.ok_iff.2 ⟨?_, ?_, ?_⟩ <;> (show okB w.u _ = true; rw [← hl]; exact moved_ok h (by omega) _)
  refine ⟨hw, hok, fun f hf => ?_⟩
  show (thingsW q w).fc w.u.toNat f = w.fc w.u.toNat f
  rw [fc_sum, fc_sum, hn]
  have e := once_sum h fun y => if (thingsW q w).field y.toNat = f then (1 : Int) else 0
  have e2 : ((List.range q.length).map fun j : Nat => if (thingsW q w).field ((j : Int)).toNat = f then (1 : Int) else 0) = (List.range q.length).map fun j : Nat => if (thingsW q w).field j = f then (1 : Int) else 0 := List.map_congr_left fun j _ => by rw [Int.toNat_natCast]
  rw [e2] at e
  rw [← e]
  congr 1
  refine List.map_congr_left fun i hi => ?_
  have hi := List.mem_range.1 hi
  have : (thingsW q w).field (q.getD i 0).toNat = w.field i := by
    unfold Wd.field thingsW
    rw [hn]
    simp only
    rw [moved_has h (by omega) w.a hi, moved_has h (by omega) w.b hi, moved_has h (by omega) w.c hi]
  rw [this]
end Go.Proofs.YteknlcachfhfkahDoor
