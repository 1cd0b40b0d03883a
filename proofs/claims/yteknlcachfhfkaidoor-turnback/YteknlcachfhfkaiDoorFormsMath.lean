/-
  Plain facts on some formulas together: whether they are open, and which are enough not to be (chapter 13). No program is read here.
-/
import Derived.Test.YteknlcachfhfkaiDoorModelFacts
namespace Go.Proofs.YteknlcachfhfkaiDoor
open Go.RowKit

structure Fm where
  ats : List At
  c : List Int
def fmZ : Fm := ⟨[], []⟩
def Fm.fault (f : Fm) : Int := formFault f.ats f.c
/-- do all hold in a world? -/
def Wd.so (w : Wd) (fs : List Fm) : Bool := fs.all fun f => w.formIs f.ats f.c
/-- what is wrong with the first that is wrong. -/
def firstForm : List Fm → Int
  | [] => 0
  | f :: l => if f.fault = 0 then firstForm l else f.fault
def formsFault (fs : List Fm) (u : Int) : Int := if fs.length = 0 then 5 else if 6 < fs.length then 4 else if firstForm fs = 0 then (if 0 ≤ u ∧ u ≤ 6 then 0 else 1) else firstForm fs
/-- is there a world of u things in which all hold? -/
def openN (fs : List Fm) (u : Nat) : Bool := (everyC u).any fun N => (madeN N 8).so fs
def openB (fs : List Fm) (u : Int) : Bool := if formsFault fs u = 0 then openN fs u.toNat else false

theorem firstForm_zero {fs : List Fm} : firstForm fs = 0 ↔ ∀ f ∈ fs, f.fault = 0 := by
  induction fs with
  | nil => exact ⟨fun _ f hf => (by cases hf), fun _ => rfl⟩
  | cons f l ih =>
    unfold firstForm
    by_cases h : f.fault = 0
    · rw [if_pos h, ih]
      exact ⟨fun g x hx => by
        rcases List.mem_cons.1 hx with rfl | hx
        · exact h
        · exact g x hx, fun g x hx => g x (List.mem_cons_of_mem _ hx)⟩
    · rw [if_neg h]
      exact ⟨fun g => absurd g h, fun g => absurd (g f List.mem_cons_self) h⟩
theorem firstForm_at {fs : List Fm} {k : Nat} {f : Fm} (hk : fs[k]? = some f) (h : ∀ j, j < k → ∀ g, fs[j]? = some g → g.fault = 0) (hf : ¬ f.fault = 0) : firstForm fs = f.fault := by
  induction fs generalizing k with
  | nil => simp at hk
  | cons g l ih =>
    unfold firstForm
    cases k with
    | zero =>
      obtain rfl : g = f := by simpa using hk
      rw [if_neg hf]
    | succ k =>
      rw [if_pos (h 0 (by omega) g rfl)]
      exact ih (by simpa using hk) fun j hj x hx => h (j + 1) (by omega) x (by simpa using hx)
theorem forms_zero {fs : List Fm} {u : Int} : formsFault fs u = 0 ↔ (1 ≤ fs.length ∧ fs.length ≤ 6) ∧ (∀ f ∈ fs, f.fault = 0) ∧ 0 ≤ u ∧ u ≤ 6 := by
  unfold formsFault
  by_cases h0 : fs.length = 0
  · rw [if_pos h0]; exact ⟨fun h => absurd h (by decide), fun h => by omega⟩
  · rw [if_neg h0]
    by_cases h6 : 6 < fs.length
    · rw [if_pos h6]; exact ⟨fun h => absurd h (by decide), fun h => by omega⟩
    · rw [if_neg h6]
      by_cases hf : firstForm fs = 0
      · rw [if_pos hf]
        by_cases hu : 0 ≤ u ∧ u ≤ 6
        · rw [if_pos hu]; exact ⟨fun _ => ⟨⟨by omega, by omega⟩, firstForm_zero.1 hf, hu⟩, fun _ => rfl⟩
        · rw [if_neg hu]; exact ⟨fun h => absurd h (by decide), fun h => absurd h.2.2 hu⟩
      · rw [if_neg hf]; exact ⟨fun h => absurd h hf, fun h => absurd (firstForm_zero.2 h.2.1) hf⟩
/-- in a world where all hold they are open. -/
theorem open_of {fs : List Fm} {w : Wd} (hw : w.ok = true) {u : Int} (hu : w.u = u) (h : w.so fs = true) : openN fs u.toNat = true := by
  have hcf := counts_fc hw
  have hsum : sumN (w.fc w.u.toNat) 8 = ((u.toNat : Nat) : Int) := by rw [sum_fc, hu]
  obtain ⟨A, hA, hAw⟩ := everyC_all (u := u.toNat) (fun g hg => ((counts_zero.1 hcf).1 g hg).1) hsum
  unfold openN
  rw [List.any_eq_true]
  refine ⟨A, hA, ?_⟩
  have e : ∀ k, k ≤ 8 → madeN A k = madeN (w.fc w.u.toNat) k := by
    intro k
    induction k with
    | zero => intro _; rfl
    | succ k ih => intro hk; unfold madeN; rw [ih (by omega), hAw k (by omega)]
  unfold Wd.so at h ⊢
  rw [List.all_eq_true] at h ⊢
  intro f hf
  rw [e 8 (Nat.le_refl _), (alike_made hw).form f.ats f.c]
  exact h f hf
/-- what is open has a world. -/
theorem open_has {fs : List Fm} {u : Nat} (hu : u ≤ 6) (h : openN fs u = true) : ∃ w : Wd, w.ok = true ∧ w.u = u ∧ w.so fs = true := by
  unfold openN at h
  rw [List.any_eq_true] at h
  obtain ⟨N, hN, hs⟩ := h
  have hc := everyC_right hu hN
  exact ⟨madeN N 8, made_ok hc, by rw [made_u hc, (everyC_sum hN).2], hs⟩
theorem open_less {fs gs : List Fm} {u : Nat} (h : ∀ f ∈ gs, f ∈ fs) (ho : openN fs u = true) : openN gs u = true := by
  unfold openN at ho ⊢
  rw [List.any_eq_true] at ho ⊢
  obtain ⟨N, hN, hs⟩ := ho
  refine ⟨N, hN, ?_⟩
  unfold Wd.so at hs ⊢
  rw [List.all_eq_true] at hs ⊢
  exact fun f hf => hs f (h f hf)
theorem open_nil (u : Nat) : openN [] u = true := by
  unfold openN
  rw [List.any_eq_true]
  cases h : everyC u with
  | nil => exact absurd h (allF_ne 7 u _)
  | cons N A => exact ⟨N, List.mem_cons_self, rfl⟩

/-- the worlds of all counts, in order. -/
def worldsL (u : Nat) : List Wd := (everyC u).map fun N => madeN N 8
theorem worldsL_length (u : Nat) : (worldsL u).length = (everyC u).length := by unfold worldsL; rw [List.length_map]
theorem worldsL_ok {u : Nat} (hu : u ≤ 6) {D : Wd} (h : D ∈ worldsL u) : D.ok = true := by
  unfold worldsL at h
  obtain ⟨N, hN, rfl⟩ := List.mem_map.1 h
  exact made_ok (everyC_right hu hN)

/-- in the list of all worlds is one like this. -/
theorem worldsL_like {w : Wd} (hw : w.ok = true) {u : Nat} (hu : w.u = u) : ∃ D ∈ worldsL u, Alike w D := by
  have hcf := counts_fc hw
  have hsum : sumN (w.fc w.u.toNat) 8 = (u : Int) := by rw [sum_fc, hu, Int.toNat_natCast]
  obtain ⟨A, hA, hAw⟩ := everyC_all (u := u) (fun g hg => ((counts_zero.1 hcf).1 g hg).1) hsum
  have e : ∀ k, k ≤ 8 → madeN A k = madeN (w.fc w.u.toNat) k := by
    intro k
    induction k with
    | zero => intro _; rfl
    | succ k ih => intro hk; unfold madeN; rw [ih (by omega), hAw k (by omega)]
  refine ⟨madeN A 8, List.mem_map.2 ⟨A, hA, rfl⟩, ?_⟩
  rw [e 8 (Nat.le_refl _)]
  exact alike_made hw
theorem worldsL_u {u : Nat} (hu : u ≤ 6) {D : Wd} (h : D ∈ worldsL u) : D.u = u := by
  unfold worldsL at h
  obtain ⟨N, hN, rfl⟩ := List.mem_map.1 h
  rw [made_u (everyC_right hu hN), (everyC_sum hN).2]

/-! ### the core: one by one -/
def putG (g : Nat → Bool) (i : Nat) (b : Bool) : Nat → Bool := fun k => if k = i then b else g k
/-- those that are not gone, of the first k. -/
def leftTo (fs : List Fm) (g : Nat → Bool) : Nat → List Fm
  | 0 => []
  | k + 1 => leftTo fs g k ++ (if g k = true then [] else (match fs[k]? with | some f => [f] | none => []))
def leftF (fs : List Fm) (g : Nat → Bool) : List Fm := leftTo fs g fs.length
/-- which are gone, behind the first i. -/
def goneTo (fs : List Fm) (u : Nat) : Nat → (Nat → Bool)
  | 0 => fun _ => false
  | i + 1 => if openN (leftF fs (putG (goneTo fs u i) i true)) u = true then putG (goneTo fs u i) i false else putG (goneTo fs u i) i true
def coreTo (fs : List Fm) (u : Nat) : Nat → List Int
  | 0 => []
  | i + 1 => if openN (leftF fs (putG (goneTo fs u i) i true)) u = true then coreTo fs u i ++ [(i : Int)] else coreTo fs u i
def coreFault (fs : List Fm) (u : Int) : Int := if formsFault fs u = 0 then (if openB fs u = true then 8 else 0) else formsFault fs u
def coreL (fs : List Fm) (u : Int) : List Int := if coreFault fs u = 0 then coreTo fs u.toNat fs.length else []
end Go.Proofs.YteknlcachfhfkaiDoor
