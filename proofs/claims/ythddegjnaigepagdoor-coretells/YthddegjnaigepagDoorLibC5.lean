/-
  Plain facts on where a formula does not hold, whether it is sure, and on a formula that a name has at least so many things (chapter 9). No program is read here.
  Plain facts on some formulas together: whether they are open, and which are enough not to be (chapter 13). No program is read here.
  Plain facts on the core of some formulas: they are not open, and without any one of them they are (chapter 13). No program is read here.
  Plain facts on formulas as bits: which hold, which are left, which are enough (chapter 13). No program is read here.
-/
import Derived.Test.YthddegjnaigepagDoorLibC4
namespace Go.Proofs.YthddegjnaigepagDoor
open Go.RowKit

def againstFault (ats : List At) (c : List Int) (u : Int) : Int := if negFault ats c = 0 then modelFault ats (c ++ [12]) u else negFault ats c
def againstW (ats : List At) (c : List Int) (u : Int) : Wd := if negFault ats c = 0 then modelW ats (c ++ [12]) u else ⟨0, 0, 0, 0⟩
def sureB (ats : List At) (c : List Int) (u : Int) : Bool := decide (againstFault ats c u = 5 ∧ formFault ats c = 0)
def sureFault (ats : List At) (c : List Int) (u : Int) : Int := if sureB ats c u = true then 0 else againstFault ats c u
theorem neg_good {ats : List At} {c : List Int} (h : negFault ats c = 0) : formFault ats c = 0 ∧ c.length ≤ 19 ∧ formFault ats (c ++ [12]) = 0 := by
  unfold negFault at h
  by_cases hf : formFault ats c = 0
  · rw [if_pos hf] at h
    by_cases h19 : 19 < c.length
    · rw [if_pos h19] at h; exact absurd h (by decide)
    · exact ⟨hf, by omega, good_no hf (by omega)⟩
  · rw [if_neg hf] at h; exact absurd h hf
theorem neg_five {ats : List At} {c : List Int} (h : negFault ats c = 5) : formFault ats c = 5 := by
  unfold negFault at h
  by_cases hf : formFault ats c = 0
  · rw [if_pos hf] at h
    by_cases h19 : 19 < c.length
    · rw [if_pos h19] at h; exact absurd h (by decide)
    · rw [if_neg h19] at h; exact absurd h (by decide)
  · rw [if_neg hf] at h; exact h
/-- the formula that a name has at least n things. -/
def manyA (name n : Int) : List At := [⟨3, [name], [], n⟩]
/-- what a world has of a name. -/
def Wd.has (w : Wd) : Nat → Int
  | 0 => w.a
  | 1 => w.b
  | _ => w.c
theorem many_facts : ∀ name : Nat, name < 3 → ∀ n : Nat, n < 6 → modelFault (manyA (name : Int) ((n : Int) + 1)) [0] ((n : Int) + 1) = 0 ∧ (modelW (manyA (name : Int) ((n : Int) + 1)) [0] ((n : Int) + 1)).has name + 1 = pw (n + 1) ∧ modelFault (manyA (name : Int) ((n : Int) + 1)) [0] (n : Int) = 5 ∧ sureB (manyA (name : Int) ((n : Int) + 1)) [0] (n : Int) = false ∧ sureFault (manyA (name : Int) ((n : Int) + 1)) [0] (n : Int) = 0 := by decide +kernel
theorem model_zero {ats : List At} {c : List Int} {u : Int} (h : modelFault ats c u = 0) : formFault ats c = 0 ∧ (modelW ats c u).ok = true ∧ (modelW ats c u).u = u ∧ (modelW ats c u).formIs ats c = true := by
  have h0 := h
  unfold modelFault at h
  by_cases hf : formFault ats c = 0
  · rw [if_pos hf] at h
    cases hL : cubesC c with
    | none => rw [hL] at h; have h : (4 : Int) = 0 := h; omega
    | some L =>
      rw [hL] at h
      have h : (if 0 ≤ u ∧ u ≤ 6 then (if (modelL ats u.toNat L).isSome = true then (0 : Int) else 5) else 1) = 0 := h
      by_cases hu : 0 ≤ u ∧ u ≤ 6
      · rw [if_pos hu] at h
        cases hm : modelL ats u.toNat L with
        | none => rw [hm] at h; have h : (5 : Int) = 0 := h; omega
        | some N =>
          have e : modelW ats c u = madeN N 8 := by
            unfold modelW modelN
            rw [if_pos h0, hL]
            show madeN ((modelL ats u.toNat L).getD zeroC) 8 = _
            rw [hm]; rfl
          obtain ⟨_, g2, g3, g4⟩ := model_holds hf hL (by omega) hm
          rw [e]
          exact ⟨hf, g2, by rw [g3]; omega, g4⟩
      · rw [if_neg hu] at h; exact absurd h (by decide)
  · rw [if_neg hf] at h; exact absurd h hf
theorem model_five {ats : List At} {c : List Int} {u : Int} (h : modelFault ats c u = 5) (hf : formFault ats c = 0) {w : Wd} (hw : w.ok = true) (hwu : w.u = u) : w.formIs ats c = false := by
  unfold modelFault at h
  rw [if_pos hf] at h
  cases hL : cubesC c with
  | none => rw [hL] at h; have h : (4 : Int) = 5 := h; omega
  | some L =>
    rw [hL] at h
    have h : (if 0 ≤ u ∧ u ≤ 6 then (if (modelL ats u.toNat L).isSome = true then (0 : Int) else 5) else 1) = 5 := h
    by_cases hu : 0 ≤ u ∧ u ≤ 6
    · rw [if_pos hu] at h
      cases hm : modelL ats u.toNat L with
      | none => exact model_never hf hL hm hw (by rw [hwu]; omega)
      | some N => rw [hm] at h; have h : (0 : Int) = 5 := h; omega
    · rw [if_neg hu] at h; exact absurd h (by decide)
theorem formIs_no {ats : List At} {c : List Int} (hf : formFault ats c = 0) (h19 : c.length ≤ 19) {w : Wd} (hw : w.ok = true) : w.formIs ats (c ++ [12]) = !w.formIs ats c := by
  unfold Wd.formIs
  rw [if_pos (wdForm_zero.2 ⟨hf, hw⟩), if_pos (wdForm_zero.2 ⟨good_no hf h19, hw⟩)]
  exact val_no _ (formFault_zero.1 hf).2.2.2.2
theorem one_facts : modelFault (manyA 0 2) [0] 2 = 0 ∧ modelW (manyA 0 2) [0] 2 = ⟨2, 3, 3, 3⟩ ∧ modelFault (manyA 0 2) [0] 1 = 5 ∧ modelW (manyA 0 2) [0] 1 = ⟨0, 0, 0, 0⟩ := by
  have h : modelFault (manyA 0 2) [0] 2 = 0 ∧ ((modelW (manyA 0 2) [0] 2).u = 2 ∧ (modelW (manyA 0 2) [0] 2).a = 3 ∧ (modelW (manyA 0 2) [0] 2).b = 3 ∧ (modelW (manyA 0 2) [0] 2).c = 3) ∧ modelFault (manyA 0 2) [0] 1 = 5 := by decide +kernel
  obtain ⟨h1, ⟨h2, h3, h4, h5⟩, h6⟩ := h
  refine ⟨h1, ?_, h6, by unfold modelW; rw [if_neg (by rw [h6]; decide)]⟩
  cases e : modelW (manyA 0 2) [0] 2 with
  | mk u a b c => rw [e] at h2 h3 h4 h5; simp only at h2 h3 h4 h5; rw [h2, h3, h4, h5]
end Go.Proofs.YthddegjnaigepagDoor

namespace Go.Proofs.YthddegjnaigepagDoor
open Go.RowKit

structure Fm where
  ats : List At
  c : List Int
def fmZ : Fm := ⟨[], []⟩
def Fm.fault (f : Fm) : Int := formFault f.ats f.c
/-- do all hold in a world? -/
def Wd.so (w : Wd) (fs : List Fm) : Bool := fs.all fun f => w.formIs f.ats f.c
/-- what is wrong with the first that is wrong. -/
def firstForm : List Fm → Int
  | [] => 0
  | f :: l => if f.fault = 0 then firstForm l else f.fault
def formsFault (fs : List Fm) (u : Int) : Int := if fs.length = 0 then 5 else if 6 < fs.length then 4 else if firstForm fs = 0 then (if 0 ≤ u ∧ u ≤ 6 then 0 else 1) else firstForm fs
/-- is there a world of u things in which all hold? -/
def openN (fs : List Fm) (u : Nat) : Bool := (everyC u).any fun N => (madeN N 8).so fs
def openB (fs : List Fm) (u : Int) : Bool := if formsFault fs u = 0 then openN fs u.toNat else false

theorem firstForm_zero {fs : List Fm} : firstForm fs = 0 ↔ ∀ f ∈ fs, f.fault = 0 := by
  induction fs with
  | nil => exact ⟨fun _ f hf => (by cases hf), fun _ => rfl⟩
  | cons f l ih =>
    unfold firstForm
    by_cases h : f.fault = 0
    · rw [if_pos h, ih]
      exact ⟨fun g x hx => by
        rcases List.mem_cons.1 hx with rfl | hx
        · exact h
        · exact g x hx, fun g x hx => g x (List.mem_cons_of_mem _ hx)⟩
    · rw [if_neg h]
      exact ⟨fun g => absurd g h, fun g => absurd (g f List.mem_cons_self) h⟩
theorem firstForm_at {fs : List Fm} {k : Nat} {f : Fm} (hk : fs[k]? = some f) (h : ∀ j, j < k → ∀ g, fs[j]? = some g → g.fault = 0) (hf : ¬ f.fault = 0) : firstForm fs = f.fault := by
  induction fs generalizing k with
  | nil => simp at hk
  | cons g l ih =>
    unfold firstForm
    cases k with
    | zero =>
      obtain rfl : g = f := by simpa using hk
      rw [if_neg hf]
    | succ k =>
      rw [if_pos (h 0 (by omega) g rfl)]
      exact ih (by simpa using hk) fun j hj x hx => h (j + 1) (by omega) x (by simpa using hx)
theorem forms_zero {fs : List Fm} {u : Int} : formsFault fs u = 0 ↔ (1 ≤ fs.length ∧ fs.length ≤ 6) ∧ (∀ f ∈ fs, f.fault = 0) ∧ 0 ≤ u ∧ u ≤ 6 := by
  unfold formsFault
  by_cases h0 : fs.length = 0
  · rw [if_pos h0]; exact ⟨fun h => absurd h (by decide), fun h => by omega⟩
  · rw [if_neg h0]
    by_cases h6 : 6 < fs.length
    · rw [if_pos h6]; exact ⟨fun h => absurd h (by decide), fun h => by omega⟩
    · rw [if_neg h6]
      by_cases hf : firstForm fs = 0
      · rw [if_pos hf]
        by_cases hu : 0 ≤ u ∧ u ≤ 6
        · rw [if_pos hu]; exact ⟨fun _ => ⟨⟨by omega, by omega⟩, firstForm_zero.1 hf, hu⟩, fun _ => rfl⟩
        · rw [if_neg hu]; exact ⟨fun h => absurd h (by decide), fun h => absurd h.2.2 hu⟩
      · rw [if_neg hf]; exact ⟨fun h => absurd h hf, fun h => absurd (firstForm_zero.2 h.2.1) hf⟩
/-- in a world where all hold they are open. -/
theorem open_of {fs : List Fm} {w : Wd} (hw : w.ok = true) {u : Int} (hu : w.u = u) (h : w.so fs = true) : openN fs u.toNat = true := by
  have hcf := counts_fc hw
  have hsum : sumN (w.fc w.u.toNat) 8 = ((u.toNat : Nat) : Int) := by rw [sum_fc, hu]
  obtain ⟨A, hA, hAw⟩ := everyC_all (u := u.toNat) (fun g hg => ((counts_zero.1 hcf).1 g hg).1) hsum
  unfold openN
  rw [List.any_eq_true]
  refine ⟨A, hA, ?_⟩
  have e : ∀ k, k ≤ 8 → madeN A k = madeN (w.fc w.u.toNat) k := by
    intro k
    induction k with
    | zero => intro _; rfl
    | succ k ih => intro hk; unfold madeN; rw [ih (by omega), hAw k (by omega)]
  unfold Wd.so at h ⊢
  rw [List.all_eq_true] at h ⊢
  intro f hf
  rw [e 8 (Nat.le_refl _), (alike_made hw).form f.ats f.c]
  exact h f hf
/-- what is open has a world. -/
theorem open_has {fs : List Fm} {u : Nat} (hu : u ≤ 6) (h : openN fs u = true) : ∃ w : Wd, w.ok = true ∧ w.u = u ∧ w.so fs = true := by
  unfold openN at h
  rw [List.any_eq_true] at h
  obtain ⟨N, hN, hs⟩ := h
  have hc := everyC_right hu hN
  exact ⟨madeN N 8, made_ok hc, by rw [made_u hc, (everyC_sum hN).2], hs⟩
theorem open_less {fs gs : List Fm} {u : Nat} (h : ∀ f ∈ gs, f ∈ fs) (ho : openN fs u = true) : openN gs u = true := by
  unfold openN at ho ⊢
  rw [List.any_eq_true] at ho ⊢
  obtain ⟨N, hN, hs⟩ := ho
  refine ⟨N, hN, ?_⟩
  unfold Wd.so at hs ⊢
  rw [List.all_eq_true] at hs ⊢
  exact fun f hf => hs f (h f hf)
theorem open_nil (u : Nat) : openN [] u = true := by
  unfold openN
  rw [List.any_eq_true]
  cases h : everyC u with
  | nil => exact absurd h (allF_ne 7 u _)
  | cons N A => exact ⟨N, List.mem_cons_self, rfl⟩

/-- the worlds of all counts, in order. -/
def worldsL (u : Nat) : List Wd := (everyC u).map fun N => madeN N 8
theorem worldsL_length (u : Nat) : (worldsL u).length = (everyC u).length := by unfold worldsL; rw [List.length_map]
theorem worldsL_ok {u : Nat} (hu : u ≤ 6) {D : Wd} (h : D ∈ worldsL u) : D.ok = true := by
  unfold worldsL at h
  obtain ⟨N, hN, rfl⟩ := List.mem_map.1 h
  exact made_ok (everyC_right hu hN)

/-- in the list of all worlds is one like this. -/
theorem worldsL_like {w : Wd} (hw : w.ok = true) {u : Nat} (hu : w.u = u) : ∃ D ∈ worldsL u, Alike w D := by
  have hcf := counts_fc hw
  have hsum : sumN (w.fc w.u.toNat) 8 = (u : Int) := by rw [sum_fc, hu, Int.toNat_natCast]
  obtain ⟨A, hA, hAw⟩ := everyC_all (u := u) (fun g hg => ((counts_zero.1 hcf).1 g hg).1) hsum
  have e : ∀ k, k ≤ 8 → madeN A k = madeN (w.fc w.u.toNat) k := by
    intro k
    induction k with
    | zero => intro _; rfl
    | succ k ih => intro hk; unfold madeN; rw [ih (by omega), hAw k (by omega)]
  refine ⟨madeN A 8, List.mem_map.2 ⟨A, hA, rfl⟩, ?_⟩
  rw [e 8 (Nat.le_refl _)]
  exact alike_made hw
theorem worldsL_u {u : Nat} (hu : u ≤ 6) {D : Wd} (h : D ∈ worldsL u) : D.u = u := by
  unfold worldsL at h
  obtain ⟨N, hN, rfl⟩ := List.mem_map.1 h
  rw [made_u (everyC_right hu hN), (everyC_sum hN).2]

/-! ### the core: one by one -/
def putG (g : Nat → Bool) (i : Nat) (b : Bool) : Nat → Bool := fun k => if k = i then b else g k
/-- those that are not gone, of the first k. -/
def leftTo (fs : List Fm) (g : Nat → Bool) : Nat → List Fm
  | 0 => []
  | k + 1 => leftTo fs g k ++ (if g k = true then [] else (match fs[k]? with | some f => [f] | none => []))
def leftF (fs : List Fm) (g : Nat → Bool) : List Fm := leftTo fs g fs.length
/-- which are gone, behind the first i. -/
def goneTo (fs : List Fm) (u : Nat) : Nat → (Nat → Bool)
  | 0 => fun _ => false
  | i + 1 => if openN (leftF fs (putG (goneTo fs u i) i true)) u = true then putG (goneTo fs u i) i false else putG (goneTo fs u i) i true
def coreTo (fs : List Fm) (u : Nat) : Nat → List Int
  | 0 => []
  | i + 1 => if openN (leftF fs (putG (goneTo fs u i) i true)) u = true then coreTo fs u i ++ [(i : Int)] else coreTo fs u i
def coreFault (fs : List Fm) (u : Int) : Int := if formsFault fs u = 0 then (if openB fs u = true then 8 else 0) else formsFault fs u
def coreL (fs : List Fm) (u : Int) : List Int := if coreFault fs u = 0 then coreTo fs u.toNat fs.length else []
end Go.Proofs.YthddegjnaigepagDoor

namespace Go.Proofs.YthddegjnaigepagDoor
open Go.RowKit

theorem leftTo_mem {fs : List Fm} {g : Nat → Bool} {f : Fm} : ∀ k, k ≤ fs.length → (f ∈ leftTo fs g k ↔ ∃ j, j < k ∧ g j = false ∧ fs[j]? = some f) := by
  intro k
  induction k with
  | zero => intro _; exact ⟨fun h => by simp [leftTo] at h, fun ⟨j, h, _⟩ => by omega⟩
  | succ k ih =>
    intro hk
    unfold leftTo
    rw [List.mem_append, ih (by omega), List.getElem?_eq_getElem (show k < fs.length by omega)]
    constructor
    · rintro (⟨j, h1, h2, h3⟩ | h)
      · exact ⟨j, by omega, h2, h3⟩
      · cases hg : g k
        · rw [hg] at h
          simp at h
          exact ⟨k, by omega, hg, by rw [List.getElem?_eq_getElem (by omega), h]⟩
        · rw [hg] at h; simp at h
    · rintro ⟨j, h1, h2, h3⟩
      rcases Nat.lt_or_ge j k with h | h
      · exact Or.inl ⟨j, h, h2, h3⟩
      · obtain rfl : j = k := by omega
        right
        rw [h2]
        rw [List.getElem?_eq_getElem (by omega)] at h3
        simp at h3
        simp [h3]
theorem putG_same (g : Nat → Bool) (i : Nat) (b : Bool) : putG g i b i = b := by unfold putG; simp
theorem putG_other (g : Nat → Bool) {i k : Nat} (b : Bool) (h : k ≠ i) : putG g i b k = g k := by unfold putG; simp [h]
theorem goneTo_succ (fs : List Fm) (u i : Nat) : goneTo fs u (i + 1) = if openN (leftF fs (putG (goneTo fs u i) i true)) u = true then putG (goneTo fs u i) i false else putG (goneTo fs u i) i true := rfl
theorem coreTo_succ (fs : List Fm) (u i : Nat) : coreTo fs u (i + 1) = if openN (leftF fs (putG (goneTo fs u i) i true)) u = true then coreTo fs u i ++ [(i : Int)] else coreTo fs u i := rfl
theorem goneTo_far (fs : List Fm) (u : Nat) : ∀ i k, i ≤ k → goneTo fs u i k = false := by
  intro i
  induction i with
  | zero => intro k _; rfl
  | succ i ih =>
    intro k hk
    rw [goneTo_succ]
    split
    · rw [putG_other _ _ (by omega)]; exact ih k (by omega)
    · rw [putG_other _ _ (by omega)]; exact ih k (by omega)
theorem goneTo_keep (fs : List Fm) (u : Nat) : ∀ d i k, k < i → goneTo fs u (i + d) k = goneTo fs u i k := by
  intro d
  induction d with
  | zero => intro i k _; rfl
  | succ d ih =>
    intro i k hk
    rw [← ih i k hk, show i + (d + 1) = i + d + 1 by omega, goneTo_succ]
    split
    · rw [putG_other _ _ (by omega)]
    · rw [putG_other _ _ (by omega)]
/-- what is left is never open, if all together are not. -/
theorem left_closed {fs : List Fm} {u : Nat} (h : openN fs u = false) : ∀ i, i ≤ fs.length → openN (leftF fs (goneTo fs u i)) u = false := by
  intro i
  induction i with
  | zero =>
    intro _
    have hsub : ∀ f ∈ fs, f ∈ leftF fs (goneTo fs u 0) := fun f hf => by
      obtain ⟨j, hj⟩ := List.mem_iff_getElem?.1 hf
      exact (leftTo_mem fs.length (Nat.le_refl _)).2 ⟨j, (List.getElem?_eq_some_iff.1 hj).1, rfl, hj⟩
    cases e : openN (leftF fs (goneTo fs u 0)) u
    · rfl
    · rw [open_less hsub e] at h; exact absurd h (by decide)
  | succ i ih =>
    intro hi
    have ih := ih (by omega)
    rw [goneTo_succ]
    split
    · rename_i ho
      have hsame : putG (goneTo fs u i) i false = goneTo fs u i := by
        funext k
        by_cases hk : k = i
        · rw [hk, putG_same, goneTo_far fs u i i (Nat.le_refl _)]
        · rw [putG_other _ _ hk]
      rw [hsame]; exact ih
    · rename_i ho
      simpa using ho
/-- without any one that is kept the others are open. -/
theorem left_less {fs : List Fm} {u : Nat} {i : Nat} (hi : i < fs.length) (hk : goneTo fs u fs.length i = false) {gs : List Fm} (hgs : ∀ f ∈ gs, ∃ j, j < fs.length ∧ j ≠ i ∧ goneTo fs u fs.length j = false ∧ fs[j]? = some f) : openN gs u = true := by
  have e1 : goneTo fs u (i + 1) i = false := by
    have := goneTo_keep fs u (fs.length - (i + 1)) (i + 1) i (by omega)
    rw [show i + 1 + (fs.length - (i + 1)) = fs.length by omega] at this
    rw [← this]; exact hk
  have ho : openN (leftF fs (putG (goneTo fs u i) i true)) u = true := by
    cases ho : openN (leftF fs (putG (goneTo fs u i) i true)) u
    · have : goneTo fs u (i + 1) i = true := by
        rw [goneTo_succ, if_neg (by rw [ho]; decide), putG_same]
      rw [this] at e1; exact absurd e1 (by decide)
    · rfl
  refine open_less (fun f hf => ?_) ho
  obtain ⟨j, hj, hji, hjk, hfj⟩ := hgs f hf
  refine (leftTo_mem fs.length (Nat.le_refl _)).2 ⟨j, hj, ?_, hfj⟩
  rw [putG_other _ _ hji]
  rcases Nat.lt_or_ge j i with h | h
  · have := goneTo_keep fs u (fs.length - i) i j h
    rw [show i + (fs.length - i) = fs.length by omega] at this
    rw [← this]; exact hjk
  · exact goneTo_far fs u i j h
/-- the core are the places of those that are kept, rising. -/
theorem core_mem {fs : List Fm} {u : Nat} : ∀ i, i ≤ fs.length → (coreTo fs u i).Pairwise (· < ·) ∧ ∀ x : Int, x ∈ coreTo fs u i ↔ ∃ j : Nat, j < i ∧ x = j ∧ goneTo fs u i j = false := by
  intro i
  induction i with
  | zero => intro _; exact ⟨List.Pairwise.nil, fun x => ⟨fun h => (by cases h), fun ⟨j, h, _⟩ => by omega⟩⟩
  | succ i ih =>
    intro hi
    obtain ⟨h1, h2⟩ := ih (by omega)
    have hlow : ∀ j, j < i → goneTo fs u (i + 1) j = goneTo fs u i j := fun j hj => goneTo_keep fs u 1 i j hj
    cases ho : openN (leftF fs (putG (goneTo fs u i) i true)) u
    · have ec : coreTo fs u (i + 1) = coreTo fs u i := by rw [coreTo_succ, if_neg (by rw [ho]; decide)]
      have eg : goneTo fs u (i + 1) i = true := by
        rw [goneTo_succ, if_neg (by rw [ho]; decide), putG_same]
      rw [ec]
      refine ⟨h1, fun x => ?_⟩
      rw [h2 x]
      constructor
      · rintro ⟨j, a, b, c⟩; exact ⟨j, by omega, b, by rw [hlow j a]; exact c⟩
      · rintro ⟨j, a, b, c⟩
        rcases Nat.lt_or_ge j i with h | h
        · exact ⟨j, h, b, by rw [← hlow j h]; exact c⟩
        · obtain rfl : j = i := by omega
          rw [eg] at c; exact absurd c (by decide)
    · have ec : coreTo fs u (i + 1) = coreTo fs u i ++ [(i : Int)] := by rw [coreTo_succ, if_pos ho]
      have eg : goneTo fs u (i + 1) i = false := by
        rw [goneTo_succ, if_pos ho, putG_same]
      rw [ec]
      refine ⟨?_, fun x => ?_⟩
      · rw [List.pairwise_append]
        refine ⟨h1, by simp, fun a ha b hb => ?_⟩
        obtain ⟨j, hj, rfl, _⟩ := (h2 a).1 ha
        obtain rfl : b = (i : Int) := by simpa using hb
        omega
      · rw [List.mem_append, h2 x]
        constructor
        · rintro (⟨j, a, b, c⟩ | h)
          · exact ⟨j, by omega, b, by rw [hlow j a]; exact c⟩
          · exact ⟨i, by omega, by simpa using h, eg⟩
        · rintro ⟨j, a, b, c⟩
          rcases Nat.lt_or_ge j i with h | h
          · exact Or.inl ⟨j, h, b, by rw [← hlow j h]; exact c⟩
          · obtain rfl : j = i := by omega
            exact Or.inr (by simp [b])
/-- the formulas at the places of the core. -/
def coreF (fs : List Fm) (u : Nat) : List Fm := (coreTo fs u fs.length).map fun x => fs.getD x.toNat fmZ
theorem coreF_in {fs : List Fm} {u : Nat} {k : Nat} {x : Int} (hx : (coreTo fs u fs.length)[k]? = some x) : ∃ j : Nat, j < fs.length ∧ x = j ∧ goneTo fs u fs.length j = false ∧ fs[j]? = some (fs.getD x.toNat fmZ) := by
  obtain ⟨j, a, rfl, c⟩ := ((core_mem fs.length (Nat.le_refl _)).2 x).1 (List.mem_of_getElem? hx)
  refine ⟨j, a, rfl, c, ?_⟩
  rw [Int.toNat_natCast, List.getD_eq_getElem?_getD, List.getElem?_eq_getElem a]; rfl
/-- together they are not open. -/
theorem core_closed {fs : List Fm} {u : Nat} (h : openN fs u = false) : openN (coreF fs u) u = false := by
  have hl := left_closed h fs.length (Nat.le_refl _)
  cases e : openN (coreF fs u) u
  · rfl
  · have hsub : ∀ f ∈ leftF fs (goneTo fs u fs.length), f ∈ coreF fs u := fun f hf => by
      obtain ⟨j, h1, h2, h3⟩ := (leftTo_mem fs.length (Nat.le_refl _)).1 hf
      unfold coreF
      rw [List.mem_map]
      refine ⟨(j : Int), ((core_mem fs.length (Nat.le_refl _)).2 _).2 ⟨j, h1, rfl, h2⟩, ?_⟩
      rw [Int.toNat_natCast, List.getD_eq_getElem?_getD, h3]; rfl
    rw [open_less hsub e] at hl; exact absurd hl (by decide)
/-- without the k-th they are. -/
theorem core_without {fs : List Fm} {u : Nat} {k : Nat} (hk : k < (coreF fs u).length) : openN ((coreF fs u).take k ++ (coreF fs u).drop (k + 1)) u = true := by
  have hkc : k < (coreTo fs u fs.length).length := by unfold coreF at hk; simpa using hk
  obtain ⟨i, hi, hx, hg, _⟩ := coreF_in (List.getElem?_eq_getElem hkc)
  refine left_less hi hg fun f hf => ?_
  have hmem : ∃ m, m ≠ k ∧ (coreF fs u)[m]? = some f := by
    rcases List.mem_append.1 hf with h | h
    · obtain ⟨m, hm⟩ := List.mem_iff_getElem?.1 h
      have hmk : m < k := by have := (List.getElem?_eq_some_iff.1 hm).1; simp at this; omega
      exact ⟨m, by omega, by rw [List.getElem?_take_of_lt hmk] at hm; exact hm⟩
    · obtain ⟨m, hm⟩ := List.mem_iff_getElem?.1 h
      rw [List.getElem?_drop] at hm
      exact ⟨k + 1 + m, by omega, hm⟩
  obtain ⟨m, hmk, hm⟩ := hmem
  unfold coreF at hm
  rw [List.getElem?_map] at hm
  cases hy : (coreTo fs u fs.length)[m]? with
  | none => rw [hy] at hm; cases hm
  | some y =>
    rw [hy] at hm
    have hf' : fs.getD y.toNat fmZ = f := by simpa using hm
    obtain ⟨j, hj, hyj, hgj, hfj⟩ := coreF_in hy
    refine ⟨j, hj, ?_, hgj, by rw [← hf']; exact hfj⟩
    intro e
    have hp := (core_mem (fs := fs) (u := u) fs.length (Nat.le_refl _)).1
    have hml := (List.getElem?_eq_some_iff.1 hy).1
    have hyv : (coreTo fs u fs.length)[m] = y := (List.getElem?_eq_some_iff.1 hy).2
    rcases Nat.lt_or_gt_of_ne hmk with h | h
    · have := List.pairwise_iff_getElem.1 hp m k hml hkc h
      rw [hyv, hx, hyj, e] at this; omega
    · have := List.pairwise_iff_getElem.1 hp k m hkc hml h
      rw [hyv, hx, hyj, e] at this; omega
theorem core_some {fs : List Fm} {u : Nat} (h : openN fs u = false) : 0 < (coreF fs u).length := by
  rcases Nat.eq_zero_or_pos (coreF fs u).length with h0 | h0
  · have := core_closed h
    rw [List.eq_nil_of_length_eq_zero h0, open_nil] at this
    exact absurd this (by decide)
  · exact h0
end Go.Proofs.YthddegjnaigepagDoor

namespace Go.Proofs.YthddegjnaigepagDoor
open Go.RowKit

theorem or64 : ∀ k : Nat, k < 6 → ∀ m : Nat, m < 2 ^ k → bits .or .i64 (m : Int) (pw k) = (m : Int) + pw k := by decide +kernel
theorem and64 : ∀ n : Nat, n < 64 → ∀ m : Nat, m < 64 → bits .and .i64 (n : Int) (m : Int) = ((n &&& m : Nat) : Int) := by decide +kernel
theorem less64 : ∀ n : Nat, n < 64 → ∀ m : Nat, m < 64 → bits .andNot .i64 (n : Int) (m : Int) = ((n &&& (63 ^^^ m) : Nat) : Int) := by decide +kernel
theorem pw_nat (k : Nat) : pw k = ((2 ^ k : Nat) : Int) := by unfold pw; simp
theorem two_le {n : Nat} (h : n ≤ 6) : 2 ^ n ≤ 64 := Nat.le_trans (Nat.pow_le_pow_right (by decide) h : 2 ^ n ≤ 2 ^ 6) (by decide)

/-- bits, place by place. -/
theorem bits_at (L : Nat → Bool) {n : Nat} (hn : n ≤ 6) : ∃ m : Nat, maskTo L n = (m : Int) ∧ m < 64 ∧ ∀ f, m.testBit f = (decide (f < n) && L f) := by
  obtain ⟨m0, m1⟩ := maskTo_le L n
  obtain ⟨m, hm⟩ := Int.eq_ofNat_of_zero_le m0
  have hlt : m < 2 ^ n := by rw [hm, pw_nat] at m1; omega
  have h64 := two_le hn
  refine ⟨m, hm, by omega, fun f => ?_⟩
  by_cases hf : f < n
  · have h := has_mask L (show n ≤ 8 by omega) hf
    rw [hm] at h
    rw [decide_eq_true hf, Bool.true_and, ← h, Nat.testBit_eq_decide_div_mod_eq]
    unfold hasB
    apply decide_eq_decide.2
    have e : ((m : Int) / 2 ^ ((f : Int)).toNat % 2) = ((m / 2 ^ f % 2 : Nat) : Int) := by simp
    rw [e]
    omega
  · rw [decide_eq_false hf, Bool.false_and]
    exact Nat.testBit_lt_two_pow (Nat.lt_of_lt_of_le hlt (Nat.pow_le_pow_right (by decide) (Nat.le_of_not_lt hf)))
theorem mask_congr {L M : Nat → Bool} : ∀ n, (∀ k, k < n → L k = M k) → maskTo L n = maskTo M n := by
  intro n
  induction n with
  | zero => intro _; rfl
  | succ n ih =>
    intro h
    unfold maskTo
    rw [ih fun k hk => h k (by omega), h n (by omega)]
/-- all of them. -/
theorem mask_all : ∀ n, pw n - 1 = maskTo (fun _ => true) n := by
  intro n
  induction n with
  | zero => rfl
  | succ n ih =>
    have e : pw (n + 1) = pw n + pw n := by rw [pw_nat, pw_nat, Nat.pow_succ]; omega
    unfold maskTo
    rw [← ih, e]
    show _ = _ + 1 * pw n
    omega
/-- one more that holds. -/
theorem mask_or (L : Nat → Bool) {k : Nat} (hk : k < 6) (h : L k = true) : bits .or .i64 (maskTo L k) (pw k) = maskTo L (k + 1) := by
  obtain ⟨m0, m1⟩ := maskTo_le L k
  obtain ⟨m, hm⟩ := Int.eq_ofNat_of_zero_le m0
  have hlt : m < 2 ^ k := by rw [hm, pw_nat] at m1; omega
  show _ = maskTo L k + oneB (L k) * pw k
  rw [hm, or64 k hk m hlt, h]
  show _ = _ + 1 * pw k
  omega
theorem mask_not (L : Nat → Bool) {k : Nat} (h : L k = false) : maskTo L (k + 1) = maskTo L k := by
  show maskTo L k + oneB (L k) * pw k = _
  rw [h]
  show _ + 0 * pw k = _
  omega
/-- without one. -/
theorem mask_less (g : Nat → Bool) {n i : Nat} (hn : n ≤ 6) (hi : i < n) : bits .andNot .i64 (maskTo (fun k => !g k) n) (pw i) = maskTo (fun k => !putG g i true k) n := by
  obtain ⟨m, hm, h64, hb⟩ := bits_at (fun k => !g k) hn
  obtain ⟨q, hq, _, hc⟩ := bits_at (fun k => !putG g i true k) hn
  have hp : 2 ^ i < 64 := Nat.lt_of_lt_of_le (Nat.pow_lt_pow_right (by decide) hi : 2 ^ i < 2 ^ n) (two_le hn)
  rw [hm, hq, pw_nat, less64 m h64 _ hp]
  have e : m &&& (63 ^^^ 2 ^ i) = q := Nat.eq_of_testBit_eq fun f => by
    have h63 : Nat.testBit 63 f = decide (f < 6) := Nat.testBit_two_pow_sub_one 6 f
    rw [Nat.testBit_and, Nat.testBit_xor, hb, hc, h63, Nat.testBit_two_pow]
    by_cases hf : f < n
    · rw [decide_eq_true hf, decide_eq_true (show f < 6 by omega)]
      by_cases hfi : i = f
      · subst hfi; rw [decide_eq_true rfl, putG_same]; simp
      · rw [decide_eq_false hfi, putG_other _ _ (fun e => hfi e.symm)]; simp
    · rw [decide_eq_false hf]; simp
  rw [e]
/-- is one among them? -/
theorem mask_has (L : Nat → Bool) {n i : Nat} (hn : n ≤ 6) (hi : i < n) : (bits .and .i64 (maskTo L n) (pw i) = 0) ↔ L i = false := by
  obtain ⟨m, hm, h64, hb⟩ := bits_at L hn
  have hp : 2 ^ i < 64 := Nat.lt_of_lt_of_le (Nat.pow_lt_pow_right (by decide) hi : 2 ^ i < 2 ^ n) (two_le hn)
  rw [hm, pw_nat, and64 m h64 _ hp]
  have e : (((m &&& 2 ^ i : Nat) : Int) = 0) ↔ (m &&& 2 ^ i) = 0 := by omega
  rw [e]
  constructor
  · intro h
    have := congrArg (fun x => Nat.testBit x i) h
    simp only [Nat.testBit_and, hb, Nat.testBit_two_pow, Nat.zero_testBit, decide_eq_true hi, Bool.true_and] at this
    simpa using this
  · intro h
    refine Nat.eq_of_testBit_eq fun f => ?_
    rw [Nat.testBit_and, hb, Nat.testBit_two_pow, Nat.zero_testBit]
    by_cases hfi : i = f
    · subst hfi; rw [h]; simp
    · rw [decide_eq_false hfi]; simp
/-- are all of some among them? -/
theorem mask_in (H L : Nat → Bool) {n : Nat} (hn : n ≤ 6) : (bits .and .i64 (maskTo H n) (maskTo L n) = maskTo L n) ↔ ∀ j, j < n → L j = true → H j = true := by
  obtain ⟨m, hm, hm64, hb⟩ := bits_at H hn
  obtain ⟨q, hq, hq64, hc⟩ := bits_at L hn
  rw [hm, hq, and64 m hm64 q hq64]
  have e : (((m &&& q : Nat) : Int) = (q : Int)) ↔ (m &&& q) = q := by omega
  rw [e]
  constructor
  · intro h j hj hl
    have := congrArg (fun x => Nat.testBit x j) h
    simp only [Nat.testBit_and, hb, hc, decide_eq_true hj, hl, Bool.true_and, Bool.and_true] at this
    exact this
  · intro h
    refine Nat.eq_of_testBit_eq fun f => ?_
    rw [Nat.testBit_and, hb, hc]
    by_cases hf : f < n
    · rw [decide_eq_true hf]
      cases hl : L f
      · simp
      · rw [h f hf hl]; rfl
    · rw [decide_eq_false hf]; simp

/-- does the j-th hold there? -/
def holdsAt (fs : List Fm) (D : Wd) (j : Nat) : Bool := match fs[j]? with | some f => D.formIs f.ats f.c | none => false
theorem holds_at {fs : List Fm} {D : Wd} {j : Nat} {f : Fm} (h : fs[j]? = some f) : holdsAt fs D j = D.formIs f.ats f.c := by unfold holdsAt; rw [h]
/-- world by world, which hold there. -/
def heldL (fs : List Fm) (u : Nat) : List Int := (everyC u).map fun N => maskTo (holdsAt fs (madeN N 8)) fs.length
theorem heldL_length (fs : List Fm) (u : Nat) : (heldL fs u).length = (everyC u).length := by unfold heldL; rw [List.length_map]
/-- all of those that are not gone hold in one of the worlds, just if they are open. -/
theorem held_open {fs : List Fm} (h6 : fs.length ≤ 6) (u : Nat) (g : Nat → Bool) : ((heldL fs u).any fun h => decide (bits .and .i64 h (maskTo (fun k => !g k) fs.length) = maskTo (fun k => !g k) fs.length)) = openN (leftF fs g) u := by
  unfold heldL openN
  rw [List.any_map]
  congr 1
  funext N
  rw [Bool.eq_iff_iff]
  show decide _ = true ↔ _
  rw [decide_eq_true_iff, mask_in _ _ h6]
  unfold Wd.so
  rw [List.all_eq_true]
  constructor
  · intro h f hf
    obtain ⟨j, h1, h2, h3⟩ := (leftTo_mem fs.length (Nat.le_refl _)).1 hf
    have := h j h1 (by rw [h2]; rfl)
    rw [holds_at h3] at this
    exact this
  · intro h j hj hl
    have hf := List.getElem?_eq_getElem hj
    rw [holds_at hf]
    exact h _ ((leftTo_mem fs.length (Nat.le_refl _)).2 ⟨j, hj, by simpa using hl, hf⟩)
theorem left_all (fs : List Fm) (u : Nat) : openN (leftF fs fun _ => false) u = openN fs u := by
  rw [Bool.eq_iff_iff]
  constructor
  · exact open_less fun f hf => by
      obtain ⟨j, hj⟩ := List.mem_iff_getElem?.1 hf
      exact (leftTo_mem fs.length (Nat.le_refl _)).2 ⟨j, (List.getElem?_eq_some_iff.1 hj).1, rfl, hj⟩
  · exact open_less fun f hf => by
      obtain ⟨j, _, _, h3⟩ := (leftTo_mem fs.length (Nat.le_refl _)).1 hf
      exact List.mem_of_getElem? h3

/-- the places that bits stand for, of the first k. -/
def placesTo (L : Nat → Bool) : Nat → List Int
  | 0 => []
  | k + 1 => placesTo L k ++ (if L k = true then [(k : Int)] else [])
theorem placesTo_length (L : Nat → Bool) : ∀ k, (placesTo L k).length ≤ k := by
  intro k
  induction k with
  | zero => exact Nat.le_refl _
  | succ k ih =>
    unfold placesTo
    split
    · simp; omega
    · simp; omega
theorem places_core {fs : List Fm} {u n : Nat} : ∀ i, i ≤ n → placesTo (fun k => !goneTo fs u n k) i = coreTo fs u i := by
  intro i
  induction i with
  | zero => intro _; rfl
  | succ i ih =>
    intro hi
    have hk := goneTo_keep fs u (n - (i + 1)) (i + 1) i (by omega)
    rw [show i + 1 + (n - (i + 1)) = n by omega] at hk
    unfold placesTo
    rw [ih (by omega), coreTo_succ, hk, goneTo_succ]
    cases openN (leftF fs (putG (goneTo fs u i) i true)) u
    · simp [putG_same]
    · simp [putG_same]
/-- one step. -/
theorem left_step {fs : List Fm} {u n i : Nat} : (openN (leftF fs (putG (goneTo fs u i) i true)) u = true → maskTo (fun k => !goneTo fs u (i + 1) k) n = maskTo (fun k => !goneTo fs u i k) n) ∧ (openN (leftF fs (putG (goneTo fs u i) i true)) u = false → maskTo (fun k => !goneTo fs u (i + 1) k) n = maskTo (fun k => !putG (goneTo fs u i) i true k) n) := by
  refine ⟨fun h => mask_congr n fun k _ => ?_, fun h => mask_congr n fun k _ => ?_⟩
  · rw [goneTo_succ, if_pos h]
    by_cases hk : k = i
    · rw [hk, putG_same, goneTo_far fs u i i (Nat.le_refl _)]
    · rw [putG_other _ _ hk]
  · rw [goneTo_succ, if_neg (by rw [h]; decide)]
end Go.Proofs.YthddegjnaigepagDoor
