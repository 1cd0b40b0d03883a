/-
  Plain facts on where a formula does not hold, whether it is sure, and on a formula that a name has at least so many things (chapter 9). No program is read here.
  Plain facts on some formulas together: whether they are open, and which are enough not to be (chapter 13). No program is read here.
  Plain facts on between how many things a term has in the worlds in which a formula holds (chapter 14). No program is read here.
  Plain facts on a formula of an atom alone, and on two formulas together (chapters 3, 4, 13). No program is read here.
  Plain facts on between how many things all, nothing, and a name have in the worlds of so many things (chapter 14). No program is read here.
  Plain facts on what some formulas say of another one (chapter 18). No program is read here.
  Plain facts on what 'a name has so many' says of 'it has so many others' (chapter 18). No program is read here.
-/
import Derived.Test.YtjaedfjfcghgcabDoorLibS4
namespace Go.Proofs.YtjaedfjfcghgcabDoor
open Go.RowKit

def againstFault (ats : List At) (c : List Int) (u : Int) : Int := if negFault ats c = 0 then modelFault ats (c ++ [12]) u else negFault ats c
def againstW (ats : List At) (c : List Int) (u : Int) : Wd := if negFault ats c = 0 then modelW ats (c ++ [12]) u else ⟨0, 0, 0, 0⟩
def sureB (ats : List At) (c : List Int) (u : Int) : Bool := decide (againstFault ats c u = 5 ∧ formFault ats c = 0)
def sureFault (ats : List At) (c : List Int) (u : Int) : Int := if sureB ats c u = true then 0 else againstFault ats c u
theorem neg_good {ats : List At} {c : List Int} (h : negFault ats c = 0) : formFault ats c = 0 ∧ c.length ≤ 19 ∧ formFault ats (c ++ [12]) = 0 := by
  unfold negFault at h
  by_cases hf : formFault ats c = 0
  · rw [if_pos hf] at h
    by_cases h19 : 19 < c.length
    · rw [if_pos h19] at h; exact absurd h (by decide)
    · exact ⟨hf, by omega, good_no hf (by omega)⟩
  · rw [if_neg hf] at h; exact absurd h hf
theorem neg_five {ats : List At} {c : List Int} (h : negFault ats c = 5) : formFault ats c = 5 := by
  unfold negFault at h
  by_cases hf : formFault ats c = 0
  · rw [if_pos hf] at h
    by_cases h19 : 19 < c.length
    · rw [if_pos h19] at h; exact absurd h (by decide)
    · rw [if_neg h19] at h; exact absurd h (by decide)
  · rw [if_neg hf] at h; exact h
/-- the formula that a name has at least n things. -/
def manyA (name n : Int) : List At := [⟨3, [name], [], n⟩]
/-- what a world has of a name. -/
def Wd.has (w : Wd) : Nat → Int
  | 0 => w.a
  | 1 => w.b
  | _ => w.c
theorem many_facts : ∀ name : Nat, name < 3 → ∀ n : Nat, n < 6 → modelFault (manyA (name : Int) ((n : Int) + 1)) [0] ((n : Int) + 1) = 0 ∧ (modelW (manyA (name : Int) ((n : Int) + 1)) [0] ((n : Int) + 1)).has name + 1 = pw (n + 1) ∧ modelFault (manyA (name : Int) ((n : Int) + 1)) [0] (n : Int) = 5 ∧ sureB (manyA (name : Int) ((n : Int) + 1)) [0] (n : Int) = false ∧ sureFault (manyA (name : Int) ((n : Int) + 1)) [0] (n : Int) = 0 := by decide +kernel
theorem model_zero {ats : List At} {c : List Int} {u : Int} (h : modelFault ats c u = 0) : formFault ats c = 0 ∧ (modelW ats c u).ok = true ∧ (modelW ats c u).u = u ∧ (modelW ats c u).formIs ats c = true := by
  have h0 := h
  unfold modelFault at h
  by_cases hf : formFault ats c = 0
  · rw [if_pos hf] at h
    cases hL : cubesC c with
    | none => rw [hL] at h; have h : (4 : Int) = 0 := h; omega
    | some L =>
      rw [hL] at h
      have h : (if 0 ≤ u ∧ u ≤ 6 then (if (modelL ats u.toNat L).isSome = true then (0 : Int) else 5) else 1) = 0 := h
      by_cases hu : 0 ≤ u ∧ u ≤ 6
      · rw [if_pos hu] at h
        cases hm : modelL ats u.toNat L with
        | none => rw [hm] at h; have h : (5 : Int) = 0 := h; omega
        | some N =>
          have e : modelW ats c u = madeN N 8 := by
            unfold modelW modelN
            rw [if_pos h0, hL]
            show madeN ((modelL ats u.toNat L).getD zeroC) 8 = _
            rw [hm]; rfl
          obtain ⟨_, g2, g3, g4⟩ := model_holds hf hL (by omega) hm
          rw [e]
          exact ⟨hf, g2, by rw [g3]; omega, g4⟩
      · rw [if_neg hu] at h; exact absurd h (by decide)
  · rw [if_neg hf] at h; exact absurd h hf
theorem model_five {ats : List At} {c : List Int} {u : Int} (h : modelFault ats c u = 5) (hf : formFault ats c = 0) {w : Wd} (hw : w.ok = true) (hwu : w.u = u) : w.formIs ats c = false := by
  unfold modelFault at h
  rw [if_pos hf] at h
  cases hL : cubesC c with
  | none => rw [hL] at h; have h : (4 : Int) = 5 := h; omega
  | some L =>
    rw [hL] at h
    have h : (if 0 ≤ u ∧ u ≤ 6 then (if (modelL ats u.toNat L).isSome = true then (0 : Int) else 5) else 1) = 5 := h
    by_cases hu : 0 ≤ u ∧ u ≤ 6
    · rw [if_pos hu] at h
      cases hm : modelL ats u.toNat L with
      | none => exact model_never hf hL hm hw (by rw [hwu]; omega)
      | some N => rw [hm] at h; have h : (0 : Int) = 5 := h; omega
    · rw [if_neg hu] at h; exact absurd h (by decide)
theorem formIs_no {ats : List At} {c : List Int} (hf : formFault ats c = 0) (h19 : c.length ≤ 19) {w : Wd} (hw : w.ok = true) : w.formIs ats (c ++ [12]) = !w.formIs ats c := by
  unfold Wd.formIs
  rw [if_pos (wdForm_zero.2 ⟨hf, hw⟩), if_pos (wdForm_zero.2 ⟨good_no hf h19, hw⟩)]
  exact val_no _ (formFault_zero.1 hf).2.2.2.2
theorem one_facts : modelFault (manyA 0 2) [0] 2 = 0 ∧ modelW (manyA 0 2) [0] 2 = ⟨2, 3, 3, 3⟩ ∧ modelFault (manyA 0 2) [0] 1 = 5 ∧ modelW (manyA 0 2) [0] 1 = ⟨0, 0, 0, 0⟩ := by
  have h : modelFault (manyA 0 2) [0] 2 = 0 ∧ ((modelW (manyA 0 2) [0] 2).u = 2 ∧ (modelW (manyA 0 2) [0] 2).a = 3 ∧ (modelW (manyA 0 2) [0] 2).b = 3 ∧ (modelW (manyA 0 2) [0] 2).c = 3) ∧ modelFault (manyA 0 2) [0] 1 = 5 := by decide +kernel
  obtain ⟨h1, ⟨h2, h3, h4, h5⟩, h6⟩ := h
  refine ⟨h1, ?_, h6, by unfold modelW; rw [if_neg (by rw [h6]; decide)]⟩
  cases e : modelW (manyA 0 2) [0] 2 with
  | mk u a b c => rw [e] at h2 h3 h4 h5; simp only at h2 h3 h4 h5; rw [h2, h3, h4, h5]
end Go.Proofs.YtjaedfjfcghgcabDoor

namespace Go.Proofs.YtjaedfjfcghgcabDoor
open Go.RowKit

structure Fm where
  ats : List At
  c : List Int
def fmZ : Fm := ⟨[], []⟩
def Fm.fault (f : Fm) : Int := formFault f.ats f.c
/-- do all hold in a world? -/
def Wd.so (w : Wd) (fs : List Fm) : Bool := fs.all fun f => w.formIs f.ats f.c
/-- what is wrong with the first that is wrong. -/
def firstForm : List Fm → Int
  | [] => 0
  | f :: l => if f.fault = 0 then firstForm l else f.fault
def formsFault (fs : List Fm) (u : Int) : Int := if fs.length = 0 then 5 else if 6 < fs.length then 4 else if firstForm fs = 0 then (if 0 ≤ u ∧ u ≤ 6 then 0 else 1) else firstForm fs
/-- is there a world of u things in which all hold? -/
def openN (fs : List Fm) (u : Nat) : Bool := (everyC u).any fun N => (madeN N 8).so fs
def openB (fs : List Fm) (u : Int) : Bool := if formsFault fs u = 0 then openN fs u.toNat else false

theorem firstForm_zero {fs : List Fm} : firstForm fs = 0 ↔ ∀ f ∈ fs, f.fault = 0 := by
  induction fs with
  | nil => exact ⟨fun _ f hf => (by cases hf), fun _ => rfl⟩
  | cons f l ih =>
    unfold firstForm
    by_cases h : f.fault = 0
    · rw [if_pos h, ih]
      exact ⟨fun g x hx => by
        rcases List.mem_cons.1 hx with rfl | hx
        · exact h
        · exact g x hx, fun g x hx => g x (List.mem_cons_of_mem _ hx)⟩
    · rw [if_neg h]
      exact ⟨fun g => absurd g h, fun g => absurd (g f List.mem_cons_self) h⟩
theorem firstForm_at {fs : List Fm} {k : Nat} {f : Fm} (hk : fs[k]? = some f) (h : ∀ j, j < k → ∀ g, fs[j]? = some g → g.fault = 0) (hf : ¬ f.fault = 0) : firstForm fs = f.fault := by
  induction fs generalizing k with
  | nil => simp at hk
  | cons g l ih =>
    unfold firstForm
    cases k with
    | zero =>
      obtain rfl : g = f := by simpa using hk
      rw [if_neg hf]
    | succ k =>
      rw [if_pos (h 0 (by omega) g rfl)]
      exact ih (by simpa using hk) fun j hj x hx => h (j + 1) (by omega) x (by simpa using hx)
theorem forms_zero {fs : List Fm} {u : Int} : formsFault fs u = 0 ↔ (1 ≤ fs.length ∧ fs.length ≤ 6) ∧ (∀ f ∈ fs, f.fault = 0) ∧ 0 ≤ u ∧ u ≤ 6 := by
  unfold formsFault
  by_cases h0 : fs.length = 0
  · rw [if_pos h0]; exact ⟨fun h => absurd h (by decide), fun h => by omega⟩
  · rw [if_neg h0]
    by_cases h6 : 6 < fs.length
    · rw [if_pos h6]; exact ⟨fun h => absurd h (by decide), fun h => by omega⟩
    · rw [if_neg h6]
      by_cases hf : firstForm fs = 0
      · rw [if_pos hf]
        by_cases hu : 0 ≤ u ∧ u ≤ 6
        · rw [if_pos hu]; exact ⟨fun _ => ⟨⟨by omega, by omega⟩, firstForm_zero.1 hf, hu⟩, fun _ => rfl⟩
        · rw [if_neg hu]; exact ⟨fun h => absurd h (by decide), fun h => absurd h.2.2 hu⟩
      · rw [if_neg hf]; exact ⟨fun h => absurd h hf, fun h => absurd (firstForm_zero.2 h.2.1) hf⟩
/-- in a world where all hold they are open. -/
theorem open_of {fs : List Fm} {w : Wd} (hw : w.ok = true) {u : Int} (hu : w.u = u) (h : w.so fs = true) : openN fs u.toNat = true := by
  have hcf := counts_fc hw
  have hsum : sumN (w.fc w.u.toNat) 8 = ((u.toNat : Nat) : Int) := by rw [sum_fc, hu]
  obtain ⟨A, hA, hAw⟩ := everyC_all (u := u.toNat) (fun g hg => ((counts_zero.1 hcf).1 g hg).1) hsum
  unfold openN
  rw [List.any_eq_true]
  refine ⟨A, hA, ?_⟩
  have e : ∀ k, k ≤ 8 → madeN A k = madeN (w.fc w.u.toNat) k := by
    intro k
    induction k with
    | zero => intro _; rfl
    | succ k ih => intro hk; unfold madeN; rw [ih (by omega), hAw k (by omega)]
  unfold Wd.so at h ⊢
  rw [List.all_eq_true] at h ⊢
  intro f hf
  rw [e 8 (Nat.le_refl _), (alike_made hw).form f.ats f.c]
  exact h f hf
/-- what is open has a world. -/
theorem open_has {fs : List Fm} {u : Nat} (hu : u ≤ 6) (h : openN fs u = true) : ∃ w : Wd, w.ok = true ∧ w.u = u ∧ w.so fs = true := by
  unfold openN at h
  rw [List.any_eq_true] at h
  obtain ⟨N, hN, hs⟩ := h
  have hc := everyC_right hu hN
  exact ⟨madeN N 8, made_ok hc, by rw [made_u hc, (everyC_sum hN).2], hs⟩
theorem open_less {fs gs : List Fm} {u : Nat} (h : ∀ f ∈ gs, f ∈ fs) (ho : openN fs u = true) : openN gs u = true := by
  unfold openN at ho ⊢
  rw [List.any_eq_true] at ho ⊢
  obtain ⟨N, hN, hs⟩ := ho
  refine ⟨N, hN, ?_⟩
  unfold Wd.so at hs ⊢
  rw [List.all_eq_true] at hs ⊢
  exact fun f hf => hs f (h f hf)
theorem open_nil (u : Nat) : openN [] u = true := by
  unfold openN
  rw [List.any_eq_true]
  cases h : everyC u with
  | nil => exact absurd h (allF_ne 7 u _)
  | cons N A => exact ⟨N, List.mem_cons_self, rfl⟩

/-- the worlds of all counts, in order. -/
def worldsL (u : Nat) : List Wd := (everyC u).map fun N => madeN N 8
theorem worldsL_length (u : Nat) : (worldsL u).length = (everyC u).length := by unfold worldsL; rw [List.length_map]
theorem worldsL_ok {u : Nat} (hu : u ≤ 6) {D : Wd} (h : D ∈ worldsL u) : D.ok = true := by
  unfold worldsL at h
  obtain ⟨N, hN, rfl⟩ := List.mem_map.1 h
  exact made_ok (everyC_right hu hN)

/-- in the list of all worlds is one like this. -/
theorem worldsL_like {w : Wd} (hw : w.ok = true) {u : Nat} (hu : w.u = u) : ∃ D ∈ worldsL u, Alike w D := by
  have hcf := counts_fc hw
  have hsum : sumN (w.fc w.u.toNat) 8 = (u : Int) := by rw [sum_fc, hu, Int.toNat_natCast]
  obtain ⟨A, hA, hAw⟩ := everyC_all (u := u) (fun g hg => ((counts_zero.1 hcf).1 g hg).1) hsum
  have e : ∀ k, k ≤ 8 → madeN A k = madeN (w.fc w.u.toNat) k := by
    intro k
    induction k with
    | zero => intro _; rfl
    | succ k ih => intro hk; unfold madeN; rw [ih (by omega), hAw k (by omega)]
  refine ⟨madeN A 8, List.mem_map.2 ⟨A, hA, rfl⟩, ?_⟩
  rw [e 8 (Nat.le_refl _)]
  exact alike_made hw
theorem worldsL_u {u : Nat} (hu : u ≤ 6) {D : Wd} (h : D ∈ worldsL u) : D.u = u := by
  unfold worldsL at h
  obtain ⟨N, hN, rfl⟩ := List.mem_map.1 h
  rw [made_u (everyC_right hu hN), (everyC_sum hN).2]

/-! ### the core: one by one -/
def putG (g : Nat → Bool) (i : Nat) (b : Bool) : Nat → Bool := fun k => if k = i then b else g k
/-- those that are not gone, of the first k. -/
def leftTo (fs : List Fm) (g : Nat → Bool) : Nat → List Fm
  | 0 => []
  | k + 1 => leftTo fs g k ++ (if g k = true then [] else (match fs[k]? with | some f => [f] | none => []))
def leftF (fs : List Fm) (g : Nat → Bool) : List Fm := leftTo fs g fs.length
/-- which are gone, behind the first i. -/
def goneTo (fs : List Fm) (u : Nat) : Nat → (Nat → Bool)
  | 0 => fun _ => false
  | i + 1 => if openN (leftF fs (putG (goneTo fs u i) i true)) u = true then putG (goneTo fs u i) i false else putG (goneTo fs u i) i true
def coreTo (fs : List Fm) (u : Nat) : Nat → List Int
  | 0 => []
  | i + 1 => if openN (leftF fs (putG (goneTo fs u i) i true)) u = true then coreTo fs u i ++ [(i : Int)] else coreTo fs u i
def coreFault (fs : List Fm) (u : Int) : Int := if formsFault fs u = 0 then (if openB fs u = true then 8 else 0) else formsFault fs u
def coreL (fs : List Fm) (u : Int) : List Int := if coreFault fs u = 0 then coreTo fs u.toNat fs.length else []
end Go.Proofs.YtjaedfjfcghgcabDoor

namespace Go.Proofs.YtjaedfjfcghgcabDoor
open Go.RowKit

def spanStep (ats : List At) (c t : List Int) (p : Int × Int) (D : Wd) : Int × Int :=
  if D.formIs ats c = true then (if pcN (D.val t) < p.1 then pcN (D.val t) else p.1, if p.2 < pcN (D.val t) then pcN (D.val t) else p.2) else p
def spanOver (ats : List At) (c t : List Int) (L : List Wd) : Int × Int := L.foldl (spanStep ats c t) (100, -1)
def spanP (ats : List At) (c t : List Int) (u : Nat) : Int × Int := spanOver ats c t (worldsL u)
def spanFault (ats : List At) (c t : List Int) (u : Int) : Int := if formFault ats c = 0 then (if faultN t = 0 then (if 0 ≤ u ∧ u ≤ 6 then (if (spanP ats c t u.toNat).2 < 0 then 5 else 0) else 1) else faultN t) else formFault ats c
def spanLo (ats : List At) (c t : List Int) (u : Int) : Int := if spanFault ats c t u = 0 then (spanP ats c t u.toNat).1 else 0
def spanHi (ats : List At) (c t : List Int) (u : Int) : Int := if spanFault ats c t u = 0 then (spanP ats c t u.toNat).2 else 0
def exactFault (ats : List At) (c t : List Int) (u : Int) : Int := if spanFault ats c t u = 0 then (if spanLo ats c t u = spanHi ats c t u then 0 else 8) else spanFault ats c t u
def exactN (ats : List At) (c t : List Int) (u : Int) : Int := if exactFault ats c t u = 0 then spanLo ats c t u else 0

theorem revInd {α : Type} {P : List α → Prop} (h0 : P []) (h1 : ∀ L a, P L → P (L ++ [a])) : ∀ L, P L := by
  intro L
  have key : ∀ n, P (L.take n) := by
    intro n
    induction n with
    | zero => exact h0
    | succ n ih =>
      rw [List.take_add_one]
      cases h : L[n]? with
      | none => simpa using ih
      | some a => exact h1 _ _ ih
  have := key L.length
  rwa [List.take_length] at this
theorem spanOver_add (ats : List At) (c t : List Int) (L : List Wd) (D : Wd) : spanOver ats c t (L ++ [D]) = spanStep ats c t (spanOver ats c t L) D := by
  unfold spanOver; rw [List.foldl_append]; rfl
/-- all that hold lie between. -/
theorem span_bound {ats : List At} {c t : List Int} : ∀ L : List Wd, ∀ D ∈ L, D.formIs ats c = true → (spanOver ats c t L).1 ≤ pcN (D.val t) ∧ pcN (D.val t) ≤ (spanOver ats c t L).2 := by
  refine revInd ?_ ?_
  · intro D hD; cases hD
  · intro L E ih D hD hf
    rw [spanOver_add]
    unfold spanStep
    rcases List.mem_append.1 hD with h | h
    · obtain ⟨a, b⟩ := ih D h hf
      by_cases hE : E.formIs ats c = true
      · rw [if_pos hE]
        constructor
        · show (if _ then _ else _) ≤ _
          split <;> omega
        · show _ ≤ (if _ then _ else _)
          split <;> omega
      · rw [if_neg hE]; exact ⟨a, b⟩
    · obtain rfl : D = E := by simpa using h
      rw [if_pos hf]
      constructor
      · show (if _ then _ else _) ≤ _
        split <;> omega
      · show _ ≤ (if _ then _ else _)
        split <;> omega
/-- none holds, or both ends are reached. -/
theorem span_hit {ats : List At} {c t : List Int} : ∀ L : List Wd, (spanOver ats c t L = (100, -1) ∧ ∀ D ∈ L, D.formIs ats c = false) ∨ ((∃ D ∈ L, D.formIs ats c = true ∧ pcN (D.val t) = (spanOver ats c t L).1) ∧ ∃ D ∈ L, D.formIs ats c = true ∧ pcN (D.val t) = (spanOver ats c t L).2) := by
  refine revInd ?_ ?_
  · exact Or.inl ⟨rfl, fun D h => by cases h⟩
  · intro L E ih
    rw [spanOver_add]
    have hl : ∀ D, D ∈ L → D ∈ L ++ [E] := fun D h => List.mem_append_left _ h
    have hr : E ∈ L ++ [E] := by simp
    have hp := pcN_le (E.val t)
    rcases Bool.eq_false_or_eq_true (E.formIs ats c) with hE | hE
    · right
      rcases ih with ⟨h1, _⟩ | ⟨⟨D, hD, hf, e⟩, ⟨D', hD', hf', e'⟩⟩
      · rw [h1]
        unfold spanStep
        rw [if_pos hE]
        refine ⟨⟨E, hr, hE, ?_⟩, ⟨E, hr, hE, ?_⟩⟩
        · show _ = (if _ then _ else _)
          rw [if_pos (by show pcN (E.val t) < 100; omega)]
        · show _ = (if _ then _ else _)
          rw [if_pos (by show (-1 : Int) < pcN (E.val t); omega)]
      · unfold spanStep
        rw [if_pos hE]
        constructor
        · by_cases h : pcN (E.val t) < (spanOver ats c t L).1
          · exact ⟨E, hr, hE, by show _ = (if _ then _ else _); rw [if_pos h]⟩
          · exact ⟨D, hl D hD, hf, by show _ = (if _ then _ else _); rw [if_neg h]; exact e⟩
        · by_cases h : (spanOver ats c t L).2 < pcN (E.val t)
          · exact ⟨E, hr, hE, by show _ = (if _ then _ else _); rw [if_pos h]⟩
          · exact ⟨D', hl D' hD', hf', by show _ = (if _ then _ else _); rw [if_neg h]; exact e'⟩
    · have es : spanStep ats c t (spanOver ats c t L) E = spanOver ats c t L := by unfold spanStep; rw [if_neg (by rw [hE]; decide)]
      rw [es]
      rcases ih with ⟨h1, h2⟩ | ⟨⟨D, hD, hf, e⟩, ⟨D', hD', hf', e'⟩⟩
      · left
        refine ⟨h1, fun D hD => ?_⟩
        rcases List.mem_append.1 hD with h | h
        · exact h2 D h
        · obtain rfl : D = E := by simpa using h
          exact hE
      · right
        exact ⟨⟨D, hl D hD, hf, e⟩, ⟨D', hl D' hD', hf', e'⟩⟩
theorem span_zero {ats : List At} {c t : List Int} {u : Int} : spanFault ats c t u = 0 ↔ formFault ats c = 0 ∧ faultN t = 0 ∧ (0 ≤ u ∧ u ≤ 6) ∧ ¬ (spanP ats c t u.toNat).2 < 0 := by
  unfold spanFault
  by_cases h1 : formFault ats c = 0
  · rw [if_pos h1]
    by_cases h2 : faultN t = 0
    · rw [if_pos h2]
      by_cases h3 : 0 ≤ u ∧ u ≤ 6
      · rw [if_pos h3]
        by_cases h4 : (spanP ats c t u.toNat).2 < 0
        · rw [if_pos h4]; exact ⟨fun h => absurd h (by decide), fun h => absurd h4 h.2.2.2⟩
        · rw [if_neg h4]; exact ⟨fun _ => ⟨h1, h2, h3, h4⟩, fun _ => rfl⟩
      · rw [if_neg h3]; exact ⟨fun h => absurd h (by decide), fun h => absurd h.2.2.1 h3⟩
    · rw [if_neg h2]; exact ⟨fun h => absurd h h2, fun h => absurd h.2.1 h2⟩
  · rw [if_neg h1]; exact ⟨fun h => absurd h h1, fun h => absurd h.1 h1⟩
/-- in any world in which it holds the term has as many. -/
theorem span_world {ats : List At} {c t : List Int} {u : Int} (h : spanFault ats c t u = 0) {w : Wd} (hw : w.ok = true) (hu : w.u = u) (hf : w.formIs ats c = true) : spanLo ats c t u ≤ pcN (w.val t) ∧ pcN (w.val t) ≤ spanHi ats c t u := by
  obtain ⟨_, h2, h3, _⟩ := span_zero.1 h
  unfold spanLo spanHi
  rw [if_pos h, if_pos h]
  obtain ⟨D, hD, hl⟩ := worldsL_like (u := u.toNat) hw (by omega)
  obtain ⟨n, hn⟩ := one_term h2
  have := span_bound (worldsL u.toNat) D hD (by rw [hl.form]; exact hf) (t := t)
  rw [hl.size hn] at this
  exact this
/-- there are worlds with the least, and the most. -/
theorem span_ends {ats : List At} {c t : List Int} {u : Int} (h : spanFault ats c t u = 0) : (0 ≤ spanLo ats c t u ∧ spanLo ats c t u ≤ spanHi ats c t u ∧ spanHi ats c t u ≤ 6) ∧
    (∃ w : Wd, w.ok = true ∧ w.u = u ∧ w.formIs ats c = true ∧ pcN (w.val t) = spanLo ats c t u) ∧ ∃ w : Wd, w.ok = true ∧ w.u = u ∧ w.formIs ats c = true ∧ pcN (w.val t) = spanHi ats c t u := by
  obtain ⟨_, h2, h3, h4⟩ := span_zero.1 h
  have e1 : spanLo ats c t u = (spanP ats c t u.toNat).1 := by unfold spanLo; rw [if_pos h]
  have e2 : spanHi ats c t u = (spanP ats c t u.toNat).2 := by unfold spanHi; rw [if_pos h]
  rcases span_hit (ats := ats) (c := c) (t := t) (worldsL u.toNat) with ⟨h5, _⟩ | ⟨⟨D, hD, hf, e⟩, ⟨D', hD', hf', e'⟩⟩
  · exact absurd (show (spanP ats c t u.toNat).2 < 0 by unfold spanP; rw [h5]; decide) h4
  · have hb := span_bound (t := t) _ D hD hf
    have hb' := span_bound (t := t) _ D' hD' hf'
    have p1 := pcN_le (D.val t)
    have p2 := pcN_le (D'.val t)
    have q1 : (spanP ats c t u.toNat).1 = pcN (D.val t) := e.symm
    have q2 : (spanP ats c t u.toNat).2 = pcN (D'.val t) := e'.symm
    rw [e1, e2, q1, q2]
    refine ⟨⟨by omega, ?_, by omega⟩, ⟨D, worldsL_ok (by omega) hD, by rw [worldsL_u (by omega) hD]; omega, hf, rfl⟩, ⟨D', worldsL_ok (by omega) hD', by rw [worldsL_u (by omega) hD']; omega, hf', rfl⟩⟩
    have := hb.2
    rw [← e'] at this
    exact this
end Go.Proofs.YtjaedfjfcghgcabDoor

namespace Go.Proofs.YtjaedfjfcghgcabDoor
open Go.RowKit

/-- an atom alone: what is wrong, and whether it holds. -/
theorem alone_fault {k n : Int} {t : List Int} (h : atomFault k t [] n = 0) : formFault [⟨k, t, [], n⟩] [0] = 0 := by
  refine formFault_zero.2 ⟨⟨by simp, by simp⟩, ⟨by simp, by simp⟩, fun a ha => ?_, by simp; decide, by decide⟩
  obtain rfl : a = ⟨k, t, [], n⟩ := by simpa using ha
  exact h
theorem alone_is {k n : Int} {t : List Int} (h : atomFault k t [] n = 0) {D : Wd} (hok : D.ok = true) : D.formIs [⟨k, t, [], n⟩] [0] = D.holds k t [] n := by
  have hb : ∀ b : Bool, valF [b] [0] = b := by intro b; cases b <;> rfl
  unfold Wd.formIs
  rw [if_pos (wdForm_zero.2 ⟨alone_fault h, hok⟩)]
  exact hb _
theorem many_fault {k n : Int} {t : List Int} (ht : faultN t = 0) (hk : k = 3 ∨ k = 4) (h0 : -20 ≤ n) (h1 : n ≤ 20) : atomFault k t [] n = 0 := by
  rcases hk with rfl | rfl
  · refine atomFault_zero.2 ⟨⟨by decide, by decide⟩, ht, by decide, ?_, ?_⟩
    · show -(20 : Int) ≤ n; omega
    · show n ≤ (20 : Int); omega
  · refine atomFault_zero.2 ⟨⟨by decide, by decide⟩, ht, by decide, ?_, ?_⟩
    · show -(20 : Int) ≤ n; omega
    · show n ≤ (20 : Int); omega
theorem least_is {n : Int} {t : List Int} (ht : faultN t = 0) (h0 : -20 ≤ n) (h1 : n ≤ 20) {D : Wd} (hok : D.ok = true) : D.formIs [⟨3, t, [], n⟩] [0] = decide (n ≤ pcN (D.val t)) := by
  rw [alone_is (many_fault ht (Or.inl rfl) h0 h1) hok]
  unfold Wd.holds saysB
  simp
theorem most_is {n : Int} {t : List Int} (ht : faultN t = 0) (h0 : -20 ≤ n) (h1 : n ≤ 20) {D : Wd} (hok : D.ok = true) : D.formIs [⟨4, t, [], n⟩] [0] = decide (pcN (D.val t) ≤ n) := by
  rw [alone_is (many_fault ht (Or.inr rfl) h0 h1) hok]
  unfold Wd.holds saysB
  simp
/-- two formulas are open just if there is a world in which both hold. -/
theorem open_two {f g : Fm} {u : Int} (hf : f.fault = 0) (hg : g.fault = 0) (hu : 0 ≤ u ∧ u ≤ 6) : formsFault [f, g] u = 0 ∧ (openB [f, g] u = true ↔ ∃ D : Wd, D.ok = true ∧ D.u = u ∧ D.formIs f.ats f.c = true ∧ D.formIs g.ats g.c = true) := by
  have hz : formsFault [f, g] u = 0 := by
    refine forms_zero.2 ⟨⟨by simp, by simp⟩, fun x hx => ?_, hu⟩
    rcases List.mem_cons.1 hx with rfl | hx
    · exact hf
    · obtain rfl : x = g := by simpa using hx
      exact hg
  refine ⟨hz, ?_⟩
  have eo : openB [f, g] u = openN [f, g] u.toNat := by unfold openB; rw [if_pos hz]
  rw [eo]
  constructor
  · intro h
    obtain ⟨D, h1, h2, h3⟩ := open_has (by omega) h
    unfold Wd.so at h3
    simp at h3
    exact ⟨D, h1, by omega, h3.1, h3.2⟩
  · rintro ⟨D, h1, h2, h3, h4⟩
    refine open_of h1 h2 ?_
    unfold Wd.so
    simp [h3, h4]
end Go.Proofs.YtjaedfjfcghgcabDoor

namespace Go.Proofs.YtjaedfjfcghgcabDoor
open Go.RowKit

theorem all_wrong (t : List Int) (u : Int) (ht : faultN t = 0) (hu : u < 0 ∨ 6 < u) : spanFault (manyA 4 0) [0] t u = 1 := by
  unfold spanFault
  rw [if_pos (by decide), if_pos ht, if_neg (by omega)]
theorem all_is {D : Wd} (hok : D.ok = true) : D.formIs (manyA 4 0) [0] = true := by
  unfold manyA
  rw [least_is (by decide) (by decide) (by decide) hok]
  exact decide_eq_true (pcN_le _).1
theorem none_ok (u : Nat) (hu : u ≤ 6) : (Wd.mk (u : Int) 0 0 0).ok = true := by
  have h : okB (u : Int) 0 = true := ok_zero (by omega) (by omega)
  exact Wd.ok_iff.2 ⟨h, h, h⟩
theorem full_ok (u : Nat) (hu : u ≤ 6) : (Wd.mk (u : Int) (allN u) (allN u) (allN u)).ok = true := by
  have h : okB (u : Int) (allN u) = true := okB_iff.2 ⟨by omega, by omega, (allN_le (by omega) (by omega)).1, Int.le_refl _⟩
  exact Wd.ok_iff.2 ⟨h, h, h⟩
theorem size_all : ∀ u : Nat, u < 7 → pcN (allN (u : Int)) = u := by decide
theorem size_four : ∀ u : Nat, u < 7 → pcN (doN 8 (u : Int) 0 0) = u := by decide
theorem size_le {u x : Int} (h : okB u x = true) : pcN x ≤ u := uptoSets (P := fun u x _ => pcN x ≤ u) (by decide +kernel) u x x h h
theorem all_zero {t : List Int} (ht : faultN t = 0) (u : Nat) (hu : u ≤ 6) : spanFault (manyA 4 0) [0] t (u : Int) = 0 := by
  refine span_zero.2 ⟨by decide, ht, ⟨by omega, by omega⟩, ?_⟩
  rw [Int.toNat_natCast]
  obtain ⟨D, hD, hl⟩ := worldsL_like (none_ok u hu) (u := u) rfl
  rcases span_hit (ats := manyA 4 0) (c := [0]) (t := t) (worldsL u) with ⟨_, h⟩ | ⟨_, ⟨E, _, _, e⟩⟩
  · have := h D hD
    rw [all_is (worldsL_ok hu hD)] at this
    exact absurd this (by decide)
  · have := (pcN_le (E.val t)).1
    show ¬ (spanOver (manyA 4 0) [0] t (worldsL u)).2 < 0
    omega
theorem all_four (u : Nat) (hu : u ≤ 6) : spanLo (manyA 4 0) [0] [4] (u : Int) = u ∧ spanHi (manyA 4 0) [0] [4] (u : Int) = u := by
  obtain ⟨_, ⟨D, d1, d2, _, d4⟩, ⟨E, e1, e2, _, e4⟩⟩ := span_ends (all_zero (t := [4]) (by decide) u hu)
  have h : ∀ F : Wd, F.u = u → pcN (F.val [4]) = u := fun F hF => by
    have : F.val [4] = doN 8 F.u 0 0 := rfl
    rw [this, hF]; exact size_four u (by omega)
  exact ⟨by rw [← d4, h D d2], by rw [← e4, h E e2]⟩
theorem all_three (u : Nat) (hu : u ≤ 6) : spanLo (manyA 4 0) [0] [3] (u : Int) = 0 ∧ spanHi (manyA 4 0) [0] [3] (u : Int) = 0 := by
  obtain ⟨_, ⟨D, d1, d2, _, d4⟩, ⟨E, e1, e2, _, e4⟩⟩ := span_ends (all_zero (t := [3]) (by decide) u hu)
  have h : ∀ F : Wd, pcN (F.val [3]) = 0 := fun F => by
    have : F.val [3] = 0 := rfl
    rw [this]; decide
  exact ⟨by rw [← d4, h D], by rw [← e4, h E]⟩
theorem all_name (k : Nat) (hk : k < 3) (ht : faultN [(k : Int)] = 0) (u : Nat) (hu : u ≤ 6) : spanLo (manyA 4 0) [0] [(k : Int)] (u : Int) = 0 ∧ spanHi (manyA 4 0) [0] [(k : Int)] (u : Int) = u := by
  have hz := all_zero ht u hu
  obtain ⟨⟨l0, _, _⟩, _, ⟨E, e1, e2, _, e4⟩⟩ := span_ends hz
  have a := span_world hz (none_ok u hu) rfl (all_is (none_ok u hu))
  have b := span_world hz (full_ok u hu) rfl (all_is (full_ok u hu))
  have v0 : pcN ((Wd.mk (u : Int) 0 0 0).val [(k : Int)]) = 0 := by
    rcases (by omega : k = 0 ∨ k = 1 ∨ k = 2) with rfl | rfl | rfl <;> rfl
  have v1 : pcN ((Wd.mk (u : Int) (allN u) (allN u) (allN u)).val [(k : Int)]) = u := by
    have : (Wd.mk (u : Int) (allN u) (allN u) (allN u)).val [(k : Int)] = allN u := by
      rcases (by omega : k = 0 ∨ k = 1 ∨ k = 2) with rfl | rfl | rfl <;> rfl
    rw [this]; exact size_all u (by omega)
  have h2 := size_le (ok_val e1 [(k : Int)])
  rw [e2] at h2
  exact ⟨by omega, by omega⟩
end Go.Proofs.YtjaedfjfcghgcabDoor

namespace Go.Proofs.YtjaedfjfcghgcabDoor
open Go.RowKit

def askStep (fs : List Fm) (ats : List At) (c : List Int) (p : Int × Int) (D : Wd) : Int × Int :=
  (if (D.so fs && D.formIs ats c) = true then p.1 + 1 else p.1, if (D.so fs && !D.formIs ats c) = true then p.2 + 1 else p.2)
def askOver (fs : List Fm) (ats : List At) (c : List Int) (L : List Wd) : Int × Int := L.foldl (askStep fs ats c) (0, 0)
/-- in how many kinds of worlds it holds, and does not, where they do. -/
def askP (fs : List Fm) (ats : List At) (c : List Int) (u : Nat) : Int × Int := askOver fs ats c (worldsL u)
def answerN (p : Int × Int) : Int := if p.2 = 0 then 1 else if p.1 = 0 then -1 else 0
def askFault (fs : List Fm) (ats : List At) (c : List Int) (u : Int) : Int := if formsFault fs u = 0 then (if formFault ats c = 0 then (if (askP fs ats c u.toNat).1 + (askP fs ats c u.toNat).2 = 0 then 6 else 0) else formFault ats c) else formsFault fs u
def askN (fs : List Fm) (ats : List At) (c : List Int) (u : Int) : Int := if askFault fs ats c u = 0 then answerN (askP fs ats c u.toNat) else 0
def sumP (f : Nat → Int × Int) : Nat → Int × Int
  | 0 => (0, 0)
  | k + 1 => ((sumP f k).1 + (f k).1, (sumP f k).2 + (f k).2)
def alwaysP (fs : List Fm) (ats : List At) (c : List Int) : Int × Int := sumP (askP fs ats c) 7
def alwaysFault (fs : List Fm) (ats : List At) (c : List Int) : Int := if formsFault fs 0 = 0 then (if formFault ats c = 0 then (if (alwaysP fs ats c).1 + (alwaysP fs ats c).2 = 0 then 6 else 0) else formFault ats c) else formsFault fs 0
def alwaysN (fs : List Fm) (ats : List At) (c : List Int) : Int := if alwaysFault fs ats c = 0 then answerN (alwaysP fs ats c) else 0

theorem askOver_add (fs : List Fm) (ats : List At) (c : List Int) (L : List Wd) (D : Wd) : askOver fs ats c (L ++ [D]) = askStep fs ats c (askOver fs ats c L) D := by
  unfold askOver; rw [List.foldl_append]; rfl
theorem ask_range (fs : List Fm) (ats : List At) (c : List Int) : ∀ L : List Wd, (0 ≤ (askOver fs ats c L).1 ∧ 0 ≤ (askOver fs ats c L).2) ∧ (askOver fs ats c L).1 + (askOver fs ats c L).2 ≤ L.length := by
  refine revInd ?_ ?_
  · exact ⟨⟨Int.le_refl _, Int.le_refl _⟩, Int.le_refl _⟩
  · intro L E ih
    rw [askOver_add]
    unfold askStep
    rw [List.length_append]
    cases E.so fs <;> cases E.formIs ats c <;> simp <;> omega
theorem ask_yes (fs : List Fm) (ats : List At) (c : List Int) : ∀ L : List Wd, (askOver fs ats c L).1 = 0 ↔ ∀ D ∈ L, D.so fs = true → D.formIs ats c = false := by
  refine revInd ?_ ?_
  · exact ⟨fun _ D h => (by cases h), fun _ => rfl⟩
  · intro L E ih
    have hr := (ask_range fs ats c L).1.1
    rw [askOver_add]
    show (if (E.so fs && E.formIs ats c) = true then _ else _) = 0 ↔ _
    by_cases h : (E.so fs && E.formIs ats c) = true
    · rw [if_pos h]
      constructor
      · intro g; omega
      · intro g
        rw [Bool.and_eq_true] at h
        have := g E (by simp) h.1
        rw [h.2] at this; exact absurd this (by decide)
    · rw [if_neg h, ih]
      constructor
      · intro g D hD hs
        rcases List.mem_append.1 hD with hD | hD
        · exact g D hD hs
        · obtain rfl : D = E := by simpa using hD
          rw [hs] at h
          simpa using h
      · intro g D hD hs
        exact g D (List.mem_append_left _ hD) hs
theorem ask_no (fs : List Fm) (ats : List At) (c : List Int) : ∀ L : List Wd, (askOver fs ats c L).2 = 0 ↔ ∀ D ∈ L, D.so fs = true → D.formIs ats c = true := by
  refine revInd ?_ ?_
  · exact ⟨fun _ D h => (by cases h), fun _ => rfl⟩
  · intro L E ih
    have hr := (ask_range fs ats c L).1.2
    rw [askOver_add]
    show (if (E.so fs && !E.formIs ats c) = true then _ else _) = 0 ↔ _
    by_cases h : (E.so fs && !E.formIs ats c) = true
    · rw [if_pos h]
      constructor
      · intro g; omega
      · intro g
        rw [Bool.and_eq_true] at h
        have := g E (by simp) h.1
        rw [this] at h; exact absurd h.2 (by decide)
    · rw [if_neg h, ih]
      constructor
      · intro g D hD hs
        rcases List.mem_append.1 hD with hD | hD
        · exact g D hD hs
        · obtain rfl : D = E := by simpa using hD
          rw [hs] at h
          simpa using h
      · intro g D hD hs
        exact g D (List.mem_append_left _ hD) hs
theorem so_alike {w D : Wd} (h : Alike w D) (fs : List Fm) : D.so fs = w.so fs := by
  unfold Wd.so
  congr 1
  funext f
  exact h.form f.ats f.c
/-- in all worlds, not in one of each kind alone. -/
theorem ask_all_no {fs : List Fm} {ats : List At} {c : List Int} {u : Nat} (h : (askP fs ats c u).2 = 0) {w : Wd} (hw : w.ok = true) (hu : w.u = u) (hs : w.so fs = true) : w.formIs ats c = true := by
  obtain ⟨D, hD, hl⟩ := worldsL_like hw hu
  have := (ask_no fs ats c _).1 h D hD (by rw [so_alike hl]; exact hs)
  rw [hl.form] at this
  exact this
theorem ask_all_yes {fs : List Fm} {ats : List At} {c : List Int} {u : Nat} (h : (askP fs ats c u).1 = 0) {w : Wd} (hw : w.ok = true) (hu : w.u = u) (hs : w.so fs = true) : w.formIs ats c = false := by
  obtain ⟨D, hD, hl⟩ := worldsL_like hw hu
  have := (ask_yes fs ats c _).1 h D hD (by rw [so_alike hl]; exact hs)
  rw [hl.form] at this
  exact this
theorem ask_open {fs : List Fm} {ats : List At} {c : List Int} {u : Nat} : (askP fs ats c u).1 + (askP fs ats c u).2 = 0 ↔ openN fs u = false := by
  have hr := (ask_range fs ats c (worldsL u)).1
  have eO : openN fs u = (worldsL u).any fun D => D.so fs := by unfold openN worldsL; rw [List.any_map]; rfl
  have e1 := ask_yes fs ats c (worldsL u)
  have e2 := ask_no fs ats c (worldsL u)
  unfold askP
  constructor
  · intro h
    rw [eO, List.any_eq_false]
    intro D hD hs
    have h1 := e1.1 (by omega) D hD hs
    have h2 := e2.1 (by omega) D hD hs
    rw [h1] at h2; exact absurd h2 (by decide)
  · intro h
    rw [eO, List.any_eq_false] at h
    have h1 := e1.2 fun D hD hs => absurd hs (h D hD)
    have h2 := e2.2 fun D hD hs => absurd hs (h D hD)
    omega
theorem ask_zero {fs : List Fm} {ats : List At} {c : List Int} {u : Int} : askFault fs ats c u = 0 ↔ formsFault fs u = 0 ∧ formFault ats c = 0 ∧ ¬ (askP fs ats c u.toNat).1 + (askP fs ats c u.toNat).2 = 0 := by
  unfold askFault
  by_cases h1 : formsFault fs u = 0
  · rw [if_pos h1]
    by_cases h2 : formFault ats c = 0
    · rw [if_pos h2]
      by_cases h3 : (askP fs ats c u.toNat).1 + (askP fs ats c u.toNat).2 = 0
      · rw [if_pos h3]; exact ⟨fun h => absurd h (by decide), fun h => absurd h3 h.2.2⟩
      · rw [if_neg h3]; exact ⟨fun _ => ⟨h1, h2, h3⟩, fun _ => rfl⟩
    · rw [if_neg h2]; exact ⟨fun h => absurd h h2, fun h => absurd h.2.1 h2⟩
  · rw [if_neg h1]; exact ⟨fun h => absurd h h1, fun h => absurd h.1 h1⟩
/-- of the opposite the opposite follows. -/
theorem ask_neg {fs : List Fm} {ats : List At} {c : List Int} (hf : formFault ats c = 0) (h19 : c.length ≤ 19) {u : Nat} (hu : u ≤ 6) : askP fs ats (c ++ [12]) u = ((askP fs ats c u).2, (askP fs ats c u).1) := by
  have key : ∀ L : List Wd, (∀ D ∈ L, D.ok = true) → askOver fs ats (c ++ [12]) L = ((askOver fs ats c L).2, (askOver fs ats c L).1) := by
    refine revInd ?_ ?_
    · intro _; rfl
    · intro L E ih h
      rw [askOver_add, askOver_add, ih fun D hD => h D (List.mem_append_left _ hD)]
      unfold askStep
      rw [formIs_no hf h19 (h E (by simp)), Bool.not_not]
  exact key _ fun D hD => worldsL_ok hu hD
theorem answer_neg {p : Int × Int} (h : ¬ p.1 + p.2 = 0) : answerN (p.2, p.1) = - answerN p := by
  unfold answerN
  simp only
  by_cases h1 : p.1 = 0
  · rw [if_pos h1, if_neg (by omega : ¬ p.2 = 0), if_pos h1]; rfl
  · rw [if_neg h1]
    by_cases h2 : p.2 = 0
    · rw [if_pos h2, if_pos h2]
    · rw [if_neg h2, if_neg h2, if_neg h1]; rfl
theorem answer_one {p : Int × Int} : answerN p = 1 ↔ p.2 = 0 := by
  unfold answerN
  by_cases h2 : p.2 = 0
  · rw [if_pos h2]; exact ⟨fun _ => h2, fun _ => rfl⟩
  · rw [if_neg h2]
    by_cases h1 : p.1 = 0
    · rw [if_pos h1]; exact ⟨fun h => absurd h (by decide), fun h => absurd h h2⟩
    · rw [if_neg h1]; exact ⟨fun h => absurd h (by decide), fun h => absurd h h2⟩
theorem answer_range (p : Int × Int) : -1 ≤ answerN p ∧ answerN p ≤ 1 := by
  unfold answerN
  split
  · decide
  · split <;> decide
theorem answer_less {p : Int × Int} (h : answerN p = -1) : p.1 = 0 := by
  unfold answerN at h
  by_cases h2 : p.2 = 0
  · rw [if_pos h2] at h; exact absurd h (by decide)
  · rw [if_neg h2] at h
    by_cases h1 : p.1 = 0
    · exact h1
    · rw [if_neg h1] at h; exact absurd h (by decide)
end Go.Proofs.YtjaedfjfcghgcabDoor

namespace Go.Proofs.YtjaedfjfcghgcabDoor
open Go.RowKit
set_option maxRecDepth 100000

theorem three_fault {k : Nat} (hk : k < 3) : faultN [(k : Int)] = 0 := by
  rcases (by omega : k = 0 ∨ k = 1 ∨ k = 2) with rfl | rfl | rfl <;> decide
theorem three_is {k : Nat} (hk : k < 3) {n : Int} (h0 : 0 ≤ n) (h1 : n ≤ 20) {D : Wd} (hok : D.ok = true) : D.formIs (manyA (k : Int) n) [0] = decide (n ≤ pcN (D.val [(k : Int)])) := by
  unfold manyA
  exact least_is (three_fault hk) (by omega) h1 hok
/-- a world in which a name has just so many things. -/
theorem some_many {k : Nat} (hk : k < 3) (u n : Nat) (hu : u ≤ 6) (hn : n ≤ u) : ∃ D : Wd, D.ok = true ∧ D.u = u ∧ pcN (D.val [(k : Int)]) = n := by
  have hle : allN (n : Int) ≤ allN (u : Int) := by
    rcases (by omega : u = 0 ∨ u = 1 ∨ u = 2 ∨ u = 3 ∨ u = 4 ∨ u = 5 ∨ u = 6) with rfl | rfl | rfl | rfl | rfl | rfl | rfl <;> rcases (by omega : n = 0 ∨ n = 1 ∨ n = 2 ∨ n = 3 ∨ n = 4 ∨ n = 5 ∨ n = 6) with rfl | rfl | rfl | rfl | rfl | rfl | rfl <;> first | decide | omega
  have h : okB (u : Int) (allN (n : Int)) = true := okB_iff.2 ⟨by omega, by omega, (allN_le (by omega) (by omega)).1, hle⟩
  refine ⟨⟨u, allN (n : Int), allN (n : Int), allN (n : Int)⟩, Wd.ok_iff.2 ⟨h, h, h⟩, rfl, ?_⟩
  have e : (Wd.mk (u : Int) (allN (n : Int)) (allN (n : Int)) (allN (n : Int))).val [(k : Int)] = allN (n : Int) := by
    rcases (by omega : k = 0 ∨ k = 1 ∨ k = 2) with rfl | rfl | rfl <;> rfl
  rw [e]
  exact size_all n (by omega)
theorem many_answer {k : Nat} (hk : k < 3) {n m u : Nat} (hn : n ≤ u) (hu : u ≤ 6) (hm : m ≤ 20) :
    askFault [⟨manyA (k : Int) (n : Int), [0]⟩] (manyA (k : Int) (m : Int)) [0] (u : Int) = 0 ∧ askN [⟨manyA (k : Int) (n : Int), [0]⟩] (manyA (k : Int) (m : Int)) [0] (u : Int) = if (m : Int) ≤ (n : Int) then 1 else if (u : Int) < (m : Int) then -1 else 0 := by
  have hso : ∀ D : Wd, D.ok = true → (D.so [⟨manyA (k : Int) (n : Int), [0]⟩] = true ↔ (n : Int) ≤ pcN (D.val [(k : Int)])) := fun D hok => by
    unfold Wd.so
    simp only [List.all_cons, List.all_nil, Bool.and_true]
    rw [three_is hk (by omega) (by omega) hok, decide_eq_true_iff]
  have his : ∀ D : Wd, D.ok = true → (D.formIs (manyA (k : Int) (m : Int)) [0] = true ↔ (m : Int) ≤ pcN (D.val [(k : Int)])) := fun D hok => by
    rw [three_is hk (by omega) (by omega) hok, decide_eq_true_iff]
  have ff : ∀ x : Nat, x ≤ 20 → formFault (manyA (k : Int) (x : Int)) [0] = 0 := fun x hx => alone_fault (many_fault (three_fault hk) (Or.inl rfl) (by omega) (by omega))
  have h1 : formsFault [⟨manyA (k : Int) (n : Int), [0]⟩] (u : Int) = 0 := forms_zero.2 ⟨⟨by simp, by simp⟩, fun f hf => by
    obtain rfl : f = ⟨manyA (k : Int) (n : Int), [0]⟩ := by simpa using hf
    exact ff n (by omega), by omega, by omega⟩
  obtain ⟨D1, d1, d2, d3⟩ := some_many hk u u hu (Nat.le_refl _)
  obtain ⟨D2, e1, e2, e3⟩ := some_many hk u n hu hn
  have hs1 := (hso D1 d1).2 (by rw [d3]; omega)
  have hs2 := (hso D2 e1).2 (by rw [e3]; omega)
  have hopen : ¬ (askP [⟨manyA (k : Int) (n : Int), [0]⟩] (manyA (k : Int) (m : Int)) [0] ((u : Int)).toNat).1 + (askP [⟨manyA (k : Int) (n : Int), [0]⟩] (manyA (k : Int) (m : Int)) [0] ((u : Int)).toNat).2 = 0 := fun h => by
    have h' := ask_open.1 h
    rw [open_of d1 (u := (u : Int)) d2 hs1] at h'
    exact absurd h' (by decide)
  have h0 : askFault [⟨manyA (k : Int) (n : Int), [0]⟩] (manyA (k : Int) (m : Int)) [0] (u : Int) = 0 := ask_zero.2 ⟨h1, ff m hm, hopen⟩
  refine ⟨h0, ?_⟩
  unfold askN
  rw [if_pos h0, Int.toNat_natCast]
  by_cases c1 : (m : Int) ≤ (n : Int)
  · rw [if_pos c1]
    refine answer_one.2 ((ask_no _ _ _ _).2 fun D hD hs => ?_)
    have hok := worldsL_ok hu hD
    exact (his D hok).2 (by have := (hso D hok).1 hs; omega)
  · rw [if_neg c1]
    have hno : ¬ (askP [⟨manyA (k : Int) (n : Int), [0]⟩] (manyA (k : Int) (m : Int)) [0] u).2 = 0 := fun h => by
      have := (his D2 e1).1 (ask_all_no h e1 e2 hs2)
      rw [e3] at this
      omega
    unfold answerN
    rw [if_neg hno]
    by_cases c2 : (u : Int) < (m : Int)
    · rw [if_pos c2, if_pos]
      refine (ask_yes _ _ _ _).2 fun D hD hs => ?_
      have hok := worldsL_ok hu hD
      cases hx : D.formIs (manyA (k : Int) (m : Int)) [0]
      · rfl
      · have h3 := (his D hok).1 hx
        have h4 := size_le (ok_val hok [(k : Int)])
        rw [worldsL_u hu hD] at h4
        omega
    · rw [if_neg c2, if_neg]
      intro h
      have h3 := ask_all_yes h d1 d2 hs1
      rw [(his D1 d1).2 (by rw [d3]; omega)] at h3
      exact absurd h3 (by decide)
end Go.Proofs.YtjaedfjfcghgcabDoor
