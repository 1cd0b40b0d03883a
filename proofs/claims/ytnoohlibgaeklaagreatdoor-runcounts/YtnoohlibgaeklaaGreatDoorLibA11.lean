/-
  Facts and contracts that the statement leans on.
-/
import Derived.Test.YtnoohlibgaeklaaGreatDoorLibA10
import Derived.Test.YtnoohlibgaeklaaGreatDoorRows
import Derived.Test.YtnoohlibgaeklaaGreatDoorLibA1
import Derived.WalkKit
import Derived.ProofKit
import Derived.OpenShut
namespace Go.Proofs.YtnoohlibgaeklaaGreatDoor
open Go.RowKit
def atZ : At := ⟨0, [], [], 0⟩
def rowOf (ats : List At) (m : Int) : Rw := ⟨rowT (ats.getD (m.natAbs - 1) atZ).k (ats.getD (m.natAbs - 1) atZ).s (ats.getD (m.natAbs - 1) atZ).t (decide (0 < m)), rowM (ats.getD (m.natAbs - 1) atZ).k (ats.getD (m.natAbs - 1) atZ).n (decide (0 < m))⟩
def cubeR (ats : List At) (c : List Int) : List Rw := c.map (rowOf ats)
def modelL (ats : List At) (u : Nat) : List (List Int) → Option (Nat → Int)
 | [] => none
 | c :: L => match (everyC u).find? (fitB (cubeR ats c)) with
  | some N => some N
  | none => modelL ats u L
theorem modelL_some {ats : List At} {u : Nat} {L : List (List Int)} {N : Nat → Int} (h : modelL ats u L = some N) : N ∈ everyC u ∧ ∃ c ∈ L, fitB (cubeR ats c) N = true := by
 induction L with
 | nil => simp [modelL] at h
 | cons c L ih =>
  unfold modelL at h
  cases e : (everyC u).find? (fitB (cubeR ats c)) with
  | some M =>
   rw [e] at h
   obtain rfl : M = N := by simpa using h
   exact ⟨List.mem_of_find?_eq_some e, c, List.mem_cons_self, List.find?_some e⟩
  | none =>
   rw [e] at h
   obtain ⟨h1, d, h2, h3⟩ := ih h
   exact ⟨h1, d, List.mem_cons_of_mem _ h2, h3⟩
theorem modelL_none {ats : List At} {u : Nat} {L : List (List Int)} (h : modelL ats u L = none) : ∀ c ∈ L, ∀ N ∈ everyC u, fitB (cubeR ats c) N = false := by
 induction L with
 | nil => intro c hc; cases hc
 | cons c L ih =>
  unfold modelL at h
  cases e : (everyC u).find? (fitB (cubeR ats c)) with
  | some M => rw [e] at h; simp at h
  | none =>
   rw [e] at h
   intro d hd N hN
   rcases List.mem_cons.1 hd with rfl | hd
   ·simpa using List.find?_eq_none.1 e N hN
   ·exact ih h d hd N hN
theorem at_of {ats : List At} {m : Int} (h1 : 1 ≤ m.natAbs) (h2 : m.natAbs ≤ ats.length) : ats.getD (m.natAbs - 1) atZ ∈ ats := by
 rw [List.getD_eq_getElem?_getD, List.getElem?_eq_getElem (by omega)]
 exact List.getElem_mem _
theorem held_of {w : Wd} {ats : List At} {m : Int} (h1 : 1 ≤ m.natAbs) (h2 : m.natAbs ≤ ats.length) : (w.heldL ats).getD (m.natAbs - 1) false = w.holds (ats.getD (m.natAbs - 1) atZ).k (ats.getD (m.natAbs - 1) atZ).s (ats.getD (m.natAbs - 1) atZ).t (ats.getD (m.natAbs - 1) atZ).n := by
 unfold Wd.heldL
 rw [List.getD_eq_getElem?_getD, List.getD_eq_getElem?_getD, List.getElem?_map, List.getElem?_eq_getElem (show m.natAbs - 1 < ats.length by omega)]
 rfl
theorem cube_says {w : Wd} (hw : w.ok = true) {ats : List At} (ha : ∀ a ∈ ats, a.fault = 0) {c : List Int} (hc : cubeOk ats.length c) : fitB (cubeR ats c) (w.fc w.u.toNat) = allC (w.heldL ats) c := by
 unfold fitB cubeR allC
 rw [List.all_map]
 have key : ∀ m ∈ c, ((fun r : Rw => r.so (w.fc w.u.toNat)) ∘ rowOf ats) m = litC (w.heldL ats) m := fun m hm => by
  obtain ⟨h1, h2⟩ := hc.1 m hm
  have hf : atomFault (ats.getD (m.natAbs - 1) atZ).k (ats.getD (m.natAbs - 1) atZ).s (ats.getD (m.natAbs - 1) atZ).t (ats.getD (m.natAbs - 1) atZ).n = 0 := ha _ (at_of h1 h2)
  show (rowOf ats m).so (w.fc w.u.toNat) = _
  unfold rowOf litC
  rw [rows_say hw hf, held_of h1 h2]
  by_cases hp : 0 < m
  ·rw [decide_eq_true hp, if_pos rfl]
   cases w.holds (ats.getD (m.natAbs - 1) atZ).k (ats.getD (m.natAbs - 1) atZ).s (ats.getD (m.natAbs - 1) atZ).t (ats.getD (m.natAbs - 1) atZ).n <;> rfl
  ·rw [decide_eq_false hp, if_neg (by decide)]
   cases w.holds (ats.getD (m.natAbs - 1) atZ).k (ats.getD (m.natAbs - 1) atZ).s (ats.getD (m.natAbs - 1) atZ).t (ats.getD (m.natAbs - 1) atZ).n <;> rfl
 induction c with
 | nil => rfl
 | cons m c ih =>
  rw [List.all_cons, List.all_cons, key m List.mem_cons_self, ih ⟨fun x hx => hc.1 x (List.mem_cons_of_mem _ hx), (List.pairwise_cons.1 hc.2).2⟩ fun x hx => key x (List.mem_cons_of_mem _ hx)]
theorem model_holds {ats : List At} {c : List Int} (hf : formFault ats c = 0) {L : List (List Int)} (hL : cubesC c = some L) {u : Nat} (hu : u ≤ 6) {N : Nat → Int} (h : modelL ats u L = some N) :
    countsFault N = 0 ∧ (madeN N 8).ok = true ∧ (madeN N 8).u = u ∧ (madeN N 8).formIs ats c = true := by
 obtain ⟨h1, d, h2, h3⟩ := modelL_some h
 have hc := everyC_right hu h1
 have hok := made_ok hc
 have hsum := (everyC_sum h1).2
 have hmu := made_u hc
 obtain ⟨g1, _, g3⟩ := cubes_say ((madeN N 8).heldL ats) hf hL
 have ha := (formFault_zero.1 hf).2.2.1
 have hd := cube_says hok ha (g1.1 d h2)
 rw [fitB_same (M := N) fun g hg => made_fc hc hg, h3] at hd
 refine ⟨hc, hok, by rw [hmu, hsum], ?_⟩
 unfold Wd.formIs
 rw [if_pos (wdForm_zero.2 ⟨hf, hok⟩), ← g3]
 unfold anyC
 rw [List.any_eq_true]
 exact ⟨d, h2, hd.symm⟩
theorem model_never {ats : List At} {c : List Int} (hf : formFault ats c = 0) {L : List (List Int)} (hL : cubesC c = some L) {u : Nat} (h : modelL ats u L = none) {w : Wd} (hw : w.ok = true) (hwu : w.u = u) : w.formIs ats c = false := by
 obtain ⟨g1, _, g3⟩ := cubes_say (w.heldL ats) hf hL
 have ha := (formFault_zero.1 hf).2.2.1
 unfold Wd.formIs
 rw [if_pos (wdForm_zero.2 ⟨hf, hw⟩), ← g3]
 unfold anyC
 rw [List.any_eq_false]
 intro d hd
 have hs := cube_says hw ha (g1.1 d hd)
 have hcf := counts_fc hw
 have hsum : sumN (w.fc w.u.toNat) 8 = u := by rw [sum_fc, hwu]; rfl
 obtain ⟨A, hA, hAw⟩ := everyC_all (u := u) (fun g hg => ((counts_zero.1 hcf).1 g hg).1) hsum
 have := modelL_none h d hd A hA
 rw [fitB_same hAw, hs] at this
 rw [this]
 decide
theorem cube_rows {ats : List At} (ha : ∀ a ∈ ats, a.fault = 0) (h6 : ats.length ≤ 6) {d : List Int} (hd : cubeOk ats.length d) : rowsFault (cubeR ats d) = 0 := by
 unfold rowsFault
 have hl : (cubeR ats d).length ≤ 6 := by unfold cubeR; rw [List.length_map]; have := cube_len hd; omega
 rw [if_neg (by omega)]
 have hw : (cubeR ats d).any Rw.wrong = false := by
  rw [List.any_eq_false]
  intro r hr
  unfold cubeR at hr
  obtain ⟨m, hm, rfl⟩ := List.mem_map.1 hr
  obtain ⟨h1, h2⟩ := hd.1 m hm
  have hf : atomFault (ats.getD (m.natAbs - 1) atZ).k (ats.getD (m.natAbs - 1) atZ).s (ats.getD (m.natAbs - 1) atZ).t (ats.getD (m.natAbs - 1) atZ).n = 0 := ha _ (at_of h1 h2)
  have := row_right hf (decide (0 < m))
  unfold rowOf
  rw [this]
  decide
 rw [hw]
 rfl
def modelFault (ats : List At) (c : List Int) (u : Int) : Int :=
 if formFault ats c = 0 then (match cubesC c with
  | none => 4
  | some L => if 0 ≤ u ∧ u ≤ 6 then (if (modelL ats u.toNat L).isSome = true then 0 else 5) else 1) else formFault ats c
def modelN (ats : List At) (c : List Int) (u : Int) : Nat → Int := (modelL ats u.toNat ((cubesC c).getD [])).getD zeroC
def modelW (ats : List At) (c : List Int) (u : Int) : Wd := if modelFault ats c u = 0 then madeN (modelN ats c u) 8 else ⟨0, 0, 0, 0⟩
end Go.Proofs.YtnoohlibgaeklaaGreatDoor
namespace Go.Proofs.YtnoohlibgaeklaaGreatDoor
open Go.RowKit
def againstFault (ats : List At) (c : List Int) (u : Int) : Int := if negFault ats c = 0 then modelFault ats (c ++ [12]) u else negFault ats c
def againstW (ats : List At) (c : List Int) (u : Int) : Wd := if negFault ats c = 0 then modelW ats (c ++ [12]) u else ⟨0, 0, 0, 0⟩
def sureB (ats : List At) (c : List Int) (u : Int) : Bool := decide (againstFault ats c u = 5 ∧ formFault ats c = 0)
def sureFault (ats : List At) (c : List Int) (u : Int) : Int := if sureB ats c u = true then 0 else againstFault ats c u
theorem neg_good {ats : List At} {c : List Int} (h : negFault ats c = 0) : formFault ats c = 0 ∧ c.length ≤ 19 ∧ formFault ats (c ++ [12]) = 0 := by
 unfold negFault at h
 by_cases hf : formFault ats c = 0
 ·rw [if_pos hf] at h
  by_cases h19 : 19 < c.length
  ·rw [if_pos h19] at h; exact absurd h (by decide)
  ·exact ⟨hf, by omega, good_no hf (by omega)⟩
 ·rw [if_neg hf] at h; exact absurd h hf
theorem neg_five {ats : List At} {c : List Int} (h : negFault ats c = 5) : formFault ats c = 5 := by
 unfold negFault at h
 by_cases hf : formFault ats c = 0
 ·rw [if_pos hf] at h
  by_cases h19 : 19 < c.length
  ·rw [if_pos h19] at h; exact absurd h (by decide)
  ·rw [if_neg h19] at h; exact absurd h (by decide)
 ·rw [if_neg hf] at h; exact h
def manyA (name n : Int) : List At := [⟨3, [name], [], n⟩]
def Wd.has (w : Wd) : Nat → Int
 | 0 => w.a
 | 1 => w.b
 | _ => w.c
theorem many_facts : ∀ name : Nat, name < 3 → ∀ n : Nat, n < 6 → modelFault (manyA (name : Int) ((n : Int) + 1)) [0] ((n : Int) + 1) = 0 ∧ (modelW (manyA (name : Int) ((n : Int) + 1)) [0] ((n : Int) + 1)).has name + 1 = pw (n + 1) ∧ modelFault (manyA (name : Int) ((n : Int) + 1)) [0] (n : Int) = 5 ∧ sureB (manyA (name : Int) ((n : Int) + 1)) [0] (n : Int) = false ∧ sureFault (manyA (name : Int) ((n : Int) + 1)) [0] (n : Int) = 0 := by decide +kernel
theorem model_zero {ats : List At} {c : List Int} {u : Int} (h : modelFault ats c u = 0) : formFault ats c = 0 ∧ (modelW ats c u).ok = true ∧ (modelW ats c u).u = u ∧ (modelW ats c u).formIs ats c = true := by
 have h0 := h
 unfold modelFault at h
 by_cases hf : formFault ats c = 0
 ·rw [if_pos hf] at h
  cases hL : cubesC c with
  | none => rw [hL] at h; have h : (4 : Int) = 0 := h; omega
  | some L =>
   rw [hL] at h
   have h : (if 0 ≤ u ∧ u ≤ 6 then (if (modelL ats u.toNat L).isSome = true then (0 : Int) else 5) else 1) = 0 := h
   by_cases hu : 0 ≤ u ∧ u ≤ 6
   ·rw [if_pos hu] at h
    cases hm : modelL ats u.toNat L with
    | none => rw [hm] at h; have h : (5 : Int) = 0 := h; omega
    | some N =>
     have e : modelW ats c u = madeN N 8 := by
      unfold modelW modelN
      rw [if_pos h0, hL]
      show madeN ((modelL ats u.toNat L).getD zeroC) 8 = _
      rw [hm]; rfl
     obtain ⟨_, g2, g3, g4⟩ := model_holds hf hL (by omega) hm
     rw [e]
     exact ⟨hf, g2, by rw [g3]; omega, g4⟩
   ·rw [if_neg hu] at h; exact absurd h (by decide)
 ·rw [if_neg hf] at h; exact absurd h hf
theorem model_five {ats : List At} {c : List Int} {u : Int} (h : modelFault ats c u = 5) (hf : formFault ats c = 0) {w : Wd} (hw : w.ok = true) (hwu : w.u = u) : w.formIs ats c = false := by
 unfold modelFault at h
 rw [if_pos hf] at h
 cases hL : cubesC c with
 | none => rw [hL] at h; have h : (4 : Int) = 5 := h; omega
 | some L =>
  rw [hL] at h
  have h : (if 0 ≤ u ∧ u ≤ 6 then (if (modelL ats u.toNat L).isSome = true then (0 : Int) else 5) else 1) = 5 := h
  by_cases hu : 0 ≤ u ∧ u ≤ 6
  ·rw [if_pos hu] at h
   cases hm : modelL ats u.toNat L with
   | none => exact model_never hf hL hm hw (by rw [hwu]; omega)
   | some N => rw [hm] at h; have h : (0 : Int) = 5 := h; omega
  ·rw [if_neg hu] at h; exact absurd h (by decide)
theorem formIs_no {ats : List At} {c : List Int} (hf : formFault ats c = 0) (h19 : c.length ≤ 19) {w : Wd} (hw : w.ok = true) : w.formIs ats (c ++ [12]) = !w.formIs ats c := by
 unfold Wd.formIs
 rw [if_pos (wdForm_zero.2 ⟨hf, hw⟩), if_pos (wdForm_zero.2 ⟨good_no hf h19, hw⟩)]
 exact val_no _ (formFault_zero.1 hf).2.2.2.2
theorem one_facts : modelFault (manyA 0 2) [0] 2 = 0 ∧ modelW (manyA 0 2) [0] 2 = ⟨2, 3, 3, 3⟩ ∧ modelFault (manyA 0 2) [0] 1 = 5 ∧ modelW (manyA 0 2) [0] 1 = ⟨0, 0, 0, 0⟩ := by
 have h : modelFault (manyA 0 2) [0] 2 = 0 ∧ ((modelW (manyA 0 2) [0] 2).u = 2 ∧ (modelW (manyA 0 2) [0] 2).a = 3 ∧ (modelW (manyA 0 2) [0] 2).b = 3 ∧ (modelW (manyA 0 2) [0] 2).c = 3) ∧ modelFault (manyA 0 2) [0] 1 = 5 := by decide +kernel
 obtain ⟨h1, ⟨h2, h3, h4, h5⟩, h6⟩ := h
 refine ⟨h1, ?_, h6, by unfold modelW; rw [if_neg (by rw [h6]; decide)]⟩
 cases e : modelW (manyA 0 2) [0] 2 with
 | mk u a b c => rw [e] at h2 h3 h4 h5; simp only at h2 h3 h4 h5; rw [h2, h3, h4, h5]
end Go.Proofs.YtnoohlibgaeklaaGreatDoor
namespace Go.Proofs.YtnoohlibgaeklaaGreatDoor
open Go.RowKit
structure Fm where
 ats : List At
 c : List Int
def fmZ : Fm := ⟨[], []⟩
def Fm.fault (f : Fm) : Int := formFault f.ats f.c
def Wd.so (w : Wd) (fs : List Fm) : Bool := fs.all fun f => w.formIs f.ats f.c
def firstForm : List Fm → Int
 | [] => 0
 | f :: l => if f.fault = 0 then firstForm l else f.fault
def formsFault (fs : List Fm) (u : Int) : Int := if fs.length = 0 then 5 else if 6 < fs.length then 4 else if firstForm fs = 0 then (if 0 ≤ u ∧ u ≤ 6 then 0 else 1) else firstForm fs
def openN (fs : List Fm) (u : Nat) : Bool := (everyC u).any fun N => (madeN N 8).so fs
def openB (fs : List Fm) (u : Int) : Bool := if formsFault fs u = 0 then openN fs u.toNat else false
theorem firstForm_zero {fs : List Fm} : firstForm fs = 0 ↔ ∀ f ∈ fs, f.fault = 0 := by
 induction fs with
 | nil => exact ⟨fun _ f hf => (by cases hf), fun _ => rfl⟩
 | cons f l ih =>
  unfold firstForm
  by_cases h : f.fault = 0
  ·rw [if_pos h, ih]
   exact ⟨fun g x hx => by
    rcases List.mem_cons.1 hx with rfl | hx
    ·exact h
    ·exact g x hx, fun g x hx => g x (List.mem_cons_of_mem _ hx)⟩
  ·rw [if_neg h]
   exact ⟨fun g => absurd g h, fun g => absurd (g f List.mem_cons_self) h⟩
theorem firstForm_at {fs : List Fm} {k : Nat} {f : Fm} (hk : fs[k]? = some f) (h : ∀ j, j < k → ∀ g, fs[j]? = some g → g.fault = 0) (hf : ¬ f.fault = 0) : firstForm fs = f.fault := by
 induction fs generalizing k with
 | nil => simp at hk
 | cons g l ih =>
  unfold firstForm
  cases k with
  | zero =>
   obtain rfl : g = f := by simpa using hk
   rw [if_neg hf]
  | succ k =>
   rw [if_pos (h 0 (by omega) g rfl)]
   exact ih (by simpa using hk) fun j hj x hx => h (j + 1) (by omega) x (by simpa using hx)
theorem forms_zero {fs : List Fm} {u : Int} : formsFault fs u = 0 ↔ (1 ≤ fs.length ∧ fs.length ≤ 6) ∧ (∀ f ∈ fs, f.fault = 0) ∧ 0 ≤ u ∧ u ≤ 6 := by
 unfold formsFault
 by_cases h0 : fs.length = 0
 ·rw [if_pos h0]; exact ⟨fun h => absurd h (by decide), fun h => by omega⟩
 ·rw [if_neg h0]
  by_cases h6 : 6 < fs.length
  ·rw [if_pos h6]; exact ⟨fun h => absurd h (by decide), fun h => by omega⟩
  ·rw [if_neg h6]
   by_cases hf : firstForm fs = 0
   ·rw [if_pos hf]
    by_cases hu : 0 ≤ u ∧ u ≤ 6
    ·rw [if_pos hu]; exact ⟨fun _ => ⟨⟨by omega, by omega⟩, firstForm_zero.1 hf, hu⟩, fun _ => rfl⟩
    ·rw [if_neg hu]; exact ⟨fun h => absurd h (by decide), fun h => absurd h.2.2 hu⟩
   ·rw [if_neg hf]; exact ⟨fun h => absurd h hf, fun h => absurd (firstForm_zero.2 h.2.1) hf⟩
theorem open_of {fs : List Fm} {w : Wd} (hw : w.ok = true) {u : Int} (hu : w.u = u) (h : w.so fs = true) : openN fs u.toNat = true := by
 have hcf := counts_fc hw
 have hsum : sumN (w.fc w.u.toNat) 8 = ((u.toNat : Nat) : Int) := by rw [sum_fc, hu]
 obtain ⟨A, hA, hAw⟩ := everyC_all (u := u.toNat) (fun g hg => ((counts_zero.1 hcf).1 g hg).1) hsum
 unfold openN
 rw [List.any_eq_true]
 refine ⟨A, hA, ?_⟩
 have e : ∀ k, k ≤ 8 → madeN A k = madeN (w.fc w.u.toNat) k := by
  intro k
  induction k with
  | zero => intro _; rfl
  | succ k ih => intro hk; unfold madeN; rw [ih (by omega), hAw k (by omega)]
 unfold Wd.so at h ⊢
 rw [List.all_eq_true] at h ⊢
 intro f hf
 rw [e 8 (Nat.le_refl _), (alike_made hw).form f.ats f.c]
 exact h f hf
theorem open_has {fs : List Fm} {u : Nat} (hu : u ≤ 6) (h : openN fs u = true) : ∃ w : Wd, w.ok = true ∧ w.u = u ∧ w.so fs = true := by
 unfold openN at h
 rw [List.any_eq_true] at h
 obtain ⟨N, hN, hs⟩ := h
 have hc := everyC_right hu hN
 exact ⟨madeN N 8, made_ok hc, by rw [made_u hc, (everyC_sum hN).2], hs⟩
theorem open_less {fs gs : List Fm} {u : Nat} (h : ∀ f ∈ gs, f ∈ fs) (ho : openN fs u = true) : openN gs u = true := by
 unfold openN at ho ⊢
 rw [List.any_eq_true] at ho ⊢
 obtain ⟨N, hN, hs⟩ := ho
 refine ⟨N, hN, ?_⟩
 unfold Wd.so at hs ⊢
 rw [List.all_eq_true] at hs ⊢
 exact fun f hf => hs f (h f hf)
theorem open_nil (u : Nat) : openN [] u = true := by
 unfold openN
 rw [List.any_eq_true]
 cases h : everyC u with
 | nil => exact absurd h (allF_ne 7 u _)
 | cons N A => exact ⟨N, List.mem_cons_self, rfl⟩
def worldsL (u : Nat) : List Wd := (everyC u).map fun N => madeN N 8
theorem worldsL_length (u : Nat) : (worldsL u).length = (everyC u).length := by unfold worldsL; rw [List.length_map]
theorem worldsL_ok {u : Nat} (hu : u ≤ 6) {D : Wd} (h : D ∈ worldsL u) : D.ok = true := by
 unfold worldsL at h
 obtain ⟨N, hN, rfl⟩ := List.mem_map.1 h
 exact made_ok (everyC_right hu hN)
theorem worldsL_like {w : Wd} (hw : w.ok = true) {u : Nat} (hu : w.u = u) : ∃ D ∈ worldsL u, Alike w D := by
 have hcf := counts_fc hw
 have hsum : sumN (w.fc w.u.toNat) 8 = (u : Int) := by rw [sum_fc, hu, Int.toNat_natCast]
 obtain ⟨A, hA, hAw⟩ := everyC_all (u := u) (fun g hg => ((counts_zero.1 hcf).1 g hg).1) hsum
 have e : ∀ k, k ≤ 8 → madeN A k = madeN (w.fc w.u.toNat) k := by
  intro k
  induction k with
  | zero => intro _; rfl
  | succ k ih => intro hk; unfold madeN; rw [ih (by omega), hAw k (by omega)]
 refine ⟨madeN A 8, List.mem_map.2 ⟨A, hA, rfl⟩, ?_⟩
 rw [e 8 (Nat.le_refl _)]
 exact alike_made hw
theorem worldsL_u {u : Nat} (hu : u ≤ 6) {D : Wd} (h : D ∈ worldsL u) : D.u = u := by
 unfold worldsL at h
 obtain ⟨N, hN, rfl⟩ := List.mem_map.1 h
 rw [made_u (everyC_right hu hN), (everyC_sum hN).2]
def putG (g : Nat → Bool) (i : Nat) (b : Bool) : Nat → Bool := fun k => if k = i then b else g k
def leftTo (fs : List Fm) (g : Nat → Bool) : Nat → List Fm
 | 0 => []
 | k + 1 => leftTo fs g k ++ (if g k = true then [] else (match fs[k]? with | some f => [f] | none => []))
def leftF (fs : List Fm) (g : Nat → Bool) : List Fm := leftTo fs g fs.length
def goneTo (fs : List Fm) (u : Nat) : Nat → (Nat → Bool)
 | 0 => fun _ => false
 | i + 1 => if openN (leftF fs (putG (goneTo fs u i) i true)) u = true then putG (goneTo fs u i) i false else putG (goneTo fs u i) i true
def coreTo (fs : List Fm) (u : Nat) : Nat → List Int
 | 0 => []
 | i + 1 => if openN (leftF fs (putG (goneTo fs u i) i true)) u = true then coreTo fs u i ++ [(i : Int)] else coreTo fs u i
def coreFault (fs : List Fm) (u : Int) : Int := if formsFault fs u = 0 then (if openB fs u = true then 8 else 0) else formsFault fs u
def coreL (fs : List Fm) (u : Int) : List Int := if coreFault fs u = 0 then coreTo fs u.toNat fs.length else []
end Go.Proofs.YtnoohlibgaeklaaGreatDoor
namespace Go.Proofs.YtnoohlibgaeklaaGreatDoor
open Go.RowKit
def spanStep (ats : List At) (c t : List Int) (p : Int × Int) (D : Wd) : Int × Int :=
 if D.formIs ats c = true then (if pcN (D.val t) < p.1 then pcN (D.val t) else p.1, if p.2 < pcN (D.val t) then pcN (D.val t) else p.2) else p
def spanOver (ats : List At) (c t : List Int) (L : List Wd) : Int × Int := L.foldl (spanStep ats c t) (100, -1)
def spanP (ats : List At) (c t : List Int) (u : Nat) : Int × Int := spanOver ats c t (worldsL u)
def spanFault (ats : List At) (c t : List Int) (u : Int) : Int := if formFault ats c = 0 then (if faultN t = 0 then (if 0 ≤ u ∧ u ≤ 6 then (if (spanP ats c t u.toNat).2 < 0 then 5 else 0) else 1) else faultN t) else formFault ats c
def spanLo (ats : List At) (c t : List Int) (u : Int) : Int := if spanFault ats c t u = 0 then (spanP ats c t u.toNat).1 else 0
def spanHi (ats : List At) (c t : List Int) (u : Int) : Int := if spanFault ats c t u = 0 then (spanP ats c t u.toNat).2 else 0
def exactFault (ats : List At) (c t : List Int) (u : Int) : Int := if spanFault ats c t u = 0 then (if spanLo ats c t u = spanHi ats c t u then 0 else 8) else spanFault ats c t u
def exactN (ats : List At) (c t : List Int) (u : Int) : Int := if exactFault ats c t u = 0 then spanLo ats c t u else 0
theorem revInd {α : Type} {P : List α → Prop} (h0 : P []) (h1 : ∀ L a, P L → P (L ++ [a])) : ∀ L, P L := by
 intro L
 have key : ∀ n, P (L.take n) := by
  intro n
  induction n with
  | zero => exact h0
  | succ n ih =>
   rw [List.take_add_one]
   cases h : L[n]? with
   | none => simpa using ih
   | some a => exact h1 _ _ ih
 have := key L.length
 rwa [List.take_length] at this
theorem spanOver_add (ats : List At) (c t : List Int) (L : List Wd) (D : Wd) : spanOver ats c t (L ++ [D]) = spanStep ats c t (spanOver ats c t L) D := by
 unfold spanOver; rw [List.foldl_append]; rfl
theorem span_bound {ats : List At} {c t : List Int} : ∀ L : List Wd, ∀ D ∈ L, D.formIs ats c = true → (spanOver ats c t L).1 ≤ pcN (D.val t) ∧ pcN (D.val t) ≤ (spanOver ats c t L).2 := by
 refine revInd ?_ ?_
 ·intro D hD; cases hD
 ·intro L E ih D hD hf
  rw [spanOver_add]
  unfold spanStep
  rcases List.mem_append.1 hD with h | h
  ·obtain ⟨a, b⟩ := ih D h hf
   by_cases hE : E.formIs ats c = true
   ·rw [if_pos hE]
    constructor
    ·show (if _ then _ else _) ≤ _
     split <;> omega
    ·show _ ≤ (if _ then _ else _)
     split <;> omega
   ·rw [if_neg hE]; exact ⟨a, b⟩
  ·obtain rfl : D = E := by simpa using h
   rw [if_pos hf]
   constructor
   ·show (if _ then _ else _) ≤ _
    split <;> omega
   ·show _ ≤ (if _ then _ else _)
    split <;> omega
theorem span_hit {ats : List At} {c t : List Int} : ∀ L : List Wd, (spanOver ats c t L = (100, -1) ∧ ∀ D ∈ L, D.formIs ats c = false) ∨ ((∃ D ∈ L, D.formIs ats c = true ∧ pcN (D.val t) = (spanOver ats c t L).1) ∧ ∃ D ∈ L, D.formIs ats c = true ∧ pcN (D.val t) = (spanOver ats c t L).2) := by
 refine revInd ?_ ?_
 ·exact Or.inl ⟨rfl, fun D h => by cases h⟩
 ·intro L E ih
  rw [spanOver_add]
  have hl : ∀ D, D ∈ L → D ∈ L ++ [E] := fun D h => List.mem_append_left _ h
  have hr : E ∈ L ++ [E] := by simp
  have hp := pcN_le (E.val t)
  rcases Bool.eq_false_or_eq_true (E.formIs ats c) with hE | hE
  ·right
   rcases ih with ⟨h1, _⟩ | ⟨⟨D, hD, hf, e⟩, ⟨D', hD', hf', e'⟩⟩
   ·rw [h1]
    unfold spanStep
    rw [if_pos hE]
    refine ⟨⟨E, hr, hE, ?_⟩, ⟨E, hr, hE, ?_⟩⟩
    ·show _ = (if _ then _ else _)
     rw [if_pos (by show pcN (E.val t) < 100; omega)]
    ·show _ = (if _ then _ else _)
     rw [if_pos (by show (-1 : Int) < pcN (E.val t); omega)]
   ·unfold spanStep
    rw [if_pos hE]
    constructor
    ·by_cases h : pcN (E.val t) < (spanOver ats c t L).1
     ·exact ⟨E, hr, hE, by show _ = (if _ then _ else _); rw [if_pos h]⟩
     ·exact ⟨D, hl D hD, hf, by show _ = (if _ then _ else _); rw [if_neg h]; exact e⟩
    ·by_cases h : (spanOver ats c t L).2 < pcN (E.val t)
     ·exact ⟨E, hr, hE, by show _ = (if _ then _ else _); rw [if_pos h]⟩
     ·exact ⟨D', hl D' hD', hf', by show _ = (if _ then _ else _); rw [if_neg h]; exact e'⟩
  ·have es : spanStep ats c t (spanOver ats c t L) E = spanOver ats c t L := by unfold spanStep; rw [if_neg (by rw [hE]; decide)]
   rw [es]
   rcases ih with ⟨h1, h2⟩ | ⟨⟨D, hD, hf, e⟩, ⟨D', hD', hf', e'⟩⟩
   ·left
    refine ⟨h1, fun D hD => ?_⟩
    rcases List.mem_append.1 hD with h | h
    ·exact h2 D h
    ·obtain rfl : D = E := by simpa using h
     exact hE
   ·right
    exact ⟨⟨D, hl D hD, hf, e⟩, ⟨D', hl D' hD', hf', e'⟩⟩
theorem span_zero {ats : List At} {c t : List Int} {u : Int} : spanFault ats c t u = 0 ↔ formFault ats c = 0 ∧ faultN t = 0 ∧ (0 ≤ u ∧ u ≤ 6) ∧ ¬ (spanP ats c t u.toNat).2 < 0 := by
 unfold spanFault
 by_cases h1 : formFault ats c = 0
 ·rw [if_pos h1]
  by_cases h2 : faultN t = 0
  ·rw [if_pos h2]
   by_cases h3 : 0 ≤ u ∧ u ≤ 6
   ·rw [if_pos h3]
    by_cases h4 : (spanP ats c t u.toNat).2 < 0
    ·rw [if_pos h4]; exact ⟨fun h => absurd h (by decide), fun h => absurd h4 h.2.2.2⟩
    ·rw [if_neg h4]; exact ⟨fun _ => ⟨h1, h2, h3, h4⟩, fun _ => rfl⟩
   ·rw [if_neg h3]; exact ⟨fun h => absurd h (by decide), fun h => absurd h.2.2.1 h3⟩
  ·rw [if_neg h2]; exact ⟨fun h => absurd h h2, fun h => absurd h.2.1 h2⟩
 ·rw [if_neg h1]; exact ⟨fun h => absurd h h1, fun h => absurd h.1 h1⟩
theorem span_world {ats : List At} {c t : List Int} {u : Int} (h : spanFault ats c t u = 0) {w : Wd} (hw : w.ok = true) (hu : w.u = u) (hf : w.formIs ats c = true) : spanLo ats c t u ≤ pcN (w.val t) ∧ pcN (w.val t) ≤ spanHi ats c t u := by
 obtain ⟨_, h2, h3, _⟩ := span_zero.1 h
 unfold spanLo spanHi
 rw [if_pos h, if_pos h]
 obtain ⟨D, hD, hl⟩ := worldsL_like (u := u.toNat) hw (by omega)
 obtain ⟨n, hn⟩ := one_term h2
 have := span_bound (worldsL u.toNat) D hD (by rw [hl.form]; exact hf) (t := t)
 rw [hl.size hn] at this
 exact this
theorem span_ends {ats : List At} {c t : List Int} {u : Int} (h : spanFault ats c t u = 0) : (0 ≤ spanLo ats c t u ∧ spanLo ats c t u ≤ spanHi ats c t u ∧ spanHi ats c t u ≤ 6) ∧
    (∃ w : Wd, w.ok = true ∧ w.u = u ∧ w.formIs ats c = true ∧ pcN (w.val t) = spanLo ats c t u) ∧ ∃ w : Wd, w.ok = true ∧ w.u = u ∧ w.formIs ats c = true ∧ pcN (w.val t) = spanHi ats c t u := by
 obtain ⟨_, h2, h3, h4⟩ := span_zero.1 h
 have e1 : spanLo ats c t u = (spanP ats c t u.toNat).1 := by unfold spanLo; rw [if_pos h]
 have e2 : spanHi ats c t u = (spanP ats c t u.toNat).2 := by unfold spanHi; rw [if_pos h]
 rcases span_hit (ats := ats) (c := c) (t := t) (worldsL u.toNat) with ⟨h5, _⟩ | ⟨⟨D, hD, hf, e⟩, ⟨D', hD', hf', e'⟩⟩
 ·exact absurd (show (spanP ats c t u.toNat).2 < 0 by unfold spanP; rw [h5]; decide) h4
 ·have hb := span_bound (t := t) _ D hD hf
  have hb' := span_bound (t := t) _ D' hD' hf'
  have p1 := pcN_le (D.val t)
  have p2 := pcN_le (D'.val t)
  have q1 : (spanP ats c t u.toNat).1 = pcN (D.val t) := e.symm
  have q2 : (spanP ats c t u.toNat).2 = pcN (D'.val t) := e'.symm
  rw [e1, e2, q1, q2]
  refine ⟨⟨by omega, ?_, by omega⟩, ⟨D, worldsL_ok (by omega) hD, by rw [worldsL_u (by omega) hD]; omega, hf, rfl⟩, ⟨D', worldsL_ok (by omega) hD', by rw [worldsL_u (by omega) hD']; omega, hf', rfl⟩⟩
  have := hb.2
  rw [← e'] at this
  exact this
end Go.Proofs.YtnoohlibgaeklaaGreatDoor
namespace Go.Proofs.YtnoohlibgaeklaaGreatDoor
open Go.RowKit
def askStep (fs : List Fm) (ats : List At) (c : List Int) (p : Int × Int) (D : Wd) : Int × Int :=
 (if (D.so fs && D.formIs ats c) = true then p.1 + 1 else p.1, if (D.so fs && !D.formIs ats c) = true then p.2 + 1 else p.2)
def askOver (fs : List Fm) (ats : List At) (c : List Int) (L : List Wd) : Int × Int := L.foldl (askStep fs ats c) (0, 0)
def askP (fs : List Fm) (ats : List At) (c : List Int) (u : Nat) : Int × Int := askOver fs ats c (worldsL u)
def answerN (p : Int × Int) : Int := if p.2 = 0 then 1 else if p.1 = 0 then -1 else 0
def askFault (fs : List Fm) (ats : List At) (c : List Int) (u : Int) : Int := if formsFault fs u = 0 then (if formFault ats c = 0 then (if (askP fs ats c u.toNat).1 + (askP fs ats c u.toNat).2 = 0 then 6 else 0) else formFault ats c) else formsFault fs u
def askN (fs : List Fm) (ats : List At) (c : List Int) (u : Int) : Int := if askFault fs ats c u = 0 then answerN (askP fs ats c u.toNat) else 0
def sumP (f : Nat → Int × Int) : Nat → Int × Int
 | 0 => (0, 0)
 | k + 1 => ((sumP f k).1 + (f k).1, (sumP f k).2 + (f k).2)
def alwaysP (fs : List Fm) (ats : List At) (c : List Int) : Int × Int := sumP (askP fs ats c) 7
def alwaysFault (fs : List Fm) (ats : List At) (c : List Int) : Int := if formsFault fs 0 = 0 then (if formFault ats c = 0 then (if (alwaysP fs ats c).1 + (alwaysP fs ats c).2 = 0 then 6 else 0) else formFault ats c) else formsFault fs 0
def alwaysN (fs : List Fm) (ats : List At) (c : List Int) : Int := if alwaysFault fs ats c = 0 then answerN (alwaysP fs ats c) else 0
theorem askOver_add (fs : List Fm) (ats : List At) (c : List Int) (L : List Wd) (D : Wd) : askOver fs ats c (L ++ [D]) = askStep fs ats c (askOver fs ats c L) D := by
 unfold askOver; rw [List.foldl_append]; rfl
theorem ask_range (fs : List Fm) (ats : List At) (c : List Int) : ∀ L : List Wd, (0 ≤ (askOver fs ats c L).1 ∧ 0 ≤ (askOver fs ats c L).2) ∧ (askOver fs ats c L).1 + (askOver fs ats c L).2 ≤ L.length := by
 refine revInd ?_ ?_
 ·exact ⟨⟨Int.le_refl _, Int.le_refl _⟩, Int.le_refl _⟩
 ·intro L E ih
  rw [askOver_add]
  unfold askStep
  rw [List.length_append]
  cases E.so fs <;> cases E.formIs ats c <;> simp <;> omega
theorem ask_yes (fs : List Fm) (ats : List At) (c : List Int) : ∀ L : List Wd, (askOver fs ats c L).1 = 0 ↔ ∀ D ∈ L, D.so fs = true → D.formIs ats c = false := by
 refine revInd ?_ ?_
 ·exact ⟨fun _ D h => (by cases h), fun _ => rfl⟩
 ·intro L E ih
  have hr := (ask_range fs ats c L).1.1
  rw [askOver_add]
  show (if (E.so fs && E.formIs ats c) = true then _ else _) = 0 ↔ _
  by_cases h : (E.so fs && E.formIs ats c) = true
  ·rw [if_pos h]
   constructor
   ·intro g; omega
   ·intro g
    rw [Bool.and_eq_true] at h
    have := g E (by simp) h.1
    rw [h.2] at this; exact absurd this (by decide)
  ·rw [if_neg h, ih]
   constructor
   ·intro g D hD hs
    rcases List.mem_append.1 hD with hD | hD
    ·exact g D hD hs
    ·obtain rfl : D = E := by simpa using hD
     rw [hs] at h
     simpa using h
   ·intro g D hD hs
    exact g D (List.mem_append_left _ hD) hs
theorem ask_no (fs : List Fm) (ats : List At) (c : List Int) : ∀ L : List Wd, (askOver fs ats c L).2 = 0 ↔ ∀ D ∈ L, D.so fs = true → D.formIs ats c = true := by
 refine revInd ?_ ?_
 ·exact ⟨fun _ D h => (by cases h), fun _ => rfl⟩
 ·intro L E ih
  have hr := (ask_range fs ats c L).1.2
  rw [askOver_add]
  show (if (E.so fs && !E.formIs ats c) = true then _ else _) = 0 ↔ _
  by_cases h : (E.so fs && !E.formIs ats c) = true
  ·rw [if_pos h]
   constructor
   ·intro g; omega
   ·intro g
    rw [Bool.and_eq_true] at h
    have := g E (by simp) h.1
    rw [this] at h; exact absurd h.2 (by decide)
  ·rw [if_neg h, ih]
   constructor
   ·intro g D hD hs
    rcases List.mem_append.1 hD with hD | hD
    ·exact g D hD hs
    ·obtain rfl : D = E := by simpa using hD
     rw [hs] at h
     simpa using h
   ·intro g D hD hs
    exact g D (List.mem_append_left _ hD) hs
theorem so_alike {w D : Wd} (h : Alike w D) (fs : List Fm) : D.so fs = w.so fs := by
 unfold Wd.so
 congr 1
 funext f
 exact h.form f.ats f.c
theorem ask_all_no {fs : List Fm} {ats : List At} {c : List Int} {u : Nat} (h : (askP fs ats c u).2 = 0) {w : Wd} (hw : w.ok = true) (hu : w.u = u) (hs : w.so fs = true) : w.formIs ats c = true := by
 obtain ⟨D, hD, hl⟩ := worldsL_like hw hu
 have := (ask_no fs ats c _).1 h D hD (by rw [so_alike hl]; exact hs)
 rw [hl.form] at this
 exact this
theorem ask_all_yes {fs : List Fm} {ats : List At} {c : List Int} {u : Nat} (h : (askP fs ats c u).1 = 0) {w : Wd} (hw : w.ok = true) (hu : w.u = u) (hs : w.so fs = true) : w.formIs ats c = false := by
 obtain ⟨D, hD, hl⟩ := worldsL_like hw hu
 have := (ask_yes fs ats c _).1 h D hD (by rw [so_alike hl]; exact hs)
 rw [hl.form] at this
 exact this
theorem ask_open {fs : List Fm} {ats : List At} {c : List Int} {u : Nat} : (askP fs ats c u).1 + (askP fs ats c u).2 = 0 ↔ openN fs u = false := by
 have hr := (ask_range fs ats c (worldsL u)).1
 have eO : openN fs u = (worldsL u).any fun D => D.so fs := by unfold openN worldsL; rw [List.any_map]; rfl
 have e1 := ask_yes fs ats c (worldsL u)
 have e2 := ask_no fs ats c (worldsL u)
 unfold askP
 constructor
 ·intro h
  rw [eO, List.any_eq_false]
  intro D hD hs
  have h1 := e1.1 (by omega) D hD hs
  have h2 := e2.1 (by omega) D hD hs
  rw [h1] at h2; exact absurd h2 (by decide)
 ·intro h
  rw [eO, List.any_eq_false] at h
  have h1 := e1.2 fun D hD hs => absurd hs (h D hD)
  have h2 := e2.2 fun D hD hs => absurd hs (h D hD)
  omega
theorem ask_zero {fs : List Fm} {ats : List At} {c : List Int} {u : Int} : askFault fs ats c u = 0 ↔ formsFault fs u = 0 ∧ formFault ats c = 0 ∧ ¬ (askP fs ats c u.toNat).1 + (askP fs ats c u.toNat).2 = 0 := by
 unfold askFault
 by_cases h1 : formsFault fs u = 0
 ·rw [if_pos h1]
  by_cases h2 : formFault ats c = 0
  ·rw [if_pos h2]
   by_cases h3 : (askP fs ats c u.toNat).1 + (askP fs ats c u.toNat).2 = 0
   ·rw [if_pos h3]; exact ⟨fun h => absurd h (by decide), fun h => absurd h3 h.2.2⟩
   ·rw [if_neg h3]; exact ⟨fun _ => ⟨h1, h2, h3⟩, fun _ => rfl⟩
  ·rw [if_neg h2]; exact ⟨fun h => absurd h h2, fun h => absurd h.2.1 h2⟩
 ·rw [if_neg h1]; exact ⟨fun h => absurd h h1, fun h => absurd h.1 h1⟩
theorem ask_neg {fs : List Fm} {ats : List At} {c : List Int} (hf : formFault ats c = 0) (h19 : c.length ≤ 19) {u : Nat} (hu : u ≤ 6) : askP fs ats (c ++ [12]) u = ((askP fs ats c u).2, (askP fs ats c u).1) := by
 have key : ∀ L : List Wd, (∀ D ∈ L, D.ok = true) → askOver fs ats (c ++ [12]) L = ((askOver fs ats c L).2, (askOver fs ats c L).1) := by
  refine revInd ?_ ?_
  ·intro _; rfl
  ·intro L E ih h
   rw [askOver_add, askOver_add, ih fun D hD => h D (List.mem_append_left _ hD)]
   unfold askStep
   rw [formIs_no hf h19 (h E (by simp)), Bool.not_not]
 exact key _ fun D hD => worldsL_ok hu hD
theorem answer_neg {p : Int × Int} (h : ¬ p.1 + p.2 = 0) : answerN (p.2, p.1) = - answerN p := by
 unfold answerN
 simp only
 by_cases h1 : p.1 = 0
 ·rw [if_pos h1, if_neg (by omega : ¬ p.2 = 0), if_pos h1]; rfl
 ·rw [if_neg h1]
  by_cases h2 : p.2 = 0
  ·rw [if_pos h2, if_pos h2]
  ·rw [if_neg h2, if_neg h2, if_neg h1]; rfl
theorem answer_one {p : Int × Int} : answerN p = 1 ↔ p.2 = 0 := by
 unfold answerN
 by_cases h2 : p.2 = 0
 ·rw [if_pos h2]; exact ⟨fun _ => h2, fun _ => rfl⟩
 ·rw [if_neg h2]
  by_cases h1 : p.1 = 0
  ·rw [if_pos h1]; exact ⟨fun h => absurd h (by decide), fun h => absurd h h2⟩
  ·rw [if_neg h1]; exact ⟨fun h => absurd h (by decide), fun h => absurd h h2⟩
theorem answer_range (p : Int × Int) : -1 ≤ answerN p ∧ answerN p ≤ 1 := by
 unfold answerN
 split
 ·decide
 ·split <;> decide
theorem answer_less {p : Int × Int} (h : answerN p = -1) : p.1 = 0 := by
 unfold answerN at h
 by_cases h2 : p.2 = 0
 ·rw [if_pos h2] at h; exact absurd h (by decide)
 ·rw [if_neg h2] at h
  by_cases h1 : p.1 = 0
  ·exact h1
  ·rw [if_neg h1] at h; exact absurd h (by decide)
end Go.Proofs.YtnoohlibgaeklaaGreatDoor
namespace Go.Proofs.YtnoohlibgaeklaaGreatDoor
open Go.RowKit
def aloneF (a : At) (h : Bool) : Fm := ⟨[a], if h = true then [0] else [0, 12]⟩
structure Lg where
 u : Int
 fs : List Fm
 ends : List Int
 bytes : Int
 safe : Int
 left : Int
 stop : Bool
def lg0 (u : Int) : Lg := ⟨u, [], [], 0, 0, -1, false⟩
def Lg.wrong (l : Lg) (a : At) (h : Bool) : Int := if l.stop = true then 6 else if a.fault = 0 then (if 6 ≤ l.fs.length then 4 else if openN (l.fs ++ [aloneF a h]) l.u.toNat = true then 0 else 7) else a.fault
def Lg.sayE (l : Lg) (a : At) (h : Bool) : Int := if l.wrong a h = 0 then (if l.left = 0 then 6 else 0) else l.wrong a h
def lessN1 (n : Int) : Int := if n < 0 then n else n - 1
def Lg.say (l : Lg) (a : At) (h : Bool) (n : Int) : Lg :=
 if l.wrong a h = 0 then (if l.left = 0 then { l with bytes := l.bytes + n / 2, stop := true } else { l with fs := l.fs ++ [aloneF a h], ends := l.ends ++ [l.bytes + n], bytes := l.bytes + n, left := lessN1 l.left }) else l
def Lg.syncE (l : Lg) : Int := if l.stop = true then 6 else if l.left = 0 then 6 else 0
def Lg.sync (l : Lg) : Lg := if l.stop = true then l else if l.left = 0 then { l with stop := true } else { l with safe := l.bytes, left := lessN1 l.left }
def failN (n : Int) : Int := if n < 0 then -1 else if n = 0 then 0 else if IntKind.i64.wrap (n - 1) < 0 then -1 else IntKind.i64.wrap (n - 1) + 1
theorem failN_small {n : Int} (h0 : 0 ≤ n) (h1 : n ≤ 9223372036854775807) : failN n = n := by
 unfold failN
 have e : IntKind.i64.wrap (n - 1) = n - 1 := by rw [IntKind.wrap_i64]; omega
 rw [e, if_neg (by omega)]
 split
 ·omega
 ·rw [if_neg (by omega)]; omega
def Lg.fail (l : Lg) (n : Int) : Lg := { l with left := failN n }
def Lg.high (l : Lg) (keep : Int) : Int := if 0 < keep then (if keep < l.bytes - l.safe then l.safe + keep else l.bytes) else l.safe
def wholeN (ends : List Int) (high : Int) : Nat := (ends.takeWhile fun e => decide (e ≤ high)).length
def endAt (ends : List Int) (k : Nat) : Int := if k = 0 then 0 else ends.getD (k - 1) 0
def Lg.crash (l : Lg) (keep : Int) : Lg :=
 { u := l.u, fs := l.fs.take (wholeN l.ends (l.high keep)), ends := l.ends.take (wholeN l.ends (l.high keep)), bytes := endAt l.ends (wholeN l.ends (l.high keep)), safe := endAt l.ends (wholeN l.ends (l.high keep)), left := -1, stop := false }
def Lg.openB (l : Lg) : Bool := openN l.fs l.u.toNat
theorem alone_right {a : At} (ha : a.fault = 0) (h : Bool) : (aloneF a h).fault = 0 := by
 have h0 : formFault [a] [0] = 0 := formFault_zero.2 ⟨⟨by simp, by simp⟩, ⟨by simp, by simp⟩, fun b hb => by
  obtain rfl : b = a := by simpa using hb
  exact ha, (by decide : [(0 : Int)].all (signF 1) = true), by decide⟩
 unfold aloneF Fm.fault
 cases h
 ·exact good_no h0 (by decide)
 ·exact h0
theorem alone_not {a : At} (ha : a.fault = 0) {D : Wd} (hD : D.ok = true) : D.formIs (aloneF a false).ats (aloneF a false).c = !D.formIs (aloneF a true).ats (aloneF a true).c := by
 have h0 : formFault [a] [0] = 0 := alone_right ha true
 exact formIs_no (c := [0]) h0 (by decide) hD
theorem open_clash {a : At} (ha : a.fault = 0) {u : Nat} (hu : u ≤ 6) : openN [aloneF a true, aloneF a false] u = false := by
 cases e : openN [aloneF a true, aloneF a false] u
 ·rfl
 ·obtain ⟨D, hD, _, hs⟩ := open_has hu e
  unfold Wd.so at hs
  rw [List.all_eq_true] at hs
  have h1 := hs (aloneF a true) (by simp)
  have h2 := hs (aloneF a false) (by simp)
  rw [alone_not ha hD, h1] at h2
  exact absurd h2 (by decide)
theorem lg0_open (u : Int) : (lg0 u).openB = true := open_nil _
theorem wrong_of {l : Lg} (hs : l.stop = false) (a : At) (h : Bool) : l.wrong a h = if a.fault = 0 then (if 6 ≤ l.fs.length then 4 else if openN (l.fs ++ [aloneF a h]) l.u.toNat = true then 0 else 7) else a.fault := by
 unfold Lg.wrong
 rw [hs]
 exact if_neg (by decide)
theorem say_ok {l : Lg} (hs : l.stop = false) {a : At} {h : Bool} (ha : a.fault = 0) (h6 : l.fs.length < 6) (ho : openN (l.fs ++ [aloneF a h]) l.u.toNat = true) (hl : ¬ l.left = 0) :
    l.sayE a h = 0 ∧ ∀ n, l.say a h n = { l with fs := l.fs ++ [aloneF a h], ends := l.ends ++ [l.bytes + n], bytes := l.bytes + n, left := lessN1 l.left } := by
 have hw : l.wrong a h = 0 := by rw [wrong_of hs, if_pos ha, if_neg (by omega), if_pos ho]
 refine ⟨by unfold Lg.sayE; rw [if_pos hw, if_neg hl], fun n => ?_⟩
 unfold Lg.say
 rw [if_pos hw, if_neg hl]
theorem say_stop {l : Lg} (hs : l.stop = false) {a : At} {h : Bool} (ha : a.fault = 0) (h6 : l.fs.length < 6) (ho : openN (l.fs ++ [aloneF a h]) l.u.toNat = true) (hl : l.left = 0) :
    l.sayE a h = 6 ∧ ∀ n, l.say a h n = { l with bytes := l.bytes + n / 2, stop := true } := by
 have hw : l.wrong a h = 0 := by rw [wrong_of hs, if_pos ha, if_neg (by omega), if_pos ho]
 refine ⟨by unfold Lg.sayE; rw [if_pos hw, if_pos hl], fun n => ?_⟩
 unfold Lg.say
 rw [if_pos hw, if_pos hl]
theorem say_no {l : Lg} {a : At} {h : Bool} (hw : ¬ l.wrong a h = 0) : l.sayE a h = l.wrong a h ∧ ∀ n, l.say a h n = l := by
 refine ⟨by unfold Lg.sayE; rw [if_neg hw], fun n => ?_⟩
 unfold Lg.say
 rw [if_neg hw]
theorem say_stopped {l : Lg} (hs : l.stop = true) (a : At) (h : Bool) : l.sayE a h = 6 ∧ ∀ n, l.say a h n = l := by
 have hw : l.wrong a h = 6 := by unfold Lg.wrong; rw [if_pos hs]
 have := say_no (l := l) (a := a) (h := h) (by rw [hw]; decide)
 rw [hw] at this
 exact this
theorem first_said {u : Int} {a : At} (h0 : (lg0 u).sayE a true = 0) : (a.fault = 0 ∧ openN [aloneF a true] u.toNat = true) ∧ ∀ n, (lg0 u).say a true n = ⟨u, [aloneF a true], [0 + n], 0 + n, 0, -1, false⟩ := by
 have hw : (lg0 u).wrong a true = 0 := by
  unfold Lg.sayE at h0
  by_cases hw : (lg0 u).wrong a true = 0
  ·exact hw
  ·rw [if_neg hw] at h0; exact absurd h0 hw
 have e := wrong_of (l := lg0 u) rfl a true
 rw [hw] at e
 have hfa : a.fault = 0 ∧ openN [aloneF a true] u.toNat = true := by
  by_cases hf : a.fault = 0
  ·rw [if_pos hf, if_neg (by show ¬ 6 ≤ ([] : List Fm).length; decide)] at e
   refine ⟨hf, ?_⟩
   by_cases ho : openN ((lg0 u).fs ++ [aloneF a true]) (lg0 u).u.toNat = true
   ·exact ho
   ·rw [if_neg ho] at e; exact absurd e (by decide)
  ·rw [if_neg hf] at e; exact absurd e.symm hf
 exact ⟨hfa, fun n => (say_ok (l := lg0 u) rfl hfa.1 (by show ([] : List Fm).length < 6; decide) hfa.2 (by show ¬ (-1 : Int) = 0; decide)).2 n⟩
theorem first_no {u : Int} {a : At} (h0 : ¬ (lg0 u).sayE a true = 0) : ∀ n, (lg0 u).say a true n = lg0 u := by
 refine (say_no fun hw => h0 ?_).2
 unfold Lg.sayE
 rw [if_pos hw]
 exact if_neg (by show ¬ (-1 : Int) = 0; decide)
theorem second_said {u : Int} (hu : 0 ≤ u ∧ u ≤ 6) {a : At} (ha : a.fault = 0) (ho : openN [aloneF a true] u.toNat = true) (n : Int) {l : Lg} (hl : l = ⟨u, [aloneF a true], [0 + n], 0 + n, 0, -1, false⟩) :
    (l.sayE a false = 7 ∧ ∀ m, l.say a false m = l) ∧ l.sayE a true = 0 ∧ ∀ m, (l.say a true m).fs = [aloneF a true, aloneF a true] ∧ (l.say a true m).openB = true := by
 subst hl
 have oo : openN [aloneF a true, aloneF a true] u.toNat = true := open_less (fs := [aloneF a true]) (fun f hf => by simpa using hf) ho
 have hw : (Lg.mk u [aloneF a true] [0 + n] (0 + n) 0 (-1) false).wrong a false = 7 := by
  rw [wrong_of rfl, if_pos ha, if_neg (by show ¬ 6 ≤ 1; decide)]
  have := open_clash ha (u := u.toNat) (by omega)
  exact if_neg (by rw [show (Lg.mk u [aloneF a true] [0 + n] (0 + n) 0 (-1) false).fs ++ [aloneF a false] = [aloneF a true, aloneF a false] from rfl]; rw [this]; decide)
 have h1 := say_no (l := Lg.mk u [aloneF a true] [0 + n] (0 + n) 0 (-1) false) (a := a) (h := false) (by rw [hw]; decide)
 rw [hw] at h1
 have h2 := say_ok (l := Lg.mk u [aloneF a true] [0 + n] (0 + n) 0 (-1) false) (a := a) (h := true) rfl ha (by show 1 < 6; decide) oo (by show ¬ (-1 : Int) = 0; decide)
 refine ⟨h1, h2.1, fun m => ?_⟩
 rw [h2.2 m]
 exact ⟨rfl, oo⟩
end Go.Proofs.YtnoohlibgaeklaaGreatDoor
namespace Go.Proofs.YtnoohlibgaeklaaGreatDoor
open Go.RowKit
def facN : Nat → Int
 | 0 => 1
 | n + 1 => ((n : Int) + 1) * facN n
def downN (w : Int) : Nat → Int
 | 0 => w
 | 1 => w
 | k + 2 => (downN w (k + 1)).tdiv ((k : Int) + 2)
def likeTo (N : Nat → Int) : Nat → Int
 | 0 => facN (sumN N 8).toNat
 | i + 1 => downN (likeTo N i) (N i).toNat
def likeN (N : Nat → Int) : Int := likeTo N 8
def eightN : Nat → Int
 | 0 => 1
 | n + 1 => eightN n * 8
def sumL (p : (Nat → Int) → Bool) : List (Nat → Int) → Int
 | [] => 0
 | N :: A => (if p N = true then likeN N else 0) + sumL p A
theorem downN_range {w : Int} (h : 0 ≤ w) (k : Nat) : 0 ≤ downN w k ∧ downN w k ≤ w := by
 induction k with
 | zero => exact ⟨h, Int.le_refl _⟩
 | succ k ih =>
  cases k with
  | zero => exact ⟨h, Int.le_refl _⟩
  | succ k =>
   show 0 ≤ (downN w (k + 1)).tdiv ((k : Int) + 2) ∧ (downN w (k + 1)).tdiv ((k : Int) + 2) ≤ w
   exact ⟨Int.tdiv_nonneg ih.1 (by omega), Int.le_trans (Int.tdiv_le_self _ ih.1) ih.2⟩
theorem downN_step (w : Int) (k : Nat) : downN w (k + 2) = (downN w (k + 1)).tdiv ((k : Int) + 2) := rfl
theorem facN_range : ∀ n, n ≤ 6 → 1 ≤ facN n ∧ facN n ≤ 720 := by decide
theorem likeTo_range {N : Nat → Int} (h : countsFault N = 0) (i : Nat) : 0 ≤ likeTo N i ∧ likeTo N i ≤ 720 := by
 induction i with
 | zero =>
  have := facN_range (sumN N 8).toNat (by have := (counts_zero.1 h).2; omega)
  exact ⟨by show 0 ≤ facN _; omega, this.2⟩
 | succ i ih =>
  have := downN_range ih.1 (N i).toNat
  exact ⟨this.1, Int.le_trans this.2 ih.2⟩
theorem likeTo_same {N M : Nat → Int} (h : ∀ g, g < 8 → N g = M g) : ∀ i, i ≤ 8 → likeTo N i = likeTo M i := by
 intro i
 induction i with
 | zero =>
  intro _
  have e : ∀ k, k ≤ 8 → sumN N k = sumN M k := by
   intro k
   induction k with
   | zero => intro _; rfl
   | succ k ih => intro hk; unfold sumN; rw [ih (by omega), h k (by omega)]
  show facN _ = facN _
  rw [e 8 (by omega)]
 | succ i ih =>
  intro hi
  show downN _ _ = downN _ _
  rw [ih (by omega), h i (by omega)]
theorem likeN_same {N M : Nat → Int} (h : ∀ g, g < 8 → N g = M g) : likeN N = likeN M := likeTo_same h 8 (by omega)
theorem like_facts : ∀ u, u ≤ 6 → ((everyC u).all fun N => decide (1 ≤ likeN N)) = true ∧ sumL (fun _ => true) (everyC u) = eightN u := by decide +kernel
theorem like_pos {u : Nat} (hu : u ≤ 6) {N : Nat → Int} (h : N ∈ everyC u) : 1 ≤ likeN N := of_decide_eq_true (List.all_eq_true.1 (like_facts u hu).1 N h)
theorem eight_le : ∀ u, u ≤ 6 → eightN u ≤ 262144 := by decide
theorem sumL_take {p : (Nat → Int) → Bool} : ∀ {A : List (Nat → Int)} {k : Nat} {N : Nat → Int}, A[k]? = some N → sumL p (A.take (k + 1)) = sumL p (A.take k) + if p N = true then likeN N else 0 := by
 intro A
 induction A with
 | nil => intro k N h; simp at h
 | cons M A ih =>
  intro k N h
  cases k with
  | zero =>
   obtain rfl : M = N := by simpa using h
   simp [sumL]
  | succ k =>
   have := ih (k := k) (N := N) (by simpa using h)
   simp only [List.take_succ_cons, sumL]
   rw [this]
   omega
theorem eight_pos (u : Nat) : 1 ≤ eightN u := by
 induction u with
 | zero => exact Int.le_refl _
 | succ u ih => show 1 ≤ eightN u * 8; omega
theorem sumL_part {A : List (Nat → Int)} (hp : ∀ N ∈ A, 0 ≤ likeN N) {p : (Nat → Int) → Bool} : ∀ k, sumL p (A.take k) ≤ sumL p A := by
 induction A with
 | nil => intro k; simp
 | cons M A ih =>
  intro k
  have h1 := hp M List.mem_cons_self
  have h2 := ih fun N hN => hp N (List.mem_cons_of_mem _ hN)
  cases k with
  | zero =>
   have h3 := h2 0
   simp only [List.take_zero, sumL] at h3 ⊢
   by_cases h : p M = true
   ·rw [if_pos h]; omega
   ·rw [if_neg h]; omega
  | succ k =>
   have := h2 k
   simp only [List.take_succ_cons, sumL]
   omega
theorem sumL_range {A : List (Nat → Int)} (hp : ∀ N ∈ A, 1 ≤ likeN N) (p : (Nat → Int) → Bool) : 0 ≤ sumL p A ∧ sumL p A ≤ sumL (fun _ => true) A := by
 induction A with
 | nil => exact ⟨Int.le_refl _, Int.le_refl _⟩
 | cons N A ih =>
  have h1 := hp N List.mem_cons_self
  have h2 := ih fun M hM => hp M (List.mem_cons_of_mem _ hM)
  simp only [sumL, if_true]
  by_cases h : p N = true
  ·rw [if_pos h]; omega
  ·rw [if_neg h]; omega
theorem sumL_not {A : List (Nat → Int)} {p q : (Nat → Int) → Bool} (h : ∀ N ∈ A, q N = !p N) : sumL p A + sumL q A = sumL (fun _ => true) A := by
 induction A with
 | nil => rfl
 | cons N A ih =>
  have h1 := h N List.mem_cons_self
  have h2 := ih fun M hM => h M (List.mem_cons_of_mem _ hM)
  simp only [sumL, if_true]
  rw [h1]
  cases p N <;> simp <;> omega
theorem sumL_has {A : List (Nat → Int)} (hp : ∀ N ∈ A, 1 ≤ likeN N) {p : (Nat → Int) → Bool} {N : Nat → Int} (hN : N ∈ A) (h : p N = true) : likeN N ≤ sumL p A := by
 induction A with
 | nil => cases hN
 | cons M A ih =>
  have h1 := hp M List.mem_cons_self
  have h2 := sumL_range (fun M hM => hp M (List.mem_cons_of_mem _ hM)) p
  simp only [sumL]
  rcases List.mem_cons.1 hN with rfl | hN
  ·rw [if_pos h]; omega
  ·have := ih (fun M hM => hp M (List.mem_cons_of_mem _ hM)) hN
   by_cases hm : p M = true
   ·rw [if_pos hm]; omega
   ·rw [if_neg hm]; omega
theorem sumL_none {A : List (Nat → Int)} {p : (Nat → Int) → Bool} (h : ∀ N ∈ A, p N = false) : sumL p A = 0 := by
 induction A with
 | nil => rfl
 | cons M A ih =>
  simp only [sumL]
  rw [h M List.mem_cons_self, if_neg (by decide), ih fun N hN => h N (List.mem_cons_of_mem _ hN)]
  rfl
theorem made_same {N M : Nat → Int} (h : ∀ g, g < 8 → N g = M g) : madeN N 8 = madeN M 8 := by
 have e : ∀ k, k ≤ 8 → madeN N k = madeN M k := by
  intro k
  induction k with
  | zero => intro _; rfl
  | succ k ih => intro hk; unfold madeN; rw [ih (by omega), h k (by omega)]
 exact e 8 (by omega)
def allFault (u : Int) : Int := if 0 ≤ u ∧ u ≤ 6 then 0 else 1
def allW (u : Int) : Int := if 0 ≤ u ∧ u ≤ 6 then eightN u.toNat else 0
def likeW (w : Wd) : Int := if w.ok = true then likeN (w.fc w.u.toNat) else 0
def worldsFault (ats : List At) (c : List Int) (u : Int) : Int := if formFault ats c = 0 then allFault u else formFault ats c
def worldsN (ats : List At) (c : List Int) (u : Int) : Int := if worldsFault ats c u = 0 then sumL (fun N => (madeN N 8).formIs ats c) (everyC u.toNat) else 0
theorem worlds_zero {ats : List At} {c : List Int} {u : Int} (h : worldsFault ats c u = 0) : formFault ats c = 0 ∧ (0 ≤ u ∧ u ≤ 6) := by
 unfold worldsFault at h
 by_cases hf : formFault ats c = 0
 ·rw [if_pos hf] at h
  unfold allFault at h
  by_cases hu : 0 ≤ u ∧ u ≤ 6
  ·exact ⟨hf, hu⟩
  ·rw [if_neg hu] at h; exact absurd h (by decide)
 ·rw [if_neg hf] at h; exact absurd h hf
theorem worlds_range {ats : List At} {c : List Int} {u : Int} (h : worldsFault ats c u = 0) : 0 ≤ worldsN ats c u ∧ worldsN ats c u ≤ allW u := by
 obtain ⟨_, hu⟩ := worlds_zero h
 have hn : u.toNat ≤ 6 := by omega
 unfold worldsN allW
 rw [if_pos h, if_pos hu, ← (like_facts _ hn).2]
 exact sumL_range (fun N hN => like_pos hn hN) _
theorem worlds_not {ats : List At} {c : List Int} {u : Int} (h : worldsFault ats c u = 0) (hn : negFault ats c = 0) : worldsFault ats (c ++ [12]) u = 0 ∧ worldsN ats c u + worldsN ats (c ++ [12]) u = allW u := by
 obtain ⟨hf, hu⟩ := worlds_zero h
 obtain ⟨_, h19, hf'⟩ := neg_good hn
 have hn6 : u.toNat ≤ 6 := by omega
 have h' : worldsFault ats (c ++ [12]) u = 0 := by unfold worldsFault allFault; rw [if_pos hf', if_pos hu]
 refine ⟨h', ?_⟩
 unfold worldsN allW
 rw [if_pos h, if_pos h', if_pos hu, ← (like_facts _ hn6).2]
 refine sumL_not fun N hN => ?_
 exact formIs_no hf h19 (made_ok (everyC_right hn6 hN))
theorem world_counts {w : Wd} (hw : w.ok = true) {u : Int} (hu : w.u = u) : ∃ A ∈ everyC u.toNat, (∀ g, g < 8 → A g = w.fc w.u.toNat g) ∧ ∀ ats c, (madeN A 8).formIs ats c = w.formIs ats c := by
 have hcf := counts_fc hw
 have hsum : sumN (w.fc w.u.toNat) 8 = ((u.toNat : Nat) : Int) := by rw [sum_fc, hu]
 obtain ⟨A, hA, hAw⟩ := everyC_all (u := u.toNat) (fun g hg => ((counts_zero.1 hcf).1 g hg).1) hsum
 refine ⟨A, hA, hAw, fun ats c => ?_⟩
 have e := made_same (N := A) (M := w.fc w.u.toNat) hAw
 rw [e]
 exact (alike_made hw).form ats c
theorem worlds_some {ats : List At} {c : List Int} {u : Int} (h : worldsFault ats c u = 0) {w : Wd} (hw : w.ok = true) (hu : w.u = u) (hh : w.formIs ats c = true) : likeW w ≤ worldsN ats c u := by
 obtain ⟨_, hu6⟩ := worlds_zero h
 obtain ⟨A, hA, hAw, hAf⟩ := world_counts hw hu
 unfold likeW worldsN
 rw [if_pos hw, if_pos h, ← likeN_same hAw]
 exact sumL_has (fun N hN => like_pos (by omega) hN) hA (by rw [hAf]; exact hh)
theorem worlds_rest {ats : List At} {c : List Int} {u : Int} (h : worldsFault ats c u = 0) {w : Wd} (hw : w.ok = true) (hu : w.u = u) (hh : w.formIs ats c = false) : likeW w ≤ allW u - worldsN ats c u := by
 obtain ⟨_, hu6⟩ := worlds_zero h
 have hn6 : u.toNat ≤ 6 := by omega
 obtain ⟨A, hA, hAw, hAf⟩ := world_counts hw hu
 have hs := sumL_not (A := everyC u.toNat) (p := fun N => (madeN N 8).formIs ats c) (q := fun N => !(madeN N 8).formIs ats c) fun _ _ => rfl
 have hq := sumL_has (A := everyC u.toNat) (fun N hN => like_pos hn6 hN) (p := fun N => !(madeN N 8).formIs ats c) hA (by simp only [hAf, hh]; rfl)
 unfold likeW worldsN allW
 rw [if_pos hw, if_pos h, if_pos hu6, ← likeN_same hAw, ← (like_facts _ hn6).2]
 omega
theorem like_range {w : Wd} (hw : w.ok = true) {u : Int} (hu : w.u = u) (hu6 : 0 ≤ u ∧ u ≤ 6) : 1 ≤ likeW w ∧ likeW w ≤ allW u := by
 have hn6 : u.toNat ≤ 6 := by omega
 obtain ⟨A, hA, hAw, _⟩ := world_counts hw hu
 unfold likeW allW
 rw [if_pos hw, if_pos hu6, ← likeN_same hAw, ← (like_facts _ hn6).2]
 exact ⟨like_pos hn6 hA, sumL_has (fun N hN => like_pos hn6 hN) hA rfl⟩
theorem worlds_model {ats : List At} {c : List Int} {u : Int} (h : worldsFault ats c u = 0) : (modelFault ats c u = 0 → ¬ worldsN ats c u = 0) ∧ (modelFault ats c u = 5 → worldsN ats c u = 0) := by
 obtain ⟨hf, hu6⟩ := worlds_zero h
 refine ⟨fun hm => ?_, fun hm => ?_⟩
 ·obtain ⟨_, g2, g3, g4⟩ := model_zero hm
  have h1 := worlds_some h g2 g3 g4
  have h2 := (like_range g2 g3 hu6).1
  omega
 ·unfold worldsN
  rw [if_pos h]
  refine sumL_none fun N hN => ?_
  have hc := everyC_right (by omega) hN
  exact model_five hm hf (made_ok hc) (by rw [made_u hc, (everyC_sum hN).2]; omega)
end Go.Proofs.YtnoohlibgaeklaaGreatDoor
namespace Go.Proofs.YtnoohlibgaeklaaGreatDoor
open Go.RowKit
def fillN (m p : Int) : Nat → Int
 | 0 => m
 | k + 1 => (fillN m p k * (p + k + 1)).tdiv ((k : Int) + 1)
def layTo (N : Nat → Int) : Nat → Int
 | 0 => 1
 | i + 1 => fillN (layTo N i) (sumN N i) (N i).toNat
theorem lay_facts : ∀ u, u ≤ 6 → ((everyC u).all fun N => decide (layTo N 8 = likeN N) && (List.range 8).all fun i => (List.range 7).all fun k => decide (N i < (k : Int)) || decide (0 ≤ fillN (layTo N i) (sumN N i) k ∧ fillN (layTo N i) (sumN N i) k ≤ 720)) = true := by decide +kernel
theorem sum_same {N M : Nat → Int} (h : ∀ g, g < 8 → N g = M g) : ∀ k, k ≤ 8 → sumN N k = sumN M k := by
 intro k
 induction k with
 | zero => intro _; rfl
 | succ k ih => intro hk; unfold sumN; rw [ih (by omega), h k (by omega)]
theorem lay_same {N M : Nat → Int} (h : ∀ g, g < 8 → N g = M g) : ∀ k, k ≤ 8 → layTo N k = layTo M k := by
 intro k
 induction k with
 | zero => intro _; rfl
 | succ k ih => intro hk; unfold layTo; rw [ih (by omega), h k (by omega), sum_same h k (by omega)]
theorem sum_up {N : Nat → Int} (h : ∀ g, g < 8 → 0 ≤ N g) : ∀ k, k ≤ 8 → 0 ≤ sumN N k := by
 intro k
 induction k with
 | zero => intro _; exact Int.le_refl _
 | succ k ih => intro hk; have := ih (by omega); have := h k (by omega); show 0 ≤ sumN N k + N k; omega
theorem sum_more {N : Nat → Int} (h : ∀ g, g < 8 → 0 ≤ N g) : ∀ d k, k + d = 8 → sumN N k ≤ sumN N 8 := by
 intro d
 induction d with
 | zero => intro k hk; obtain rfl : k = 8 := by omega
           exact Int.le_refl _
 | succ d ih =>
  intro k hk
  have h1 := ih (k + 1) (by omega)
  have h2 := h k (by omega)
  have e : sumN N (k + 1) = sumN N k + N k := rfl
  omega
theorem lay_right {N : Nat → Int} (h : countsFault N = 0) : layTo N 8 = likeN N ∧ ∀ i, i < 8 → 0 ≤ sumN N i ∧ sumN N i + N i ≤ 6 ∧ ∀ k : Nat, (k : Int) ≤ N i → 0 ≤ fillN (layTo N i) (sumN N i) k ∧ fillN (layTo N i) (sumN N i) k ≤ 720 := by
 obtain ⟨h1, h2⟩ := counts_zero.1 h
 have hp : ∀ g, g < 8 → 0 ≤ N g := fun g hg => (h1 g hg).1
 have h0 := sum_up hp 8 (by omega)
 have hs : sumN N 8 = (((sumN N 8).toNat : Nat) : Int) := by omega
 obtain ⟨A, hA, hAN⟩ := everyC_all (u := (sumN N 8).toNat) hp hs
 have hf := List.all_eq_true.1 (lay_facts (sumN N 8).toNat (by omega)) A hA
 rw [Bool.and_eq_true] at hf
 refine ⟨?_, fun i hi => ⟨sum_up hp i (by omega), ?_, fun k hk => ?_⟩⟩
 ·rw [← lay_same hAN 8 (by omega), ← likeN_same hAN]; exact of_decide_eq_true hf.1
 ·have := sum_more hp (8 - (i + 1)) (i + 1) (by omega)
  have e : sumN N (i + 1) = sumN N i + N i := rfl
  omega
 ·have h3 := h1 i hi
  have := sum_more hp (8 - (i + 1)) (i + 1) (by omega)
  have e : sumN N (i + 1) = sumN N i + N i := rfl
  have := sum_up hp i (by omega)
  have hq := List.all_eq_true.1 (List.all_eq_true.1 hf.2 i (List.mem_range.2 hi)) k (List.mem_range.2 (by omega))
  rw [Bool.or_eq_true] at hq
  rw [← lay_same hAN i (by omega), ← sum_same hAN i (by omega)]
  rcases hq with hq | hq
  ·have := of_decide_eq_true hq
   rw [hAN i hi] at this
   omega
  ·exact of_decide_eq_true hq
theorem lay_step (N : Nat → Int) (i : Nat) : layTo N (i + 1) = fillN (layTo N i) (sumN N i) (N i).toNat := rfl
theorem fill_step (m p : Int) (k : Nat) : fillN m p (k + 1) = (fillN m p k * (p + k + 1)).tdiv ((k : Int) + 1) := rfl
end Go.Proofs.YtnoohlibgaeklaaGreatDoor
namespace Go.Proofs.YtnoohlibgaeklaaGreatDoor
open Go.ChangeShapes Go.WideShapes Go.ChangeAt Go.RowKit
set_option maxRecDepth 100000
theorem ret_i {k : IntKind} {a b : Int} (h : a = b) : Ending.returned (.int k a) = .returned (.int k b) := by rw [h]
theorem ret_b {a b : Bool} (h : a = b) : Ending.returned (.bool a) = .returned (.bool b) := by rw [h]
theorem refPower_any (n : Nat) (hn : n ≤ 62) (w : World) :
    Calls Tryz.prog 49 #[.int .i64 n] w (Sk w (.int .i64 (pw n))) := by
 go_enter Tryz.func49, Tryz.ntmps49
 go_wp2
 go_loop [3, 4] (fun p i => ∃ k : Nat, k ≤ n ∧ i = .int .i64 k ∧ p = .int .i64 (pw k)) (fun _ i => n - (intOf i).toNat)
 case atStart => exact ⟨0, Nat.zero_le _, rfl, rfl⟩
 case round =>
  obtain ⟨k, hk, rfl, rfl⟩ := hrel
  by_cases hlt : k < n
  ·have p1 := pw_pos k
   have p2 := pw_le61 (k := k) (by omega)
   have HS : Hid (pw (k + 1) = 2 * pw k) := pw_succ k
   go_wp2
   go_round
   case rel => exact ⟨k + 1, by omega, by go_num, by rw [HS.out]⟩
   case measure => simp [intOf]; omega
  ·obtain rfl : k = n := by omega
   go_wp2
   go_ret
   exact ⟨rfl, rfl⟩
theorem refHas_any (s : Int) (i : Nat) (hs : 0 ≤ s) (hm : s ≤ 9223372036854775807) (hi : i ≤ 62) (w : World) :
    Calls Tryz.prog 48 #[.int .i64 s, .int .i64 i] w (Sk w (.bool (hasB s i))) := by
 have p1 := pw_pos i
 go_enter Tryz.func48, Tryz.ntmps48
 go_wp2_with (go_at_call 49; refine (refPower_any _ hi _).mono ?_; rintro e w' ⟨rfl, rfl⟩)
 go_ret
 exact ⟨ret_b (has_spell2 s i hs), rfl⟩
end Go.Proofs.YtnoohlibgaeklaaGreatDoor