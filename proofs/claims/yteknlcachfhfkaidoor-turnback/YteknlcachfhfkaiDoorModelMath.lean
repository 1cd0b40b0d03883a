/-
  Plain facts on models: of the first of a formula's cubes that some counts fit, the least of these; in its world the formula holds, and where there is none it never does (chapter 9). No program is read here.
-/
import Derived.Test.YteknlcachfhfkaiDoorFitMath
import Derived.Test.YteknlcachfhfkaiDoorCubesMath
namespace Go.Proofs.YteknlcachfhfkaiDoor
open Go.RowKit

def atZ : At := ⟨0, [], [], 0⟩
/-- the row of a member of a cube, and the rows of a cube. -/
def rowOf (ats : List At) (m : Int) : Rw := ⟨rowT (ats.getD (m.natAbs - 1) atZ).k (ats.getD (m.natAbs - 1) atZ).s (ats.getD (m.natAbs - 1) atZ).t (decide (0 < m)), rowM (ats.getD (m.natAbs - 1) atZ).k (ats.getD (m.natAbs - 1) atZ).n (decide (0 < m))⟩
def cubeR (ats : List At) (c : List Int) : List Rw := c.map (rowOf ats)
/-- the least counts of the first of the cubes that some fit. -/
def modelL (ats : List At) (u : Nat) : List (List Int) → Option (Nat → Int)
  | [] => none
  | c :: L => match (everyC u).find? (fitB (cubeR ats c)) with
    | some N => some N
    | none => modelL ats u L
theorem modelL_some {ats : List At} {u : Nat} {L : List (List Int)} {N : Nat → Int} (h : modelL ats u L = some N) : N ∈ everyC u ∧ ∃ c ∈ L, fitB (cubeR ats c) N = true := by
  induction L with
  | nil => simp [modelL] at h
  | cons c L ih =>
    unfold modelL at h
    cases e : (everyC u).find? (fitB (cubeR ats c)) with
    | some M =>
      rw [e] at h
      obtain rfl : M = N := by simpa using h
      exact ⟨List.mem_of_find?_eq_some e, c, List.mem_cons_self, List.find?_some e⟩
    | none =>
      rw [e] at h
      obtain ⟨h1, d, h2, h3⟩ := ih h
      exact ⟨h1, d, List.mem_cons_of_mem _ h2, h3⟩
theorem modelL_none {ats : List At} {u : Nat} {L : List (List Int)} (h : modelL ats u L = none) : ∀ c ∈ L, ∀ N ∈ everyC u, fitB (cubeR ats c) N = false := by
  induction L with
  | nil => intro c hc; cases hc
  | cons c L ih =>
    unfold modelL at h
    cases e : (everyC u).find? (fitB (cubeR ats c)) with
    | some M => rw [e] at h; simp at h
    | none =>
      rw [e] at h
      intro d hd N hN
      rcases List.mem_cons.1 hd with rfl | hd
      · simpa using List.find?_eq_none.1 e N hN
      · exact ih h d hd N hN
/-- an atom of the formula, by a member of a cube. -/
theorem at_of {ats : List At} {m : Int} (h1 : 1 ≤ m.natAbs) (h2 : m.natAbs ≤ ats.length) : ats.getD (m.natAbs - 1) atZ ∈ ats := by
  rw [List.getD_eq_getElem?_getD, List.getElem?_eq_getElem (by omega)]
  exact List.getElem_mem _
theorem held_of {w : Wd} {ats : List At} {m : Int} (h1 : 1 ≤ m.natAbs) (h2 : m.natAbs ≤ ats.length) : (w.heldL ats).getD (m.natAbs - 1) false = w.holds (ats.getD (m.natAbs - 1) atZ).k (ats.getD (m.natAbs - 1) atZ).s (ats.getD (m.natAbs - 1) atZ).t (ats.getD (m.natAbs - 1) atZ).n := by
  unfold Wd.heldL
  rw [List.getD_eq_getElem?_getD, List.getD_eq_getElem?_getD, List.getElem?_map, List.getElem?_eq_getElem (show m.natAbs - 1 < ats.length by omega)]
  rfl
/-- a cube's rows are so at a world's counts just if the cube holds in it. -/
theorem cube_says {w : Wd} (hw : w.ok = true) {ats : List At} (ha : ∀ a ∈ ats, a.fault = 0) {c : List Int} (hc : cubeOk ats.length c) : fitB (cubeR ats c) (w.fc w.u.toNat) = allC (w.heldL ats) c := by
  unfold fitB cubeR allC
  rw [List.all_map]
  have key : ∀ m ∈ c, ((fun r : Rw => r.so (w.fc w.u.toNat)) ∘ rowOf ats) m = litC (w.heldL ats) m := fun m hm => by
    obtain ⟨h1, h2⟩ := hc.1 m hm
    have hf : atomFault (ats.getD (m.natAbs - 1) atZ).k (ats.getD (m.natAbs - 1) atZ).s (ats.getD (m.natAbs - 1) atZ).t (ats.getD (m.natAbs - 1) atZ).n = 0 := ha _ (at_of h1 h2)
    show (rowOf ats m).so (w.fc w.u.toNat) = _
    unfold rowOf litC
    rw [rows_say hw hf, held_of h1 h2]
    by_cases hp : 0 < m
    · rw [decide_eq_true hp, if_pos rfl]
      cases w.holds (ats.getD (m.natAbs - 1) atZ).k (ats.getD (m.natAbs - 1) atZ).s (ats.getD (m.natAbs - 1) atZ).t (ats.getD (m.natAbs - 1) atZ).n <;> rfl
    · rw [decide_eq_false hp, if_neg (by decide)]
      cases w.holds (ats.getD (m.natAbs - 1) atZ).k (ats.getD (m.natAbs - 1) atZ).s (ats.getD (m.natAbs - 1) atZ).t (ats.getD (m.natAbs - 1) atZ).n <;> rfl
  induction c with
  | nil => rfl
  | cons m c ih =>
    rw [List.all_cons, List.all_cons, key m List.mem_cons_self, ih ⟨fun x hx => hc.1 x (List.mem_cons_of_mem _ hx), (List.pairwise_cons.1 hc.2).2⟩ fun x hx => key x (List.mem_cons_of_mem _ hx)]
/-- in a model it holds. -/
theorem model_holds {ats : List At} {c : List Int} (hf : formFault ats c = 0) {L : List (List Int)} (hL : cubesC c = some L) {u : Nat} (hu : u ≤ 6) {N : Nat → Int} (h : modelL ats u L = some N) :
    countsFault N = 0 ∧ (madeN N 8).ok = true ∧ (madeN N 8).u = u ∧ (madeN N 8).formIs ats c = true := by
  obtain ⟨h1, d, h2, h3⟩ := modelL_some h
  have hc := everyC_right hu h1
  have hok := made_ok hc
  have hsum := (everyC_sum h1).2
  have hmu := made_u hc
  obtain ⟨g1, _, g3⟩ := cubes_say ((madeN N 8).heldL ats) hf hL
  have ha := (formFault_zero.1 hf).2.2.1
  have hd := cube_says hok ha (g1.1 d h2)
  rw [fitB_same (M := N) fun g hg => made_fc hc hg, h3] at hd
  refine ⟨hc, hok, by rw [hmu, hsum], ?_⟩
  unfold Wd.formIs
  rw [if_pos (wdForm_zero.2 ⟨hf, hok⟩), ← g3]
  unfold anyC
  rw [List.any_eq_true]
  exact ⟨d, h2, hd.symm⟩
/-- where there is none it never holds. -/
theorem model_never {ats : List At} {c : List Int} (hf : formFault ats c = 0) {L : List (List Int)} (hL : cubesC c = some L) {u : Nat} (h : modelL ats u L = none) {w : Wd} (hw : w.ok = true) (hwu : w.u = u) : w.formIs ats c = false := by
  obtain ⟨g1, _, g3⟩ := cubes_say (w.heldL ats) hf hL
  have ha := (formFault_zero.1 hf).2.2.1
  unfold Wd.formIs
  rw [if_pos (wdForm_zero.2 ⟨hf, hw⟩), ← g3]
  unfold anyC
  rw [List.any_eq_false]
  intro d hd
  have hs := cube_says hw ha (g1.1 d hd)
  have hcf := counts_fc hw
  have hsum : sumN (w.fc w.u.toNat) 8 = u := by rw [sum_fc, hwu]; rfl
  obtain ⟨A, hA, hAw⟩ := everyC_all (u := u) (fun g hg => ((counts_zero.1 hcf).1 g hg).1) hsum
  have := modelL_none h d hd A hA
  rw [fitB_same hAw, hs] at this
  rw [this]
  decide

/-- the rows of a cube of right atoms are right. -/
theorem cube_rows {ats : List At} (ha : ∀ a ∈ ats, a.fault = 0) (h6 : ats.length ≤ 6) {d : List Int} (hd : cubeOk ats.length d) : rowsFault (cubeR ats d) = 0 := by
  unfold rowsFault
  have hl : (cubeR ats d).length ≤ 6 := by unfold cubeR; rw [List.length_map]; have := cube_len hd; omega
  rw [if_neg (by omega)]
  have hw : (cubeR ats d).any Rw.wrong = false := by
    rw [List.any_eq_false]
    intro r hr
    unfold cubeR at hr
    obtain ⟨m, hm, rfl⟩ := List.mem_map.1 hr
    obtain ⟨h1, h2⟩ := hd.1 m hm
    have hf : atomFault (ats.getD (m.natAbs - 1) atZ).k (ats.getD (m.natAbs - 1) atZ).s (ats.getD (m.natAbs - 1) atZ).t (ats.getD (m.natAbs - 1) atZ).n = 0 := ha _ (at_of h1 h2)
    have := row_right hf (decide (0 < m))
    unfold rowOf
    rw [this]
    decide
  rw [hw]
  rfl
/-- what is told: of a model, of one of the opposite, and whether it is sure. -/
def modelFault (ats : List At) (c : List Int) (u : Int) : Int :=
  if formFault ats c = 0 then (match cubesC c with
    | none => 4
    | some L => if 0 ≤ u ∧ u ≤ 6 then (if (modelL ats u.toNat L).isSome = true then 0 else 5) else 1) else formFault ats c
def modelN (ats : List At) (c : List Int) (u : Int) : Nat → Int := (modelL ats u.toNat ((cubesC c).getD [])).getD zeroC
def modelW (ats : List At) (c : List Int) (u : Int) : Wd := if modelFault ats c u = 0 then madeN (modelN ats c u) 8 else ⟨0, 0, 0, 0⟩
end Go.Proofs.YteknlcachfhfkaiDoor
