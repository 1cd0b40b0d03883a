/-
  Plain facts on models: of the first of a formula's cubes that some counts fit, the least of these; in its world the formula holds, and where there is none it never does (chapter 9). No program is read here.
  Plain facts on where a formula does not hold, whether it is sure, and on a formula that a name has at least so many things (chapter 9). No program is read here.
  Proved: what vennsame.Error returns of an error and its number (what the statements of chapter 9 lean on).
  Proved: what vennlaw4.atomOf and vennlaw4.pow return; what was in memory is as it was (contracts that the statements lean on).
-/
import Derived.Test.YtgkgbpbohgklhafGreatDoorLibPB15
import Derived.Test.YtgkgbpbohgklhafGreatDoorLibPB3
import Derived.Test.YtgkgbpbohgklhafGreatDoorLibPB22
import Derived.Test.YtgkgbpbohgklhafGreatDoorLibPB1
import Derived.Test.YtgkgbpbohgklhafGreatDoorLibPB7
import Derived.Test.YtgkgbpbohgklhafGreatDoorLibPB13
namespace Go.Proofs.YtgkgbpbohgklhafGreatDoor
open Go.RowKit

def atZ : At := ⟨0, [], [], 0⟩
/-- the row of a member of a cube, and the rows of a cube. -/
def rowOf (ats : List At) (m : Int) : Rw := ⟨rowT (ats.getD (m.natAbs - 1) atZ).k (ats.getD (m.natAbs - 1) atZ).s (ats.getD (m.natAbs - 1) atZ).t (decide (0 < m)), rowM (ats.getD (m.natAbs - 1) atZ).k (ats.getD (m.natAbs - 1) atZ).n (decide (0 < m))⟩
def cubeR (ats : List At) (c : List Int) : List Rw := c.map (rowOf ats)
/-- the least counts of the first of the cubes that some fit. -/
def modelL (ats : List At) (u : Nat) : List (List Int) → Option (Nat → Int)
  | [] => none
  | c :: L => match (everyC u).find? (fitB (cubeR ats c)) with
    | some N => some N
    | none => modelL ats u L
theorem modelL_some {ats : List At} {u : Nat} {L : List (List Int)} {N : Nat → Int} (h : modelL ats u L = some N) : N ∈ everyC u ∧ ∃ c ∈ L, fitB (cubeR ats c) N = true := by
  induction L with
  | nil => simp [modelL] at h
  | cons c L ih =>
    unfold modelL at h
    cases e : (everyC u).find? (fitB (cubeR ats c)) with
    | some M =>
      rw [e] at h
      obtain rfl : M = N := by simpa using h
      exact ⟨List.mem_of_find?_eq_some e, c, List.mem_cons_self, List.find?_some e⟩
    | none =>
      rw [e] at h
      obtain ⟨h1, d, h2, h3⟩ := ih h
      exact ⟨h1, d, List.mem_cons_of_mem _ h2, h3⟩
theorem modelL_none {ats : List At} {u : Nat} {L : List (List Int)} (h : modelL ats u L = none) : ∀ c ∈ L, ∀ N ∈ everyC u, fitB (cubeR ats c) N = false := by
  induction L with
  | nil => intro c hc; cases hc
  | cons c L ih =>
    unfold modelL at h
    cases e : (everyC u).find? (fitB (cubeR ats c)) with
    | some M => rw [e] at h; simp at h
    | none =>
      rw [e] at h
      intro d hd N hN
      rcases List.mem_cons.1 hd with rfl | hd
      · simpa using List.find?_eq_none.1 e N hN
      · exact ih h d hd N hN
/-- an atom of the formula, by a member of a cube. -/
theorem at_of {ats : List At} {m : Int} (h1 : 1 ≤ m.natAbs) (h2 : m.natAbs ≤ ats.length) : ats.getD (m.natAbs - 1) atZ ∈ ats := by
  rw [List.getD_eq_getElem?_getD, List.getElem?_eq_getElem (by omega)]
  exact List.getElem_mem _
theorem held_of {w : Wd} {ats : List At} {m : Int} (h1 : 1 ≤ m.natAbs) (h2 : m.natAbs ≤ ats.length) : (w.heldL ats).getD (m.natAbs - 1) false = w.holds (ats.getD (m.natAbs - 1) atZ).k (ats.getD (m.natAbs - 1) atZ).s (ats.getD (m.natAbs - 1) atZ).t (ats.getD (m.natAbs - 1) atZ).n := by
  unfold Wd.heldL
  rw [List.getD_eq_getElem?_getD, List.getD_eq_getElem?_getD, List.getElem?_map, List.getElem?_eq_getElem (show m.natAbs - 1 < ats.length by omega)]
  rfl
/-- a cube's rows are so at a world's counts just if the cube holds in it. -/
theorem cube_says {w : Wd} (hw : w.ok = true) {ats : List At} (ha : ∀ a ∈ ats, a.fault = 0) {c : List Int} (hc : cubeOk ats.length c) : fitB (cubeR ats c) (w.fc w.u.toNat) = allC (w.heldL ats) c := by
  unfold fitB cubeR allC
  rw [List.all_map]
  have key : ∀ m ∈ c, ((fun r : Rw => r.so (w.fc w.u.toNat)) ∘ rowOf ats) m = litC (w.heldL ats) m := fun m hm => by
    obtain ⟨h1, h2⟩ := hc.1 m hm
    have hf : atomFault (ats.getD (m.natAbs - 1) atZ).k (ats.getD (m.natAbs - 1) atZ).s (ats.getD (m.natAbs - 1) atZ).t (ats.getD (m.natAbs - 1) atZ).n = 0 := ha _ (at_of h1 h2)
    show (rowOf ats m).so (w.fc w.u.toNat) = _
    unfold rowOf litC
    rw [rows_say hw hf, held_of h1 h2]
    by_cases hp : 0 < m
    · rw [decide_eq_true hp, if_pos rfl]
      cases w.holds (ats.getD (m.natAbs - 1) atZ).k (ats.getD (m.natAbs - 1) atZ).s (ats.getD (m.natAbs - 1) atZ).t (ats.getD (m.natAbs - 1) atZ).n <;> rfl
    · rw [decide_eq_false hp, if_neg (by decide)]
      cases w.holds (ats.getD (m.natAbs - 1) atZ).k (ats.getD (m.natAbs - 1) atZ).s (ats.getD (m.natAbs - 1) atZ).t (ats.getD (m.natAbs - 1) atZ).n <;> rfl
  induction c with
  | nil => rfl
  | cons m c ih =>
    rw [List.all_cons, List.all_cons, key m List.mem_cons_self, ih ⟨fun x hx => hc.1 x (List.mem_cons_of_mem _ hx), (List.pairwise_cons.1 hc.2).2⟩ fun x hx => key x (List.mem_cons_of_mem _ hx)]
/-- in a model it holds. -/
theorem model_holds {ats : List At} {c : List Int} (hf : formFault ats c = 0) {L : List (List Int)} (hL : cubesC c = some L) {u : Nat} (hu : u ≤ 6) {N : Nat → Int} (h : modelL ats u L = some N) :
    countsFault N = 0 ∧ (madeN N 8).ok = true ∧ (madeN N 8).u = u ∧ (madeN N 8).formIs ats c = true := by
  obtain ⟨h1, d, h2, h3⟩ := modelL_some h
  have hc := everyC_right hu h1
  have hok := made_ok hc
  have hsum := (everyC_sum h1).2
  have hmu := made_u hc
  obtain ⟨g1, _, g3⟩ := cubes_say ((madeN N 8).heldL ats) hf hL
  have ha := (formFault_zero.1 hf).2.2.1
  have hd := cube_says hok ha (g1.1 d h2)
  rw [fitB_same (M := N) fun g hg => made_fc hc hg, h3] at hd
  refine ⟨hc, hok, by rw [hmu, hsum], ?_⟩
  unfold Wd.formIs
  rw [if_pos (wdForm_zero.2 ⟨hf, hok⟩), ← g3]
  unfold anyC
  rw [List.any_eq_true]
  exact ⟨d, h2, hd.symm⟩
/-- where there is none it never holds. -/
theorem model_never {ats : List At} {c : List Int} (hf : formFault ats c = 0) {L : List (List Int)} (hL : cubesC c = some L) {u : Nat} (h : modelL ats u L = none) {w : Wd} (hw : w.ok = true) (hwu : w.u = u) : w.formIs ats c = false := by
  obtain ⟨g1, _, g3⟩ := cubes_say (w.heldL ats) hf hL
  have ha := (formFault_zero.1 hf).2.2.1
  unfold Wd.formIs
  rw [if_pos (wdForm_zero.2 ⟨hf, hw⟩), ← g3]
  unfold anyC
  rw [List.any_eq_false]
  intro d hd
  have hs := cube_says hw ha (g1.1 d hd)
  have hcf := counts_fc hw
  have hsum : sumN (w.fc w.u.toNat) 8 = u := by rw [sum_fc, hwu]; rfl
  obtain ⟨A, hA, hAw⟩ := everyC_all (u := u) (fun g hg => ((counts_zero.1 hcf).1 g hg).1) hsum
  have := modelL_none h d hd A hA
  rw [fitB_same hAw, hs] at this
  rw [this]
  decide

/-- the rows of a cube of right atoms are right. -/
theorem cube_rows {ats : List At} (ha : ∀ a ∈ ats, a.fault = 0) (h6 : ats.length ≤ 6) {d : List Int} (hd : cubeOk ats.length d) : rowsFault (cubeR ats d) = 0 := by
  unfold rowsFault
  have hl : (cubeR ats d).length ≤ 6 := by unfold cubeR; rw [List.length_map]; have := cube_len hd; omega
  rw [if_neg (by omega)]
  have hw : (cubeR ats d).any Rw.wrong = false := by
    rw [List.any_eq_false]
    intro r hr
    unfold cubeR at hr
    obtain ⟨m, hm, rfl⟩ := List.mem_map.1 hr
    obtain ⟨h1, h2⟩ := hd.1 m hm
    have hf : atomFault (ats.getD (m.natAbs - 1) atZ).k (ats.getD (m.natAbs - 1) atZ).s (ats.getD (m.natAbs - 1) atZ).t (ats.getD (m.natAbs - 1) atZ).n = 0 := ha _ (at_of h1 h2)
    have := row_right hf (decide (0 < m))
    unfold rowOf
    rw [this]
    decide
  rw [hw]
  rfl
/-- what is told: of a model, of one of the opposite, and whether it is sure. -/
def modelFault (ats : List At) (c : List Int) (u : Int) : Int :=
  if formFault ats c = 0 then (match cubesC c with
    | none => 4
    | some L => if 0 ≤ u ∧ u ≤ 6 then (if (modelL ats u.toNat L).isSome = true then 0 else 5) else 1) else formFault ats c
def modelN (ats : List At) (c : List Int) (u : Int) : Nat → Int := (modelL ats u.toNat ((cubesC c).getD [])).getD zeroC
def modelW (ats : List At) (c : List Int) (u : Int) : Wd := if modelFault ats c u = 0 then madeN (modelN ats c u) 8 else ⟨0, 0, 0, 0⟩
end Go.Proofs.YtgkgbpbohgklhafGreatDoor

namespace Go.Proofs.YtgkgbpbohgklhafGreatDoor
open Go.RowKit

def againstFault (ats : List At) (c : List Int) (u : Int) : Int := if negFault ats c = 0 then modelFault ats (c ++ [12]) u else negFault ats c
def againstW (ats : List At) (c : List Int) (u : Int) : Wd := if negFault ats c = 0 then modelW ats (c ++ [12]) u else ⟨0, 0, 0, 0⟩
def sureB (ats : List At) (c : List Int) (u : Int) : Bool := decide (againstFault ats c u = 5 ∧ formFault ats c = 0)
def sureFault (ats : List At) (c : List Int) (u : Int) : Int := if sureB ats c u = true then 0 else againstFault ats c u
theorem neg_good {ats : List At} {c : List Int} (h : negFault ats c = 0) : formFault ats c = 0 ∧ c.length ≤ 19 ∧ formFault ats (c ++ [12]) = 0 := by
  unfold negFault at h
  by_cases hf : formFault ats c = 0
  · rw [if_pos hf] at h
    by_cases h19 : 19 < c.length
    · rw [if_pos h19] at h; exact absurd h (by decide)
    · exact ⟨hf, by omega, good_no hf (by omega)⟩
  · rw [if_neg hf] at h; exact absurd h hf
theorem neg_five {ats : List At} {c : List Int} (h : negFault ats c = 5) : formFault ats c = 5 := by
  unfold negFault at h
  by_cases hf : formFault ats c = 0
  · rw [if_pos hf] at h
    by_cases h19 : 19 < c.length
    · rw [if_pos h19] at h; exact absurd h (by decide)
    · rw [if_neg h19] at h; exact absurd h (by decide)
  · rw [if_neg hf] at h; exact h
/-- the formula that a name has at least n things. -/
def manyA (name n : Int) : List At := [⟨3, [name], [], n⟩]
/-- what a world has of a name. -/
def Wd.has (w : Wd) : Nat → Int
  | 0 => w.a
  | 1 => w.b
  | _ => w.c
theorem many_facts : ∀ name : Nat, name < 3 → ∀ n : Nat, n < 6 → modelFault (manyA (name : Int) ((n : Int) + 1)) [0] ((n : Int) + 1) = 0 ∧ (modelW (manyA (name : Int) ((n : Int) + 1)) [0] ((n : Int) + 1)).has name + 1 = pw (n + 1) ∧ modelFault (manyA (name : Int) ((n : Int) + 1)) [0] (n : Int) = 5 ∧ sureB (manyA (name : Int) ((n : Int) + 1)) [0] (n : Int) = false ∧ sureFault (manyA (name : Int) ((n : Int) + 1)) [0] (n : Int) = 0 := by decide +kernel
theorem model_zero {ats : List At} {c : List Int} {u : Int} (h : modelFault ats c u = 0) : formFault ats c = 0 ∧ (modelW ats c u).ok = true ∧ (modelW ats c u).u = u ∧ (modelW ats c u).formIs ats c = true := by
  have h0 := h
  unfold modelFault at h
  by_cases hf : formFault ats c = 0
  · rw [if_pos hf] at h
    cases hL : cubesC c with
    | none => rw [hL] at h; have h : (4 : Int) = 0 := h; omega
    | some L =>
      rw [hL] at h
      have h : (if 0 ≤ u ∧ u ≤ 6 then (if (modelL ats u.toNat L).isSome = true then (0 : Int) else 5) else 1) = 0 := h
      by_cases hu : 0 ≤ u ∧ u ≤ 6
      · rw [if_pos hu] at h
        cases hm : modelL ats u.toNat L with
        | none => rw [hm] at h; have h : (5 : Int) = 0 := h; omega
        | some N =>
          have e : modelW ats c u = madeN N 8 := by
            unfold modelW modelN
            rw [if_pos h0, hL]
            show madeN ((modelL ats u.toNat L).getD zeroC) 8 = _
            rw [hm]; rfl
          obtain ⟨_, g2, g3, g4⟩ := model_holds hf hL (by omega) hm
          rw [e]
          exact ⟨hf, g2, by rw [g3]; omega, g4⟩
      · rw [if_neg hu] at h; exact absurd h (by decide)
  · rw [if_neg hf] at h; exact absurd h hf
theorem model_five {ats : List At} {c : List Int} {u : Int} (h : modelFault ats c u = 5) (hf : formFault ats c = 0) {w : Wd} (hw : w.ok = true) (hwu : w.u = u) : w.formIs ats c = false := by
  unfold modelFault at h
  rw [if_pos hf] at h
  cases hL : cubesC c with
  | none => rw [hL] at h; have h : (4 : Int) = 5 := h; omega
  | some L =>
    rw [hL] at h
    have h : (if 0 ≤ u ∧ u ≤ 6 then (if (modelL ats u.toNat L).isSome = true then (0 : Int) else 5) else 1) = 5 := h
    by_cases hu : 0 ≤ u ∧ u ≤ 6
    · rw [if_pos hu] at h
      cases hm : modelL ats u.toNat L with
      | none => exact model_never hf hL hm hw (by rw [hwu]; omega)
      | some N => rw [hm] at h; have h : (0 : Int) = 5 := h; omega
    · rw [if_neg hu] at h; exact absurd h (by decide)
theorem formIs_no {ats : List At} {c : List Int} (hf : formFault ats c = 0) (h19 : c.length ≤ 19) {w : Wd} (hw : w.ok = true) : w.formIs ats (c ++ [12]) = !w.formIs ats c := by
  unfold Wd.formIs
  rw [if_pos (wdForm_zero.2 ⟨hf, hw⟩), if_pos (wdForm_zero.2 ⟨good_no hf h19, hw⟩)]
  exact val_no _ (formFault_zero.1 hf).2.2.2.2
theorem one_facts : modelFault (manyA 0 2) [0] 2 = 0 ∧ modelW (manyA 0 2) [0] 2 = ⟨2, 3, 3, 3⟩ ∧ modelFault (manyA 0 2) [0] 1 = 5 ∧ modelW (manyA 0 2) [0] 1 = ⟨0, 0, 0, 0⟩ := by
  have h : modelFault (manyA 0 2) [0] 2 = 0 ∧ ((modelW (manyA 0 2) [0] 2).u = 2 ∧ (modelW (manyA 0 2) [0] 2).a = 3 ∧ (modelW (manyA 0 2) [0] 2).b = 3 ∧ (modelW (manyA 0 2) [0] 2).c = 3) ∧ modelFault (manyA 0 2) [0] 1 = 5 := by decide +kernel
  obtain ⟨h1, ⟨h2, h3, h4, h5⟩, h6⟩ := h
  refine ⟨h1, ?_, h6, by unfold modelW; rw [if_neg (by rw [h6]; decide)]⟩
  cases e : modelW (manyA 0 2) [0] 2 with
  | mk u a b c => rw [e] at h2 h3 h4 h5; simp only at h2 h3 h4 h5; rw [h2, h3, h4, h5]
end Go.Proofs.YtgkgbpbohgklhafGreatDoor

namespace Go.Proofs.YtgkgbpbohgklhafGreatDoor
open Go.ChangeShapes Go.WideShapes Go.ChangeAt Go.RowKit

theorem merr_any (n : Int) (w : World) (hg : Laid w) : Calls Tryz.prog 8 #[errV n, .int .i64 n] w fun e w' => e = .returned (.bool true) ∧ Below w.heap.size w w' := by
  by_cases h : n = 0
  · subst h
    exact (same_nil 0 w).mono fun _ _ h => ⟨h.1, by rw [← h.2]; exact Below.refl _ _⟩
  · rw [errV_no h]
    have := same_err n n w hg
    rw [beq_self_eq_true] at this; exact this
end Go.Proofs.YtgkgbpbohgklhafGreatDoor

namespace Go.Proofs.YtgkgbpbohgklhafGreatDoor
open Go.ChangeShapes Go.WideShapes Go.ChangeAt Go.RowKit
set_option maxRecDepth 100000

theorem four_at (w : World) (o0 o1 o2 o3 : Obj) :
    ((((w.alloc o0).alloc o1).alloc o2).alloc o3).heap[w.heap.size]? = some o0 ∧
    ((((w.alloc o0).alloc o1).alloc o2).alloc o3).heap[w.heap.size + 1]? = some o1 ∧
    ((((w.alloc o0).alloc o1).alloc o2).alloc o3).heap[w.heap.size + 1 + 1]? = some o2 ∧
    ((((w.alloc o0).alloc o1).alloc o2).alloc o3).heap[w.heap.size + 1 + 1 + 1]? = some o3 ∧
    Below w.heap.size w ((((w.alloc o0).alloc o1).alloc o2).alloc o3) := by
  have s1 : (w.alloc o0).heap.size = w.heap.size + 1 := World.size_alloc _ _
  have s2 : ((w.alloc o0).alloc o1).heap.size = w.heap.size + 1 + 1 := by rw [World.size_alloc, s1]
  have s3 : (((w.alloc o0).alloc o1).alloc o2).heap.size = w.heap.size + 1 + 1 + 1 := by rw [World.size_alloc, s2]
  refine ⟨?_, ?_, ?_, ?_, ?_⟩
  · rw [Below.heap_alloc _ _ _ (by omega), Below.heap_alloc _ _ _ (by omega), Below.heap_alloc _ _ _ (by omega)]; exact heap_alloc_new _ _
  · rw [Below.heap_alloc _ _ _ (by omega), Below.heap_alloc _ _ _ (by omega), ← s1]; exact heap_alloc_new _ _
  · rw [Below.heap_alloc _ _ _ (by omega), ← s2]; exact heap_alloc_new _ _
  · rw [← s3]; exact heap_alloc_new _ _
  · exact ((((Below.refl _ w).alloc (Nat.le_refl _) _).alloc (by omega) _).alloc (by omega) _).alloc (by omega) _
theorem six_few (w : World) (o0 o1 o2 o3 o4 o5 : Obj) :
    ((((((w.alloc o0).alloc o1).alloc o2).alloc o3).alloc o4).alloc o5).heap[w.heap.size]? = some o0 ∧
    ((((((w.alloc o0).alloc o1).alloc o2).alloc o3).alloc o4).alloc o5).heap[w.heap.size + 1]? = some o1 ∧
    ((((((w.alloc o0).alloc o1).alloc o2).alloc o3).alloc o4).alloc o5).heap[w.heap.size + 1 + 1]? = some o2 ∧
    ((((((w.alloc o0).alloc o1).alloc o2).alloc o3).alloc o4).alloc o5).heap[w.heap.size + 1 + 1 + 1]? = some o3 ∧
    ((((((w.alloc o0).alloc o1).alloc o2).alloc o3).alloc o4).alloc o5).heap[w.heap.size + 1 + 1 + 1 + 1]? = some o4 ∧
    ((((((w.alloc o0).alloc o1).alloc o2).alloc o3).alloc o4).alloc o5).heap[w.heap.size + 1 + 1 + 1 + 1 + 1]? = some o5 ∧
    Below w.heap.size w ((((((w.alloc o0).alloc o1).alloc o2).alloc o3).alloc o4).alloc o5) := by
  have s1 : (w.alloc o0).heap.size = w.heap.size + 1 := World.size_alloc _ _
  have s2 : ((w.alloc o0).alloc o1).heap.size = w.heap.size + 1 + 1 := by rw [World.size_alloc, s1]
  obtain ⟨h0, h1, h2, h3, hb⟩ := four_at ((w.alloc o0).alloc o1) o2 o3 o4 o5
  have hb2 : Below w.heap.size w ((w.alloc o0).alloc o1) := (below_alloc1 _ _).alloc (by omega) _
  rw [s2] at h0 h1 h2 h3
  refine ⟨?_, ?_, h0, h1, h2, h3, hb2.trans (hb.mono (by omega))⟩
  · rw [hb.block _ (by omega), Below.heap_alloc _ _ _ (by omega)]; exact heap_alloc_new _ _
  · rw [hb.block _ (by omega), ← s1]; exact heap_alloc_new _ _

theorem infoForm : (Tryz.prog.info? 29).map (·.size) = some 2 := by kernel_rfl

set_option maxHeartbeats 4000000 in
theorem atomOf_any (name n : Int) (w : World) :
    Calls Tryz.prog 7 #[.int .i64 name, .int .i64 n] w fun e w' => ∃ b1 b2, e = .returned (.agg #[.slice (some ⟨b1, 0, none⟩) 1 1, .slice (some ⟨b2, 0, none⟩) 1 1]) ∧ ReadsA w' (.slice (some ⟨b1, 0, none⟩) 1 1) [⟨3, [name], [], n⟩] ∧ Reads w' (.slice (some ⟨b2, 0, none⟩) 1 1) [0] ∧ Below w.heap.size w w' := by
  go_enter Tryz.func7, Tryz.ntmps7
  go_wp2
  obtain ⟨b0, b1, b2, b3, hB⟩ := four_at w (.cells #[.slice (some ⟨w.heap.size + 1 + 1, 0, none⟩) 1 1, .slice (some ⟨w.heap.size + 1 + 1 + 1, 0, none⟩) 1 1] 29) (.cells #[.int .i64 name] 3) (.cells #[.int .i64 3, .slice (some ⟨w.heap.size + 1, 0, none⟩) 1 1, .slice none 0 0, .int .i64 n] 51) (.cells #[.int .i64 0] 3)
  obtain ⟨W, hW⟩ : ∃ W, W = (((w.alloc (.cells #[.slice (some ⟨w.heap.size + 1 + 1, 0, none⟩) 1 1, .slice (some ⟨w.heap.size + 1 + 1 + 1, 0, none⟩) 1 1] 29)).alloc (.cells #[.int .i64 name] 3)).alloc (.cells #[.int .i64 3, .slice (some ⟨w.heap.size + 1, 0, none⟩) 1 1, .slice none 0 0, .int .i64 n] 51)).alloc (.cells #[.int .i64 0] 3) := ⟨_, rfl⟩
  rw [← hW] at b0 b1 b2 b3 hB ⊢
  clear hW
  have k1 : Blk W (w.heap.size + 1) 3 #[.int .i64 name] := b1
  have k2 : Blk W (w.heap.size + 1 + 1) 51 #[.int .i64 3, .slice (some ⟨w.heap.size + 1, 0, none⟩) 1 1, .slice none 0 0, .int .i64 n] := b2
  have k3 : Blk W (w.heap.size + 1 + 1 + 1) 3 #[.int .i64 0] := b3
  refine bodyPost_ret (v := .agg #[.slice (some ⟨w.heap.size + 1 + 1, 0, none⟩) 1 1, .slice (some ⟨w.heap.size + 1 + 1 + 1, 0, none⟩) 1 1]) ?_ rfl ⟨_, _, rfl, ?_, ?_, hB⟩
  · exact results_cell_row rfl _ _ w.heap.size 29 _ (0, 0) _ rfl b0 Tryz.underlying29 rfl infoForm
  · refine Or.inr ⟨w.heap.size + 1 + 1, 0, 1, rfl, k2.lt, by simp, ⟨by simp, by simp⟩, fun i a ha => ?_⟩
    cases i with
    | zero =>
      obtain rfl : (⟨3, [name], [], n⟩ : At) = a := by simpa using ha
      refine ⟨_, _, k2.cell 0, k2.cell 1, k2.cell 2, k2.cell 3, Or.inr ⟨w.heap.size + 1, 0, 1, rfl, k1.lt, by simp, ⟨by simp, by simp⟩, fun j hj => ?_⟩, Or.inl ⟨none, 0, rfl, rfl⟩⟩
      obtain rfl : j = 0 := by simp at hj; exact hj
      exact k1.cell 0
    | succ i => simp at ha
  · refine Or.inr ⟨w.heap.size + 1 + 1 + 1, 0, 1, rfl, k3.lt, by simp, ⟨by simp, by simp⟩, fun j hj => ?_⟩
    obtain rfl : j = 0 := by simp at hj; exact hj
    exact k3.cell 0

end Go.Proofs.YtgkgbpbohgklhafGreatDoor
