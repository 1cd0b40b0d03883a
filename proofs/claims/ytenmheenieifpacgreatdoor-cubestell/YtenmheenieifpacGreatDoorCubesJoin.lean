/-
  Plain facts on cubes (chapter 5): what is left of the members of two cubes, sorted by atoms and each once, is the two cubes joined. No program is read here.
-/
import Derived.Test.YtenmheenieifpacGreatDoorCubesMath
import Derived.Lib.SlicesCompact
import Derived.Lib.Small
namespace Go.Proofs.YtenmheenieifpacGreatDoor
open Go.RowKit

theorem mem_compactUpTo (d : Array Int) : ∀ m, ∀ x, x ∈ Lib.compactUpTo d m ↔ ∃ j, j < m ∧ x = d[j]! := by
  intro m
  induction m with
  | zero => intro x; simp [Lib.compactUpTo]
  | succ m ih =>
    intro x
    rw [Lib.compactUpTo_succ, List.mem_append, ih]
    constructor
    · rintro (⟨j, hj, e⟩ | h)
      · exact ⟨j, by omega, e⟩
      · split at h
        · exact ⟨m, by omega, List.mem_singleton.1 h⟩
        · cases h
    · rintro ⟨j, hj, e⟩
      by_cases h : j < m
      · exact Or.inl ⟨j, h, e⟩
      · obtain rfl : j = m := by omega
        by_cases hk : Lib.keeps d j = true
        · right; rw [if_pos hk]; simp [e]
        · left
          have hk' : ¬ (j = 0 ∨ d[j]! ≠ d[j - 1]!) := by
            intro hh; apply hk; unfold Lib.keeps; exact decide_eq_true hh
          refine ⟨j - 1, by omega, ?_⟩
          rw [e]
          by_cases he : d[j]! = d[j - 1]!
          · exact he
          · exact absurd (Or.inr he) hk'
theorem rising_compactUpTo (d : Array Int) (n : Nat) (hs : ∀ i j, i < j → j < n → (d[i]!).natAbs ≤ (d[j]!).natAbs) (hw : ∀ i j, i < n → j < n → (d[i]!).natAbs = (d[j]!).natAbs → d[i]! = d[j]!) :
    ∀ m, m ≤ n → (Lib.compactUpTo d m).Pairwise (fun a b => a.natAbs < b.natAbs) := by
  intro m
  induction m with
  | zero => intro _; simp [Lib.compactUpTo]
  | succ m ih =>
    intro hm
    rw [Lib.compactUpTo_succ, List.pairwise_append]
    refine ⟨ih (by omega), by split <;> simp, ?_⟩
    intro x hx y hy
    split at hy
    · rename_i hk
      rw [List.mem_singleton.1 hy]
      obtain ⟨j, hj, rfl⟩ := (mem_compactUpTo d m x).1 hx
      have hk' : m = 0 ∨ d[m]! ≠ d[m - 1]! := of_decide_eq_true hk
      have h1 : d[m]! ≠ d[m - 1]! := hk'.resolve_left (by omega)
      have h2 := hs (m - 1) m (by omega) (by omega)
      have h3 : (d[j]!).natAbs ≤ (d[m - 1]!).natAbs := by
        by_cases e : j = m - 1
        · rw [e]; exact Nat.le_refl _
        · exact hs j (m - 1) (by omega) (by omega)
      have h4 : (d[m - 1]!).natAbs ≠ (d[m]!).natAbs := fun e => h1 (hw (m - 1) m (by omega) (by omega) e).symm
      omega
    · cases hy
/-- the order of members: by atoms. -/
def farC (m n : Int) : Int := Lib.compareInt m.natAbs n.natAbs
/-- what is left, sorted and each once. -/
theorem joined_is {M : Nat} (hM : M ≤ 6) {c d : List Int} (hc : cubeOk M c) (hd : cubeOk M d) {e : Array Int} (hp : e.toList.Perm (c ++ d)) (hs : ∀ i j, i < j → j < e.size → (e[i]!).natAbs ≤ (e[j]!).natAbs) :
    (∀ m, m ∈ Lib.compact e.toList ↔ m ∈ c ++ d) ∧ (bothWays (c ++ d) = false → Lib.compact e.toList = joinC c d) := by
  have hr : ∀ m ∈ c ++ d, 1 ≤ m.natAbs ∧ m.natAbs ≤ 6 := by
    intro m hm
    rcases List.mem_append.1 hm with h | h
    · have := hc.1 m h; omega
    · have := hd.1 m h; omega
  have h0 : Lib.compact e.toList = Lib.compactUpTo e e.size := by unfold Lib.compact; simp
  have hmem : ∀ m, m ∈ Lib.compact e.toList ↔ m ∈ c ++ d := by
    intro m
    rw [h0, mem_compactUpTo, ← hp.mem_iff, Array.mem_toList_iff]
    constructor
    · rintro ⟨j, hj, rfl⟩
      rw [getElem!_pos e j hj]; exact Array.getElem_mem hj
    · intro h
      obtain ⟨j, hj, rfl⟩ := Array.mem_iff_getElem.1 h
      exact ⟨j, hj, (getElem!_pos e j hj).symm⟩
  refine ⟨hmem, fun hb => ?_⟩
  have hin : ∀ i, i < e.size → e[i]! ∈ c ++ d := fun i hi => by
    rw [← hp.mem_iff, Array.mem_toList_iff, getElem!_pos e i hi]; exact Array.getElem_mem hi
  refine rising_ext ?_ (join_ok hM hc hd hb).2 (fun m => (hmem m).trans (mem_joinC hr hb m).symm)
  rw [h0]
  refine rising_compactUpTo e e.size hs (fun i j hi hj he => ?_) e.size (Nat.le_refl _)
  rw [← Bool.not_eq_true, bothWays_iff] at hb
  rcases Int.natAbs_eq_natAbs_iff.1 he with h | h
  · exact h
  · exact absurd ⟨_, hin j hj, by rw [← h]; exact hin i hi⟩ hb
/-- a cube more, as the program does it: unless an atom is there both ways, or it was there ahead. -/
theorem with_is {L : List (List Int)} {c d r : List Int} (h1 : ∀ m, m ∈ r ↔ m ∈ c ++ d) (h2 : bothWays (c ++ d) = false → r = joinC c d) :
    (if (bothWays r || L.contains r) = true then L else L ++ [r]) = andS c L d := by
  unfold andS
  rw [bothWays_mem h1]
  cases hb : bothWays (c ++ d) with
  | true => simp
  | false =>
    rw [h2 hb]
    unfold putC
    simp
end Go.Proofs.YtenmheenieifpacGreatDoor
