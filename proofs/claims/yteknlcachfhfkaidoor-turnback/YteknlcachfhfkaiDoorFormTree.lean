/-
  Plain facts on a row of signs as one formula, by how deep it is: a right formula is one, and what it holds is made of what its parts hold. No program is read here.
-/
import Derived.Test.YteknlcachfhfkaiDoorFormMath
namespace Go.Proofs.YteknlcachfhfkaiDoor
open Go.RowKit

/-- a row of signs that is one formula over m atoms, of depth at most n. -/
def isFm (m : Nat) : Nat → List Int → Prop
  | 0, _ => False
  | n + 1, q => (∃ s : Int, 0 ≤ s ∧ s < m ∧ q = [s]) ∨ (∃ t, isFm m n t ∧ q = t ++ [12]) ∨ (∃ (s : Int) (a b : List Int), (s = 10 ∨ s = 11 ∨ s = 13) ∧ isFm m n a ∧ isFm m n b ∧ q = a ++ (b ++ [s]))
theorem isFm_mono {m n : Nat} : ∀ {k : Nat} {q : List Int}, n ≤ k → isFm m n q → isFm m k q := by
  induction n with
  | zero => intro k q _ h; exact h.elim
  | succ n ih =>
    intro k q hk h
    obtain ⟨j, rfl⟩ : ∃ j, k = j + 1 := ⟨k - 1, by omega⟩
    rcases h with ⟨s, h0, h4, e⟩ | ⟨t, ht, e⟩ | ⟨s, a, b, h5, ha, hb, e⟩
    · exact Or.inl ⟨s, h0, h4, e⟩
    · exact Or.inr (Or.inl ⟨t, ih (by omega) ht, e⟩)
    · exact Or.inr (Or.inr ⟨s, a, b, h5, ih (by omega) ha, ih (by omega) hb, e⟩)
/-- a row of right signs is as many formulas as it makes. -/
theorem treesF (m : Nat) (t : List Int) (ht : ∀ s ∈ t, signF m s = true) (ts : List (List Int)) (hts : ∀ q ∈ ts, ∃ n, isFm m n q) {n : Int} (h : cntF t ts.length = some n) :
    ∃ ts' : List (List Int), (ts'.length : Int) = n ∧ (∀ q ∈ ts', ∃ n, isFm m n q) ∧ ts'.flatten = ts.flatten ++ t := by
  induction t generalizing ts with
  | nil => simp [cntF] at h; exact ⟨ts, h, hts, by simp⟩
  | cons s l ih =>
    have hs := signF_iff.1 (ht s (by simp))
    have hl : ∀ x ∈ l, signF m x = true := fun x hx => ht x (by simp [hx])
    unfold cntF at h
    split at h
    · cases h
    · rename_i hn
      by_cases h2 : s = 10 ∨ s = 11 ∨ s = 13
      · have e : takesF s = 2 := by unfold takesF; rw [if_pos h2]
        rw [e] at h hn
        obtain ⟨ts0, a, b, rfl⟩ : ∃ ts0 a b, ts = ts0 ++ [a, b] := by
          rcases List.eq_nil_or_concat ts with rfl | ⟨x, y, rfl⟩
          · simp at hn
          · rcases List.eq_nil_or_concat x with rfl | ⟨x', z, rfl⟩
            · simp at hn
            · exact ⟨x', z, y, by simp⟩
        obtain ⟨ts', h1, h2', h3⟩ := ih hl (ts0 ++ [a ++ (b ++ [s])]) (by
          intro q hq
          rcases List.mem_append.1 hq with hq | hq
          · exact hts q (by simp [hq])
          · rw [List.mem_singleton.1 hq]
            obtain ⟨k, hk⟩ := hts a (by simp)
            obtain ⟨j, hj⟩ := hts b (by simp)
            exact ⟨k + j + 1, Or.inr (Or.inr ⟨s, a, b, h2, isFm_mono (by omega) hk, isFm_mono (by omega) hj, rfl⟩)⟩) (by rw [← h]; simp; congr 1; omega)
        exact ⟨ts', h1, h2', by rw [h3]; simp⟩
      by_cases h8 : s = 12
      · subst h8
        have e : takesF 12 = 1 := by decide
        rw [e] at h hn
        obtain ⟨ts0, a, rfl⟩ : ∃ ts0 a, ts = ts0 ++ [a] := by
          rcases List.eq_nil_or_concat ts with rfl | ⟨x, y, rfl⟩
          · simp at hn
          · exact ⟨x, y, by simp⟩
        obtain ⟨ts', h1, h2', h3⟩ := ih hl (ts0 ++ [a ++ [12]]) (by
          intro q hq
          rcases List.mem_append.1 hq with hq | hq
          · exact hts q (by simp [hq])
          · rw [List.mem_singleton.1 hq]
            obtain ⟨k, hk⟩ := hts a (by simp)
            exact ⟨k + 1, Or.inr (Or.inl ⟨a, hk, rfl⟩)⟩) (by rw [← h]; simp)
        exact ⟨ts', h1, h2', by rw [h3]; simp⟩
      · have e : takesF s = 0 := by unfold takesF; rw [if_neg h2, if_neg h8]
        rw [e] at h
        have hs' : 0 ≤ s ∧ s < m := hs.resolve_left (by simp [e])
        obtain ⟨ts', h1, h2', h3⟩ := ih hl (ts ++ [[s]]) (by
          intro q hq
          rcases List.mem_append.1 hq with hq | hq
          · exact hts q hq
          · rw [List.mem_singleton.1 hq]; exact ⟨1, Or.inl ⟨s, hs'.1, hs'.2, rfl⟩⟩) (by rw [← h]; simp)
        exact ⟨ts', h1, h2', by rw [h3]; simp⟩
/-- a right formula is one. -/
theorem treeF {m : Nat} {t : List Int} (hs : t.all (signF m) = true) (h : cntF t 0 = some 1) : ∃ n, isFm m n t := by
  obtain ⟨ts, h1, h2, h3⟩ := treesF m t (List.all_eq_true.1 hs) [] (by intro q hq; cases hq) h
  match ts, h1 with
  | [q], _ =>
    have e : q = t := by simpa using h3
    rw [← e]; exact h2 q (by simp)
  | [], h1 => simp at h1
  | _ :: _ :: _, h1 => simp at h1; omega
/-- one formula counts one. -/
theorem cnt_fm {m : Nat} (hm : m ≤ 6) (n : Nat) : ∀ q, isFm m n q → cntF q 0 = some 1 := by
  induction n with
  | zero => intro q h; exact h.elim
  | succ n ih =>
    intro q h
    rcases h with ⟨s, h0, h4, rfl⟩ | ⟨t, ht, rfl⟩ | ⟨s, a, b, h5, ha, hb, rfl⟩
    · have e : takesF s = 0 := takesF_low (by omega)
      simp [cntF, e]
    · exact cnt_no (ih t ht)
    · have e : takesF s = 2 := by unfold takesF; rw [if_pos h5]
      rw [cntF_append, ih a ha]
      show cntF (b ++ [s]) 1 = _
      rw [cntF_append, show cntF b 1 = some 2 from cntF_more b 0 1 (ih b hb)]
      simp [cntF, e]
def boolF (s : Int) (x y : Bool) : Bool := if s = 10 then x && y else if s = 11 then x || y else !x || y
theorem valF_leaf (held : List Bool) {s : Int} (h : s < 10) : valF held [s] = held.getD s.toNat false := by
  have e := takesF_low h
  have : pileF held [s] [] = [held.getD s.toNat false] := by
    show stepF held [] s = _
    unfold stepF
    rw [madeF_leaf held e]
    simp [restF]
  rw [valF, this]; rfl
theorem valF_two (held : List Bool) {s : Int} (h : s = 10 ∨ s = 11 ∨ s = 13) {a b : List Int} (ha : cntF a 0 = some 1) (hb : cntF b 0 = some 1) : valF held (a ++ (b ++ [s])) = boolF s (valF held a) (valF held b) := by
  have : pileF held (a ++ (b ++ [s])) [] = [boolF s (valF held a) (valF held b)] := by
    rw [pileF_append, pileF_one held ha, pileF_append, pileF_one held hb]
    rcases h with rfl | rfl | rfl <;> rfl
  rw [valF, this]; rfl
end Go.Proofs.YteknlcachfhfkaiDoor
