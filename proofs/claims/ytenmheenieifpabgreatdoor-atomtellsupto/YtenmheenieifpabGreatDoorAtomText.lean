/-
  Plain facts on numbers and atoms as texts (chapter 3): a number's text and its reading, an atom's text. No program is read here.
-/
import Derived.Test.YtenmheenieifpabGreatDoorAtomMath
import Derived.Lib.ItoaNum
import Derived.Lib.Atoi
namespace Go.Proofs.YtenmheenieifpabGreatDoor
open Go.RowKit
set_option maxRecDepth 100000

/-- the digits of a number below 100. -/
def digitsN (u : Nat) : List UInt8 := if u < 10 then [UInt8.ofNat (48 + u)] else [UInt8.ofNat (48 + u / 10), UInt8.ofNat (48 + u % 10)]
/-- the text of a number of at most two digits. -/
def numText (n : Int) : List UInt8 := if n < 0 then 45 :: digitsN n.natAbs else digitsN n.toNat
theorem dec_digits {u : Nat} (h : u < 100) : Lib.decDigits u = digitsN u := by
  unfold digitsN
  by_cases h1 : u < 10
  · rw [if_pos h1, Lib.decDigits, dif_pos h1]
  · rw [if_neg h1, Lib.decDigits, dif_neg h1, Lib.decDigits, dif_pos (by omega)]; rfl
theorem itoa_num {n : Int} (h0 : -99 ≤ n) (h1 : n ≤ 99) : Lib.itoa n = numText n := by
  unfold Lib.itoa numText
  by_cases h : n < 0
  · rw [if_pos h, if_pos h, dec_digits (by omega)]
  · rw [if_neg h, if_neg h, dec_digits (by omega)]

/-- the numbers of at most two digits. -/
def nums : List Int := (List.range 199).map fun (i : Nat) => (i : Int) - 99
theorem mem_nums {n : Int} : n ∈ nums ↔ -99 ≤ n ∧ n ≤ 99 := by
  unfold nums
  rw [List.mem_map]
  constructor
  · rintro ⟨i, hi, rfl⟩
    have := List.mem_range.1 hi
    omega
  · intro h
    exact ⟨(n + 99).toNat, List.mem_range.2 (by omega), by omega⟩
/-- the number that a text is. -/
def numOf (l : List UInt8) : Option Int := nums.find? fun n => decide (numText n = l)
theorem nums_atoi : nums.all (fun n => decide (Lib.atoi (numText n) = some n)) = true := by decide +kernel
theorem atoi_num {n : Int} (h : -99 ≤ n ∧ n ≤ 99) : Lib.atoi (numText n) = some n := by
  have := List.all_eq_true.1 nums_atoi n (mem_nums.2 h)
  simpa using this
theorem numOf_some {l : List UInt8} {n : Int} : numOf l = some n ↔ (-99 ≤ n ∧ n ≤ 99) ∧ numText n = l := by
  constructor
  · intro h
    exact ⟨mem_nums.1 (List.mem_of_find?_eq_some h), by simpa using List.find?_some h⟩
  · rintro ⟨hn, rfl⟩
    cases h : numOf (numText n) with
    | none =>
      have := List.find?_eq_none.1 h n (mem_nums.2 hn)
      simp at this
    | some m =>
      have hm : numText m = numText n := by simpa using List.find?_some h
      have h1 := atoi_num (mem_nums.1 (List.mem_of_find?_eq_some h))
      rw [hm, atoi_num hn] at h1
      rw [Option.some.inj h1]
theorem numOf_text {n : Int} (h : -99 ≤ n ∧ n ≤ 99) : numOf (numText n) = some n := numOf_some.2 ⟨h, rfl⟩

/-- without a '-' ahead. -/
def bareN : List UInt8 → List UInt8
  | [] => []
  | b :: r => if b = 45 then r else b :: r
theorem nums_bare : nums.all (fun n => decide ((bareN (numText n)).length ≤ 2)) = true := by decide +kernel
theorem bare_num {n : Int} (h : -99 ≤ n ∧ n ≤ 99) : (bareN (numText n)).length ≤ 2 := by
  have := List.all_eq_true.1 nums_bare n (mem_nums.2 h)
  simpa using this
theorem numOf_long {l : List UInt8} (h : 2 < (bareN l).length) : numOf l = none := by
  cases h1 : numOf l with
  | none => rfl
  | some n =>
    obtain ⟨hn, rfl⟩ := numOf_some.1 h1
    have := bare_num hn
    omega
theorem dec_le {l : List UInt8} {m : Nat} (hl : l.length ≤ 2) (h : Lib.decNat l = some m) : m ≤ 99 := by
  have hd : ∀ b d, Lib.digitVal b = some d → d ≤ 9 := by
    intro b d hb
    unfold Lib.digitVal at hb
    split at hb
    · simp at hb; omega
    · cases hb
  match l, hl with
  | [], _ => simp [Lib.decNat] at h
  | [a], _ =>
    simp only [Lib.decNat, Lib.decFrom, List.isEmpty] at h
    cases ha : Lib.digitVal a with
    | none => rw [ha] at h; simp at h
    | some d =>
      rw [ha] at h
      have := hd a d ha
      simp at h
      omega
  | [a, b], _ =>
    simp only [Lib.decNat, Lib.decFrom, List.isEmpty] at h
    cases ha : Lib.digitVal a with
    | none => rw [ha] at h; simp at h
    | some d =>
      cases hb : Lib.digitVal b with
      | none => rw [ha, hb] at h; simp at h
      | some d' =>
        rw [ha, hb] at h
        have := hd a d ha
        have := hd b d' hb
        simp at h
        omega
theorem atoi_bare {l : List UInt8} {n : Int} (hl : (bareN l).length ≤ 2) (h : Lib.atoi l = some n) : -99 ≤ n ∧ n ≤ 99 := by
  match l with
  | [] => cases h
  | b :: r =>
    rw [Lib.atoi] at h
    by_cases hb : b = 45
    · subst hb
      have hl' : r.length ≤ 2 := hl
      rw [if_pos (by decide)] at h
      cases hm : Lib.decNat r with
      | none => rw [hm] at h; cases h
      | some m =>
        have := dec_le hl' hm
        rw [hm] at h
        simp at h
        omega
    · have hl' : (b :: r).length ≤ 2 := by
        rw [bareN, if_neg hb] at hl
        exact hl
      rw [if_neg (by simpa using hb)] at h
      split at h
      · cases hm : Lib.decNat r with
        | none => rw [hm] at h; cases h
        | some m =>
          have := dec_le (by simp at hl'; omega) hm
          rw [hm] at h
          simp at h
          omega
      · cases hm : Lib.decNat (b :: r) with
        | none => rw [hm] at h; cases h
        | some m =>
          have := dec_le hl' hm
          rw [hm] at h
          simp at h
          omega
/-- what reading a number and writing it again tells. -/
theorem numOf_atoi {l : List UInt8} (hl : (bareN l).length ≤ 2) : numOf l = match Lib.atoi l with | some n => if numText n = l then some n else none | none => none := by
  cases h : Lib.atoi l with
  | none =>
    cases h1 : numOf l with
    | none => rfl
    | some n =>
      obtain ⟨hn, rfl⟩ := numOf_some.1 h1
      rw [atoi_num hn] at h
      cases h
  | some n =>
    have hn := atoi_bare hl h
    show numOf l = if numText n = l then some n else none
    by_cases he : numText n = l
    · rw [if_pos he]; exact numOf_some.2 ⟨hn, he⟩
    · rw [if_neg he]
      cases h1 : numOf l with
      | none => rfl
      | some m =>
        obtain ⟨hm, rfl⟩ := numOf_some.1 h1
        rw [atoi_num hm] at h
        obtain rfl := Option.some.inj h
        exact absurd rfl he
end Go.Proofs.YtenmheenieifpabGreatDoor
