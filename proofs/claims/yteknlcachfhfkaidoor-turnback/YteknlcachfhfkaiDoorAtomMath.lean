/-
  Plain facts on atoms (chapter 3): the fault of one, and whether it holds. No program is read here.
-/
import Derived.Test.YteknlcachfhfkaiDoorTermMath
namespace Go.Proofs.YteknlcachfhfkaiDoor
open Go.RowKit

/-- has a kind a second term? a number? -/
def secondB (k : Int) : Bool := decide (k = 1 ∨ k = 2 ∨ k = 5)
def numberB (k : Int) : Bool := decide (k = 3 ∨ k = 4 ∨ k = 5)
/-- what is wrong with the second term. -/
def secondFault (k : Int) (t : List Int) : Int := if secondB k = true then faultN t else if 0 < t.length then 3 else 0
/-- how great a number may be. -/
def mostN (k : Int) : Int := if numberB k = true then 20 else 0
/-- what is wrong with an atom. -/
def atomFault (k : Int) (s t : List Int) (n : Int) : Int :=
  if 1 ≤ k ∧ k ≤ 5 then (if faultN s = 0 then (if secondFault k t = 0 then (if - mostN k ≤ n ∧ n ≤ mostN k then 0 else 1) else secondFault k t) else faultN s) else 1
/-- what an atom says of two sets. -/
def saysB (k n x y : Int) : Bool :=
  if k = 1 then decide (lessN x y = 0) else if k = 2 then decide (x = y) else if k = 3 then decide (n ≤ pcN x) else if k = 4 then decide (pcN x ≤ n) else decide (pcN x ≤ pcN y + n)
/-- the set of the second term, where there is one. -/
def Wd.snd (w : Wd) (k : Int) (t : List Int) : Int := if secondB k = true then w.val t else 0
/-- does it hold? -/
def Wd.holds (w : Wd) (k : Int) (s t : List Int) (n : Int) : Bool := saysB k n (w.val s) (w.snd k t)
/-- what Holds tells: the number of the error, and the answer. -/
def Wd.holdsFault (w : Wd) (k : Int) (s t : List Int) (n : Int) : Int := if atomFault k s t n = 0 then (if w.ok = true then 0 else 1) else atomFault k s t n
def Wd.holdsIs (w : Wd) (k : Int) (s t : List Int) (n : Int) : Bool := if w.holdsFault k s t n = 0 then w.holds k s t n else false

theorem five {k : Int} (h0 : 1 ≤ k) (h1 : k ≤ 5) : k = 1 ∨ k = 2 ∨ k = 3 ∨ k = 4 ∨ k = 5 := by omega
theorem atomFault_kind {k : Int} (h : ¬ (1 ≤ k ∧ k ≤ 5)) (s t : List Int) (n : Int) : atomFault k s t n = 1 := by unfold atomFault; rw [if_neg h]
theorem atomFault_first {k : Int} (h : 1 ≤ k ∧ k ≤ 5) {s : List Int} (hs : ¬ faultN s = 0) (t : List Int) (n : Int) : atomFault k s t n = faultN s := by unfold atomFault; rw [if_pos h, if_neg hs]
theorem atomFault_second {k : Int} (h : 1 ≤ k ∧ k ≤ 5) {s : List Int} (hs : faultN s = 0) {t : List Int} (ht : ¬ secondFault k t = 0) (n : Int) : atomFault k s t n = secondFault k t := by unfold atomFault; rw [if_pos h, if_pos hs, if_neg ht]
theorem atomFault_third {k : Int} (h : 1 ≤ k ∧ k ≤ 5) {s : List Int} (hs : faultN s = 0) {t : List Int} (ht : secondFault k t = 0) (n : Int) : atomFault k s t n = if - mostN k ≤ n ∧ n ≤ mostN k then 0 else 1 := by unfold atomFault; rw [if_pos h, if_pos hs, if_pos ht]
theorem atomFault_zero {k : Int} {s t : List Int} {n : Int} : atomFault k s t n = 0 ↔ (1 ≤ k ∧ k ≤ 5) ∧ faultN s = 0 ∧ secondFault k t = 0 ∧ - mostN k ≤ n ∧ n ≤ mostN k := by
  by_cases h : 1 ≤ k ∧ k ≤ 5
  · by_cases hs : faultN s = 0
    · by_cases ht : secondFault k t = 0
      · rw [atomFault_third h hs ht]
        by_cases hn : - mostN k ≤ n ∧ n ≤ mostN k
        · rw [if_pos hn]; exact ⟨fun _ => ⟨h, hs, ht, hn⟩, fun _ => rfl⟩
        · rw [if_neg hn]; exact ⟨fun h => (by cases h), fun h' => absurd h'.2.2.2 hn⟩
      · rw [atomFault_second h hs ht]; exact ⟨fun h' => absurd h' ht, fun h' => absurd h'.2.2.1 ht⟩
    · rw [atomFault_first h hs]; exact ⟨fun h' => absurd h' hs, fun h' => absurd h'.2.1 hs⟩
  · rw [atomFault_kind h]; exact ⟨fun h' => (by cases h'), fun h' => absurd h'.1 h⟩
theorem second_reads {k : Int} {t : List Int} (ht : secondFault k t = 0) : secondB k = true → faultN t = 0 := by
  intro h'
  unfold secondFault at ht
  rw [if_pos h'] at ht
  exact ht

/-! ### none has fewer than none, nor more than all -/
theorem none_all {w : Wd} (hw : w.ok = true) (s : List Int) : lessN (w.val s) (allN w.u) = 0 := by
  have h := ok_val hw s
  exact uptoSets (P := fun u a _ => lessN a (allN u) = 0) (by decide +kernel) w.u (w.val s) (w.val s) h h
theorem none_size {w : Wd} (hw : w.ok = true) (s : List Int) : pcN (w.val s) ≤ w.u := by
  have h := ok_val hw s
  exact uptoSets (P := fun u a _ => pcN a ≤ u) (by decide +kernel) w.u (w.val s) (w.val s) h h
end Go.Proofs.YteknlcachfhfkaiDoor
