/-
  Facts and contracts that the statement leans on.
-/
import Derived.WalkKit
namespace Go.Proofs.YtjmeakkmfeoigaaGreatDoor
open Go.RowKit
theorem hide {p : Prop} (h : p) : Hid p := h
theorem nm {α : Type} (a : α) : ∃ x, x = a := ⟨a, rfl⟩
abbrev Bk (W : World) (v : Value) (e : Ending) (w' : World) : Prop := e = .returned v ∧ Below W.heap.size W w'
abbrev Sk (W : World) (v : Value) (e : Ending) (w' : World) : Prop := e = .returned v ∧ W = w'
def allN (u : Int) : Int := 2 ^ u.toNat - 1
def orN (a b : Int) : Int := ((a.toNat ||| b.toNat : Nat) : Int)
def andN (a b : Int) : Int := ((a.toNat &&& b.toNat : Nat) : Int)
def lessN (a b : Int) : Int := a - andN a b
def pcN (x : Int) : Int := x % 2 + x / 2 % 2 + x / 4 % 2 + x / 8 % 2 + x / 16 % 2 + x / 32 % 2
def okB (u s : Int) : Bool := decide (0 ≤ u ∧ u ≤ 6 ∧ 0 ≤ s ∧ s ≤ allN u)
theorem okB_iff {u s : Int} : okB u s = true ↔ 0 ≤ u ∧ u ≤ 6 ∧ 0 ≤ s ∧ s ≤ allN u := by simp [okB]
theorem okB_not {u s : Int} : okB u s = false ↔ ¬ (0 ≤ u ∧ u ≤ 6 ∧ 0 ≤ s ∧ s ≤ allN u) := by simp [okB]
theorem seven {u : Int} (h0 : 0 ≤ u) (h1 : u ≤ 6) : u = 0 ∨ u = 1 ∨ u = 2 ∨ u = 3 ∨ u = 4 ∨ u = 5 ∨ u = 6 := by omega
theorem allN_le {u : Int} (h0 : 0 ≤ u) (h1 : u ≤ 6) : 0 ≤ allN u ∧ allN u ≤ 63 := by
 rcases seven h0 h1 with rfl | rfl | rfl | rfl | rfl | rfl | rfl <;> decide
theorem okB_lt {u s : Int} (h : okB u s = true) : 0 ≤ u ∧ u ≤ 6 ∧ 0 ≤ s ∧ s < 64 := by
 obtain ⟨a, b, c, d⟩ := okB_iff.1 h
 have := (allN_le a b).2
 omega
theorem upto64 {P : Int → Prop} (h : ∀ n : Nat, n < 64 → P n) (x : Int) (h0 : 0 ≤ x) (h1 : x < 64) : P x := by
 obtain ⟨n, rfl⟩ := Int.eq_ofNat_of_zero_le h0
 exact h n (by omega)
theorem upto64two {P : Int → Int → Prop} (h : ∀ n : Nat, n < 64 → ∀ m : Nat, m < 64 → P n m) (x y : Int) (h0 : 0 ≤ x) (h1 : x < 64) (h2 : 0 ≤ y) (h3 : y < 64) : P x y :=
 upto64 (P := fun x => P x y) (fun n hn => upto64 (P := fun y => P n y) (h n hn) y h2 h3) x h0 h1
theorem or_bits (a b : Int) (h0 : 0 ≤ a) (h1 : a < 64) (h2 : 0 ≤ b) (h3 : b < 64) : bits .or .i64 a b = orN a b :=
 upto64two (P := fun a b => bits .or .i64 a b = orN a b) (by decide +kernel) a b h0 h1 h2 h3
theorem and_bits (a b : Int) (h0 : 0 ≤ a) (h1 : a < 64) (h2 : 0 ≤ b) (h3 : b < 64) : bits .and .i64 a b = andN a b :=
 upto64two (P := fun a b => bits .and .i64 a b = andN a b) (by decide +kernel) a b h0 h1 h2 h3
theorem less_bits (a b : Int) (h0 : 0 ≤ a) (h1 : a < 64) (h2 : 0 ≤ b) (h3 : b < 64) : bits .andNot .i64 a b = lessN a b :=
 upto64two (P := fun a b => bits .andNot .i64 a b = lessN a b) (by decide +kernel) a b h0 h1 h2 h3
theorem uptoSets {P : Int → Int → Int → Prop} (h : ∀ u : Nat, u < 7 → ∀ n : Nat, n < 2 ^ u → ∀ m : Nat, m < 2 ^ u → P u n m) (u a b : Int) (ha : okB u a = true) (hb : okB u b = true) : P u a b := by
 obtain ⟨u0, u1, a0, a1⟩ := okB_iff.1 ha
 obtain ⟨_, _, b0, b1⟩ := okB_iff.1 hb
 obtain ⟨U, rfl⟩ := Int.eq_ofNat_of_zero_le u0
 obtain ⟨x, rfl⟩ := Int.eq_ofNat_of_zero_le a0
 obtain ⟨y, rfl⟩ := Int.eq_ofNat_of_zero_le b0
 have hp : allN (U : Int) = ((2 ^ U : Nat) : Int) - 1 := by unfold allN; simp
 have h1 : 0 < 2 ^ U := Nat.pow_pos (by omega)
 exact h U (by omega) x (by omega) y (by omega)
theorem ok_or {u a b : Int} (ha : okB u a = true) (hb : okB u b = true) : okB u (orN a b) = true :=
 uptoSets (P := fun u a b => okB u (orN a b) = true) (by decide +kernel) u a b ha hb
theorem ok_and {u a b : Int} (ha : okB u a = true) (hb : okB u b = true) : okB u (andN a b) = true :=
 uptoSets (P := fun u a b => okB u (andN a b) = true) (by decide +kernel) u a b ha hb
theorem ok_less {u a b : Int} (ha : okB u a = true) (hb : okB u b = true) : okB u (lessN a b) = true :=
 uptoSets (P := fun u a b => okB u (lessN a b) = true) (by decide +kernel) u a b ha hb
theorem ok_not {u a : Int} (ha : okB u a = true) : okB u (lessN (allN u) a) = true :=
 uptoSets (P := fun u a _ => okB u (lessN (allN u) a) = true) (by decide +kernel) u a a ha ha
theorem ok_zero {u : Int} (h0 : 0 ≤ u) (h1 : u ≤ 6) : okB u 0 = true := okB_iff.2 ⟨h0, h1, by omega, (allN_le h0 h1).1⟩
def doN (what u a b : Int) : Int := if what = 5 then orN a b else if what = 6 then andN a b else if what = 7 then lessN a b else lessN (allN u) a
theorem doN7 (u a b : Int) : doN 7 u a b = lessN a b := rfl
theorem ok_do {what u a b : Int} (ha : okB u a = true) (hb : okB u b = true) : okB u (doN what u a b) = true := by
 unfold doN
 split
 ·exact ok_or ha hb
 split
 ·exact ok_and ha hb
 split
 ·exact ok_less ha hb
 exact ok_not ha
def hasB (s i : Int) : Bool := decide (s / 2 ^ i.toNat % 2 = 1)
theorem pcN_le (x : Int) : 0 ≤ pcN x ∧ pcN x ≤ 6 := by unfold pcN; omega
end Go.Proofs.YtjmeakkmfeoigaaGreatDoor