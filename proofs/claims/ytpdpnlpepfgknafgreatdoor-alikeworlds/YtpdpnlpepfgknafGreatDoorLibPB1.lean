/-
  Plain facts on sets as numbers (a set of u things is a number from 0 to 2^u - 1): no program is read here. Each is a finite reckoning by the kernel.
  Plain facts for the reference functions of chapter 1 (powers of 2, things of a set one by one): no program is read here.
  Plain facts on terms as rows of signs (chapter 2): how many terms a row makes, its fault, the pile of sets that it works out, terms as trees. No program is read here.
  Proved: what term.Check returns, of any row of signs, and that it leaves memory as it was (a contract that the statements lean on); with it takes, isOne, and slices.ContainsFunc at Check's own function.
  Rows of rows of numbers in memory, and which blocks they lie in: what they read as stays where these blocks stay (facts that the contracts on cubes lean on).
  Plain facts on atoms (chapter 3): the fault of one, and whether it holds. No program is read here.
  Plain facts on formulas as atoms and rows of signs (chapter 4): how many formulas a row makes, its fault, the pile that it works out, its opposite, and two together. No program is read here.
  Plain facts on a row of signs as one formula, by how deep it is: a right formula is one, and what it holds is made of what its parts hold. No program is read here.
  Plain facts on cubes (chapter 5): two cubes joined, the cubes of And, Or, No and Then, the pile that a row of signs works out; they are cubes, none twice, and one of them holds just if the formula does. No program is read here.
  Plain facts on cubes (chapter 5): what is left of the members of two cubes, sorted by atoms and each once, is the two cubes joined. No program is read here.
  Proved: what slices.IndexFunc and slices.ContainsFunc return, of rows of numbers and of rows of rows, at any function that tells of each; and slices.Contains and slices.Equal, of numbers; what was in memory is as it was (contracts that the statements lean on). Written by program.
  Proved: what sets.Check and sets.Do return, of any numbers, and that it leaves memory as it was (contracts that the statements lean on).
  Proved: what term.made returns, of a right sign, the sets that it takes, and a right world; what was in memory is as it was (a contract that the statements lean on).
  Proved: what slices.Equal returns, of any two rows of numbers, and what cubes.with returns: one cube more, unless that has an atom both ways, or was there ahead; what else was in memory is as it was (contracts that the statements lean on).
  Proved: what slices.Concat returns, of rows of numbers and of rows of rows, any of them empty: a new row of all, or none; what was in memory is as it was (contracts that the statements lean on). Written by program.
  Proved: what the order of members returns (the function that cubes.joined hands to slices.SortFunc), and what is left of memory behind a sort (facts that the contracts on cubes lean on).
  Proved: what cubes.joined returns: the members of two cubes, by atoms, each once, in a new row; what was in memory is as it was (a contract that the statements lean on).
-/
import Derived.WalkKit
import Derived.Test.YtpdpnlpepfgknafGreatDoorRows
import Derived.ProofKit
import Derived.OpenShut
import Derived.OwnWalk
import Derived.Laws.OwnMore
import Derived.Laws.AppendOwn
import Derived.Lib.SlicesCompact
import Derived.Lib.Small
import Derived.Shelf.Abstract
import Derived.Deep.LoopGhost
import Derived.Deep.QuietTactic
import Derived.BigQuiet
import Derived.RegionTactic
import Derived.ChangeAlike
import Derived.Deep.AppendLies
import Derived.Lib.AppendZerosOnto
import Derived.Lib.AppendIntMem
import Derived.Test.YtpdpnlpepfgknafGreatDoorShelf2
import Derived.Lib.RowBridge
namespace Go.Proofs.YtpdpnlpepfgknafGreatDoor
open Go.RowKit

/-- all u things. -/
def allN (u : Int) : Int := 2 ^ u.toNat - 1
def orN (a b : Int) : Int := ((a.toNat ||| b.toNat : Nat) : Int)
def andN (a b : Int) : Int := ((a.toNat &&& b.toNat : Nat) : Int)
/-- what a has, and b has not. -/
def lessN (a b : Int) : Int := a - andN a b
/-- how many things. -/
def pcN (x : Int) : Int := x % 2 + x / 2 % 2 + x / 4 % 2 + x / 8 % 2 + x / 16 % 2 + x / 32 % 2
/-- is it a set of u things? -/
def okB (u s : Int) : Bool := decide (0 ≤ u ∧ u ≤ 6 ∧ 0 ≤ s ∧ s ≤ allN u)

theorem okB_iff {u s : Int} : okB u s = true ↔ 0 ≤ u ∧ u ≤ 6 ∧ 0 ≤ s ∧ s ≤ allN u := by simp [okB]
theorem okB_not {u s : Int} : okB u s = false ↔ ¬ (0 ≤ u ∧ u ≤ 6 ∧ 0 ≤ s ∧ s ≤ allN u) := by simp [okB]

theorem seven {u : Int} (h0 : 0 ≤ u) (h1 : u ≤ 6) : u = 0 ∨ u = 1 ∨ u = 2 ∨ u = 3 ∨ u = 4 ∨ u = 5 ∨ u = 6 := by omega
theorem allN_le {u : Int} (h0 : 0 ≤ u) (h1 : u ≤ 6) : 0 ≤ allN u ∧ allN u ≤ 63 := by
  rcases seven h0 h1 with rfl | rfl | rfl | rfl | rfl | rfl | rfl <;> decide
theorem okB_lt {u s : Int} (h : okB u s = true) : 0 ≤ u ∧ u ≤ 6 ∧ 0 ≤ s ∧ s < 64 := by
  obtain ⟨a, b, c, d⟩ := okB_iff.1 h
  have := (allN_le a b).2
  omega

/-- from numbers below 64 to all that are: a fact on each natural number is one on each integer. -/
theorem upto64 {P : Int → Prop} (h : ∀ n : Nat, n < 64 → P n) (x : Int) (h0 : 0 ≤ x) (h1 : x < 64) : P x := by
  obtain ⟨n, rfl⟩ := Int.eq_ofNat_of_zero_le h0
  exact h n (by omega)
theorem upto64two {P : Int → Int → Prop} (h : ∀ n : Nat, n < 64 → ∀ m : Nat, m < 64 → P n m) (x y : Int) (h0 : 0 ≤ x) (h1 : x < 64) (h2 : 0 ≤ y) (h3 : y < 64) : P x y :=
  upto64 (P := fun x => P x y) (fun n hn => upto64 (P := fun y => P n y) (h n hn) y h2 h3) x h0 h1

theorem or_bits (a b : Int) (h0 : 0 ≤ a) (h1 : a < 64) (h2 : 0 ≤ b) (h3 : b < 64) : bits .or .i64 a b = orN a b :=
  upto64two (P := fun a b => bits .or .i64 a b = orN a b) (by decide +kernel) a b h0 h1 h2 h3
theorem and_bits (a b : Int) (h0 : 0 ≤ a) (h1 : a < 64) (h2 : 0 ≤ b) (h3 : b < 64) : bits .and .i64 a b = andN a b :=
  upto64two (P := fun a b => bits .and .i64 a b = andN a b) (by decide +kernel) a b h0 h1 h2 h3
theorem less_bits (a b : Int) (h0 : 0 ≤ a) (h1 : a < 64) (h2 : 0 ≤ b) (h3 : b < 64) : bits .andNot .i64 a b = lessN a b :=
  upto64two (P := fun a b => bits .andNot .i64 a b = lessN a b) (by decide +kernel) a b h0 h1 h2 h3

/-- from numbers of sets to sets. -/
theorem uptoSets {P : Int → Int → Int → Prop} (h : ∀ u : Nat, u < 7 → ∀ n : Nat, n < 2 ^ u → ∀ m : Nat, m < 2 ^ u → P u n m) (u a b : Int) (ha : okB u a = true) (hb : okB u b = true) : P u a b := by
  obtain ⟨u0, u1, a0, a1⟩ := okB_iff.1 ha
  obtain ⟨_, _, b0, b1⟩ := okB_iff.1 hb
  obtain ⟨U, rfl⟩ := Int.eq_ofNat_of_zero_le u0
  obtain ⟨x, rfl⟩ := Int.eq_ofNat_of_zero_le a0
  obtain ⟨y, rfl⟩ := Int.eq_ofNat_of_zero_le b0
  have hp : allN (U : Int) = ((2 ^ U : Nat) : Int) - 1 := by unfold allN; simp
  have h1 : 0 < 2 ^ U := Nat.pow_pos (by omega)
  exact h U (by omega) x (by omega) y (by omega)

theorem ok_or {u a b : Int} (ha : okB u a = true) (hb : okB u b = true) : okB u (orN a b) = true :=
  uptoSets (P := fun u a b => okB u (orN a b) = true) (by decide +kernel) u a b ha hb
theorem ok_and {u a b : Int} (ha : okB u a = true) (hb : okB u b = true) : okB u (andN a b) = true :=
  uptoSets (P := fun u a b => okB u (andN a b) = true) (by decide +kernel) u a b ha hb
theorem ok_less {u a b : Int} (ha : okB u a = true) (hb : okB u b = true) : okB u (lessN a b) = true :=
  uptoSets (P := fun u a b => okB u (lessN a b) = true) (by decide +kernel) u a b ha hb
theorem ok_not {u a : Int} (ha : okB u a = true) : okB u (lessN (allN u) a) = true :=
  uptoSets (P := fun u a _ => okB u (lessN (allN u) a) = true) (by decide +kernel) u a a ha ha
theorem ok_zero {u : Int} (h0 : 0 ≤ u) (h1 : u ≤ 6) : okB u 0 = true := okB_iff.2 ⟨h0, h1, by omega, (allN_le h0 h1).1⟩

/-- what is done to two sets. -/
def doN (what u a b : Int) : Int := if what = 5 then orN a b else if what = 6 then andN a b else if what = 7 then lessN a b else lessN (allN u) a
theorem doN5 (u a b : Int) : doN 5 u a b = orN a b := rfl
theorem doN6 (u a b : Int) : doN 6 u a b = andN a b := rfl
theorem doN7 (u a b : Int) : doN 7 u a b = lessN a b := rfl
theorem doN8 (u a b : Int) : doN 8 u a b = lessN (allN u) a := rfl
theorem ok_do {what u a b : Int} (ha : okB u a = true) (hb : okB u b = true) : okB u (doN what u a b) = true := by
  unfold doN
  split
  · exact ok_or ha hb
  split
  · exact ok_and ha hb
  split
  · exact ok_less ha hb
  exact ok_not ha
/-- has it thing i? -/
def hasB (s i : Int) : Bool := decide (s / 2 ^ i.toNat % 2 = 1)

/-- De Morgan, what is less and both is the first, and not twice is not at all: as numbers. -/
theorem turn1 {u a b : Int} (ha : okB u a = true) (hb : okB u b = true) : lessN (allN u) (andN a b) = orN (lessN (allN u) a) (lessN (allN u) b) :=
  uptoSets (P := fun u a b => lessN (allN u) (andN a b) = orN (lessN (allN u) a) (lessN (allN u) b)) (by decide +kernel) u a b ha hb
theorem turn2 {u a b : Int} (ha : okB u a = true) (hb : okB u b = true) : orN (lessN a b) (andN a b) = a :=
  uptoSets (P := fun _ a b => orN (lessN a b) (andN a b) = a) (by decide +kernel) u a b ha hb
theorem turn3 {u a : Int} (ha : okB u a = true) : lessN (allN u) (lessN (allN u) a) = a :=
  uptoSets (P := fun u a _ => lessN (allN u) (lessN (allN u) a) = a) (by decide +kernel) u a a ha ha
theorem turn4 {u a b : Int} (ha : okB u a = true) (hb : okB u b = true) : pcN (orN a b) + pcN (andN a b) = pcN a + pcN b :=
  uptoSets (P := fun _ a b => pcN (orN a b) + pcN (andN a b) = pcN a + pcN b) (by decide +kernel) u a b ha hb
theorem pcN_le (x : Int) : 0 ≤ pcN x ∧ pcN x ≤ 6 := by unfold pcN; omega
end Go.Proofs.YtpdpnlpepfgknafGreatDoor

namespace Go.Proofs.YtpdpnlpepfgknafGreatDoor
open Go.RowKit

/-- 2 to the k. -/
def pw (k : Nat) : Int := 2 ^ k
theorem pw_succ (k : Nat) : pw (k + 1) = 2 * pw k := by unfold pw; rw [Int.pow_succ]; omega
theorem pw_pos (k : Nat) : 1 ≤ pw k := by
  induction k with
  | zero => decide
  | succ k ih => rw [pw_succ]; omega
theorem pw_mono {k l : Nat} (h : k ≤ l) : pw k ≤ pw l := by
  induction l with
  | zero => obtain rfl : k = 0 := by omega
            exact Int.le_refl _
  | succ l ih =>
    rcases Nat.lt_or_ge l k with h' | h'
    · obtain rfl : k = l + 1 := by omega
      exact Int.le_refl _
    · have := ih h'
      have := pw_pos l
      rw [pw_succ]; omega
theorem pw_le61 {k : Nat} (h : k ≤ 61) : pw k ≤ 2305843009213693952 := pw_mono h
theorem pw_le6 {k : Nat} (h : k ≤ 6) : pw k ≤ 64 := pw_mono h
theorem allN_pw (u : Int) : allN u = pw u.toNat - 1 := rfl
theorem hasB_pw (s i : Int) : hasB s i = decide (s / pw i.toNat % 2 = 1) := rfl

/-- the things of a set, one by one, of the first k. -/
def pcTo (s : Int) : Nat → Int
  | 0 => 0
  | k + 1 => pcTo s k + if hasB s k = true then 1 else 0
theorem pcTo_le (s : Int) (k : Nat) : 0 ≤ pcTo s k ∧ pcTo s k ≤ k := by
  induction k with
  | zero => exact ⟨Int.le_refl _, Int.le_refl _⟩
  | succ k ih => unfold pcTo; split <;> omega
theorem pcTo_six (s : Int) (h0 : 0 ≤ s) (h1 : s < 64) : pcTo s 6 = pcN s :=
  upto64 (P := fun s => pcTo s 6 = pcN s) (by decide +kernel) s h0 h1

/-- is a thing in what is done to two sets? -/
def inB (what : Int) (x y : Bool) : Bool := if what = 5 then x || y else if what = 6 then x && y else if what = 7 then x && !y else if what = 8 then !x else false
def doTo (what a b : Int) : Nat → Int
  | 0 => 0
  | k + 1 => doTo what a b k + if inB what (hasB a k) (hasB b k) = true then pw k else 0
theorem doTo_le (what a b : Int) (k : Nat) : 0 ≤ doTo what a b k ∧ doTo what a b k < pw k := by
  induction k with
  | zero => exact ⟨Int.le_refl _, show (0 : Int) < pw 0 by decide⟩
  | succ k ih =>
    have := pw_pos k
    unfold doTo
    rw [pw_succ]
    split <;> omega
theorem doTo_do (what u a b : Int) (hl : 5 ≤ what) (hm : what ≤ 8) (ha : okB u a = true) (hb : okB u b = true) : doTo what a b u.toNat = doN what u a b := by
  have hd : what = 5 ∨ what = 6 ∨ what = 7 ∨ what = 8 := by omega
  rcases hd with rfl | rfl | rfl | rfl
  · exact uptoSets (P := fun u a b => doTo 5 a b u.toNat = doN 5 u a b) (by decide +kernel) u a b ha hb
  · exact uptoSets (P := fun u a b => doTo 6 a b u.toNat = doN 6 u a b) (by decide +kernel) u a b ha hb
  · exact uptoSets (P := fun u a b => doTo 7 a b u.toNat = doN 7 u a b) (by decide +kernel) u a b ha hb
  · exact uptoSets (P := fun u a b => doTo 8 a b u.toNat = doN 8 u a b) (by decide +kernel) u a b ha hb

theorem wrap_fit (n : Int) (h0 : 0 ≤ n) (h1 : n ≤ 9223372036854775807) : wrap64 n = n := by unfold wrap64; omega
/-- how the walk spells s / 2^i % 2 == 1. -/
theorem has_spell (s : Int) (i : Nat) (h0 : 0 ≤ s) (h1 : s ≤ 9223372036854775807) : ((wrap64 (s.tdiv (pw i))).tmod 2 == 1) = hasB s i := by
  have hp := pw_pos i
  have hd : 0 ≤ s / pw i := Int.ediv_nonneg h0 (by omega)
  have hle : s / pw i ≤ s := Int.ediv_le_self _ h0
  rw [Int.tdiv_eq_ediv_of_nonneg h0, wrap_fit _ (by omega) (by omega), Int.tmod_eq_emod_of_nonneg hd, hasB_pw, Int.toNat_natCast]
  rfl
theorem has_spell2 (s : Int) (i : Nat) (h0 : 0 ≤ s) : ((s / pw i).tmod 2 == 1) = hasB s i := by
  have hp := pw_pos i
  have hd : 0 ≤ s / pw i := Int.ediv_nonneg h0 (by omega)
  rw [Int.tmod_eq_emod_of_nonneg hd, hasB_pw, Int.toNat_natCast]
  rfl
end Go.Proofs.YtpdpnlpepfgknafGreatDoor

namespace Go.Proofs.YtpdpnlpepfgknafGreatDoor
open Go.RowKit

/-- how many terms a sign takes. -/
def takesN (s : Int) : Int := if s = 5 ∨ s = 6 ∨ s = 7 then 2 else if s = 8 then 1 else 0
/-- is it a sign? -/
def signB (s : Int) : Bool := decide (0 ≤ s ∧ s ≤ 8)
/-- how many terms there are behind a row of signs; none: a sign takes more than there are. -/
def cnt : List Int → Int → Option Int
  | [], n => some n
  | s :: l, n => if n < takesN s then none else cnt l (n + 1 - takesN s)
/-- what is wrong with a row of signs: the number of the error, or 0. -/
def faultN (t : List Int) : Int := if t.length = 0 then 5 else if 12 < t.length then 4 else if t.all signB = true then (if cnt t 0 = some 1 then 0 else 3) else 1

theorem signB_iff {s : Int} : signB s = true ↔ 0 ≤ s ∧ s ≤ 8 := by simp [signB]
theorem takesN_range (s : Int) : 0 ≤ takesN s ∧ takesN s ≤ 2 := by unfold takesN; split <;> (try split) <;> omega
theorem takes5 (s : Int) (h : s < 5) : takesN s = 0 := by unfold takesN; rw [if_neg (by omega), if_neg (by omega)]
theorem takes2 (s : Int) (h : 5 ≤ s) (h' : s ≤ 7) : takesN s = 2 := by unfold takesN; rw [if_pos (by omega)]
theorem takes1 : takesN 8 = 1 := by decide

theorem cnt_append (a b : List Int) (n : Int) : cnt (a ++ b) n = (cnt a n).bind (cnt b) := by
  induction a generalizing n with
  | nil => rfl
  | cons s l ih =>
    simp only [List.cons_append, cnt]
    split
    · rfl
    · exact ih _
theorem cnt_nonneg {l : List Int} {n m : Int} (hn : 0 ≤ n) (h : cnt l n = some m) : 0 ≤ m ∧ m ≤ n + l.length := by
  induction l generalizing n with
  | nil => simp [cnt] at h; subst h; simp; omega
  | cons s l ih =>
    have := takesN_range s
    unfold cnt at h
    split at h
    · cases h
    · have := ih (by omega) h
      simp; omega

/-- one sign more. -/
theorem take_succ_getD (t : List Int) {k : Nat} (h : k < t.length) : t.take (k + 1) = t.take k ++ [t.getD k 0] := by
  rw [List.take_add_one]; simp [List.getElem?_eq_getElem h]
theorem cnt_take_succ (t : List Int) {k : Nat} (h : k < t.length) {m : Int} (hm : cnt (t.take k) 0 = some m) : cnt (t.take (k + 1)) 0 = if m < takesN (t.getD k 0) then none else some (m + 1 - takesN (t.getD k 0)) := by
  rw [take_succ_getD t h, cnt_append, hm]; rfl
theorem cnt_take_none (t : List Int) (k : Nat) (h : cnt (t.take k) 0 = none) : cnt t 0 = none := by
  have : cnt (t.take k ++ t.drop k) 0 = none := by rw [cnt_append, h]; rfl
  rwa [List.take_append_drop] at this
theorem cnt_take_some (t : List Int) (k : Nat) {n : Int} (h : cnt t 0 = some n) : ∃ m, cnt (t.take k) 0 = some m := by
  cases hc : cnt (t.take k) 0 with
  | none => rw [cnt_take_none t k hc] at h; cases h
  | some m => exact ⟨m, rfl⟩

/-! ### a world, and the pile -/
structure Wd where
  u : Int
  a : Int
  b : Int
  c : Int
def Wd.ok (w : Wd) : Bool := okB w.u w.a && okB w.u w.b && okB w.u w.c
def Wd.name (w : Wd) (s : Int) : Int := if s = 0 then w.a else if s = 1 then w.b else w.c
/-- the set that a sign makes of those it takes. -/
def Wd.made (w : Wd) (s : Int) (l : List Int) : Int := if s < 3 then w.name s else if s = 3 then 0 else if s = 4 then doN 8 w.u 0 0 else doN s w.u (l.getD 0 0) (l.getD (l.length - 1) 0)
/-- where what a sign takes begins. -/
def restN (p : List Int) (s : Int) : Nat := p.length - (takesN s).toNat
def Wd.step (w : Wd) (p : List Int) (s : Int) : List Int := p.take (restN p s) ++ [w.made s (p.drop (restN p s))]
def Wd.pile (w : Wd) (t p : List Int) : List Int := t.foldl w.step p

theorem pile_append (w : Wd) (a b p : List Int) : w.pile (a ++ b) p = w.pile b (w.pile a p) := by simp [Wd.pile, List.foldl_append]
theorem pile_succ (w : Wd) (t p : List Int) {k : Nat} (h : k < t.length) : w.pile (t.take (k + 1)) p = w.step (w.pile (t.take k) p) (t.getD k 0) := by
  rw [take_succ_getD t h, pile_append]; rfl
theorem step_length (w : Wd) (p : List Int) (s : Int) (h : takesN s ≤ p.length) : ((w.step p s).length : Int) = p.length + 1 - takesN s := by
  have := takesN_range s
  simp [Wd.step, restN]
  omega
theorem pile_length (w : Wd) (t p : List Int) {n : Int} (h : cnt t p.length = some n) : ((w.pile t p).length : Int) = n := by
  induction t generalizing p with
  | nil => simp [cnt] at h; simpa [Wd.pile] using h
  | cons s l ih =>
    unfold cnt at h
    split at h
    · cases h
    · rename_i hs
      have e := step_length w p s (by omega)
      exact ih (w.step p s) (by rw [e]; exact h)

theorem Wd.ok_iff {w : Wd} : w.ok = true ↔ okB w.u w.a = true ∧ okB w.u w.b = true ∧ okB w.u w.c = true := by simp [Wd.ok, and_assoc]
theorem ok_name {w : Wd} (h : w.ok = true) (s : Int) : okB w.u (w.name s) = true := by
  obtain ⟨h1, h2, h3⟩ := Wd.ok_iff.1 h
  unfold Wd.name
  split
  · exact h1
  split
  · exact h2
  exact h3
theorem ok_u {w : Wd} (h : w.ok = true) : 0 ≤ w.u ∧ w.u ≤ 6 := by
  obtain ⟨h1, h2, _⟩ := okB_iff.1 (Wd.ok_iff.1 h).1
  exact ⟨h1, h2⟩
theorem ok_getD {w : Wd} (h : w.ok = true) {p : List Int} (hp : ∀ x ∈ p, okB w.u x = true) (k : Nat) : okB w.u (p.getD k 0) = true := by
  rcases Nat.lt_or_ge k p.length with hk | hk
  · rw [List.getD_eq_getElem?_getD, List.getElem?_eq_getElem hk]; exact hp _ (List.getElem_mem hk)
  · rw [List.getD_eq_getElem?_getD, List.getElem?_eq_none hk]; exact ok_zero (ok_u h).1 (ok_u h).2
theorem ok_made {w : Wd} (h : w.ok = true) {p : List Int} (hp : ∀ x ∈ p, okB w.u x = true) (s : Int) : okB w.u (w.made s p) = true := by
  have z := ok_zero (ok_u h).1 (ok_u h).2
  unfold Wd.made
  split
  · exact ok_name h s
  split
  · exact z
  split
  · exact ok_do z z
  exact ok_do (ok_getD h hp _) (ok_getD h hp _)
theorem ok_step {w : Wd} (h : w.ok = true) {p : List Int} (hp : ∀ x ∈ p, okB w.u x = true) (s : Int) : ∀ x ∈ w.step p s, okB w.u x = true := by
  intro x hx
  unfold Wd.step at hx
  rcases List.mem_append.1 hx with hx | hx
  · exact hp x (List.mem_of_mem_take hx)
  · rw [List.mem_singleton.1 hx]
    exact ok_made h (fun y hy => hp y (List.mem_of_mem_drop hy)) s
theorem ok_pile {w : Wd} (h : w.ok = true) (t : List Int) {p : List Int} (hp : ∀ x ∈ p, okB w.u x = true) : ∀ x ∈ w.pile t p, okB w.u x = true := by
  induction t generalizing p with
  | nil => exact hp
  | cons s l ih => exact ih (p := w.step p s) (ok_step h hp s)

/-- the set of a term. -/
def Wd.val (w : Wd) (t : List Int) : Int := (w.pile t []).getD 0 0
theorem ok_val {w : Wd} (h : w.ok = true) (t : List Int) : okB w.u (w.val t) = true := ok_getD h (ok_pile h t (p := []) (by intro x hx; cases hx)) 0

/-! ### one term, by how deep it is -/
/-- a row of signs that is one term, of depth at most n. -/
def isTm : Nat → List Int → Prop
  | 0, _ => False
  | n + 1, q => (∃ s : Int, 0 ≤ s ∧ s ≤ 4 ∧ q = [s]) ∨ (∃ t, isTm n t ∧ q = t ++ [8]) ∨ (∃ (s : Int) (a b : List Int), 5 ≤ s ∧ s ≤ 7 ∧ isTm n a ∧ isTm n b ∧ q = a ++ (b ++ [s]))
theorem isTm_mono {n : Nat} : ∀ {m : Nat} {q : List Int}, n ≤ m → isTm n q → isTm m q := by
  induction n with
  | zero => intro m q _ h; exact h.elim
  | succ n ih =>
    intro m q hm h
    obtain ⟨k, rfl⟩ : ∃ k, m = k + 1 := ⟨m - 1, by omega⟩
    rcases h with ⟨s, h0, h4, e⟩ | ⟨t, ht, e⟩ | ⟨s, a, b, h5, h7, ha, hb, e⟩
    · exact Or.inl ⟨s, h0, h4, e⟩
    · exact Or.inr (Or.inl ⟨t, ih (by omega) ht, e⟩)
    · exact Or.inr (Or.inr ⟨s, a, b, h5, h7, ih (by omega) ha, ih (by omega) hb, e⟩)

theorem made_leaf (w : Wd) (s : Int) (l : List Int) (h : s ≤ 4) : w.made s l = w.made s [] := by
  unfold Wd.made
  by_cases h3 : s < 3
  · rw [if_pos h3, if_pos h3]
  rw [if_neg h3, if_neg h3]
  by_cases h4 : s = 3
  · rw [if_pos h4, if_pos h4]
  rw [if_neg h4, if_neg h4, if_pos (by omega), if_pos (by omega)]
theorem made_do (w : Wd) (s : Int) (l : List Int) (h : 5 ≤ s) : w.made s l = doN s w.u (l.getD 0 0) (l.getD (l.length - 1) 0) := by
  unfold Wd.made
  rw [if_neg (by omega), if_neg (by omega), if_neg (by omega)]

theorem pile_one (w : Wd) (s : Int) (hs : s ≤ 4) (p : List Int) : w.pile [s] p = p ++ [w.made s []] := by
  show w.step p s = _
  unfold Wd.step restN
  rw [takes5 s (by omega)]
  simp
theorem pile_opp (w : Wd) (t : List Int) (v : Int) (h : ∀ p, w.pile t p = p ++ [v]) (p : List Int) : w.pile (t ++ [8]) p = p ++ [doN 8 w.u v v] := by
  rw [pile_append, h]
  show w.step _ 8 = _
  unfold Wd.step restN
  rw [takes1, made_do _ _ _ (by omega)]
  simp
theorem pile_bin (w : Wd) (s : Int) (h5 : 5 ≤ s) (h7 : s ≤ 7) (a b : List Int) (x y : Int) (ha : ∀ p, w.pile a p = p ++ [x]) (hb : ∀ p, w.pile b p = p ++ [y]) (p : List Int) : w.pile (a ++ (b ++ [s])) p = p ++ [doN s w.u x y] := by
  rw [pile_append, ha, pile_append, hb]
  show w.step _ s = _
  unfold Wd.step restN
  rw [takes2 s h5 h7, made_do _ _ _ h5]
  simp
theorem val_of_pile {w : Wd} {q : List Int} {v : Int} (h : ∀ p, w.pile q p = p ++ [v]) : w.val q = v := by
  unfold Wd.val; rw [h]; rfl
/-- a term lays its set on the pile. -/
theorem pile_tm (w : Wd) (n : Nat) : ∀ q, isTm n q → ∀ p, w.pile q p = p ++ [w.val q] := by
  induction n with
  | zero => intro q h; exact h.elim
  | succ n ih =>
    intro q h
    rcases h with ⟨s, h0, h4, rfl⟩ | ⟨t, ht, rfl⟩ | ⟨s, a, b, h5, h7, ha, hb, rfl⟩
    · have := pile_one w s h4
      rw [val_of_pile this]; exact this
    · have := pile_opp w t _ (ih t ht)
      rw [val_of_pile this]; exact this
    · have := pile_bin w s h5 h7 a b _ _ (ih a ha) (ih b hb)
      rw [val_of_pile this]; exact this
theorem val_leaf (w : Wd) (s : Int) (h : s ≤ 4) : w.val [s] = w.made s [] := val_of_pile (pile_one w s h)
theorem val_opp (w : Wd) {n : Nat} {t : List Int} (h : isTm n t) : w.val (t ++ [8]) = doN 8 w.u (w.val t) (w.val t) := val_of_pile (pile_opp w t _ (pile_tm w n t h))
theorem val_bin (w : Wd) {n m : Nat} {s : Int} (h5 : 5 ≤ s) (h7 : s ≤ 7) {a b : List Int} (ha : isTm n a) (hb : isTm m b) : w.val (a ++ (b ++ [s])) = doN s w.u (w.val a) (w.val b) := val_of_pile (pile_bin w s h5 h7 a b _ _ (pile_tm w n a ha) (pile_tm w m b hb))

/-- a row of right signs is as many terms as it makes. -/
theorem trees (t : List Int) (ht : ∀ s ∈ t, 0 ≤ s ∧ s ≤ 8) (ts : List (List Int)) (hts : ∀ q ∈ ts, ∃ n, isTm n q) {n : Int} (h : cnt t ts.length = some n) :
    ∃ ts' : List (List Int), (ts'.length : Int) = n ∧ (∀ q ∈ ts', ∃ n, isTm n q) ∧ ts'.flatten = ts.flatten ++ t := by
  induction t generalizing ts with
  | nil => simp [cnt] at h; exact ⟨ts, h, hts, by simp⟩
  | cons s l ih =>
    have hs := ht s (by simp)
    have hl : ∀ x ∈ l, 0 ≤ x ∧ x ≤ 8 := fun x hx => ht x (by simp [hx])
    unfold cnt at h
    split at h
    · cases h
    · rename_i hn
      by_cases h5 : s < 5
      · rw [takes5 s h5] at h
        obtain ⟨ts', h1, h2, h3⟩ := ih hl (ts ++ [[s]]) (by
          intro q hq
          rcases List.mem_append.1 hq with hq | hq
          · exact hts q hq
          · rw [List.mem_singleton.1 hq]; exact ⟨1, Or.inl ⟨s, hs.1, by omega, rfl⟩⟩) (by rw [← h]; simp)
        exact ⟨ts', h1, h2, by rw [h3]; simp⟩
      by_cases h8 : s = 8
      · subst h8
        rw [takes1] at h hn
        obtain ⟨ts0, a, rfl⟩ : ∃ ts0 a, ts = ts0 ++ [a] := by
          rcases List.eq_nil_or_concat ts with rfl | ⟨x, y, rfl⟩
          · simp at hn
          · exact ⟨x, y, by simp⟩
        obtain ⟨ts', h1, h2, h3⟩ := ih hl (ts0 ++ [a ++ [8]]) (by
          intro q hq
          rcases List.mem_append.1 hq with hq | hq
          · exact hts q (by simp [hq])
          · rw [List.mem_singleton.1 hq]
            obtain ⟨k, hk⟩ := hts a (by simp)
            exact ⟨k + 1, Or.inr (Or.inl ⟨a, hk, rfl⟩)⟩) (by rw [← h]; simp)
        exact ⟨ts', h1, h2, by rw [h3]; simp⟩
      · rw [takes2 s (by omega) (by omega)] at h hn
        obtain ⟨ts0, a, b, rfl⟩ : ∃ ts0 a b, ts = ts0 ++ [a, b] := by
          rcases List.eq_nil_or_concat ts with rfl | ⟨x, y, rfl⟩
          · simp at hn
          · rcases List.eq_nil_or_concat x with rfl | ⟨x', z, rfl⟩
            · simp at hn
            · exact ⟨x', z, y, by simp⟩
        obtain ⟨ts', h1, h2, h3⟩ := ih hl (ts0 ++ [a ++ (b ++ [s])]) (by
          intro q hq
          rcases List.mem_append.1 hq with hq | hq
          · exact hts q (by simp [hq])
          · rw [List.mem_singleton.1 hq]
            obtain ⟨k, hk⟩ := hts a (by simp)
            obtain ⟨j, hj⟩ := hts b (by simp)
            exact ⟨k + j + 1, Or.inr (Or.inr ⟨s, a, b, by omega, by omega, isTm_mono (by omega) hk, isTm_mono (by omega) hj, rfl⟩)⟩) (by rw [← h]; simp; congr 1; omega)
        exact ⟨ts', h1, h2, by rw [h3]; simp⟩

/-- a right term is one. -/
theorem tree (t : List Int) (hs : t.all signB = true) (h : cnt t 0 = some 1) : ∃ n, isTm n t := by
  obtain ⟨ts, h1, h2, h3⟩ := trees t (fun s hm => signB_iff.1 (List.all_eq_true.1 hs s hm)) [] (by intro q hq; cases hq) h
  match ts, h1 with
  | [q], _ =>
    have e : q = t := by simpa using h3
    rw [← e]; exact h2 q (by simp)
  | [], h1 => simp at h1
  | _ :: _ :: _, h1 => simp at h1; omega

theorem fault_zero {t : List Int} : faultN t = 0 ↔ t.length ≠ 0 ∧ t.length ≤ 12 ∧ t.all signB = true ∧ cnt t 0 = some 1 := by
  unfold faultN
  by_cases h1 : t.length = 0
  · rw [if_pos h1]; exact ⟨fun h => by omega, fun h => absurd h1 h.1⟩
  rw [if_neg h1]
  by_cases h2 : 12 < t.length
  · rw [if_pos h2]; exact ⟨fun h => by omega, fun h => by omega⟩
  rw [if_neg h2]
  by_cases h3 : t.all signB = true
  · rw [if_pos h3]
    by_cases h4 : cnt t 0 = some 1
    · rw [if_pos h4]; exact ⟨fun _ => ⟨h1, by omega, h3, h4⟩, fun _ => rfl⟩
    · rw [if_neg h4]; exact ⟨fun h => by omega, fun h => absurd h.2.2.2 h4⟩
  · rw [if_neg h3]; exact ⟨fun h => by omega, fun h => absurd h.2.2.1 h3⟩

theorem cnt_more (r : List Int) (n m : Int) (h : cnt r n = some m) : cnt r (n + 1) = some (m + 1) := by
  induction r generalizing n with
  | nil => simp [cnt] at h ⊢; exact h
  | cons s l ih =>
    unfold cnt at h ⊢
    split at h
    · cases h
    · rw [if_neg (by omega), show n + 1 + 1 - takesN s = n + 1 - takesN s + 1 by omega]
      exact ih _ h
/-- behind a right term another one, and what is done to both. -/
theorem good_two {t r : List Int} (ht : faultN t = 0) (hr : faultN r = 0) (hl : t.length + r.length ≤ 11) {s : Int} (h5 : 5 ≤ s) (h7 : s ≤ 7) : faultN (t ++ (r ++ [s])) = 0 := by
  obtain ⟨a1, a2, a3, a4⟩ := fault_zero.1 ht
  obtain ⟨b1, b2, b3, b4⟩ := fault_zero.1 hr
  refine fault_zero.2 ⟨by simp, by simp; omega, ?_, ?_⟩
  · simp only [List.all_append, a3, b3, Bool.true_and, List.all_cons, List.all_nil, Bool.and_true]
    exact signB_iff.2 ⟨by omega, by omega⟩
  · rw [cnt_append, a4]
    show cnt (r ++ [s]) 1 = _
    have e : cnt r 1 = some 2 := cnt_more r 0 1 b4
    rw [cnt_append, e]
    show cnt [s] 2 = _
    simp [cnt, takes2 s h5 h7]
theorem val_two (w : Wd) {t r : List Int} (ht : faultN t = 0) (hr : faultN r = 0) {s : Int} (h5 : 5 ≤ s) (h7 : s ≤ 7) : w.val (t ++ (r ++ [s])) = doN s w.u (w.val t) (w.val r) := by
  obtain ⟨a1, a2, a3, a4⟩ := fault_zero.1 ht
  obtain ⟨b1, b2, b3, b4⟩ := fault_zero.1 hr
  obtain ⟨n, hn⟩ := tree t a3 a4
  obtain ⟨m, hm⟩ := tree r b3 b4
  exact val_bin w h5 h7 hn hm

/-- not twice is not at all. -/
theorem good_twice {t : List Int} (ht : faultN t = 0) (hl : t.length ≤ 10) : faultN (t ++ [8, 8]) = 0 := by
  obtain ⟨a1, a2, a3, a4⟩ := fault_zero.1 ht
  refine fault_zero.2 ⟨by simp, by simp; omega, ?_, ?_⟩
  · simp only [List.all_append, a3, Bool.true_and]; decide
  · rw [cnt_append, a4]; decide
theorem val_twice {w : Wd} (hw : w.ok = true) {t : List Int} (ht : faultN t = 0) : w.val (t ++ [8, 8]) = w.val t := by
  obtain ⟨a1, a2, a3, a4⟩ := fault_zero.1 ht
  obtain ⟨n, hn⟩ := tree t a3 a4
  have hn1 : isTm (n + 1) (t ++ [8]) := Or.inr (Or.inl ⟨t, hn, rfl⟩)
  rw [show t ++ [8, 8] = (t ++ [8]) ++ [8] by simp, val_opp w hn1, val_opp w hn]
  exact turn3 (ok_val hw t)
end Go.Proofs.YtpdpnlpepfgknafGreatDoor

namespace Go.Proofs.YtpdpnlpepfgknafGreatDoor
open Go.ChangeShapes Go.WideShapes Go.ChangeAt Go.RowKit

/-- the slice v reads, in the world w, as the numbers t. -/
def Reads (w : World) (v : Value) (t : List Int) : Prop :=
  (∃ ao cap, v = .slice ao 0 cap ∧ t = []) ∨ (∃ b off cap, v = .slice (some ⟨b, off, none⟩) t.length cap ∧ b < w.heap.size ∧ 0 < t.length ∧ (t.length ≤ 9223372036854775807 ∧ t.length ≤ cap) ∧ ∀ k, k < t.length → w.cell? ⟨b, off + k, none⟩ = some (.int .i64 (t.getD k 0)))
theorem Reads.below {w w' : World} {v : Value} {t : List Int} (h : Reads w v t) (hb : Below w.heap.size w w') : Reads w' v t := by
  rcases h with h | ⟨b, off, cap, h1, h2, h3, h4, h5⟩
  · exact Or.inl h
  · exact Or.inr ⟨b, off, cap, h1, Nat.lt_of_lt_of_le h2 hb.size, h3, h4, fun k hk => by rw [hb.cell h2]; exact h5 k hk⟩

/-- an error by its number: 0 is none. -/
def errV (n : Int) : Value := if n = 0 then .nilIface else .iface 61 (.int .i64 n)

theorem back_b {a b : Bool} (h : a = b) : Ending.returned (.bool a) = .returned (.bool b) := by rw [h]
theorem back_i {k : IntKind} {a b : Int} (h : a = b) : Ending.returned (.int k a) = .returned (.int k b) := by rw [h]
theorem back_v {a b : Value} (h : a = b) : Ending.returned a = .returned b := by rw [h]

theorem takes_any (s : Int) (w : World) :
    Calls Tryz.prog 73 #[.int .i64 s] w fun e w' => e = .returned (.int .i64 (takesN s)) ∧ w = w' := by
  by_cases h5 : s = 5
  · subst h5
    go_enter Tryz.func73, Tryz.ntmps73
    go_wp2
    go_ret
    exact ⟨rfl, rfl⟩
  by_cases h6 : s = 6
  · subst h6
    go_enter Tryz.func73, Tryz.ntmps73
    go_wp2
    go_ret
    exact ⟨rfl, rfl⟩
  by_cases h7 : s = 7
  · subst h7
    go_enter Tryz.func73, Tryz.ntmps73
    go_wp2
    go_ret
    exact ⟨rfl, rfl⟩
  by_cases h8 : s = 8
  · subst h8
    go_enter Tryz.func73, Tryz.ntmps73
    go_wp2
    go_ret
    exact ⟨rfl, rfl⟩
  have e : takesN s = 0 := by unfold takesN; rw [if_neg (by omega), if_neg h8]
  rw [e]
  clear e
  have h5' : (s == 5) = false := by simpa using h5
  have h6' : (s == 6) = false := by simpa using h6
  have h7' : (s == 7) = false := by simpa using h7
  have h8' : (s == 8) = false := by simpa using h8
  clear h5 h6 h7 h8
  go_enter Tryz.func73, Tryz.ntmps73
  go_wp2
  go_ret
  exact ⟨rfl, rfl⟩

theorem noSign_any (s : Int) (w : World) :
    Calls Tryz.prog 71 #[.int .i64 s] w fun e w' => e = .returned (.bool (!signB s)) ∧ w = w' := by
  by_cases h0 : s < 0
  · have e : signB s = false := by simp [signB]; omega
    rw [e]
    clear e
    go_enter Tryz.func71, Tryz.ntmps71
    go_wp2
    go_ret
    exact ⟨rfl, rfl⟩
  by_cases h8 : 8 < s
  · have e : signB s = false := by simp [signB]; omega
    rw [e]
    clear e
    go_enter Tryz.func71, Tryz.ntmps71
    go_wp2
    go_ret
    exact ⟨rfl, rfl⟩
  have e : signB s = true := by simp [signB]; omega
  rw [e]
  clear e
  go_enter Tryz.func71, Tryz.ntmps71
  go_wp2
  go_ret
  exact ⟨rfl, rfl⟩

/-- the first sign that is none, or -1. -/
def firstBad : List Int → Nat → Int
  | [], _ => -1
  | s :: l, k => if signB s = true then firstBad l (k + 1) else k
theorem firstBad_lt (t : List Int) (k : Nat) : (firstBad t k < 0 ↔ t.all signB = true) ∧ -1 ≤ firstBad t k := by
  induction t generalizing k with
  | nil => exact ⟨⟨fun _ => rfl, fun _ => show (-1 : Int) < 0 by decide⟩, Int.le_refl _⟩
  | cons s l ih =>
    unfold firstBad
    by_cases h : signB s = true
    · rw [if_pos h]; simpa [h] using ih (k + 1)
    · rw [if_neg h]; simp only [List.all_cons, h]; simp
theorem firstBad_drop (t : List Int) {k : Nat} (hk : k < t.length) : firstBad (t.drop k) k = if signB (t.getD k 0) = true then firstBad (t.drop (k + 1)) (k + 1) else k := by
  rw [List.drop_eq_getElem_cons hk]
  simp [firstBad, List.getElem?_eq_getElem hk]

theorem indexFunc_any (b off cap : Nat) (t : List Int) (w : World) (hl : t.length ≤ 9223372036854775807) (hc : ∀ k, k < t.length → w.cell? ⟨b, off + k, none⟩ = some (.int .i64 (t.getD k 0))) :
    Calls Tryz.prog 82 #[.slice (some ⟨b, off, none⟩) t.length cap, .func (.func 71) #[] #[]] w fun e w' => e = .returned (.int .i64 (firstBad t 0)) ∧ w = w' := by
  have HF : Hid (∀ {k : Nat}, k < t.length → firstBad (t.drop k) k = if signB (t.getD k 0) = true then firstBad (t.drop (k + 1)) (k + 1) else k) := fun {_} h => firstBad_drop t h
  have HC : Hid (∀ k, k < t.length → w.cell? ⟨b, off + k, none⟩ = some (.int .i64 (t.getD k 0))) := hc
  clear hc
  obtain ⟨n, hn⟩ : ∃ n, n = t.length := ⟨_, rfl⟩
  rw [← hn] at hl ⊢
  have HN : Hid (n = t.length) := hn
  clear hn
  go_enter Tryz.func82, Tryz.ntmps82
  go_wp2
  go_loop [8] (fun i => ∃ k : Nat, k ≤ n ∧ i = .int .i64 k ∧ firstBad (t.drop k) k = firstBad t 0) (fun i => n - (intOf i).toNat)
  case atStart => exact ⟨0, Nat.zero_le _, rfl, rfl⟩
  case round =>
    obtain ⟨k, hk, rfl, hF⟩ := hrel
    have HK : Hid (firstBad (t.drop k) k = firstBad t 0) := hF
    clear hF
    by_cases hlt : k < n
    · obtain ⟨s, hs⟩ : ∃ s, s = t.getD k 0 := ⟨_, rfl⟩
      have hc := HC.out k (by rw [← HN.out]; exact hlt)
      rw [← hs] at hc
      have HS : Hid (s = t.getD k 0) := hs
      clear hs
      have HD : Hid (firstBad (t.drop k) k = if signB s = true then firstBad (t.drop (k + 1)) (k + 1) else k) := by
        have := HF.out (k := k) (by rw [← HN.out]; exact hlt)
        rw [← HS.out] at this; exact this
      by_cases hb : signB s = true
      · have HD' : Hid (firstBad (t.drop (k + 1)) (k + 1) = firstBad t 0) := by
          have h1 := HD.out
          rw [if_pos hb] at h1
          exact h1.symm.trans HK.out
        go_wp2_with (go_at_call 71; refine (noSign_any _ _).mono ?_; rintro e w' ⟨rfl, rfl⟩)
        go_round
        case rel => exact ⟨k + 1, by omega, by go_num, HD'.out⟩
        case measure => simp [intOf]; omega
      · have HD' : Hid ((k : Int) = firstBad t 0) := by
          have h1 := HD.out
          rw [if_neg hb] at h1
          exact h1.symm.trans HK.out
        have hb' : signB s = false := by simpa using hb
        clear hb
        go_wp2_with (go_at_call 71; refine (noSign_any _ _).mono ?_; rintro e w' ⟨rfl, rfl⟩)
        go_ret
        exact ⟨back_i HD'.out, rfl⟩
    · have HE : Hid (firstBad t 0 = -1) := by
        have h1 := HK.out
        rw [List.drop_eq_nil_of_le (by have := HN.out; omega)] at h1
        exact h1.symm
      go_wp2
      go_ret
      exact ⟨back_i HE.out.symm, rfl⟩

theorem containsFunc_any (b off cap : Nat) (t : List Int) (w : World) (hl : t.length ≤ 9223372036854775807) (hc : ∀ k, k < t.length → w.cell? ⟨b, off + k, none⟩ = some (.int .i64 (t.getD k 0))) :
    Calls Tryz.prog 56 #[.slice (some ⟨b, off, none⟩) t.length cap, .func (.func 71) #[] #[]] w fun e w' => e = .returned (.bool (!t.all signB)) ∧ w = w' := by
  have c := indexFunc_any b off cap t w hl hc
  clear hc
  obtain ⟨h1, h2⟩ := firstBad_lt t 0
  obtain ⟨n, hn⟩ : ∃ n, n = firstBad t 0 := ⟨_, rfl⟩
  rw [← hn] at c h1 h2
  clear hn
  by_cases h : t.all signB = true
  · obtain rfl : n = -1 := by have := h1.2 h; omega
    rw [h]
    clear h1 h2 h
    go_enter Tryz.func56, Tryz.ntmps56
    go_wp2_with (go_at_call 82; refine c.mono ?_; rintro e w' ⟨rfl, rfl⟩)
    go_ret
    exact ⟨rfl, rfl⟩
  · have h0 : 0 ≤ n := by
      rcases Int.lt_or_le n 0 with h' | h'
      · exact absurd (h1.1 h') h
      · exact h'
    have h' : t.all signB = false := by simpa using h
    rw [h']
    clear h1 h2 h h'
    go_enter Tryz.func56, Tryz.ntmps56
    go_wp2_with (go_at_call 82; refine c.mono ?_; rintro e w' ⟨rfl, rfl⟩)
    go_ret
    exact ⟨rfl, rfl⟩

theorem isOne_any (b off cap : Nat) (t : List Int) (w : World) (hl : t.length ≤ 12) (hc : ∀ k, k < t.length → w.cell? ⟨b, off + k, none⟩ = some (.int .i64 (t.getD k 0))) :
    Calls Tryz.prog 72 #[.slice (some ⟨b, off, none⟩) t.length cap] w fun e w' => e = .returned (.bool (decide (cnt t 0 = some 1))) ∧ w = w' := by
  have HC : Hid (∀ k, k < t.length → w.cell? ⟨b, off + k, none⟩ = some (.int .i64 (t.getD k 0))) := hc
  clear hc
  obtain ⟨n, hn⟩ : ∃ n, n = t.length := ⟨_, rfl⟩
  rw [← hn] at hl ⊢
  have HN : Hid (n = t.length) := hn
  clear hn
  obtain ⟨R, hR⟩ : ∃ R, R = decide (cnt t 0 = some 1) := ⟨_, rfl⟩
  rw [← hR]
  have HR : Hid (R = decide (cnt t 0 = some 1)) := hR
  clear hR
  go_enter Tryz.func72, Tryz.ntmps72
  go_wp2
  go_loop [3, 8] (fun c i => ∃ (k : Nat) (m : Int), k ≤ n ∧ i = .int .i64 k ∧ c = .int .i64 m ∧ cnt (t.take k) 0 = some m) (fun _ i => n - (intOf i).toNat)
  case atStart => exact ⟨0, 0, Nat.zero_le _, rfl, rfl, rfl⟩
  case round =>
    obtain ⟨k, m, hk, rfl, rfl, hm⟩ := hrel
    have HM : Hid (cnt (t.take k) 0 = some m) := hm
    have hm0 : 0 ≤ m ∧ m ≤ 12 := by
      have := cnt_nonneg (Int.le_refl 0) hm
      simp at this
      omega
    clear hm
    by_cases hlt : k < n
    · obtain ⟨s, hs⟩ : ∃ s, s = t.getD k 0 := ⟨_, rfl⟩
      have hc := HC.out k (by rw [← HN.out]; exact hlt)
      rw [← hs] at hc
      have HD : Hid (cnt (t.take (k + 1)) 0 = if m < takesN s then none else some (m + 1 - takesN s)) := by
        have := cnt_take_succ t (k := k) (by rw [← HN.out]; exact hlt) HM.out
        rw [← hs] at this; exact this
      clear hs
      have ht := takesN_range s
      by_cases hb : m < takesN s
      · have HE : Hid (R = false) := by
          have h1 := HD.out
          rw [if_pos hb] at h1
          have h2 := cnt_take_none t (k + 1) h1
          have h3 := HR.out
          rw [h2] at h3
          exact h3.trans (by decide)
        go_wp2_with (go_at_call 73; refine (takes_any _ _).mono ?_; rintro e w' ⟨rfl, rfl⟩)
        go_ret
        exact ⟨back_b HE.out.symm, rfl⟩
      · have HE : Hid (cnt (t.take (k + 1)) 0 = some (m + (1 - takesN s))) := by
          have h1 := HD.out
          rw [if_neg hb] at h1
          rw [show m + (1 - takesN s) = m + 1 - takesN s by omega]
          exact h1
        go_wp2_with (go_at_call 73; refine (takes_any _ _).mono ?_; rintro e w' ⟨rfl, rfl⟩)
        go_round
        case rel => exact ⟨k + 1, _, by omega, by go_num, rfl, HE.out⟩
        case measure => simp [intOf]; omega
    · have HE : Hid (R = (m == 1)) := by
        have h1 := HM.out
        rw [List.take_of_length_le (by have := HN.out; omega)] at h1
        have h3 := HR.out
        rw [h1] at h3
        rw [h3]
        by_cases h : m = 1
        · subst h; rfl
        · rw [decide_eq_false (by simpa using h)]; exact (beq_eq_false_iff_ne.2 h).symm
      go_wp2
      go_ret
      exact ⟨back_b HE.out.symm, rfl⟩

/-- Check, whatever the row of signs. -/
theorem tcheck_any (t : List Int) (v : Value) (w : World) (h : Reads w v t) :
    Calls Tryz.prog 43 #[v] w fun e w' => e = .returned (errV (faultN t)) ∧ w = w' := by
  rcases h with ⟨ao, cap, rfl, rfl⟩ | ⟨b, off, cap, rfl, -, h0, ⟨hl, _⟩, hc⟩
  · go_enter Tryz.func43, Tryz.ntmps43
    go_wp2
    go_ret
    exact ⟨rfl, rfl⟩
  · have cF := containsFunc_any b off cap t w hl hc
    by_cases h12 : 12 < t.length
    · have e : errV (faultN t) = .iface 61 (.int .i64 4) := by unfold faultN; rw [if_neg (by omega), if_pos h12]; rfl
      rw [e]
      clear e hc cF
      obtain ⟨n, hn⟩ : ∃ n, n = t.length := ⟨_, rfl⟩
      rw [← hn] at h0 hl h12 ⊢
      clear hn
      go_enter Tryz.func43, Tryz.ntmps43
      go_wp2
      go_ret
      exact ⟨rfl, rfl⟩
    have hl12 : t.length ≤ 12 := by omega
    have cO := isOne_any b off cap t w hl12 hc
    clear hc
    obtain ⟨F, hF⟩ : ∃ F, F = faultN t := ⟨_, rfl⟩
    rw [← hF]
    have HF : Hid (F = if t.all signB = true then (if cnt t 0 = some 1 then 0 else 3) else 1) := by
      unfold Hid; rw [hF]; unfold faultN; rw [if_neg (by omega), if_neg h12]
    clear hF
    obtain ⟨n, hn⟩ : ∃ n, n = t.length := ⟨_, rfl⟩
    rw [← hn] at h0 hl hl12 h12 cF cO ⊢
    clear hn
    obtain ⟨x, hx⟩ : ∃ x, x = t.all signB := ⟨_, rfl⟩
    obtain ⟨y, hy⟩ : ∃ y, y = decide (cnt t 0 = some 1) := ⟨_, rfl⟩
    rw [← hx] at cF
    rw [← hy] at cO
    have HF' : Hid (F = if x = true then (if y = true then 0 else 3) else 1) := by
      unfold Hid; rw [HF.out, hx, hy]; simp only [decide_eq_true_eq]
    clear HF hx hy
    have HP : Hid (Calls Tryz.prog 56 #[.slice (some ⟨b, off, none⟩) n cap, .func (.func 71) #[] #[]] w fun e w' => e = .returned (.bool (!x)) ∧ w = w') := cF
    have HQ : Hid (Calls Tryz.prog 72 #[.slice (some ⟨b, off, none⟩) n cap] w fun e w' => e = .returned (.bool y) ∧ w = w') := cO
    clear cF cO
    cases x <;> cases y
    all_goals
      go_enter Tryz.func43, Tryz.ntmps43
      go_wp2_with (first | (go_at_call 56; refine HP.out.mono ?_; rintro e w' ⟨rfl, rfl⟩) | (go_at_call 72; refine HQ.out.mono ?_; rintro e w' ⟨rfl, rfl⟩))
      go_ret
      exact ⟨back_v (by rw [HF'.out]; rfl), rfl⟩
theorem below_alloc1 (w : World) (o : Obj) : Below w.heap.size w (w.alloc o) := (Below.refl _ _).alloc (Nat.le_refl _) _
theorem errV_no {n : Int} (h : ¬ n = 0) : errV n = .iface 61 (.int .i64 n) := by unfold errV; rw [if_neg h]
end Go.Proofs.YtpdpnlpepfgknafGreatDoor

namespace Go.Proofs.YtpdpnlpepfgknafGreatDoor
open Go.ChangeShapes Go.WideShapes Go.ChangeAt Go.RowKit
set_option maxRecDepth 100000

/-- blocks of S stay as they were. -/
def Kept (S : Nat → Prop) (w w' : World) : Prop := w.heap.size ≤ w'.heap.size ∧ ∀ b, S b → b < w.heap.size → w'.heap[b]? = w.heap[b]?
theorem Kept.of_below {S : Nat → Prop} {w w' : World} (h : Below w.heap.size w w') : Kept S w w' := ⟨h.size, fun b _ hb => h.block b hb⟩
theorem Kept.of_belowK {S : Nat → Prop} {w w' : World} {K : Nat} (h : Below K w w') (hS : ∀ b, S b → b < w.heap.size → b < K) : Kept S w w' := ⟨h.size, fun b h1 h2 => h.block b (hS b h1 h2)⟩
theorem Kept.of_grown {S : Nat → Prop} {w w' : World} {r : Option Nat} (h : w.grownBy w' r) (hS : ∀ b, S b → some b ≠ r) : Kept S w w' := ⟨h.size, fun b h1 h2 => h.block b h2 (hS b h1)⟩
/-- the slice v reads, in the world w, as the numbers t, and lies in a block of S. -/
def RS (S : Nat → Prop) (w : World) (v : Value) (t : List Int) : Prop :=
  (∃ ao cap, v = .slice ao 0 cap ∧ t = []) ∨ (∃ b off cap, v = .slice (some ⟨b, off, none⟩) t.length cap ∧ (S b ∧ b < w.heap.size) ∧ 0 < t.length ∧ (t.length ≤ 9223372036854775807 ∧ t.length ≤ cap) ∧ ∀ k, k < t.length → w.cell? ⟨b, off + k, none⟩ = some (.int .i64 (t.getD k 0)))
theorem RS.reads {S : Nat → Prop} {w : World} {v : Value} {t : List Int} (h : RS S w v t) : Reads w v t := by
  rcases h with h | ⟨b, off, cap, h1, h2, h3, h4, h5⟩
  · exact Or.inl h
  · exact Or.inr ⟨b, off, cap, h1, h2.2, h3, h4, h5⟩
theorem Reads.rs {S : Nat → Prop} {w : World} {v : Value} {t : List Int} (h : Reads w v t) (hS : ∀ b, b < w.heap.size → S b) : RS S w v t := by
  rcases h with h | ⟨b, off, cap, h1, h2, h3, h4, h5⟩
  · exact Or.inl h
  · exact Or.inr ⟨b, off, cap, h1, ⟨hS b h2, h2⟩, h3, h4, h5⟩
theorem RS.mono {S T : Nat → Prop} {w : World} {v : Value} {t : List Int} (h : RS S w v t) (hS : ∀ b, b < w.heap.size → S b → T b) : RS T w v t := by
  rcases h with h | ⟨b, off, cap, h1, h2, h3, h4, h5⟩
  · exact Or.inl h
  · exact Or.inr ⟨b, off, cap, h1, ⟨hS b h2.2 h2.1, h2.2⟩, h3, h4, h5⟩
theorem RS.kept {S : Nat → Prop} {w w' : World} {v : Value} {t : List Int} (h : RS S w v t) (hk : Kept S w w') : RS S w' v t := by
  rcases h with h | ⟨b, off, cap, h1, h2, h3, h4, h5⟩
  · exact Or.inl h
  · exact Or.inr ⟨b, off, cap, h1, ⟨h2.1, Nat.lt_of_lt_of_le h2.2 hk.1⟩, h3, h4, fun k hk' => by rw [World.cell?_of_block (w := w) (hk.2 b h2.1 h2.2)]; exact h5 k hk'⟩
theorem RS.slice {S : Nat → Prop} {w : World} {v : Value} {t : List Int} (h : RS S w v t) : ∃ ao cap, v = .slice ao t.length cap ∧ t.length ≤ 9223372036854775807 := by
  rcases h with ⟨ao, cap, rfl, rfl⟩ | ⟨b, off, cap, rfl, _, _, h, _⟩
  · exact ⟨ao, cap, rfl, by decide⟩
  · exact ⟨_, cap, rfl, h.1⟩
theorem RS.one {S : Nat → Prop} {w : World} {v : Value} {t : List Int} (h : RS S w v t) : v.oneCell' = true := by
  obtain ⟨_, _, rfl, _⟩ := h.slice; rfl
/-- the slice v reads as these rows of numbers; it and they lie in blocks of S. -/
def RS2 (S : Nat → Prop) (w : World) (v : Value) (L : List (List Int)) : Prop :=
  (∃ ao cap, v = .slice ao 0 cap ∧ L = []) ∨ (∃ b off cap, v = .slice (some ⟨b, off, none⟩) L.length cap ∧ (S b ∧ b < w.heap.size) ∧ 0 < L.length ∧ (L.length ≤ 9223372036854775807 ∧ L.length ≤ cap) ∧ ∀ k t, L[k]? = some t → ∃ u, w.cell? ⟨b, off + k, none⟩ = some u ∧ RS S w u t)
theorem RS2.mono {S T : Nat → Prop} {w : World} {v : Value} {L : List (List Int)} (h : RS2 S w v L) (hS : ∀ b, b < w.heap.size → S b → T b) : RS2 T w v L := by
  rcases h with h | ⟨b, off, cap, h1, h2, h3, h4, h5⟩
  · exact Or.inl h
  · refine Or.inr ⟨b, off, cap, h1, ⟨hS b h2.2 h2.1, h2.2⟩, h3, h4, fun k t hk => ?_⟩
    obtain ⟨u, hu, hr⟩ := h5 k t hk
    exact ⟨u, hu, hr.mono hS⟩
theorem RS2.kept {S : Nat → Prop} {w w' : World} {v : Value} {L : List (List Int)} (h : RS2 S w v L) (hk : Kept S w w') : RS2 S w' v L := by
  rcases h with h | ⟨b, off, cap, h1, h2, h3, h4, h5⟩
  · exact Or.inl h
  · refine Or.inr ⟨b, off, cap, h1, ⟨h2.1, Nat.lt_of_lt_of_le h2.2 hk.1⟩, h3, h4, fun k t hkt => ?_⟩
    obtain ⟨u, hu, hr⟩ := h5 k t hkt
    exact ⟨u, by rw [World.cell?_of_block (w := w) (hk.2 b h2.1 h2.2)]; exact hu, hr.kept hk⟩
theorem RS2.slice {S : Nat → Prop} {w : World} {v : Value} {L : List (List Int)} (h : RS2 S w v L) : ∃ ao cap, v = .slice ao L.length cap ∧ L.length ≤ 9223372036854775807 := by
  rcases h with ⟨ao, cap, rfl, rfl⟩ | ⟨b, off, cap, rfl, _, _, h, _⟩
  · exact ⟨ao, cap, rfl, by decide⟩
  · exact ⟨_, cap, rfl, h.1⟩
theorem RS2.one {S : Nat → Prop} {w : World} {v : Value} {L : List (List Int)} (h : RS2 S w v L) : v.oneCell' = true := by
  obtain ⟨_, _, rfl, _⟩ := h.slice; rfl
/-- a row of rows that is the call's own, behind K; its rows lie elsewhere. -/
def Own2 (S : Nat → Prop) (K : Nat) (w : World) (v : Value) (L : List (List Int)) : Prop :=
  ∃ xs : List Value, w.ownsRow K 27 1 v L.length xs ∧ ∀ (k : Nat) t, L[k]? = some t → ∃ u, xs[k]? = some u ∧ RS (fun b => (S b ∨ K ≤ b) ∧ some b ≠ v.ownBlock) w u t
theorem Own2.nil (S : Nat → Prop) (K : Nat) (w : World) : Own2 S K w (.slice none 0 0) [] := ⟨[], World.ownsRow_nil _ _ _ _, fun k t h => (by simp at h)⟩
theorem ownsRow_same {w w' : World} {base : Nat} {e : TypeId} {size : Nat} {v : Value} {n : Nat} {xs : List Value} (h : w.ownsRow base e size v n xs) (hb : ∀ b, b < w.heap.size → w'.heap[b]? = w.heap[b]?) : w'.ownsRow base e size v n xs := by
  refine ⟨h.1, ?_⟩
  rcases h.2 with hn | ⟨g, cap, cur, rfl, hg, hh, rest⟩
  · exact .inl hn
  · exact .inr ⟨g, cap, cur, rfl, hg, by rw [hb g (Array.getElem?_eq_some_iff.1 hh).1]; exact hh, rest⟩
theorem Own2.below {S : Nat → Prop} {K : Nat} {w w' : World} {v : Value} {L : List (List Int)} (h : Own2 S K w v L) (hb : Below w.heap.size w w') : Own2 S K w' v L := by
  obtain ⟨xs, h1, h2⟩ := h
  refine ⟨xs, ownsRow_same h1 hb.block, fun k t hk => ?_⟩
  obtain ⟨u, hu, hr⟩ := h2 k t hk
  exact ⟨u, hu, hr.kept (Kept.of_below hb)⟩
theorem Own2.push {S : Nat → Prop} {K : Nat} {w w' : World} {v u : Value} {L : List (List Int)} {t : List Int} {xs : List Value} {g cap : Nat} (hw : w.ownsRow K 27 1 v L.length xs)
    (hx : ∀ (k : Nat) t, L[k]? = some t → ∃ u, xs[k]? = some u ∧ RS (fun b => (S b ∨ K ≤ b) ∧ some b ≠ v.ownBlock) w u t) (hu : RS (fun b => (S b ∨ K ≤ b) ∧ some b ≠ v.ownBlock) w u t)
    (hown : w'.ownsRow K 27 1 (.slice (some ⟨g, 0, none⟩) (L.length + 1) cap) (L.length + 1) (xs ++ [u])) (hg : w.grownBy w' v.ownBlock) (hat : v.ownBlock = some g ∨ g = w.heap.size) :
    Own2 S K w' (.slice (some ⟨g, 0, none⟩) (L.length + 1) cap) (L ++ [t]) := by
  have hl : xs.length = L.length := by have := hw.1; simpa using this
  have key : ∀ x s, RS (fun b => (S b ∨ K ≤ b) ∧ some b ≠ v.ownBlock) w x s → RS (fun b => (S b ∨ K ≤ b) ∧ some b ≠ (Value.slice (some ⟨g, 0, none⟩) (L.length + 1) cap).ownBlock) w' x s := by
    intro x s hxs
    have h1 : RS (fun b => ((S b ∨ K ≤ b) ∧ some b ≠ v.ownBlock) ∧ some b ≠ (Value.slice (some ⟨g, 0, none⟩) (L.length + 1) cap).ownBlock) w x s := hxs.mono fun b hb h => ⟨h, by
      show some b ≠ some g
      rcases hat with e | e
      · rw [← e]; exact h.2
      · intro e2; rw [Option.some.inj e2, e] at hb; omega⟩
    have h2 := h1.kept (Kept.of_grown hg fun b hb => hb.1.2)
    exact h2.mono fun b _ hb => ⟨hb.1.1, hb.2⟩
  refine ⟨xs ++ [u], by rw [List.length_append]; exact hown, fun k s hk => ?_⟩
  by_cases hlt : k < L.length
  · rw [List.getElem?_append_left hlt] at hk
    obtain ⟨x, hx1, hx2⟩ := hx k s hk
    exact ⟨x, by rw [List.getElem?_append_left (by omega)]; exact hx1, key _ _ hx2⟩
  · rw [List.getElem?_append_right (by omega)] at hk
    have e : k - L.length = 0 := by
      have := (List.getElem?_eq_some_iff.1 hk).1; simp at this; omega
    rw [e] at hk
    simp at hk; subst hk
    exact ⟨u, by rw [List.getElem?_append_right (by omega), hl, e]; rfl, key _ _ hu⟩
/-- what a call's own row of rows reads as. -/
theorem Own2.reads {S : Nat → Prop} {K : Nat} {w : World} {v : Value} {L : List (List Int)} (h : Own2 S K w v L) (hm : L.length ≤ 9223372036854775807) : RS2 (fun b => S b ∨ K ≤ b) w v L := by
  obtain ⟨xs, h1, h2⟩ := h
  rcases h1.2 with ⟨rfl, h0⟩ | ⟨g, cap, cur, rfl, hg, hh, hc, _⟩
  · exact Or.inl ⟨_, _, rfl, List.eq_nil_of_length_eq_zero (by omega)⟩
  · rcases Nat.eq_zero_or_pos L.length with h0 | h0
    · exact Or.inl ⟨_, cap, by rw [h0], List.eq_nil_of_length_eq_zero (by omega)⟩
    · refine Or.inr ⟨g, 0, cap, rfl, ⟨Or.inr hg, (Array.getElem?_eq_some_iff.1 hh).1⟩, h0, ⟨hm, hc⟩, fun k t hk => ?_⟩
      have hi := (List.getElem?_eq_some_iff.1 hk).1
      obtain ⟨u, hu, hr⟩ := h2 k t hk
      exact ⟨u, by rw [Nat.zero_add, h1.cellAt _ (by omega)]; exact hu, hr.mono fun b _ hb => hb.1⟩
theorem Own2.lt {S : Nat → Prop} {K : Nat} {w : World} {v : Value} {L : List (List Int)} (h : Own2 S K w v L) : ∀ k, v.ownBlock = some k → K ≤ k ∧ k < w.heap.size := by
  obtain ⟨xs, h1, _⟩ := h; exact h1.lt
end Go.Proofs.YtpdpnlpepfgknafGreatDoor

namespace Go.Proofs.YtpdpnlpepfgknafGreatDoor
open Go.RowKit

/-- has a kind a second term? a number? -/
def secondB (k : Int) : Bool := decide (k = 1 ∨ k = 2 ∨ k = 5)
def numberB (k : Int) : Bool := decide (k = 3 ∨ k = 4 ∨ k = 5)
/-- what is wrong with the second term. -/
def secondFault (k : Int) (t : List Int) : Int := if secondB k = true then faultN t else if 0 < t.length then 3 else 0
/-- how great a number may be. -/
def mostN (k : Int) : Int := if numberB k = true then 20 else 0
/-- what is wrong with an atom. -/
def atomFault (k : Int) (s t : List Int) (n : Int) : Int :=
  if 1 ≤ k ∧ k ≤ 5 then (if faultN s = 0 then (if secondFault k t = 0 then (if - mostN k ≤ n ∧ n ≤ mostN k then 0 else 1) else secondFault k t) else faultN s) else 1
/-- what an atom says of two sets. -/
def saysB (k n x y : Int) : Bool :=
  if k = 1 then decide (lessN x y = 0) else if k = 2 then decide (x = y) else if k = 3 then decide (n ≤ pcN x) else if k = 4 then decide (pcN x ≤ n) else decide (pcN x ≤ pcN y + n)
/-- the set of the second term, where there is one. -/
def Wd.snd (w : Wd) (k : Int) (t : List Int) : Int := if secondB k = true then w.val t else 0
/-- does it hold? -/
def Wd.holds (w : Wd) (k : Int) (s t : List Int) (n : Int) : Bool := saysB k n (w.val s) (w.snd k t)
/-- what Holds tells: the number of the error, and the answer. -/
def Wd.holdsFault (w : Wd) (k : Int) (s t : List Int) (n : Int) : Int := if atomFault k s t n = 0 then (if w.ok = true then 0 else 1) else atomFault k s t n
def Wd.holdsIs (w : Wd) (k : Int) (s t : List Int) (n : Int) : Bool := if w.holdsFault k s t n = 0 then w.holds k s t n else false

theorem five {k : Int} (h0 : 1 ≤ k) (h1 : k ≤ 5) : k = 1 ∨ k = 2 ∨ k = 3 ∨ k = 4 ∨ k = 5 := by omega
theorem atomFault_kind {k : Int} (h : ¬ (1 ≤ k ∧ k ≤ 5)) (s t : List Int) (n : Int) : atomFault k s t n = 1 := by unfold atomFault; rw [if_neg h]
theorem atomFault_first {k : Int} (h : 1 ≤ k ∧ k ≤ 5) {s : List Int} (hs : ¬ faultN s = 0) (t : List Int) (n : Int) : atomFault k s t n = faultN s := by unfold atomFault; rw [if_pos h, if_neg hs]
theorem atomFault_second {k : Int} (h : 1 ≤ k ∧ k ≤ 5) {s : List Int} (hs : faultN s = 0) {t : List Int} (ht : ¬ secondFault k t = 0) (n : Int) : atomFault k s t n = secondFault k t := by unfold atomFault; rw [if_pos h, if_pos hs, if_neg ht]
theorem atomFault_third {k : Int} (h : 1 ≤ k ∧ k ≤ 5) {s : List Int} (hs : faultN s = 0) {t : List Int} (ht : secondFault k t = 0) (n : Int) : atomFault k s t n = if - mostN k ≤ n ∧ n ≤ mostN k then 0 else 1 := by unfold atomFault; rw [if_pos h, if_pos hs, if_pos ht]
theorem atomFault_zero {k : Int} {s t : List Int} {n : Int} : atomFault k s t n = 0 ↔ (1 ≤ k ∧ k ≤ 5) ∧ faultN s = 0 ∧ secondFault k t = 0 ∧ - mostN k ≤ n ∧ n ≤ mostN k := by
  by_cases h : 1 ≤ k ∧ k ≤ 5
  · by_cases hs : faultN s = 0
    · by_cases ht : secondFault k t = 0
      · rw [atomFault_third h hs ht]
        by_cases hn : - mostN k ≤ n ∧ n ≤ mostN k
        · rw [if_pos hn]; exact ⟨fun _ => ⟨h, hs, ht, hn⟩, fun _ => rfl⟩
        · rw [if_neg hn]; exact ⟨fun h => (by cases h), fun h' => absurd h'.2.2.2 hn⟩
      · rw [atomFault_second h hs ht]; exact ⟨fun h' => absurd h' ht, fun h' => absurd h'.2.2.1 ht⟩
    · rw [atomFault_first h hs]; exact ⟨fun h' => absurd h' hs, fun h' => absurd h'.2.1 hs⟩
  · rw [atomFault_kind h]; exact ⟨fun h' => (by cases h'), fun h' => absurd h'.1 h⟩
theorem second_reads {k : Int} {t : List Int} (ht : secondFault k t = 0) : secondB k = true → faultN t = 0 := by
  intro h'
  unfold secondFault at ht
  rw [if_pos h'] at ht
  exact ht

/-! ### none has fewer than none, nor more than all -/
theorem none_all {w : Wd} (hw : w.ok = true) (s : List Int) : lessN (w.val s) (allN w.u) = 0 := by
  have h := ok_val hw s
  exact uptoSets (P := fun u a _ => lessN a (allN u) = 0) (by decide +kernel) w.u (w.val s) (w.val s) h h
theorem none_size {w : Wd} (hw : w.ok = true) (s : List Int) : pcN (w.val s) ≤ w.u := by
  have h := ok_val hw s
  exact uptoSets (P := fun u a _ => pcN a ≤ u) (by decide +kernel) w.u (w.val s) (w.val s) h h
end Go.Proofs.YtpdpnlpepfgknafGreatDoor

namespace Go.Proofs.YtpdpnlpepfgknafGreatDoor
open Go.RowKit

/-- how many formulas a sign takes. -/
def takesF (s : Int) : Int := if s = 10 ∨ s = 11 ∨ s = 13 then 2 else if s = 12 then 1 else 0
/-- is it a sign, where there are so many atoms? -/
def signF (m : Nat) (s : Int) : Bool := !(decide (takesF s = 0) && (decide (s < 0) || decide ((m : Int) ≤ s)))
/-- how many formulas there are behind a row of signs; none: a sign takes more than there are. -/
def cntF : List Int → Int → Option Int
  | [], n => some n
  | s :: l, n => if n < takesF s then none else cntF l (n + 1 - takesF s)
/-- an atom. -/
structure At where
  k : Int
  s : List Int
  t : List Int
  n : Int
def At.fault (a : At) : Int := atomFault a.k a.s a.t a.n
/-- what is wrong with the first atom that is none. -/
def firstFault : List At → Int
  | [] => 0
  | a :: l => if a.fault = 0 then firstFault l else a.fault
/-- what is wrong with a formula: the number of the error, or 0. -/
def formFault (ats : List At) (c : List Int) : Int :=
  if ats.length = 0 ∨ c.length = 0 then 5 else if 6 < ats.length ∨ 20 < c.length then 4 else if firstFault ats = 0 then (if c.all (signF ats.length) = true then (if cntF c 0 = some 1 then 0 else 3) else 1) else firstFault ats

theorem takesF_range (s : Int) : 0 ≤ takesF s ∧ takesF s ≤ 2 := by unfold takesF; split <;> (try split) <;> omega
theorem takesF_leaf {s : Int} (h : takesF s = 0) : s ≠ 10 ∧ s ≠ 11 ∧ s ≠ 12 ∧ s ≠ 13 := by
  unfold takesF at h
  split at h
  · omega
  · split at h <;> omega
theorem takesF_low {s : Int} (h : s < 10) : takesF s = 0 := by unfold takesF; rw [if_neg (by omega), if_neg (by omega)]
theorem signF_iff {m : Nat} {s : Int} : signF m s = true ↔ (takesF s ≠ 0 ∨ (0 ≤ s ∧ s < m)) := by
  unfold signF
  by_cases h : takesF s = 0
  · simp [h]
  · simp [h]
theorem firstFault_zero {ats : List At} : firstFault ats = 0 ↔ ∀ a ∈ ats, a.fault = 0 := by
  induction ats with
  | nil => simp [firstFault]
  | cons a l ih =>
    unfold firstFault
    by_cases h : a.fault = 0
    · rw [if_pos h, ih]; simp [h]
    · rw [if_neg h]; simp [h]
theorem formFault_zero {ats : List At} {c : List Int} : formFault ats c = 0 ↔ (1 ≤ ats.length ∧ ats.length ≤ 6) ∧ (1 ≤ c.length ∧ c.length ≤ 20) ∧ (∀ a ∈ ats, a.fault = 0) ∧ c.all (signF ats.length) = true ∧ cntF c 0 = some 1 := by
  unfold formFault
  by_cases h1 : ats.length = 0 ∨ c.length = 0
  · rw [if_pos h1]; exact ⟨fun h => (by cases h), fun h => by omega⟩
  rw [if_neg h1]
  by_cases h2 : 6 < ats.length ∨ 20 < c.length
  · rw [if_pos h2]; exact ⟨fun h => (by cases h), fun h => by omega⟩
  rw [if_neg h2]
  by_cases h3 : firstFault ats = 0
  · rw [if_pos h3]
    by_cases h4 : c.all (signF ats.length) = true
    · rw [if_pos h4]
      by_cases h5 : cntF c 0 = some 1
      · rw [if_pos h5]; exact ⟨fun _ => ⟨by omega, by omega, firstFault_zero.1 h3, h4, h5⟩, fun _ => rfl⟩
      · rw [if_neg h5]; exact ⟨fun h => (by cases h), fun h => absurd h.2.2.2.2 h5⟩
    · rw [if_neg h4]; exact ⟨fun h => (by cases h), fun h => absurd h.2.2.2.1 h4⟩
  · rw [if_neg h3]; exact ⟨fun h => absurd h h3, fun h => absurd (firstFault_zero.2 h.2.2.1) h3⟩

theorem cntF_append (a b : List Int) (n : Int) : cntF (a ++ b) n = (cntF a n).bind (cntF b) := by
  induction a generalizing n with
  | nil => rfl
  | cons s l ih =>
    simp only [List.cons_append, cntF]
    split
    · rfl
    · exact ih _
theorem cntF_nonneg {l : List Int} {n m : Int} (hn : 0 ≤ n) (h : cntF l n = some m) : 0 ≤ m ∧ m ≤ n + l.length := by
  induction l generalizing n with
  | nil => simp [cntF] at h; subst h; simp; omega
  | cons s l ih =>
    have := takesF_range s
    unfold cntF at h
    split at h
    · cases h
    · have := ih (by omega) h
      simp; omega
theorem takeF_succ (t : List Int) {k : Nat} (h : k < t.length) : t.take (k + 1) = t.take k ++ [t.getD k 0] := by
  rw [List.take_add_one]; simp [List.getElem?_eq_getElem h]
theorem cntF_take_succ (t : List Int) {k : Nat} (h : k < t.length) {m : Int} (hm : cntF (t.take k) 0 = some m) : cntF (t.take (k + 1)) 0 = if m < takesF (t.getD k 0) then none else some (m + 1 - takesF (t.getD k 0)) := by
  rw [takeF_succ t h, cntF_append, hm]; rfl
theorem cntF_take_none (t : List Int) (k : Nat) (h : cntF (t.take k) 0 = none) : cntF t 0 = none := by
  have : cntF (t.take k ++ t.drop k) 0 = none := by rw [cntF_append, h]; rfl
  rwa [List.take_append_drop] at this
theorem cntF_take_some (t : List Int) (k : Nat) {n : Int} (h : cntF t 0 = some n) : ∃ m, cntF (t.take k) 0 = some m := by
  cases hc : cntF (t.take k) 0 with
  | none => rw [cntF_take_none t k hc] at h; cases h
  | some m => exact ⟨m, rfl⟩
theorem cntF_more (r : List Int) (n m : Int) (h : cntF r n = some m) : cntF r (n + 1) = some (m + 1) := by
  induction r generalizing n with
  | nil => simp [cntF] at h ⊢; exact h
  | cons s l ih =>
    unfold cntF at h ⊢
    split at h
    · cases h
    · rw [if_neg (by omega), show n + 1 + 1 - takesF s = n + 1 - takesF s + 1 by omega]
      exact ih _ h

/-! ### the pile -/
/-- whether what a sign makes of those it takes holds. -/
def madeF (held : List Bool) (s : Int) (l : List Bool) : Bool :=
  if s = 10 then l.getD 0 false && l.getD 1 false else if s = 11 then l.getD 0 false || l.getD 1 false else if s = 13 then !l.getD 0 false || l.getD 1 false else if s = 12 then !l.getD 0 false else held.getD s.toNat false
def restF (p : List Bool) (s : Int) : Nat := p.length - (takesF s).toNat
def stepF (held : List Bool) (p : List Bool) (s : Int) : List Bool := p.take (restF p s) ++ [madeF held s (p.drop (restF p s))]
def pileF (held : List Bool) (c : List Int) (p : List Bool) : List Bool := c.foldl (stepF held) p
/-- does a row of signs hold, where these atoms do? -/
def valF (held : List Bool) (c : List Int) : Bool := (pileF held c []).getD 0 false

theorem pileF_append (held : List Bool) (a b : List Int) (p : List Bool) : pileF held (a ++ b) p = pileF held b (pileF held a p) := by simp [pileF, List.foldl_append]
theorem pileF_succ (held : List Bool) (t : List Int) (p : List Bool) {k : Nat} (h : k < t.length) : pileF held (t.take (k + 1)) p = stepF held (pileF held (t.take k) p) (t.getD k 0) := by
  rw [takeF_succ t h, pileF_append]; rfl
theorem stepF_length (held : List Bool) (p : List Bool) (s : Int) (h : takesF s ≤ p.length) : ((stepF held p s).length : Int) = p.length + 1 - takesF s := by
  have := takesF_range s
  simp [stepF, restF]
  omega
theorem pileF_length (held : List Bool) (t : List Int) (p : List Bool) {n : Int} (h : cntF t p.length = some n) : ((pileF held t p).length : Int) = n := by
  induction t generalizing p with
  | nil => simp [cntF] at h; simpa [pileF] using h
  | cons s l ih =>
    unfold cntF at h
    split at h
    · cases h
    · rename_i hs
      have e := stepF_length held p s (by omega)
      exact ih (stepF held p s) (by rw [e]; exact h)
/-- a row of signs does not see what lies beneath what it takes. -/
theorem stepF_under (held q p : List Bool) (s : Int) (h : takesF s ≤ p.length) : stepF held (q ++ p) s = q ++ stepF held p s := by
  have hr := takesF_range s
  have e : restF (q ++ p) s = q.length + restF p s := by unfold restF; simp; omega
  unfold stepF
  rw [e, List.take_length_add_append, List.drop_length_add_append, List.append_assoc]
theorem pileF_under (held : List Bool) (t : List Int) (q p : List Bool) {n : Int} (h : cntF t p.length = some n) : pileF held t (q ++ p) = q ++ pileF held t p := by
  induction t generalizing p with
  | nil => rfl
  | cons s l ih =>
    unfold cntF at h
    split at h
    · cases h
    · rename_i hs
      have e := stepF_length held p s (by omega)
      have := ih (stepF held p s) (by rw [e]; exact h)
      show pileF held l (stepF held (q ++ p) s) = q ++ pileF held l (stepF held p s)
      rw [stepF_under held q p s (by omega)]; exact this
/-- one formula lays its answer on the pile. -/
theorem pileF_one (held : List Bool) {t : List Int} (h : cntF t 0 = some 1) (q : List Bool) : pileF held t q = q ++ [valF held t] := by
  have h1 := pileF_under held t q [] h
  rw [List.append_nil] at h1
  rw [h1]
  have h2 := pileF_length held t [] h
  match e : pileF held t [], h2 with
  | [x], _ => simp [valF, e]
  | [], h2 => simp at h2
  | _ :: _ :: _, h2 => simp at h2; omega
/-- where atoms hold alike, a formula does. -/
theorem pileF_alike {h1 h2 : List Bool} {t1 t2 : List Int} (ht : t1.length = t2.length) (hs : ∀ k, k < t1.length → takesF (t1.getD k 0) = takesF (t2.getD k 0) ∧ ∀ l, madeF h1 (t1.getD k 0) l = madeF h2 (t2.getD k 0) l) (p : List Bool) : pileF h1 t1 p = pileF h2 t2 p := by
  induction t1 generalizing t2 p with
  | nil =>
    cases t2 with
    | nil => rfl
    | cons => simp at ht
  | cons s l ih =>
    cases t2 with
    | nil => simp at ht
    | cons s2 l2 =>
      have e0 := hs 0 (by simp)
      simp only [List.getD_cons_zero] at e0
      have e1 : stepF h1 p s = stepF h2 p s2 := by unfold stepF restF; rw [e0.1, e0.2]
      show pileF h1 l (stepF h1 p s) = pileF h2 l2 (stepF h2 p s2)
      rw [e1]
      refine ih (by simpa using ht) (fun k hk => ?_) _
      have := hs (k + 1) (by simp; omega)
      simpa only [List.getD_cons_succ] using this

/-! ### the opposite -/
theorem good_no {ats : List At} {c : List Int} (h : formFault ats c = 0) (hl : c.length ≤ 19) : formFault ats (c ++ [12]) = 0 := by
  obtain ⟨h1, h2, h3, h4, h5⟩ := formFault_zero.1 h
  refine formFault_zero.2 ⟨h1, by simp; omega, h3, ?_, ?_⟩
  · rw [List.all_append, h4]; simp [signF, takesF]
  · rw [cntF_append, h5]; rfl
theorem val_no (held : List Bool) {c : List Int} (h : cntF c 0 = some 1) : valF held (c ++ [12]) = !valF held c := by
  have : pileF held (c ++ [12]) [] = [!valF held c] := by
    rw [pileF_append, pileF_one held h]; rfl
  rw [valF, this]; rfl
theorem cnt_no {c : List Int} (h : cntF c 0 = some 1) : cntF (c ++ [12]) 0 = some 1 := by rw [cntF_append, h]; rfl
/-- no twice is not at all. -/
theorem val_no_no (held : List Bool) {c : List Int} (h : cntF c 0 = some 1) : valF held ((c ++ [12]) ++ [12]) = valF held c := by
  rw [val_no held (cnt_no h), val_no held h, Bool.not_not]
/-- a formula then itself. -/
theorem good_then {ats : List At} {c : List Int} (h : formFault ats c = 0) (hl : c.length ≤ 9) : formFault ats (c ++ (c ++ [13])) = 0 := by
  obtain ⟨h1, h2, h3, h4, h5⟩ := formFault_zero.1 h
  refine formFault_zero.2 ⟨h1, by simp; omega, h3, ?_, ?_⟩
  · rw [List.all_append, List.all_append, h4]; simp [signF, takesF]
  · rw [cntF_append, h5]
    show cntF (c ++ [13]) 1 = _
    rw [cntF_append, show cntF c 1 = some 2 from cntF_more c 0 1 h5]; rfl
theorem val_then (held : List Bool) {c : List Int} (h : cntF c 0 = some 1) : valF held (c ++ (c ++ [13])) = true := by
  have : pileF held (c ++ (c ++ [13])) [] = [!valF held c || valF held c] := by
    rw [pileF_append, pileF_one held h, pileF_append, pileF_one held h]; rfl
  rw [valF, this]
  cases valF held c <;> rfl

/-! ### both -/
/-- a sign whose atoms have numbers greater by so many. -/
def movedF (m : Nat) (s : Int) : Int := if takesF s = 0 then s + m else s
theorem good_both {ats bs : List At} {c d : List Int} (h : formFault ats c = 0) (h' : formFault bs d = 0) (hl : ats.length + bs.length ≤ 6) (hc : c.length + d.length ≤ 19) : formFault (ats ++ bs) (c ++ (d.map (movedF ats.length) ++ [10])) = 0 := by
  obtain ⟨h1, h2, h3, h4, h5⟩ := formFault_zero.1 h
  obtain ⟨g1, g2, g3, g4, g5⟩ := formFault_zero.1 h'
  have hm : ∀ s ∈ d, takesF (movedF ats.length s) = takesF s ∧ signF (ats ++ bs).length (movedF ats.length s) = true := by
    intro s hs
    have := signF_iff.1 (List.all_eq_true.1 g4 s hs)
    unfold movedF
    by_cases h0 : takesF s = 0
    · rw [if_pos h0]
      have h6 : 0 ≤ s ∧ s < bs.length := this.resolve_left (by simp [h0])
      exact ⟨by rw [h0]; exact takesF_low (by omega), signF_iff.2 (Or.inr (by simp; omega))⟩
    · rw [if_neg h0]
      exact ⟨rfl, signF_iff.2 (Or.inl h0)⟩
  have hcnt : ∀ n, cntF (d.map (movedF ats.length)) n = cntF d n := by
    have : ∀ (l : List Int), (∀ s ∈ l, takesF (movedF ats.length s) = takesF s) → ∀ n, cntF (l.map (movedF ats.length)) n = cntF l n := by
      intro l
      induction l with
      | nil => intro _ n; rfl
      | cons s l ih =>
        intro hh n
        have e := hh s (by simp)
        simp only [List.map_cons, cntF, e]
        rw [ih (fun x hx => hh x (by simp [hx]))]
    exact this d (fun s hs => (hm s hs).1)
  refine formFault_zero.2 ⟨by simp; omega, by simp; omega, ?_, ?_, ?_⟩
  · intro a ha
    rcases List.mem_append.1 ha with ha | ha
    · exact h3 a ha
    · exact g3 a ha
  · rw [List.all_append, List.all_append]
    have e1 : c.all (signF (ats ++ bs).length) = true := by
      rw [List.all_eq_true]
      intro s hs
      rcases signF_iff.1 (List.all_eq_true.1 h4 s hs) with h | h
      · exact signF_iff.2 (Or.inl h)
      · exact signF_iff.2 (Or.inr (by simp; omega))
    have e2 : (d.map (movedF ats.length)).all (signF (ats ++ bs).length) = true := by
      rw [List.all_map, List.all_eq_true]
      intro s hs
      exact (hm s hs).2
    rw [e1, e2]; simp [signF, takesF]
  · rw [cntF_append, h5]
    show cntF (d.map (movedF ats.length) ++ [10]) 1 = _
    rw [cntF_append, hcnt, show cntF d 1 = some 2 from cntF_more d 0 1 g5]; rfl
theorem madeF_leaf (held : List Bool) {s : Int} (h : takesF s = 0) (l : List Bool) : madeF held s l = held.getD s.toNat false := by
  have := takesF_leaf h
  unfold madeF
  rw [if_neg this.1, if_neg this.2.1, if_neg this.2.2.2, if_neg this.2.2.1]
theorem madeF_op (h1 h2 : List Bool) {s : Int} (h : takesF s ≠ 0) (l : List Bool) : madeF h1 s l = madeF h2 s l := by
  have : s = 10 ∨ s = 11 ∨ s = 13 ∨ s = 12 := by
    unfold takesF at h
    split at h
    · omega
    · split at h <;> omega
  rcases this with rfl | rfl | rfl | rfl <;> rfl
theorem val_both {ats bs : List At} {c d : List Int} (ha hb : List Bool) (la : ha.length = ats.length) (h : formFault ats c = 0) (h' : formFault bs d = 0) (hl : ats.length + bs.length ≤ 6) : valF (ha ++ hb) (c ++ (d.map (movedF ats.length) ++ [10])) = (valF ha c && valF hb d) := by
  obtain ⟨h1, h2, h3, h4, h5⟩ := formFault_zero.1 h
  obtain ⟨g1, g2, g3, g4, g5⟩ := formFault_zero.1 h'
  have e1 : ∀ p, pileF (ha ++ hb) c p = pileF ha c p := fun p => by
    refine pileF_alike rfl (fun k hk => ⟨rfl, fun l => ?_⟩) p
    have hm : c.getD k 0 ∈ c := by rw [List.getD_eq_getElem?_getD, List.getElem?_eq_getElem hk]; exact List.getElem_mem hk
    rcases signF_iff.1 (List.all_eq_true.1 h4 _ hm) with h0 | h0
    · exact madeF_op _ _ h0 l
    · have t0 : takesF (c.getD k 0) = 0 := takesF_low (by omega)
      rw [madeF_leaf _ t0, madeF_leaf _ t0, List.getD_eq_getElem?_getD, List.getElem?_append_left (by omega), ← List.getD_eq_getElem?_getD]
  have e2 : ∀ p, pileF (ha ++ hb) (d.map (movedF ats.length)) p = pileF hb d p := fun p => by
    refine pileF_alike (by simp) (fun k hk => ?_) p
    have hk' : k < d.length := by simpa using hk
    have eg : (d.map (movedF ats.length)).getD k 0 = movedF ats.length (d.getD k 0) := by
      simp [List.getElem?_eq_getElem hk']
    rw [eg]
    have hm : d.getD k 0 ∈ d := by rw [List.getD_eq_getElem?_getD, List.getElem?_eq_getElem hk']; exact List.getElem_mem hk'
    generalize d.getD k 0 = s at hm
    unfold movedF
    rcases signF_iff.1 (List.all_eq_true.1 g4 s hm) with h0 | h0
    · rw [if_neg h0]; exact ⟨rfl, fun l => madeF_op _ _ h0 l⟩
    · have t0 : takesF s = 0 := takesF_low (by omega)
      have t1 : takesF (s + ats.length) = 0 := takesF_low (by omega)
      rw [if_pos t0]
      refine ⟨by rw [t0, t1], fun l => ?_⟩
      rw [madeF_leaf _ t0, madeF_leaf _ t1, show (s + (ats.length : Int)).toNat = ha.length + s.toNat by omega]
      rw [List.getD_eq_getElem?_getD, List.getElem?_append_right (by omega), Nat.add_sub_cancel_left, ← List.getD_eq_getElem?_getD]
  have hp : pileF (ha ++ hb) (c ++ (d.map (movedF ats.length) ++ [10])) [] = [valF ha c && valF hb d] := by
    rw [pileF_append, pileF_append, e1, e2, pileF_one ha h5, pileF_one hb g5]; rfl
  rw [valF, hp]; rfl

/-! ### Holds -/
def Wd.heldL (w : Wd) (ats : List At) : List Bool := ats.map fun a => w.holds a.k a.s a.t a.n
/-- what Holds tells. -/
def Wd.formFault (w : Wd) (ats : List At) (c : List Int) : Int := if YtpdpnlpepfgknafGreatDoor.formFault ats c = 0 then (if w.ok = true then 0 else 1) else YtpdpnlpepfgknafGreatDoor.formFault ats c
def Wd.formIs (w : Wd) (ats : List At) (c : List Int) : Bool := if w.formFault ats c = 0 then valF (w.heldL ats) c else false
theorem wdForm_zero {w : Wd} {ats : List At} {c : List Int} : w.formFault ats c = 0 ↔ YtpdpnlpepfgknafGreatDoor.formFault ats c = 0 ∧ w.ok = true := by
  unfold Wd.formFault
  by_cases h : YtpdpnlpepfgknafGreatDoor.formFault ats c = 0
  · rw [if_pos h]
    by_cases h' : w.ok = true
    · rw [if_pos h']; exact ⟨fun _ => ⟨h, h'⟩, fun _ => rfl⟩
    · rw [if_neg h']; exact ⟨fun h => (by cases h), fun h => absurd h.2 h'⟩
  · rw [if_neg h]; exact ⟨fun h' => absurd h' h, fun h' => absurd h'.1 h⟩
/-- what is wrong with the opposite of a formula. -/
def negFault (ats : List At) (c : List Int) : Int := if formFault ats c = 0 then (if 19 < c.length then 4 else 0) else formFault ats c
end Go.Proofs.YtpdpnlpepfgknafGreatDoor

namespace Go.Proofs.YtpdpnlpepfgknafGreatDoor
open Go.RowKit

/-- a row of signs that is one formula over m atoms, of depth at most n. -/
def isFm (m : Nat) : Nat → List Int → Prop
  | 0, _ => False
  | n + 1, q => (∃ s : Int, 0 ≤ s ∧ s < m ∧ q = [s]) ∨ (∃ t, isFm m n t ∧ q = t ++ [12]) ∨ (∃ (s : Int) (a b : List Int), (s = 10 ∨ s = 11 ∨ s = 13) ∧ isFm m n a ∧ isFm m n b ∧ q = a ++ (b ++ [s]))
theorem isFm_mono {m n : Nat} : ∀ {k : Nat} {q : List Int}, n ≤ k → isFm m n q → isFm m k q := by
  induction n with
  | zero => intro k q _ h; exact h.elim
  | succ n ih =>
    intro k q hk h
    obtain ⟨j, rfl⟩ : ∃ j, k = j + 1 := ⟨k - 1, by omega⟩
    rcases h with ⟨s, h0, h4, e⟩ | ⟨t, ht, e⟩ | ⟨s, a, b, h5, ha, hb, e⟩
    · exact Or.inl ⟨s, h0, h4, e⟩
    · exact Or.inr (Or.inl ⟨t, ih (by omega) ht, e⟩)
    · exact Or.inr (Or.inr ⟨s, a, b, h5, ih (by omega) ha, ih (by omega) hb, e⟩)
/-- a row of right signs is as many formulas as it makes. -/
theorem treesF (m : Nat) (t : List Int) (ht : ∀ s ∈ t, signF m s = true) (ts : List (List Int)) (hts : ∀ q ∈ ts, ∃ n, isFm m n q) {n : Int} (h : cntF t ts.length = some n) :
    ∃ ts' : List (List Int), (ts'.length : Int) = n ∧ (∀ q ∈ ts', ∃ n, isFm m n q) ∧ ts'.flatten = ts.flatten ++ t := by
  induction t generalizing ts with
  | nil => simp [cntF] at h; exact ⟨ts, h, hts, by simp⟩
  | cons s l ih =>
    have hs := signF_iff.1 (ht s (by simp))
    have hl : ∀ x ∈ l, signF m x = true := fun x hx => ht x (by simp [hx])
    unfold cntF at h
    split at h
    · cases h
    · rename_i hn
      by_cases h2 : s = 10 ∨ s = 11 ∨ s = 13
      · have e : takesF s = 2 := by unfold takesF; rw [if_pos h2]
        rw [e] at h hn
        obtain ⟨ts0, a, b, rfl⟩ : ∃ ts0 a b, ts = ts0 ++ [a, b] := by
          rcases List.eq_nil_or_concat ts with rfl | ⟨x, y, rfl⟩
          · simp at hn
          · rcases List.eq_nil_or_concat x with rfl | ⟨x', z, rfl⟩
            · simp at hn
            · exact ⟨x', z, y, by simp⟩
        obtain ⟨ts', h1, h2', h3⟩ := ih hl (ts0 ++ [a ++ (b ++ [s])]) (by
          intro q hq
          rcases List.mem_append.1 hq with hq | hq
          · exact hts q (by simp [hq])
          · rw [List.mem_singleton.1 hq]
            obtain ⟨k, hk⟩ := hts a (by simp)
            obtain ⟨j, hj⟩ := hts b (by simp)
            exact ⟨k + j + 1, Or.inr (Or.inr ⟨s, a, b, h2, isFm_mono (by omega) hk, isFm_mono (by omega) hj, rfl⟩)⟩) (by rw [← h]; simp; congr 1; omega)
        exact ⟨ts', h1, h2', by rw [h3]; simp⟩
      by_cases h8 : s = 12
      · subst h8
        have e : takesF 12 = 1 := by decide
        rw [e] at h hn
        obtain ⟨ts0, a, rfl⟩ : ∃ ts0 a, ts = ts0 ++ [a] := by
          rcases List.eq_nil_or_concat ts with rfl | ⟨x, y, rfl⟩
          · simp at hn
          · exact ⟨x, y, by simp⟩
        obtain ⟨ts', h1, h2', h3⟩ := ih hl (ts0 ++ [a ++ [12]]) (by
          intro q hq
          rcases List.mem_append.1 hq with hq | hq
          · exact hts q (by simp [hq])
          · rw [List.mem_singleton.1 hq]
            obtain ⟨k, hk⟩ := hts a (by simp)
            exact ⟨k + 1, Or.inr (Or.inl ⟨a, hk, rfl⟩)⟩) (by rw [← h]; simp)
        exact ⟨ts', h1, h2', by rw [h3]; simp⟩
      · have e : takesF s = 0 := by unfold takesF; rw [if_neg h2, if_neg h8]
        rw [e] at h
        have hs' : 0 ≤ s ∧ s < m := hs.resolve_left (by simp [e])
        obtain ⟨ts', h1, h2', h3⟩ := ih hl (ts ++ [[s]]) (by
          intro q hq
          rcases List.mem_append.1 hq with hq | hq
          · exact hts q hq
          · rw [List.mem_singleton.1 hq]; exact ⟨1, Or.inl ⟨s, hs'.1, hs'.2, rfl⟩⟩) (by rw [← h]; simp)
        exact ⟨ts', h1, h2', by rw [h3]; simp⟩
/-- a right formula is one. -/
theorem treeF {m : Nat} {t : List Int} (hs : t.all (signF m) = true) (h : cntF t 0 = some 1) : ∃ n, isFm m n t := by
  obtain ⟨ts, h1, h2, h3⟩ := treesF m t (List.all_eq_true.1 hs) [] (by intro q hq; cases hq) h
  match ts, h1 with
  | [q], _ =>
    have e : q = t := by simpa using h3
    rw [← e]; exact h2 q (by simp)
  | [], h1 => simp at h1
  | _ :: _ :: _, h1 => simp at h1; omega
/-- one formula counts one. -/
theorem cnt_fm {m : Nat} (hm : m ≤ 6) (n : Nat) : ∀ q, isFm m n q → cntF q 0 = some 1 := by
  induction n with
  | zero => intro q h; exact h.elim
  | succ n ih =>
    intro q h
    rcases h with ⟨s, h0, h4, rfl⟩ | ⟨t, ht, rfl⟩ | ⟨s, a, b, h5, ha, hb, rfl⟩
    · have e : takesF s = 0 := takesF_low (by omega)
      simp [cntF, e]
    · exact cnt_no (ih t ht)
    · have e : takesF s = 2 := by unfold takesF; rw [if_pos h5]
      rw [cntF_append, ih a ha]
      show cntF (b ++ [s]) 1 = _
      rw [cntF_append, show cntF b 1 = some 2 from cntF_more b 0 1 (ih b hb)]
      simp [cntF, e]
def boolF (s : Int) (x y : Bool) : Bool := if s = 10 then x && y else if s = 11 then x || y else !x || y
theorem valF_leaf (held : List Bool) {s : Int} (h : s < 10) : valF held [s] = held.getD s.toNat false := by
  have e := takesF_low h
  have : pileF held [s] [] = [held.getD s.toNat false] := by
    show stepF held [] s = _
    unfold stepF
    rw [madeF_leaf held e]
    simp [restF]
  rw [valF, this]; rfl
theorem valF_two (held : List Bool) {s : Int} (h : s = 10 ∨ s = 11 ∨ s = 13) {a b : List Int} (ha : cntF a 0 = some 1) (hb : cntF b 0 = some 1) : valF held (a ++ (b ++ [s])) = boolF s (valF held a) (valF held b) := by
  have : pileF held (a ++ (b ++ [s])) [] = [boolF s (valF held a) (valF held b)] := by
    rw [pileF_append, pileF_one held ha, pileF_append, pileF_one held hb]
    rcases h with rfl | rfl | rfl <;> rfl
  rw [valF, this]; rfl
end Go.Proofs.YtpdpnlpepfgknafGreatDoor

namespace Go.Proofs.YtpdpnlpepfgknafGreatDoor
open Go.RowKit

/-- a cube over M atoms: members of atoms, by atoms, rising, each once. -/
def cubeOk (M : Nat) (c : List Int) : Prop := (∀ m ∈ c, 1 ≤ m.natAbs ∧ m.natAbs ≤ M) ∧ c.Pairwise (fun a b => a.natAbs < b.natAbs)
/-- an atom both ways. -/
def bothWays (c : List Int) : Bool := c.any (fun m => c.contains (-m))
def atomIn (c : List Int) (n : Int) : List Int := if c.contains n = true then [n] else if c.contains (-n) = true then [-n] else []
def joinC (c d : List Int) : List Int := [1, 2, 3, 4, 5, 6].flatMap (atomIn (c ++ d))
def putC (L : List (List Int)) (c : List Int) : List (List Int) := if L.contains c = true then L else L ++ [c]
def andS (c : List Int) (L : List (List Int)) (d : List Int) : List (List Int) := if bothWays (c ++ d) = true then L else putC L (joinC c d)
def andR (B : List (List Int)) (L : List (List Int)) (c : List Int) : List (List Int) := B.foldl (andS c) L
def andC (A B : List (List Int)) : List (List Int) := A.foldl (andR B) []
def orC (A B : List (List Int)) : List (List Int) := (A ++ B).foldl putC []
def turnC (c : List Int) : List (List Int) := c.map (fun m => [-m])
def capC (L : List (List Int)) : Option (List (List Int)) := if 40 < L.length then none else some L
def noC : List (List Int) → List (List Int) → Option (List (List Int))
  | [], out => some out
  | c :: l, out => (capC (andC out (turnC c))).bind (noC l)
def madeC (s : Int) (l : List (List (List Int))) : Option (List (List Int)) :=
  if s = 10 then capC (andC (l.getD 0 []) (l.getD 1 [])) else if s = 11 then capC (orC (l.getD 0 []) (l.getD 1 [])) else if s = 13 then (noC (l.getD 0 []) [[]]).bind (fun x => capC (orC x (l.getD 1 []))) else if s = 12 then noC (l.getD 0 []) [[]] else some [[s + 1]]
def restC (p : List (List (List Int))) (s : Int) : Nat := p.length - (takesF s).toNat
def stepC (p : List (List (List Int))) (s : Int) : Option (List (List (List Int))) := (madeC s (p.drop (restC p s))).map (fun x => p.take (restC p s) ++ [x])
def pileC : List Int → List (List (List Int)) → Option (List (List (List Int)))
  | [], p => some p
  | s :: l, p => (stepC p s).bind (pileC l)
/-- the cubes of a right row of signs; none: too many. -/
def cubesC (c : List Int) : Option (List (List Int)) := (pileC c []).map (fun p => p.getD 0 [])

/-! ### cubes stay cubes -/
theorem bothWays_iff {c : List Int} : bothWays c = true ↔ ∃ m, m ∈ c ∧ -m ∈ c := by
  unfold bothWays; simp [List.any_eq_true]
theorem bothWays_mem {c d : List Int} (h : ∀ m, m ∈ c ↔ m ∈ d) : bothWays c = bothWays d := by
  rw [Bool.eq_iff_iff, bothWays_iff, bothWays_iff]
  simp [h]
theorem cube_noway {M : Nat} {c : List Int} (h : cubeOk M c) : bothWays c = false := by
  rw [← Bool.not_eq_true, bothWays_iff]
  rintro ⟨m, h1, h2⟩
  have hr := h.1 m h1
  have key : ∀ l : List Int, l.Pairwise (fun a b => a.natAbs < b.natAbs) → ∀ x ∈ l, ∀ y ∈ l, x.natAbs = y.natAbs → x = y := by
    intro l hl
    induction hl with
    | nil => intro x hx; cases hx
    | cons hh _ ih =>
      intro x hx y hy e
      rcases List.mem_cons.1 hx with ex | hx'
      · rcases List.mem_cons.1 hy with ey | hy'
        · rw [ex, ey]
        · have := hh y hy'; rw [← ex] at this; omega
      · rcases List.mem_cons.1 hy with ey | hy'
        · have := hh x hx'; rw [← ey] at this; omega
        · exact ih x hx' y hy' e
  have := key c h.2 m h1 (-m) h2 (by simp)
  omega
theorem rising_len {M : Nat} : ∀ (c : List Int) (k : Nat), (∀ m ∈ c, k < m.natAbs ∧ m.natAbs ≤ M) → c.Pairwise (fun a b => a.natAbs < b.natAbs) → c.length + k ≤ M ∨ c = [] := by
  intro c
  induction c with
  | nil => intro k _ _; exact Or.inr rfl
  | cons m l ih =>
    intro k h hp
    have hm := h m (by simp)
    rw [List.pairwise_cons] at hp
    rcases ih m.natAbs (fun x hx => ⟨hp.1 x hx, (h x (by simp [hx])).2⟩) hp.2 with h1 | rfl
    · left; simp; omega
    · left; simp; omega
theorem cube_len {M : Nat} {c : List Int} (h : cubeOk M c) : c.length ≤ M := by
  rcases rising_len c 0 (fun m hm => ⟨by have := (h.1 m hm).1; omega, (h.1 m hm).2⟩) h.2 with h1 | rfl
  · omega
  · simp
theorem rising_ext : ∀ {c d : List Int}, c.Pairwise (fun a b => a.natAbs < b.natAbs) → d.Pairwise (fun a b => a.natAbs < b.natAbs) → (∀ m, m ∈ c ↔ m ∈ d) → c = d := by
  intro c
  induction c with
  | nil =>
    intro d _ _ h
    cases d with
    | nil => rfl
    | cons x l => have := (h x).2 (by simp); cases this
  | cons a l ih =>
    intro d hc hd h
    cases d with
    | nil => have := (h a).1 (by simp); cases this
    | cons b k =>
      rw [List.pairwise_cons] at hc hd
      have hab : a = b := by
        rcases List.mem_cons.1 ((h a).1 (by simp)) with e | e
        · exact e
        · rcases List.mem_cons.1 ((h b).2 (by simp)) with e' | e'
          · exact e'.symm
          · have h1 := hd.1 a e; have h2 := hc.1 b e'; omega
      subst hab
      rw [ih hc.2 hd.2 (fun m => ?_)]
      have hm := h m
      constructor
      · intro hml
        rcases List.mem_cons.1 (hm.1 (by simp [hml])) with rfl | e
        · have := hc.1 m hml; omega
        · exact e
      · intro hmk
        rcases List.mem_cons.1 (hm.2 (by simp [hmk])) with rfl | e
        · have := hd.1 m hmk; omega
        · exact e
theorem mem_joinC {c d : List Int} (hr : ∀ m ∈ c ++ d, 1 ≤ m.natAbs ∧ m.natAbs ≤ 6) (hb : bothWays (c ++ d) = false) (m : Int) : m ∈ joinC c d ↔ m ∈ c ++ d := by
  rw [← Bool.not_eq_true, bothWays_iff] at hb
  unfold joinC
  rw [List.mem_flatMap]
  constructor
  · rintro ⟨n, _, hn⟩
    unfold atomIn at hn
    split at hn
    · rename_i h; rw [List.mem_singleton.1 hn]; simpa using h
    · split at hn
      · rename_i h; rw [List.mem_singleton.1 hn]; simpa using h
      · cases hn
  · intro hm
    have h6 := hr m hm
    refine ⟨(m.natAbs : Int), ?_, ?_⟩
    · have : m.natAbs = 1 ∨ m.natAbs = 2 ∨ m.natAbs = 3 ∨ m.natAbs = 4 ∨ m.natAbs = 5 ∨ m.natAbs = 6 := by omega
      rcases this with e | e | e | e | e | e <;> rw [e] <;> simp
    · unfold atomIn
      rcases Int.natAbs_eq m with e | e
      · rw [← e, if_pos (by simpa using hm)]; simp
      · have e2 : (m.natAbs : Int) = -m := by omega
        rw [e2, if_neg, if_pos]
        · simp
        · simpa using hm
        · intro hc
          exact hb ⟨m, hm, by simpa using hc⟩
theorem join_ok {M : Nat} (hM : M ≤ 6) {c d : List Int} (hc : cubeOk M c) (hd : cubeOk M d) (hb : bothWays (c ++ d) = false) : cubeOk M (joinC c d) := by
  have hr : ∀ m ∈ c ++ d, 1 ≤ m.natAbs ∧ m.natAbs ≤ M := by
    intro m hm
    rcases List.mem_append.1 hm with h | h
    · exact hc.1 m h
    · exact hd.1 m h
  refine ⟨fun m hm => hr m ((mem_joinC (fun m h => by have := hr m h; omega) hb m).1 hm), ?_⟩
  unfold joinC
  have one : ∀ n x, x ∈ atomIn (c ++ d) n → x.natAbs = n.natAbs := by
    intro n x hx
    unfold atomIn at hx
    split at hx
    · rw [List.mem_singleton.1 hx]
    · split at hx
      · rw [List.mem_singleton.1 hx]; simp
      · cases hx
  rw [List.pairwise_flatMap]
  refine ⟨fun n _ => ?_, ?_⟩
  · unfold atomIn
    split
    · simp
    · split <;> simp
  · have : ([1, 2, 3, 4, 5, 6] : List Int).Pairwise (fun a b => a.natAbs < b.natAbs) := by decide
    refine this.imp ?_
    intro a b hab x hx y hy
    rw [one a x hx, one b y hy]; exact hab
/-- cubes, none twice. -/
def okL (M : Nat) (L : List (List Int)) : Prop := (∀ c ∈ L, cubeOk M c) ∧ L.Nodup
theorem put_ok {M : Nat} {L : List (List Int)} {c : List Int} (h : okL M L) (hc : cubeOk M c) : okL M (putC L c) := by
  unfold putC
  split
  · exact h
  · rename_i hn
    refine ⟨fun x hx => ?_, ?_⟩
    · rcases List.mem_append.1 hx with hx | hx
      · exact h.1 x hx
      · rw [List.mem_singleton.1 hx]; exact hc
    · rw [List.nodup_append]
      refine ⟨h.2, by simp, ?_⟩
      intro x hx y hy e
      rw [List.mem_singleton.1 hy] at e
      subst e
      exact hn (by simpa using hx)
theorem put_len (L : List (List Int)) (c : List Int) : L.length ≤ (putC L c).length ∧ (putC L c).length ≤ L.length + 1 := by
  unfold putC; split <;> simp
theorem andS_ok {M : Nat} (hM : M ≤ 6) {L : List (List Int)} {c d : List Int} (h : okL M L) (hc : cubeOk M c) (hd : cubeOk M d) : okL M (andS c L d) := by
  unfold andS
  split
  · exact h
  · rename_i hb
    exact put_ok h (join_ok hM hc hd (by simpa using hb))
theorem andS_len (L : List (List Int)) (c d : List Int) : L.length ≤ (andS c L d).length ∧ (andS c L d).length ≤ L.length + 1 := by
  unfold andS; split
  · simp
  · exact put_len _ _
theorem andR_ok {M : Nat} (hM : M ≤ 6) {B : List (List Int)} (hB : ∀ d ∈ B, cubeOk M d) : ∀ {L : List (List Int)} {c : List Int}, okL M L → cubeOk M c → okL M (andR B L c) := by
  induction B with
  | nil => intro L c h _; exact h
  | cons d l ih =>
    intro L c h hc
    exact ih (fun x hx => hB x (by simp [hx])) (andS_ok hM h hc (hB d (by simp))) hc
theorem andR_len (B : List (List Int)) : ∀ (L : List (List Int)) (c : List Int), L.length ≤ (andR B L c).length := by
  induction B with
  | nil => intro L c; exact Nat.le_refl _
  | cons d l ih => intro L c; exact Nat.le_trans (andS_len L c d).1 (ih _ c)
theorem andF_ok {M : Nat} (hM : M ≤ 6) {A B : List (List Int)} (hA : ∀ c ∈ A, cubeOk M c) (hB : ∀ d ∈ B, cubeOk M d) : ∀ {L : List (List Int)}, okL M L → okL M (A.foldl (andR B) L) := by
  induction A with
  | nil => intro L h; exact h
  | cons c l ih => intro L h; exact ih (fun x hx => hA x (by simp [hx])) (andR_ok hM hB h (hA c (by simp)))
theorem andF_len (A B : List (List Int)) : ∀ (L : List (List Int)), L.length ≤ (A.foldl (andR B) L).length := by
  induction A with
  | nil => intro L; exact Nat.le_refl _
  | cons c l ih => intro L; exact Nat.le_trans (andR_len B L c) (ih _)
theorem okL_nil (M : Nat) : okL M [] := ⟨fun c h => (by cases h), List.nodup_nil⟩
theorem and_ok {M : Nat} (hM : M ≤ 6) {A B : List (List Int)} (hA : ∀ c ∈ A, cubeOk M c) (hB : ∀ d ∈ B, cubeOk M d) : okL M (andC A B) := andF_ok hM hA hB (okL_nil M)
theorem putF_ok {M : Nat} {B : List (List Int)} (hB : ∀ d ∈ B, cubeOk M d) : ∀ {L : List (List Int)}, okL M L → okL M (B.foldl putC L) := by
  induction B with
  | nil => intro L h; exact h
  | cons c l ih => intro L h; exact ih (fun x hx => hB x (by simp [hx])) (put_ok h (hB c (by simp)))
theorem putF_len (B : List (List Int)) : ∀ (L : List (List Int)), L.length ≤ (B.foldl putC L).length ∧ (B.foldl putC L).length ≤ L.length + B.length := by
  induction B with
  | nil => intro L; simp
  | cons c l ih => intro L; have h1 := put_len L c; have h2 := ih (putC L c); simp only [List.foldl_cons, List.length_cons]; omega
theorem or_ok {M : Nat} {A B : List (List Int)} (hA : ∀ c ∈ A, cubeOk M c) (hB : ∀ d ∈ B, cubeOk M d) : okL M (orC A B) := by
  refine putF_ok (fun d hd => ?_) (okL_nil M)
  rcases List.mem_append.1 hd with h | h
  · exact hA d h
  · exact hB d h
/-- where none of the first is there twice, they are all there. -/
theorem putF_nodup : ∀ (A L : List (List Int)), (L ++ A).Nodup → A.foldl putC L = L ++ A := by
  intro A
  induction A with
  | nil => intro L _; simp
  | cons c l ih =>
    intro L h
    have hc : ¬ L.contains c = true := by
      intro hc
      rw [List.nodup_append] at h
      exact h.2.2 c (by simpa using hc) c (by simp) rfl
    show l.foldl putC (putC L c) = _
    rw [show putC L c = L ++ [c] by unfold putC; rw [if_neg hc], ih]
    · simp
    · simpa using h
theorem or_eq {A B : List (List Int)} (hA : A.Nodup) : orC A B = B.foldl putC A := by
  unfold orC
  rw [List.foldl_append, putF_nodup A [] (by simpa using hA)]
  simp
theorem turn_ok {M : Nat} {c : List Int} (h : cubeOk M c) : ∀ d ∈ turnC c, cubeOk M d := by
  intro d hd
  obtain ⟨m, hm, rfl⟩ := List.mem_map.1 hd
  exact ⟨fun x hx => by rw [List.mem_singleton.1 hx]; have := h.1 m hm; simpa using this, by simp⟩
theorem cap_some {L K : List (List Int)} (h : capC L = some K) : K = L ∧ L.length ≤ 40 := by
  unfold capC at h
  split at h
  · cases h
  · exact ⟨(Option.some.inj h).symm, by omega⟩
theorem okL_one (M : Nat) : okL M [[]] := ⟨fun c h => by rw [List.mem_singleton.1 h]; exact ⟨fun m hm => (by cases hm), List.Pairwise.nil⟩, by simp⟩
theorem no_ok {M : Nat} (hM : M ≤ 6) : ∀ (L out K : List (List Int)), (∀ c ∈ L, cubeOk M c) → okL M out → out.length ≤ 40 → noC L out = some K → okL M K ∧ K.length ≤ 40 := by
  intro L
  induction L with
  | nil => intro out K _ ho hl h; cases h; exact ⟨ho, hl⟩
  | cons c l ih =>
    intro out K hL ho hl h
    unfold noC at h
    cases he : capC (andC out (turnC c)) with
    | none => rw [he] at h; cases h
    | some x =>
      rw [he] at h
      obtain ⟨rfl, hx⟩ := cap_some he
      exact ih _ K (fun d hd => hL d (by simp [hd])) (and_ok hM ho.1 (turn_ok (hL c (by simp)))) hx h
/-! ### what they say -/
/-- does a member hold, where these atoms do? -/
def litC (held : List Bool) (m : Int) : Bool := held.getD (m.natAbs - 1) false == decide (0 < m)
def allC (held : List Bool) (c : List Int) : Bool := c.all (litC held)
def anyC (held : List Bool) (L : List (List Int)) : Bool := L.any (allC held)
theorem anyC_append (held : List Bool) (L K : List (List Int)) : anyC held (L ++ K) = (anyC held L || anyC held K) := by simp [anyC]
theorem any_put (held : List Bool) (L : List (List Int)) (c : List Int) : anyC held (putC L c) = (anyC held L || allC held c) := by
  unfold putC
  split
  · rename_i h
    have hm : c ∈ L := by simpa using h
    cases hc : allC held c with
    | false => simp
    | true =>
      simp only [Bool.or_true]
      exact List.any_eq_true.2 ⟨c, hm, hc⟩
  · simp [anyC]
theorem lit_neg (held : List Bool) {m : Int} (h : m ≠ 0) : litC held (-m) = !litC held m := by
  unfold litC
  rw [Int.natAbs_neg]
  have : decide (0 < -m) = !decide (0 < m) := by
    by_cases h1 : 0 < m
    · simp [h1]; omega
    · have h2 : 0 < -m := by omega
      simp [h1]; omega
  rw [this]
  cases held.getD (m.natAbs - 1) false <;> cases decide (0 < m) <;> rfl
theorem all_append (held : List Bool) (c d : List Int) : allC held (c ++ d) = (allC held c && allC held d) := by simp [allC]
theorem all_mem (held : List Bool) {c d : List Int} (h : ∀ m, m ∈ c ↔ m ∈ d) : allC held c = allC held d := by
  rw [Bool.eq_iff_iff]
  unfold allC
  rw [List.all_eq_true, List.all_eq_true]
  simp [h]
theorem any_andS (held : List Bool) {M : Nat} (hM : M ≤ 6) (L : List (List Int)) {c d : List Int} (hc : cubeOk M c) (hd : cubeOk M d) : anyC held (andS c L d) = (anyC held L || (allC held c && allC held d)) := by
  have hr : ∀ m ∈ c ++ d, 1 ≤ m.natAbs ∧ m.natAbs ≤ 6 := by
    intro m hm
    rcases List.mem_append.1 hm with h | h
    · have := hc.1 m h; omega
    · have := hd.1 m h; omega
  unfold andS
  split
  · rename_i hb
    obtain ⟨m, h1, h2⟩ := bothWays_iff.1 hb
    have : allC held (c ++ d) = false := by
      rw [← Bool.not_eq_true]
      intro hall
      have a1 := List.all_eq_true.1 hall m h1
      have a2 := List.all_eq_true.1 hall (-m) h2
      rw [lit_neg held (by have := hr m h1; omega), a1] at a2
      cases a2
    rw [← all_append, this]; simp
  · rename_i hb
    rw [any_put, ← all_append, all_mem held (mem_joinC hr (by simpa using hb))]
theorem any_andR (held : List Bool) {M : Nat} (hM : M ≤ 6) {c : List Int} (hc : cubeOk M c) : ∀ (B L : List (List Int)), (∀ d ∈ B, cubeOk M d) → anyC held (andR B L c) = (anyC held L || (allC held c && anyC held B)) := by
  intro B
  induction B with
  | nil => intro L _; simp [andR, anyC]
  | cons d l ih =>
    intro L hB
    have e : andR (d :: l) L c = andR l (andS c L d) c := rfl
    rw [e, ih _ (fun x hx => hB x (by simp [hx])), any_andS held hM L hc (hB d (by simp))]
    have : anyC held (d :: l) = (allC held d || anyC held l) := rfl
    rw [this]
    cases anyC held L <;> cases allC held c <;> cases allC held d <;> cases anyC held l <;> rfl
theorem any_and (held : List Bool) {M : Nat} (hM : M ≤ 6) {A B : List (List Int)} (hA : ∀ c ∈ A, cubeOk M c) (hB : ∀ d ∈ B, cubeOk M d) : anyC held (andC A B) = (anyC held A && anyC held B) := by
  have key : ∀ (A L : List (List Int)), (∀ c ∈ A, cubeOk M c) → anyC held (A.foldl (andR B) L) = (anyC held L || (anyC held A && anyC held B)) := by
    intro A
    induction A with
    | nil => intro L _; simp [anyC]
    | cons c l ih =>
      intro L hA
      show anyC held (l.foldl (andR B) (andR B L c)) = _
      rw [ih _ (fun x hx => hA x (by simp [hx])), any_andR held hM (hA c (by simp)) B L hB]
      have : anyC held (c :: l) = (allC held c || anyC held l) := rfl
      rw [this]
      cases anyC held L <;> cases allC held c <;> cases anyC held B <;> cases anyC held l <;> rfl
  unfold andC
  rw [key A [] hA]
  simp [anyC]
theorem any_putF (held : List Bool) : ∀ (B L : List (List Int)), anyC held (B.foldl putC L) = (anyC held L || anyC held B) := by
  intro B
  induction B with
  | nil => intro L; simp [anyC]
  | cons c l ih =>
    intro L
    show anyC held (l.foldl putC (putC L c)) = _
    rw [ih, any_put]
    have : anyC held (c :: l) = (allC held c || anyC held l) := rfl
    rw [this, Bool.or_assoc]
theorem any_or (held : List Bool) (A B : List (List Int)) : anyC held (orC A B) = (anyC held A || anyC held B) := by
  unfold orC
  rw [any_putF, anyC_append]
  simp [anyC]
theorem any_turn (held : List Bool) {c : List Int} (h : ∀ m ∈ c, m ≠ 0) : anyC held (turnC c) = !allC held c := by
  induction c with
  | nil => rfl
  | cons m l ih =>
    have e1 : anyC held (turnC (m :: l)) = (litC held (-m) || anyC held (turnC l)) := by
      simp [anyC, turnC, allC]
    have e2 : allC held (m :: l) = (litC held m && allC held l) := rfl
    rw [e1, e2, ih (fun x hx => h x (by simp [hx])), lit_neg held (h m (by simp))]
    cases litC held m <;> simp
theorem any_no (held : List Bool) {M : Nat} (hM : M ≤ 6) : ∀ (L out K : List (List Int)), (∀ c ∈ L, cubeOk M c) → (∀ c ∈ out, cubeOk M c) → noC L out = some K → anyC held K = (anyC held out && !anyC held L) := by
  intro L
  induction L with
  | nil => intro out K _ _ h; cases h; simp [anyC]
  | cons c l ih =>
    intro out K hL ho h
    unfold noC at h
    cases he : capC (andC out (turnC c)) with
    | none => rw [he] at h; cases h
    | some x =>
      rw [he] at h
      obtain ⟨rfl, hx⟩ := cap_some he
      have hc := hL c (by simp)
      rw [ih _ K (fun d hd => hL d (by simp [hd])) (and_ok hM ho (turn_ok hc)).1 h, any_and held hM ho (turn_ok hc), any_turn held (fun m hm => by have := hc.1 m hm; omega)]
      have : anyC held (c :: l) = (allC held c || anyC held l) := rfl
      rw [this]
      cases anyC held out <;> cases allC held c <;> cases anyC held l <;> rfl

/-! ### the pile -/
theorem pileC_append (a b : List Int) (p : List (List (List Int))) : pileC (a ++ b) p = (pileC a p).bind (pileC b) := by
  induction a generalizing p with
  | nil => rfl
  | cons s l ih =>
    show (stepC p s).bind (pileC (l ++ b)) = ((stepC p s).bind (pileC l)).bind (pileC b)
    cases stepC p s with
    | none => rfl
    | some q => exact ih q
theorem pileC_succ (t : List Int) (p : List (List (List Int))) {k : Nat} (h : k < t.length) : pileC (t.take (k + 1)) p = (pileC (t.take k) p).bind (fun q => stepC q (t.getD k 0)) := by
  rw [takeF_succ t h, pileC_append]
  congr 1
  funext q
  show (stepC q (t.getD k 0)).bind (pileC []) = _
  cases stepC q (t.getD k 0) <;> rfl
theorem pileC_none (t : List Int) (p : List (List (List Int))) (k : Nat) (h : pileC (t.take k) p = none) : pileC t p = none := by
  have : pileC (t.take k ++ t.drop k) p = none := by rw [pileC_append, h]; rfl
  rwa [List.take_append_drop] at this
/-- what lies on the pile: cubes, not too many, that say what the formulas say. -/
def okP (M : Nat) (p : List (List (List Int))) : Prop := ∀ L ∈ p, okL M L ∧ L.length ≤ 40
theorem cubes_made_ok {M : Nat} (hM : M ≤ 6) {s : Int} (hs : takesF s ≠ 0 ∨ (0 ≤ s ∧ s < M)) {l : List (List (List Int))} (hl : okP M l) {K : List (List Int)} (h : madeC s l = some K) : okL M K ∧ K.length ≤ 40 := by
  have h0 : ∀ i, okL M (l.getD i []) ∧ (l.getD i []).length ≤ 40 := by
    intro i
    rw [List.getD_eq_getElem?_getD]
    cases hi : l[i]? with
    | none => exact ⟨okL_nil M, by simp⟩
    | some x => exact hl x (List.mem_of_getElem? hi)
  unfold madeC at h
  split at h
  · obtain ⟨rfl, hk⟩ := cap_some h
    exact ⟨and_ok hM (h0 0).1.1 (h0 1).1.1, hk⟩
  split at h
  · obtain ⟨rfl, hk⟩ := cap_some h
    exact ⟨or_ok (h0 0).1.1 (h0 1).1.1, hk⟩
  split at h
  · cases he : noC (l.getD 0 []) [[]] with
    | none => rw [he] at h; cases h
    | some x =>
      rw [he] at h
      have hx := no_ok hM _ _ _ (h0 0).1.1 (okL_one M) (by simp) he
      obtain ⟨rfl, hk⟩ := cap_some h
      exact ⟨or_ok hx.1.1 (h0 1).1.1, hk⟩
  split at h
  · exact no_ok hM _ _ _ (h0 0).1.1 (okL_one M) (by simp) h
  · rename_i h1 h2 h3 h4
    have ht : takesF s = 0 := by unfold takesF; rw [if_neg (by omega), if_neg h4]
    have hs' := hs.resolve_left (by simp [ht])
    obtain rfl := Option.some.inj h
    refine ⟨⟨fun c hc => ?_, by simp⟩, by simp⟩
    rw [List.mem_singleton.1 hc]
    refine ⟨fun m hm => ?_, by simp⟩
    rw [List.mem_singleton.1 hm]; omega
theorem made_any (held : List Bool) {M : Nat} (hM : M ≤ 6) {s : Int} (hs : takesF s ≠ 0 ∨ (0 ≤ s ∧ s < M)) {l : List (List (List Int))} (hl : okP M l) {K : List (List Int)} (h : madeC s l = some K) : anyC held K = madeF held s (l.map (anyC held)) := by
  have h0 : ∀ i, ∀ c ∈ l.getD i [], cubeOk M c := by
    intro i
    rw [List.getD_eq_getElem?_getD]
    cases hi : l[i]? with
    | none => intro c hc; cases hc
    | some x => exact (hl x (List.mem_of_getElem? hi)).1.1
  have g : ∀ i, (l.map (anyC held)).getD i false = anyC held (l.getD i []) := by
    intro i
    rw [List.getD_eq_getElem?_getD, List.getD_eq_getElem?_getD, List.getElem?_map]
    cases l[i]? <;> rfl
  unfold madeC at h
  unfold madeF
  rw [g, g]
  split at h
  · rename_i e; subst e
    obtain ⟨rfl, hk⟩ := cap_some h
    rw [if_pos rfl]
    exact any_and held hM (h0 0) (h0 1)
  split at h
  · rename_i e; subst e
    obtain ⟨rfl, hk⟩ := cap_some h
    rw [if_neg (by decide), if_pos rfl]
    exact any_or held _ _
  split at h
  · rename_i e; subst e
    rw [if_neg (by decide), if_neg (by decide), if_pos rfl]
    cases he : noC (l.getD 0 []) [[]] with
    | none => rw [he] at h; cases h
    | some x =>
      rw [he] at h
      obtain ⟨rfl, hk⟩ := cap_some h
      rw [any_or, any_no held hM _ _ _ (h0 0) (okL_one M).1 he]
      simp [anyC, allC]
  split at h
  · rename_i e; subst e
    rw [if_neg (by decide), if_neg (by decide), if_neg (by decide), if_pos rfl]
    rw [any_no held hM _ _ _ (h0 0) (okL_one M).1 h]
    simp [anyC, allC]
  · rename_i h1 h2 h3 h4
    have ht : takesF s = 0 := by unfold takesF; rw [if_neg (by omega), if_neg h4]
    have hs' := hs.resolve_left (by simp [ht])
    obtain rfl := Option.some.inj h
    rw [if_neg h1, if_neg h2, if_neg h3, if_neg h4]
    have e1 : (s + 1).natAbs - 1 = s.toNat := by omega
    have e2 : decide (0 < s + 1) = true := by simp; omega
    simp [anyC, allC, litC, e1, e2]
theorem step_ok (held : List Bool) {M : Nat} (hM : M ≤ 6) {s : Int} (hs : takesF s ≠ 0 ∨ (0 ≤ s ∧ s < M)) {p q : List (List (List Int))} (hp : okP M p) (h : stepC p s = some q) : okP M q ∧ q.map (anyC held) = stepF held (p.map (anyC held)) s := by
  unfold stepC at h
  cases he : madeC s (p.drop (restC p s)) with
  | none => rw [he] at h; cases h
  | some K =>
    rw [he] at h
    obtain rfl := Option.some.inj h
    have hd : okP M (p.drop (restC p s)) := fun L hL => hp L (List.mem_of_mem_drop hL)
    refine ⟨fun L hL => ?_, ?_⟩
    · rcases List.mem_append.1 hL with hL | hL
      · exact hp L (List.mem_of_mem_take hL)
      · rw [List.mem_singleton.1 hL]; exact cubes_made_ok hM hs hd he
    · unfold stepF restF
      rw [List.map_append, List.length_map, ← List.map_take, ← List.map_drop]
      show _ ++ [anyC held K] = _
      rw [made_any held hM hs hd he]; rfl
theorem pile_ok (held : List Bool) {M : Nat} (hM : M ≤ 6) : ∀ (c : List Int) (p q : List (List (List Int))), c.all (signF M) = true → okP M p → pileC c p = some q → okP M q ∧ q.map (anyC held) = pileF held c (p.map (anyC held)) := by
  intro c
  induction c with
  | nil => intro p q _ hp h; cases h; exact ⟨hp, rfl⟩
  | cons s l ih =>
    intro p q hs hp h
    rw [List.all_cons, Bool.and_eq_true] at hs
    unfold pileC at h
    cases he : stepC p s with
    | none => rw [he] at h; cases h
    | some x =>
      rw [he] at h
      obtain ⟨h1, h2⟩ := step_ok held hM (signF_iff.1 hs.1) hp he
      obtain ⟨g1, g2⟩ := ih x q hs.2 h1 h
      refine ⟨g1, ?_⟩
      rw [g2, h2]; rfl
theorem stepC_length {p q : List (List (List Int))} {s : Int} (ht : takesF s ≤ p.length) (h : stepC p s = some q) : (q.length : Int) = p.length + 1 - takesF s := by
  have := takesF_range s
  unfold stepC at h
  cases he : madeC s (p.drop (restC p s)) with
  | none => rw [he] at h; cases h
  | some K =>
    rw [he] at h
    obtain rfl := Option.some.inj h
    simp [restC]
    omega
theorem pileC_length : ∀ (t : List Int) (p q : List (List (List Int))) {n : Int}, cntF t p.length = some n → pileC t p = some q → (q.length : Int) = n := by
  intro t
  induction t with
  | nil => intro p q n h hq; cases hq; simp [cntF] at h; exact h
  | cons s l ih =>
    intro p q n h hq
    unfold cntF at h
    split at h
    · cases h
    · rename_i hs
      unfold pileC at hq
      cases he : stepC p s with
      | none => rw [he] at hq; cases hq
      | some x =>
        rw [he] at hq
        refine ih x q ?_ hq
        rw [stepC_length (by omega) he]; exact h
/-- CUBES SAY WHAT THE FORMULA SAYS. -/
theorem cubes_say (held : List Bool) {ats : List At} {c : List Int} (hf : formFault ats c = 0) {L : List (List Int)} (h : cubesC c = some L) : okL ats.length L ∧ L.length ≤ 40 ∧ anyC held L = valF held c := by
  obtain ⟨⟨_, h6⟩, _, _, hs, hone⟩ := formFault_zero.1 hf
  unfold cubesC at h
  cases he : pileC c [] with
  | none => rw [he] at h; cases h
  | some q =>
    rw [he] at h
    obtain rfl := Option.some.inj h
    obtain ⟨h1, h2⟩ := pile_ok held h6 c [] q hs (fun L hL => by cases hL) he
    have hl := pileC_length c [] q hone he
    match q, hl with
    | [x], _ =>
      have := h1 x (by simp)
      refine ⟨this.1, this.2, ?_⟩
      show anyC held x = valF held c
      unfold valF
      have e : pileF held c [] = [anyC held x] := h2.symm
      rw [e]; rfl
    | [], h => simp at h
    | _ :: _ :: _, h => simp at h; omega
end Go.Proofs.YtpdpnlpepfgknafGreatDoor

namespace Go.Proofs.YtpdpnlpepfgknafGreatDoor
open Go.RowKit

theorem mem_compactUpTo (d : Array Int) : ∀ m, ∀ x, x ∈ Lib.compactUpTo d m ↔ ∃ j, j < m ∧ x = d[j]! := by
  intro m
  induction m with
  | zero => intro x; simp [Lib.compactUpTo]
  | succ m ih =>
    intro x
    rw [Lib.compactUpTo_succ, List.mem_append, ih]
    constructor
    · rintro (⟨j, hj, e⟩ | h)
      · exact ⟨j, by omega, e⟩
      · split at h
        · exact ⟨m, by omega, List.mem_singleton.1 h⟩
        · cases h
    · rintro ⟨j, hj, e⟩
      by_cases h : j < m
      · exact Or.inl ⟨j, h, e⟩
      · obtain rfl : j = m := by omega
        by_cases hk : Lib.keeps d j = true
        · right; rw [if_pos hk]; simp [e]
        · left
          have hk' : ¬ (j = 0 ∨ d[j]! ≠ d[j - 1]!) := by
            intro hh; apply hk; unfold Lib.keeps; exact decide_eq_true hh
          refine ⟨j - 1, by omega, ?_⟩
          rw [e]
          by_cases he : d[j]! = d[j - 1]!
          · exact he
          · exact absurd (Or.inr he) hk'
theorem rising_compactUpTo (d : Array Int) (n : Nat) (hs : ∀ i j, i < j → j < n → (d[i]!).natAbs ≤ (d[j]!).natAbs) (hw : ∀ i j, i < n → j < n → (d[i]!).natAbs = (d[j]!).natAbs → d[i]! = d[j]!) :
    ∀ m, m ≤ n → (Lib.compactUpTo d m).Pairwise (fun a b => a.natAbs < b.natAbs) := by
  intro m
  induction m with
  | zero => intro _; simp [Lib.compactUpTo]
  | succ m ih =>
    intro hm
    rw [Lib.compactUpTo_succ, List.pairwise_append]
    refine ⟨ih (by omega), by split <;> simp, ?_⟩
    intro x hx y hy
    split at hy
    · rename_i hk
      rw [List.mem_singleton.1 hy]
      obtain ⟨j, hj, rfl⟩ := (mem_compactUpTo d m x).1 hx
      have hk' : m = 0 ∨ d[m]! ≠ d[m - 1]! := of_decide_eq_true hk
      have h1 : d[m]! ≠ d[m - 1]! := hk'.resolve_left (by omega)
      have h2 := hs (m - 1) m (by omega) (by omega)
      have h3 : (d[j]!).natAbs ≤ (d[m - 1]!).natAbs := by
        by_cases e : j = m - 1
        · rw [e]; exact Nat.le_refl _
        · exact hs j (m - 1) (by omega) (by omega)
      have h4 : (d[m - 1]!).natAbs ≠ (d[m]!).natAbs := fun e => h1 (hw (m - 1) m (by omega) (by omega) e).symm
      omega
    · cases hy
/-- the order of members: by atoms. -/
def farC (m n : Int) : Int := Lib.compareInt m.natAbs n.natAbs
/-- what is left, sorted and each once. -/
theorem joined_is {M : Nat} (hM : M ≤ 6) {c d : List Int} (hc : cubeOk M c) (hd : cubeOk M d) {e : Array Int} (hp : e.toList.Perm (c ++ d)) (hs : ∀ i j, i < j → j < e.size → (e[i]!).natAbs ≤ (e[j]!).natAbs) :
    (∀ m, m ∈ Lib.compact e.toList ↔ m ∈ c ++ d) ∧ (bothWays (c ++ d) = false → Lib.compact e.toList = joinC c d) := by
  have hr : ∀ m ∈ c ++ d, 1 ≤ m.natAbs ∧ m.natAbs ≤ 6 := by
    intro m hm
    rcases List.mem_append.1 hm with h | h
    · have := hc.1 m h; omega
    · have := hd.1 m h; omega
  have h0 : Lib.compact e.toList = Lib.compactUpTo e e.size := by unfold Lib.compact; simp
  have hmem : ∀ m, m ∈ Lib.compact e.toList ↔ m ∈ c ++ d := by
    intro m
    rw [h0, mem_compactUpTo, ← hp.mem_iff, Array.mem_toList_iff]
    constructor
    · rintro ⟨j, hj, rfl⟩
      rw [getElem!_pos e j hj]; exact Array.getElem_mem hj
    · intro h
      obtain ⟨j, hj, rfl⟩ := Array.mem_iff_getElem.1 h
      exact ⟨j, hj, (getElem!_pos e j hj).symm⟩
  refine ⟨hmem, fun hb => ?_⟩
  have hin : ∀ i, i < e.size → e[i]! ∈ c ++ d := fun i hi => by
    rw [← hp.mem_iff, Array.mem_toList_iff, getElem!_pos e i hi]; exact Array.getElem_mem hi
  refine rising_ext ?_ (join_ok hM hc hd hb).2 (fun m => (hmem m).trans (mem_joinC hr hb m).symm)
  rw [h0]
  refine rising_compactUpTo e e.size hs (fun i j hi hj he => ?_) e.size (Nat.le_refl _)
  rw [← Bool.not_eq_true, bothWays_iff] at hb
  rcases Int.natAbs_eq_natAbs_iff.1 he with h | h
  · exact h
  · exact absurd ⟨_, hin j hj, by rw [← h]; exact hin i hi⟩ hb
/-- a cube more, as the program does it: unless an atom is there both ways, or it was there ahead. -/
theorem with_is {L : List (List Int)} {c d r : List Int} (h1 : ∀ m, m ∈ r ↔ m ∈ c ++ d) (h2 : bothWays (c ++ d) = false → r = joinC c d) :
    (if (bothWays r || L.contains r) = true then L else L ++ [r]) = andS c L d := by
  unfold andS
  rw [bothWays_mem h1]
  cases hb : bothWays (c ++ d) with
  | true => simp
  | false =>
    rw [h2 hb]
    unfold putC
    simp
end Go.Proofs.YtpdpnlpepfgknafGreatDoor

namespace Go.Proofs.YtpdpnlpepfgknafGreatDoor
open Go.ChangeShapes Go.WideShapes Go.ChangeAt Go.RowKit
set_option maxRecDepth 100000

set_option maxHeartbeats 2000000 in
theorem idx1 (n b off cap P g : Nat) (us : Nat → Int) (p : Nat → Bool) (w : World) (hl : n ≤ 9223372036854775807) (hB : b < w.heap.size) (hc : ∀ k, k < n → w.cell? ⟨b, off + k, none⟩ = some (.int .i64 (us k)))
    (eg : ∀ args w, (callFunc g args).run Tryz.prog w = .ok (.enter g args) w)
    (hp : ∀ W k, Below w.heap.size w W → k < n → Calls Tryz.prog g #[.int .i64 (us k), .pointer (some ⟨P, 0, none⟩)] W fun e w' => e = .returned (.bool (p k)) ∧ Below W.heap.size W w') :
    Calls Tryz.prog 82 #[.slice (some ⟨b, off, none⟩) n cap, .func (.func g) #[] #[.pointer (some ⟨P, 0, none⟩)]] w fun e w' => (∃ r : Int, e = .returned (.int .i64 r) ∧ (0 ≤ r ↔ ∃ k, k < n ∧ p k = true)) ∧ Below w.heap.size w w' := by
  have HC : Hid (∀ W k, Below w.heap.size w W → k < n → W.cell? ⟨b, off + k, none⟩ = some (.int .i64 (us k))) := fun W k hW hk => by rw [hW.cell (show (⟨b, off + k, none⟩ : Addr).block < w.heap.size from hB)]; exact hc k hk
  have HP : Hid (∀ W k, Below w.heap.size w W → k < n → Calls Tryz.prog g #[.int .i64 (us k), .pointer (some ⟨P, 0, none⟩)] W fun e w' => e = .returned (.bool (p k)) ∧ Below W.heap.size W w') := hp
  clear hc hp hB
  go_enter Tryz.func82, Tryz.ntmps82
  go_wp2
  go_loopw [5, 8] (fun _ i wr => ∃ k : Nat, k ≤ n ∧ i = .int .i64 k ∧ Below w.heap.size w wr ∧ Hid (∀ j, j < k → p j = false)) (fun _ i _ => n - (intOf i).toNat)
  case atStart => exact ⟨0, Nat.zero_le _, rfl, Below.refl _ _, fun j hj => absurd hj (Nat.not_lt_zero _)⟩
  case round =>
    obtain ⟨k, hk, rfl, hb0, A⟩ := hrel
    have HB : Hid (Below w.heap.size w wr) := hb0
    clear hb0
    by_cases hlt : k < n
    · have hcell := HC.out wr k HB.out hlt
      have hcall := HP.out wr k HB.out hlt
      obtain ⟨x, hx⟩ : ∃ x, x = us k := ⟨_, rfl⟩
      rw [← hx] at hcell hcall
      clear hx
      have hltz : (k : Int) < (n : Int) := by omega
      cases hq : p k with
      | true =>
        rw [hq] at hcall
        have HQ : Hid (p k = true) := hq
        have HCl : Hid (Calls Tryz.prog g #[.int .i64 (x), .pointer (some ⟨P, 0, none⟩)] wr fun e w' => e = .returned (.bool true) ∧ Below wr.heap.size wr w') := hcall
        clear hcall hq
        go_wp2_with (go_at_fn g; refine HCl.out.mono ?_; rintro e w' ⟨rfl, hb'⟩; have HB' : Hid (Below w.heap.size w w') := HB.out.trans (hb'.mono HB.out.size); clear hb')
        go_ret
        exact ⟨⟨_, rfl, fun _ => ⟨k, hlt, HQ.out⟩, fun _ => by omega⟩, HB'.out⟩
      | false =>
        rw [hq] at hcall
        have HQ : Hid (p k = false) := hq
        have HCl : Hid (Calls Tryz.prog g #[.int .i64 (x), .pointer (some ⟨P, 0, none⟩)] wr fun e w' => e = .returned (.bool false) ∧ Below wr.heap.size wr w') := hcall
        clear hcall hq
        go_wp2_with (go_at_fn g; refine HCl.out.mono ?_; rintro e w' ⟨rfl, hb'⟩; have HB' : Hid (Below w.heap.size w w') := HB.out.trans (hb'.mono HB.out.size); clear hb')
        go_roundw
        case rel =>
          refine ⟨k + 1, by omega, by go_num, HB'.out, fun j hj => ?_⟩
          by_cases e : j = k
          · rw [e]; exact HQ.out
          · exact A.out j (by omega)
        case measure => simp [intOf]; omega
    · have hltz : ¬ (k : Int) < (n : Int) := by omega
      go_wp2
      go_ret
      refine ⟨⟨_, rfl, fun h => absurd h (by decide), fun ⟨j, hj, hpj⟩ => ?_⟩, HB.out⟩
      rw [A.out j (by omega)] at hpj; cases hpj

set_option maxHeartbeats 2000000 in
theorem any1 (n b off cap P g : Nat) (us : Nat → Int) (p : Nat → Bool) (w : World) (hl : n ≤ 9223372036854775807) (hB : b < w.heap.size) (hc : ∀ k, k < n → w.cell? ⟨b, off + k, none⟩ = some (.int .i64 (us k)))
    (eg : ∀ args w, (callFunc g args).run Tryz.prog w = .ok (.enter g args) w)
    (hp : ∀ W k, Below w.heap.size w W → k < n → Calls Tryz.prog g #[.int .i64 (us k), .pointer (some ⟨P, 0, none⟩)] W fun e w' => e = .returned (.bool (p k)) ∧ Below W.heap.size W w') (R : Bool) (hR : R = true ↔ ∃ k, k < n ∧ p k = true) :
    Calls Tryz.prog 56 #[.slice (some ⟨b, off, none⟩) n cap, .func (.func g) #[] #[.pointer (some ⟨P, 0, none⟩)]] w fun e w' => e = .returned (.bool R) ∧ Below w.heap.size w w' := by
  have c := idx1 n b off cap P g us p w hl hB hc eg hp
  clear hc hp eg hB hl
  go_enter Tryz.func56, Tryz.ntmps56
  go_wp2_with fail
  go_at_call 82
  refine c.mono ?_
  rintro e w' ⟨⟨r, rfl, hr⟩, hb⟩
  have HB : Hid (Below w.heap.size w w') := hb
  have HR : Hid (R = decide (0 ≤ r)) := by
    unfold Hid
    rw [Bool.eq_iff_iff, hR, decide_eq_true_eq, hr]
  clear hb hr hR c
  go_wp2
  go_ret
  exact ⟨back_b HR.out.symm, HB.out⟩
theorem none1 (a : Option Addr) (cap : Nat) (fv : Value) (w : World) :
    Calls Tryz.prog 56 #[.slice a 0 cap, fv] w fun e w' => e = .returned (.bool false) ∧ Below w.heap.size w w' := by
  have c : Calls Tryz.prog 82 #[.slice a 0 cap, fv] w fun e w' => e = .returned (.int .i64 (-1)) ∧ w = w' := by
    go_enter Tryz.func82, Tryz.ntmps82
    go_wp2
    go_loopw [5, 8] (fun _ i wr => i = .int .i64 0 ∧ w = wr) (fun _ _ _ => 0)
    case atStart => exact ⟨rfl, rfl⟩
    case round =>
      obtain ⟨rfl, rfl⟩ := hrel
      go_wp2
      go_ret
      exact ⟨rfl, rfl⟩
  go_enter Tryz.func56, Tryz.ntmps56
  go_wp2_with (go_at_call 82; refine c.mono ?_; rintro e w' ⟨rfl, rfl⟩)
  go_ret
  exact ⟨rfl, Below.refl _ _⟩

set_option maxHeartbeats 2000000 in
theorem idx2 (n b off cap P g : Nat) (us : Nat → Value) (p : Nat → Bool) (w : World) (hl : n ≤ 9223372036854775807) (hB : b < w.heap.size) (hc : ∀ k, k < n → w.cell? ⟨b, off + k, none⟩ = some (us k))
    (eg : ∀ args w, (callFunc g args).run Tryz.prog w = .ok (.enter g args) w)
    (hp : ∀ W k, Below w.heap.size w W → k < n → Calls Tryz.prog g #[us k, .pointer (some ⟨P, 0, none⟩)] W fun e w' => e = .returned (.bool (p k)) ∧ Below W.heap.size W w') :
    Calls Tryz.prog 118 #[.slice (some ⟨b, off, none⟩) n cap, .func (.func g) #[] #[.pointer (some ⟨P, 0, none⟩)]] w fun e w' => (∃ r : Int, e = .returned (.int .i64 r) ∧ (0 ≤ r ↔ ∃ k, k < n ∧ p k = true)) ∧ Below w.heap.size w w' := by
  have HC : Hid (∀ W k, Below w.heap.size w W → k < n → W.cell? ⟨b, off + k, none⟩ = some (us k)) := fun W k hW hk => by rw [hW.cell (show (⟨b, off + k, none⟩ : Addr).block < w.heap.size from hB)]; exact hc k hk
  have HP : Hid (∀ W k, Below w.heap.size w W → k < n → Calls Tryz.prog g #[us k, .pointer (some ⟨P, 0, none⟩)] W fun e w' => e = .returned (.bool (p k)) ∧ Below W.heap.size W w') := hp
  clear hc hp hB
  go_enter Tryz.func118, Tryz.ntmps118
  go_wp2
  go_loopw [5, 8] (fun _ i wr => ∃ k : Nat, k ≤ n ∧ i = .int .i64 k ∧ Below w.heap.size w wr ∧ Hid (∀ j, j < k → p j = false)) (fun _ i _ => n - (intOf i).toNat)
  case atStart => exact ⟨0, Nat.zero_le _, rfl, Below.refl _ _, fun j hj => absurd hj (Nat.not_lt_zero _)⟩
  case round =>
    obtain ⟨k, hk, rfl, hb0, A⟩ := hrel
    have HB : Hid (Below w.heap.size w wr) := hb0
    clear hb0
    by_cases hlt : k < n
    · have hcell := HC.out wr k HB.out hlt
      have hcall := HP.out wr k HB.out hlt
      obtain ⟨x, hx⟩ : ∃ x, x = us k := ⟨_, rfl⟩
      rw [← hx] at hcell hcall
      clear hx
      have hltz : (k : Int) < (n : Int) := by omega
      cases hq : p k with
      | true =>
        rw [hq] at hcall
        have HQ : Hid (p k = true) := hq
        have HCl : Hid (Calls Tryz.prog g #[x, .pointer (some ⟨P, 0, none⟩)] wr fun e w' => e = .returned (.bool true) ∧ Below wr.heap.size wr w') := hcall
        clear hcall hq
        go_wp2_with (go_at_fn g; refine HCl.out.mono ?_; rintro e w' ⟨rfl, hb'⟩; have HB' : Hid (Below w.heap.size w w') := HB.out.trans (hb'.mono HB.out.size); clear hb')
        go_ret
        exact ⟨⟨_, rfl, fun _ => ⟨k, hlt, HQ.out⟩, fun _ => by omega⟩, HB'.out⟩
      | false =>
        rw [hq] at hcall
        have HQ : Hid (p k = false) := hq
        have HCl : Hid (Calls Tryz.prog g #[x, .pointer (some ⟨P, 0, none⟩)] wr fun e w' => e = .returned (.bool false) ∧ Below wr.heap.size wr w') := hcall
        clear hcall hq
        go_wp2_with (go_at_fn g; refine HCl.out.mono ?_; rintro e w' ⟨rfl, hb'⟩; have HB' : Hid (Below w.heap.size w w') := HB.out.trans (hb'.mono HB.out.size); clear hb')
        go_roundw
        case rel =>
          refine ⟨k + 1, by omega, by go_num, HB'.out, fun j hj => ?_⟩
          by_cases e : j = k
          · rw [e]; exact HQ.out
          · exact A.out j (by omega)
        case measure => simp [intOf]; omega
    · have hltz : ¬ (k : Int) < (n : Int) := by omega
      go_wp2
      go_ret
      refine ⟨⟨_, rfl, fun h => absurd h (by decide), fun ⟨j, hj, hpj⟩ => ?_⟩, HB.out⟩
      rw [A.out j (by omega)] at hpj; cases hpj

set_option maxHeartbeats 2000000 in
theorem any2 (n b off cap P g : Nat) (us : Nat → Value) (p : Nat → Bool) (w : World) (hl : n ≤ 9223372036854775807) (hB : b < w.heap.size) (hc : ∀ k, k < n → w.cell? ⟨b, off + k, none⟩ = some (us k))
    (eg : ∀ args w, (callFunc g args).run Tryz.prog w = .ok (.enter g args) w)
    (hp : ∀ W k, Below w.heap.size w W → k < n → Calls Tryz.prog g #[us k, .pointer (some ⟨P, 0, none⟩)] W fun e w' => e = .returned (.bool (p k)) ∧ Below W.heap.size W w') (R : Bool) (hR : R = true ↔ ∃ k, k < n ∧ p k = true) :
    Calls Tryz.prog 110 #[.slice (some ⟨b, off, none⟩) n cap, .func (.func g) #[] #[.pointer (some ⟨P, 0, none⟩)]] w fun e w' => e = .returned (.bool R) ∧ Below w.heap.size w w' := by
  have c := idx2 n b off cap P g us p w hl hB hc eg hp
  clear hc hp eg hB hl
  go_enter Tryz.func110, Tryz.ntmps110
  go_wp2_with fail
  go_at_call 118
  refine c.mono ?_
  rintro e w' ⟨⟨r, rfl, hr⟩, hb⟩
  have HB : Hid (Below w.heap.size w w') := hb
  have HR : Hid (R = decide (0 ≤ r)) := by
    unfold Hid
    rw [Bool.eq_iff_iff, hR, decide_eq_true_eq, hr]
  clear hb hr hR c
  go_wp2
  go_ret
  exact ⟨back_b HR.out.symm, HB.out⟩
theorem none2 (a : Option Addr) (cap : Nat) (fv : Value) (w : World) :
    Calls Tryz.prog 110 #[.slice a 0 cap, fv] w fun e w' => e = .returned (.bool false) ∧ Below w.heap.size w w' := by
  have c : Calls Tryz.prog 118 #[.slice a 0 cap, fv] w fun e w' => e = .returned (.int .i64 (-1)) ∧ w = w' := by
    go_enter Tryz.func118, Tryz.ntmps118
    go_wp2
    go_loopw [5, 8] (fun _ i wr => i = .int .i64 0 ∧ w = wr) (fun _ _ _ => 0)
    case atStart => exact ⟨rfl, rfl⟩
    case round =>
      obtain ⟨rfl, rfl⟩ := hrel
      go_wp2
      go_ret
      exact ⟨rfl, rfl⟩
  go_enter Tryz.func110, Tryz.ntmps110
  go_wp2_with (go_at_call 118; refine c.mono ?_; rintro e w' ⟨rfl, rfl⟩)
  go_ret
  exact ⟨rfl, Below.refl _ _⟩

/-- slices.ContainsFunc of numbers. -/
theorem anyI (t : List Int) (v : Value) (P g : Nat) (p : Int → Bool) (w : World) (hv : Reads w v t) (eg : ∀ args w, (callFunc g args).run Tryz.prog w = .ok (.enter g args) w)
    (hp : ∀ W m, Below w.heap.size w W → m ∈ t → Calls Tryz.prog g #[.int .i64 m, .pointer (some ⟨P, 0, none⟩)] W fun e w' => e = .returned (.bool (p m)) ∧ Below W.heap.size W w') :
    Calls Tryz.prog 56 #[v, .func (.func g) #[] #[.pointer (some ⟨P, 0, none⟩)]] w fun e w' => e = .returned (.bool (t.any p)) ∧ Below w.heap.size w w' := by
  rcases hv with ⟨ao, cap, rfl, rfl⟩ | ⟨b, off, cap, rfl, hB, h0, ⟨hl, _⟩, hc⟩
  · exact none1 ao cap _ w
  · refine any1 t.length b off cap P g (fun k => t.getD k 0) (fun k => p (t.getD k 0)) w hl hB hc eg (fun W k hW hk => hp W _ hW ?_) _ ?_
    · rw [List.getD_eq_getElem?_getD, List.getElem?_eq_getElem hk]; exact List.getElem_mem hk
    · rw [List.any_eq_true]
      constructor
      · rintro ⟨m, hm, hpm⟩
        obtain ⟨k, hk, rfl⟩ := List.getElem_of_mem hm
        exact ⟨k, hk, by rw [List.getD_eq_getElem?_getD, List.getElem?_eq_getElem hk]; exact hpm⟩
      · rintro ⟨k, hk, hpk⟩
        rw [List.getD_eq_getElem?_getD, List.getElem?_eq_getElem hk] at hpk
        exact ⟨t[k], List.getElem_mem hk, hpk⟩
/-- slices.ContainsFunc of rows. -/
theorem anyL (S : Nat → Prop) (L : List (List Int)) (v : Value) (P g : Nat) (p : List Int → Bool) (w : World) (hv : RS2 S w v L) (eg : ∀ args w, (callFunc g args).run Tryz.prog w = .ok (.enter g args) w)
    (hp : ∀ W u t, Below w.heap.size w W → t ∈ L → Reads W u t → Calls Tryz.prog g #[u, .pointer (some ⟨P, 0, none⟩)] W fun e w' => e = .returned (.bool (p t)) ∧ Below W.heap.size W w') :
    Calls Tryz.prog 110 #[v, .func (.func g) #[] #[.pointer (some ⟨P, 0, none⟩)]] w fun e w' => e = .returned (.bool (L.any p)) ∧ Below w.heap.size w w' := by
  rcases hv with ⟨ao, cap, rfl, rfl⟩ | ⟨b, off, cap, rfl, ⟨_, hB⟩, h0, ⟨hl, _⟩, hc⟩
  · exact none2 ao cap _ w
  · have key : ∀ k, k < L.length → ∃ u, w.cell? ⟨b, off + k, none⟩ = some u ∧ Reads w u (L.getD k []) := fun k hk => by
      obtain ⟨u, hu, hr⟩ := hc k _ (List.getElem?_eq_getElem hk)
      exact ⟨u, hu, by rw [List.getD_eq_getElem?_getD, List.getElem?_eq_getElem hk]; exact hr.reads⟩
    refine any2 L.length b off cap P g (fun k => (w.cell? ⟨b, off + k, none⟩).getD (.int .i64 0)) (fun k => p (L.getD k [])) w hl hB (fun k hk => ?_) eg (fun W k hW hk => ?_) _ ?_
    · obtain ⟨u, hu, _⟩ := key k hk
      rw [hu]; rfl
    · obtain ⟨u, hu, hr⟩ := key k hk
      rw [hu]
      refine hp W u _ hW ?_ (hr.below hW)
      rw [List.getD_eq_getElem?_getD, List.getElem?_eq_getElem hk]; exact List.getElem_mem hk
    · rw [List.any_eq_true]
      constructor
      · rintro ⟨m, hm, hpm⟩
        obtain ⟨k, hk, rfl⟩ := List.getElem_of_mem hm
        exact ⟨k, hk, by rw [List.getD_eq_getElem?_getD, List.getElem?_eq_getElem hk]; exact hpm⟩
      · rintro ⟨k, hk, hpk⟩
        rw [List.getD_eq_getElem?_getD, List.getElem?_eq_getElem hk] at hpk
        exact ⟨L[k], List.getElem_mem hk, hpk⟩

set_option maxHeartbeats 2000000 in
theorem hasI (t : List Int) (v : Value) (x : Int) (w : World) (hv : Reads w v t) :
    Calls Tryz.prog 107 #[v, .int .i64 x] w fun e w' => e = .returned (.bool (t.contains x)) ∧ w = w' := by
  have c : Calls Tryz.prog 117 #[v, .int .i64 x] w fun e w' => (∃ r : Int, e = .returned (.int .i64 r) ∧ (0 ≤ r ↔ x ∈ t)) ∧ w = w' := by
    rcases hv with ⟨ao, cap, rfl, rfl⟩ | ⟨b, off, cap, rfl, hB, h0, ⟨hl, _⟩, hc⟩
    · go_enter Tryz.func117, Tryz.ntmps117
      go_wp2
      go_loop [5, 8] (fun _ i => i = .int .i64 0) (fun _ _ => 0)
      case atStart => rfl
      case round =>
        subst hrel
        go_wp2
        go_ret
        first | exact ⟨⟨_, rfl, by decide⟩, rfl⟩ | exact ⟨⟨_, rfl, by simp⟩, rfl⟩
    · have HC : Hid (∀ k, k < t.length → w.cell? ⟨b, off + k, none⟩ = some (.int .i64 (t.getD k 0))) := hc
      clear hc
      obtain ⟨n, hn⟩ : ∃ n, n = t.length := ⟨_, rfl⟩
      rw [← hn] at hl ⊢
      have HN : Hid (n = t.length) := hn
      clear hn h0 hB
      go_enter Tryz.func117, Tryz.ntmps117
      go_wp2
      go_loop [5, 8] (fun _ i => ∃ k : Nat, k ≤ n ∧ i = .int .i64 k ∧ Hid (∀ j, j < k → t.getD j 0 ≠ x)) (fun _ i => n - (intOf i).toNat)
      case atStart => exact ⟨0, Nat.zero_le _, rfl, fun j hj => absurd hj (Nat.not_lt_zero _)⟩
      case round =>
        obtain ⟨k, hk, rfl, A⟩ := hrel
        by_cases hlt : k < n
        · have hkt : k < t.length := by rw [← HN.out]; exact hlt
          have hcell := HC.out k hkt
          obtain ⟨y, hy⟩ : ∃ y, y = t.getD k 0 := ⟨_, rfl⟩
          have HY : Hid (y = t.getD k 0 ∧ y ∈ t) := ⟨hy, by rw [hy, List.getD_eq_getElem?_getD, List.getElem?_eq_getElem hkt]; exact List.getElem_mem hkt⟩
          rw [← hy] at hcell
          clear hy hkt
          have hltz : (k : Int) < (n : Int) := by omega
          by_cases hxy : x = y
          · have hb : (x == y) = true := by simpa using hxy
            have HX : Hid (x ∈ t) := by unfold Hid; rw [hxy]; exact HY.out.2
            clear hxy
            go_wp2
            go_ret
            exact ⟨⟨_, rfl, fun _ => HX.out, fun _ => by omega⟩, rfl⟩
          · have hb : (x == y) = false := by simpa using hxy
            have HX : Hid (t.getD k 0 ≠ x) := fun h => hxy (by rw [HY.out.1, h])
            clear hxy
            go_wp2
            go_round
            case rel =>
              refine ⟨k + 1, by omega, by go_num, fun j hj => ?_⟩
              by_cases e : j = k
              · rw [e]; exact HX.out
              · exact A.out j (by omega)
            case measure => simp [intOf]; omega
        · have hltz : ¬ (k : Int) < (n : Int) := by omega
          go_wp2
          go_ret
          refine ⟨⟨_, rfl, fun h => absurd h (by decide), fun h => ?_⟩, rfl⟩
          obtain ⟨j, hj, rfl⟩ := List.getElem_of_mem h
          exact absurd (by rw [List.getD_eq_getElem?_getD, List.getElem?_eq_getElem hj]; rfl) (A.out j (by have := HN.out; omega))
  clear hv
  go_enter Tryz.func107, Tryz.ntmps107
  go_wp2_with fail
  go_at_call 117
  refine c.mono ?_
  rintro e w' ⟨⟨r, rfl, hr⟩, rfl⟩
  have HR : Hid (t.contains x = decide (0 ≤ r)) := by
    unfold Hid
    rw [Bool.eq_iff_iff, decide_eq_true_eq, hr]; simp
  clear hr c
  go_wp2
  go_ret
  exact ⟨back_b HR.out.symm, rfl⟩
end Go.Proofs.YtpdpnlpepfgknafGreatDoor

namespace Go.Proofs.YtpdpnlpepfgknafGreatDoor
open Go.ChangeShapes Go.WideShapes Go.ChangeAt Go.RowKit

theorem ret_int {k : IntKind} {a b : Int} (h : a = b) : Ending.returned (.int k a) = .returned (.int k b) := by rw [h]

theorem all_any (u : Int) (h0 : 0 ≤ u) (h1 : u ≤ 6) (w : World) :
    Calls Tryz.prog 65 #[.int .i64 u] w fun e w' => e = .returned (.int .i64 (allN u)) ∧ w = w' := by
  rcases seven h0 h1 with rfl | rfl | rfl | rfl | rfl | rfl | rfl
  all_goals
    go_enter Tryz.func65, Tryz.ntmps65
    go_wp2
    go_ret
    exact ⟨rfl, rfl⟩

theorem check_ok (u s : Int) (h : okB u s = true) (w : World) :
    Calls Tryz.prog 37 #[.int .i64 u, .int .i64 s] w fun e w' => e = .returned .nilIface ∧ w = w' := by
  obtain ⟨h0, h1, h2, h3⟩ := okB_iff.1 h
  clear h
  go_enter Tryz.func37, Tryz.ntmps37
  go_wp2_with (go_at_call 65; refine (all_any _ h0 h1 _).mono ?_; rintro e w' ⟨rfl, rfl⟩)
  go_ret
  exact ⟨rfl, rfl⟩

theorem check_no (u s : Int) (h : okB u s = false) (w : World) :
    Calls Tryz.prog 37 #[.int .i64 u, .int .i64 s] w fun e w' => e = .returned (.iface 61 (.int .i64 1)) ∧ w = w' := by
  have h' := okB_not.1 h
  clear h
  by_cases h0 : u < 0
  · clear h'
    go_enter Tryz.func37, Tryz.ntmps37
    go_wp2_with fail
    go_ret
    exact ⟨rfl, rfl⟩
  by_cases h1 : 6 < u
  · clear h'
    go_enter Tryz.func37, Tryz.ntmps37
    go_wp2_with fail
    go_ret
    exact ⟨rfl, rfl⟩
  by_cases h2 : s < 0
  · clear h'
    go_enter Tryz.func37, Tryz.ntmps37
    go_wp2_with fail
    go_ret
    exact ⟨rfl, rfl⟩
  have h3 : allN u < s := by omega
  have h0' : 0 ≤ u := by omega
  have h1' : u ≤ 6 := by omega
  clear h'
  go_enter Tryz.func37, Tryz.ntmps37
  go_wp2_with (go_at_call 65; refine (all_any _ h0' h1' _).mono ?_; rintro e w' ⟨rfl, rfl⟩)
  go_ret
  exact ⟨rfl, rfl⟩

theorem ret_two {k : IntKind} {a b : Int} {v : Value} (h : a = b) : Ending.returned (.tuple #[.int k a, v]) = .returned (.tuple #[.int k b, v]) := by rw [h]

theorem do_ok (what u a b : Int) (hl : 5 ≤ what) (hm : what ≤ 8) (ha : okB u a = true) (hb : okB u b = true) (w : World) :
    Calls Tryz.prog 91 #[.int .i64 what, .int .i64 u, .int .i64 a, .int .i64 b] w fun e w' => e = .returned (.tuple #[.int .i64 (doN what u a b), .nilIface]) ∧ w = w' := by
  obtain ⟨u0, u1, a0, a1⟩ := okB_lt ha
  obtain ⟨_, _, b0, b1⟩ := okB_lt hb
  have hd : what = 5 ∨ what = 6 ∨ what = 7 ∨ what = 8 := by omega
  clear hl hm
  rcases hd with rfl | rfl | rfl | rfl
  · go_enter Tryz.func91, Tryz.ntmps91
    go_wp2_with (go_at_call 37; refine (check_ok _ _ ?_ _).mono ?_; assumption; rintro e w' ⟨rfl, rfl⟩)
    go_ret2
    exact ⟨ret_two (or_bits a b a0 a1 b0 b1), rfl⟩
  · go_enter Tryz.func91, Tryz.ntmps91
    go_wp2_with (go_at_call 37; refine (check_ok _ _ ?_ _).mono ?_; assumption; rintro e w' ⟨rfl, rfl⟩)
    go_ret2
    exact ⟨ret_two (and_bits a b a0 a1 b0 b1), rfl⟩
  · go_enter Tryz.func91, Tryz.ntmps91
    go_wp2_with (go_at_call 37; refine (check_ok _ _ ?_ _).mono ?_; assumption; rintro e w' ⟨rfl, rfl⟩)
    go_ret2
    exact ⟨ret_two (less_bits a b a0 a1 b0 b1), rfl⟩
  · go_enter Tryz.func91, Tryz.ntmps91
    go_wp2_with (first | (go_at_call 37; refine (check_ok _ _ ?_ _).mono ?_; assumption; rintro e w' ⟨rfl, rfl⟩) | (go_at_call 65; refine (all_any _ u0 u1 _).mono ?_; rintro e w' ⟨rfl, rfl⟩))
    go_ret2
    have hu := allN_le u0 u1
    exact ⟨ret_two (less_bits (allN u) a hu.1 (by omega) a0 a1), rfl⟩

theorem do_no (what u a b : Int) (h : okB u a = false ∨ okB u b = false ∨ what < 5 ∨ 8 < what) (w : World) :
    Calls Tryz.prog 91 #[.int .i64 what, .int .i64 u, .int .i64 a, .int .i64 b] w fun e w' => e = .returned (.tuple #[.int .i64 0, .iface 61 (.int .i64 1)]) ∧ w = w' := by
  by_cases ha : okB u a = false
  · clear h
    go_enter Tryz.func91, Tryz.ntmps91
    go_wp2_with (go_at_call 37; refine (check_no _ _ ha _).mono ?_; rintro e w' ⟨rfl, rfl⟩)
    go_ret2
    exact ⟨rfl, rfl⟩
  have ha' : okB u a = true := by simpa using ha
  by_cases hb : okB u b = false
  · clear h ha
    go_enter Tryz.func91, Tryz.ntmps91
    go_wp2_with (go_at_call 37; (first | (refine (check_ok _ _ ?_ _).mono ?_; assumption) | (refine (check_no _ _ ?_ _).mono ?_; assumption)); rintro e w' ⟨rfl, rfl⟩)
    go_ret2
    exact ⟨rfl, rfl⟩
  have hb' : okB u b = true := by simpa using hb
  have hw : what < 5 ∨ 8 < what := by simpa [ha', hb'] using h
  clear ha hb h
  rcases hw with hw | hw
  all_goals
    go_enter Tryz.func91, Tryz.ntmps91
    go_wp2_with (go_at_call 37; refine (check_ok _ _ ?_ _).mono ?_; assumption; rintro e w' ⟨rfl, rfl⟩)
    go_ret2
    exact ⟨rfl, rfl⟩
end Go.Proofs.YtpdpnlpepfgknafGreatDoor

namespace Go.Proofs.YtpdpnlpepfgknafGreatDoor
open Go.ChangeShapes Go.WideShapes Go.ChangeAt Go.RowKit

/-- a world as a value. -/
def Wd.v (w : Wd) : Value := .agg #[.int .i64 w.u, .int .i64 w.a, .int .i64 w.b, .int .i64 w.c]

theorem below_drewNs (w : World) : ∀ n, Below w.heap.size w (w.drewN n)
  | 0 => Below.refl _ _
  | n + 1 => (below_drewNs w n).drew

theorem back_two {k : IntKind} {a b : Int} {v : Value} (h : a = b) : Ending.returned (.tuple #[.int k a, v]) = .returned (.tuple #[.int k b, v]) := by rw [h]

set_option maxHeartbeats 1000000 in
theorem made_leaf_any (u a b c s : Int) (v : Value) (w : World) (h0 : 0 ≤ s) (h4 : s ≤ 4) (hw : (Wd.mk u a b c).ok = true) :
    Calls Tryz.prog 74 #[.int .i64 s, v, .agg #[.int .i64 u, .int .i64 a, .int .i64 b, .int .i64 c]] w fun e w' => e = .returned (.tuple #[.int .i64 ((Wd.mk u a b c).made s []), .nilIface]) ∧ Below w.heap.size w w' := by
  have hd : s = 0 ∨ s = 1 ∨ s = 2 ∨ s = 3 ∨ s = 4 := by omega
  have z : okB u 0 = true := ok_zero (ok_u hw).1 (ok_u hw).2
  clear h0 h4 hw
  rcases hd with rfl | rfl | rfl | rfl | rfl
  · go_enter Tryz.func74, Tryz.ntmps74
    go_wp2
    go_ret2
    exact ⟨rfl, below_alloc1 _ _⟩
  · go_enter Tryz.func74, Tryz.ntmps74
    go_wp2
    go_ret2
    exact ⟨rfl, below_alloc1 _ _⟩
  · go_enter Tryz.func74, Tryz.ntmps74
    go_wp2
    go_ret2
    exact ⟨rfl, below_alloc1 _ _⟩
  · go_enter Tryz.func74, Tryz.ntmps74
    go_wp2
    go_ret2
    exact ⟨rfl, below_alloc1 _ _⟩
  · go_enter Tryz.func74, Tryz.ntmps74
    go_wp2_with (go_at_call 91; refine (do_ok _ _ _ _ ?_ ?_ z z _).mono ?_; decide; decide; rintro e w' ⟨rfl, rfl⟩)
    go_ret2
    exact ⟨rfl, below_alloc1 _ _⟩

set_option maxHeartbeats 1000000 in
theorem made_one_any (u a b c s x : Int) (B off cap : Nat) (w : World) (h5 : 5 ≤ s) (h8 : s ≤ 8) (hx : okB u x = true) (hB : B < w.heap.size) (c0 : w.cell? ⟨B, off, none⟩ = some (.int .i64 x)) :
    Calls Tryz.prog 74 #[.int .i64 s, .slice (some ⟨B, off, none⟩) 1 cap, .agg #[.int .i64 u, .int .i64 a, .int .i64 b, .int .i64 c]] w fun e w' => e = .returned (.tuple #[.int .i64 (doN s u x x), .nilIface]) ∧ Below w.heap.size w w' := by
  have g0 : (s == 0) = false := by simp; omega
  have g1 : (s == 1) = false := by simp; omega
  have g2 : (s == 2) = false := by simp; omega
  have g3 : (s == 3) = false := by simp; omega
  have g4 : (s == 4) = false := by simp; omega
  have HD : Hid (∀ W, Calls Tryz.prog 91 #[.int .i64 s, .int .i64 u, .int .i64 x, .int .i64 x] W fun e w' => e = .returned (.tuple #[.int .i64 (doN s u x x), .nilIface]) ∧ w' = W) := fun W => (do_ok s u x x h5 h8 hx hx W).mono fun _ _ h => (And.intro h.1 h.2.symm)
  clear hx
  have d0 : (w.alloc (.cells #[.int .i64 u, .int .i64 a, .int .i64 b, .int .i64 c] 37)).cell? ⟨B, off, none⟩ = some (.int .i64 x) := by
    rw [World.cell?_alloc_lt _ _ ⟨B, off, none⟩ hB]; exact c0
  clear c0 hB
  go_enter Tryz.func74, Tryz.ntmps74
  go_wp2_with fail
  go_quiet (first | (go_at_call 91; exact Calls.quiet_of_same (HD.out _)))
  go_wp2
  go_ret2
  exact ⟨rfl, (below_alloc1 _ _).trans ((below_drewNs _ _).mono (by simp))⟩

set_option maxHeartbeats 1000000 in
theorem made_two_any (u a b c s x y : Int) (B off cap : Nat) (w : World) (h5 : 5 ≤ s) (h8 : s ≤ 8) (hx : okB u x = true) (hy : okB u y = true) (hB : B < w.heap.size)
    (c0 : w.cell? ⟨B, off, none⟩ = some (.int .i64 x)) (c1 : w.cell? ⟨B, off + 1, none⟩ = some (.int .i64 y)) :
    Calls Tryz.prog 74 #[.int .i64 s, .slice (some ⟨B, off, none⟩) 2 cap, .agg #[.int .i64 u, .int .i64 a, .int .i64 b, .int .i64 c]] w fun e w' => e = .returned (.tuple #[.int .i64 (doN s u x y), .nilIface]) ∧ Below w.heap.size w w' := by
  have g0 : (s == 0) = false := by simp; omega
  have g1 : (s == 1) = false := by simp; omega
  have g2 : (s == 2) = false := by simp; omega
  have g3 : (s == 3) = false := by simp; omega
  have g4 : (s == 4) = false := by simp; omega
  have HD : Hid (∀ W, Calls Tryz.prog 91 #[.int .i64 s, .int .i64 u, .int .i64 x, .int .i64 y] W fun e w' => e = .returned (.tuple #[.int .i64 (doN s u x y), .nilIface]) ∧ w' = W) := fun W => (do_ok s u x y h5 h8 hx hy W).mono fun _ _ h => (And.intro h.1 h.2.symm)
  clear hx hy
  have d0 : (w.alloc (.cells #[.int .i64 u, .int .i64 a, .int .i64 b, .int .i64 c] 37)).cell? ⟨B, off, none⟩ = some (.int .i64 x) := by
    rw [World.cell?_alloc_lt _ _ ⟨B, off, none⟩ hB]; exact c0
  have d1 : (w.alloc (.cells #[.int .i64 u, .int .i64 a, .int .i64 b, .int .i64 c] 37)).cell? ⟨B, off + 1, none⟩ = some (.int .i64 y) := by
    rw [World.cell?_alloc_lt _ _ ⟨B, off + 1, none⟩ hB]; exact c1
  clear c0 c1 hB
  go_enter Tryz.func74, Tryz.ntmps74
  go_wp2_with fail
  go_quiet (first | (go_at_call 91; exact Calls.quiet_of_same (HD.out _)))
  go_wp2
  go_ret2
  exact ⟨rfl, (below_alloc1 _ _).trans ((below_drewNs _ _).mono (by simp))⟩
end Go.Proofs.YtpdpnlpepfgknafGreatDoor

namespace Go.Proofs.YtpdpnlpepfgknafGreatDoor
open Go.ChangeShapes Go.WideShapes Go.ChangeAt Go.RowKit
set_option maxRecDepth 100000

theorem infoS : (Tryz.prog.info? 27).map (fun i => (i.zero, i.size, i.bytes)) = some (some (.slice none 0 0), 1, 24) := by kernel_rfl
theorem getD_eq_of_len {s t : List Int} (hl : s.length = t.length) (h : ∀ j, j < s.length → s.getD j 0 = t.getD j 0) : s = t := by
  apply List.ext_getElem hl
  intro i h1 h2
  have := h i h1
  simpa [List.getD_eq_getElem?_getD, List.getElem?_eq_getElem h1, List.getElem?_eq_getElem h2] using this

set_option maxHeartbeats 2000000 in
theorem eqI (s t : List Int) (v v' : Value) (w : World) (h : Reads w v s) (h' : Reads w v' t) :
    Calls Tryz.prog 109 #[v, v'] w fun e w' => e = .returned (.bool (s == t)) ∧ Below w.heap.size w w' := by
  obtain ⟨ao, acap, rfl, hm⟩ : ∃ ao cap, v = .slice ao s.length cap ∧ s.length ≤ 9223372036854775807 := (h.rs (S := fun _ => True) (fun _ _ => trivial)).slice
  obtain ⟨bo, bcap, rfl, hn⟩ : ∃ ao cap, v' = .slice ao t.length cap ∧ t.length ≤ 9223372036854775807 := (h'.rs (S := fun _ => True) (fun _ _ => trivial)).slice
  by_cases hl : s.length = t.length
  · rcases h with ⟨_, _, hv, rfl⟩ | ⟨b, off, cap, hv, hB, h0, _, hc⟩
    · obtain rfl : t = [] := List.eq_nil_of_length_eq_zero (by simpa using hl.symm)
      go_enter Tryz.func109, Tryz.ntmps109
      go_wp2
      refine wp_loop_rounds 1 ?_
      rw [rounds_succ]
      go_wp2
      go_ret
      exact ⟨rfl, Below.refl _ _⟩
    · rcases h' with ⟨_, _, _, rfl⟩ | ⟨b', off', cap', hv', hB', _, _, hc'⟩
      · simp at hl; rw [hl] at h0; simp at h0
      · obtain rfl : ao = some ⟨b, off, none⟩ := by cases hv; rfl
        obtain rfl : bo = some ⟨b', off', none⟩ := by cases hv'; rfl
        clear hv hv'
        have HC : Hid (∀ k, k < s.length → w.cell? ⟨b, off + k, none⟩ = some (.int .i64 (s.getD k 0))) := hc
        have HC' : Hid (∀ k, k < t.length → w.cell? ⟨b', off' + k, none⟩ = some (.int .i64 (t.getD k 0))) := hc'
        have HB : Hid (b < w.heap.size ∧ b' < w.heap.size) := ⟨hB, hB'⟩
        have HL : Hid (s.length = t.length) := hl
        clear hc hc' hB hB'
        obtain ⟨n, hn'⟩ : ∃ n, n = s.length := ⟨_, rfl⟩
        rw [← hl]
        rw [← hn'] at hm h0 ⊢
        have HN : Hid (n = s.length) := hn'
        clear hn' hn hl
        obtain ⟨R, hR⟩ : ∃ R, R = (s == t) := ⟨_, rfl⟩
        rw [← hR]
        have HR : Hid (R = (s == t)) := hR
        clear hR
        go_enter Tryz.func109, Tryz.ntmps109
        go_wp2
        go_loopw [5, 13] (fun _ i wr => ∃ k : Nat, k ≤ n ∧ i = .int .i64 k ∧ Below w.heap.size w wr ∧ Hid (∀ j, j < k → s.getD j 0 = t.getD j 0)) (fun _ i _ => n - (intOf i).toNat)
        case atStart => exact ⟨0, Nat.zero_le _, rfl, Below.refl _ _, fun j hj => absurd hj (Nat.not_lt_zero _)⟩
        case round =>
          obtain ⟨k, hk, rfl, hbel, A⟩ := hrel
          by_cases hlt : k < n
          · obtain ⟨x, hx⟩ : ∃ x, x = s.getD k 0 := ⟨_, rfl⟩
            obtain ⟨y, hy⟩ : ∃ y, y = t.getD k 0 := ⟨_, rfl⟩
            have hks : k < s.length := by rw [← HN.out]; exact hlt
            have hkt : k < t.length := by rw [← HL.out]; exact hks
            have c0 : wr.cell? ⟨b, off + k, none⟩ = some (.int .i64 x) := by rw [hx, hbel.cell HB.out.1]; exact HC.out k hks
            have c1 : wr.cell? ⟨b', off' + k, none⟩ = some (.int .i64 y) := by rw [hy, hbel.cell HB.out.2]; exact HC'.out k hkt
            have HW : Hid (Below w.heap.size w wr) := hbel
            have HXY : Hid (x = s.getD k 0 ∧ y = t.getD k 0) := ⟨hx, hy⟩
            have hlt' : (k : Int) < (n : Int) := by omega
            clear hx hy hks hkt hbel
            by_cases hxy : x = y
            · have HE : Hid (s.getD k 0 = t.getD k 0) := by unfold Hid; rw [← HXY.out.1, ← HXY.out.2, hxy]
              have hb : (x != y) = false := by simp [hxy]
              clear hxy
              go_wp2_with fail
              go_quiet (fail)
              go_wp2
              go_roundw
              case rel =>
                refine ⟨k + 1, by omega, by go_num, HW.out.trans ((below_drewNs _ _).mono HW.out.size), fun j hj => ?_⟩
                by_cases e : j = k
                · rw [e]; exact HE.out
                · exact A.out j (by omega)
              case measure => simp [intOf]; omega
            · have HE : Hid (R = false) := by
                unfold Hid
                rw [HR.out]
                have : s ≠ t := fun e => hxy (by rw [HXY.out.1, HXY.out.2, e])
                simpa using this
              have hb : (x != y) = true := by simpa using hxy
              clear hxy
              go_wp2_with fail
              go_quiet (fail)
              go_wp2
              go_ret
              exact ⟨back_b HE.out.symm, HW.out.trans ((below_drewNs _ _).mono HW.out.size)⟩
          · obtain rfl : k = n := by omega
            have HW : Hid (Below w.heap.size w wr) := hbel
            have HE : Hid (R = true) := by
              unfold Hid
              rw [HR.out]
              have : s = t := getD_eq_of_len HL.out (fun j hj => A.out j (by rw [HN.out]; exact hj))
              simp [this]
            clear hbel
            go_wp2
            go_ret
            exact ⟨back_b HE.out.symm, HW.out⟩
  · have hne : ((s.length : Int) != (t.length : Int)) = true := by simp; omega
    have HE : Hid ((s == t) = false) := by
      unfold Hid
      have : s ≠ t := fun e => hl (by rw [e])
      simpa using this
    obtain ⟨R, hR⟩ : ∃ R, R = (s == t) := ⟨_, rfl⟩
    rw [← hR]
    rw [← hR] at HE
    clear hR hl
    go_enter Tryz.func109, Tryz.ntmps109
    go_wp2
    go_ret
    exact ⟨back_b HE.out.symm, Below.refl _ _⟩
/-- the cube has this member, turned round. -/
theorem turns_any (c : List Int) (u : Value) (P : Nat) (m : Int) (w : World) (hm : m.natAbs ≤ 6) (hP : w.cell? ⟨P, 0, none⟩ = some u) (hu : Reads w u c) :
    Calls Tryz.prog 106 #[.int .i64 m, .pointer (some ⟨P, 0, none⟩)] w fun e w' => e = .returned (.bool (c.contains (-m))) ∧ Below w.heap.size w w' := by
  have h := hasI c u (-m) w hu
  obtain ⟨R, hR⟩ : ∃ R, R = c.contains (-m) := ⟨_, rfl⟩
  rw [← hR] at h ⊢
  obtain ⟨ao, cap, rfl, _⟩ := (hu.rs (S := fun _ => True) (fun _ _ => trivial)).slice
  clear hR hu
  have h1 : -9223372036854775808 ≤ -m := by omega
  have h2 : -m ≤ 9223372036854775807 := by omega
  have H : Hid (Calls Tryz.prog 107 #[.slice ao c.length cap, .int .i64 (-m)] w fun e w' => e = .returned (.bool R) ∧ w = w') := h
  clear h hm
  go_enter Tryz.func106, Tryz.ntmps106
  go_wp2_with (go_at_call 107; refine H.out.mono ?_; rintro e w' ⟨rfl, rfl⟩)
  go_ret
  exact ⟨rfl, Below.refl _ _⟩
/-- it is the same as another one. -/
theorem sameC_any (t c : List Int) (v u : Value) (P : Nat) (w : World) (hP : w.cell? ⟨P, 0, none⟩ = some u) (hv : Reads w v t) (hu : Reads w u c) :
    Calls Tryz.prog 108 #[v, .pointer (some ⟨P, 0, none⟩)] w fun e w' => e = .returned (.bool (t == c)) ∧ Below w.heap.size w w' := by
  have H : Hid (Calls Tryz.prog 109 #[v, u] w fun e w' => e = .returned (.bool (t == c)) ∧ Below w.heap.size w w') := eqI t c v u w hv hu
  obtain ⟨R, hR⟩ : ∃ R, R = (t == c) := ⟨_, rfl⟩
  rw [← hR] at H ⊢
  obtain ⟨ao, cap, rfl, _⟩ := (hu.rs (S := fun _ => True) (fun _ _ => trivial)).slice
  obtain ⟨bo, bcap, rfl, _⟩ := (hv.rs (S := fun _ => True) (fun _ _ => trivial)).slice
  clear hR hu hv
  go_enter Tryz.func108, Tryz.ntmps108
  go_wp2_with (go_at_call 109; refine H.out.mono ?_; rintro e w' ⟨rfl, hb⟩)
  go_ret
  exact ⟨rfl, hb⟩
end Go.Proofs.YtpdpnlpepfgknafGreatDoor

namespace Go.Proofs.YtpdpnlpepfgknafGreatDoor
open Go.ChangeShapes Go.WideShapes Go.ChangeAt Go.RowKit
set_option maxRecDepth 100000

/-- a row among those that are put together. -/
structure RowV where
  o : Option Addr
  m : Nat
  cap : Nat
  vs : List Value
/-- a row lies there, or is empty. -/
def RowV.Lies (w : World) (r : RowV) : Prop := r.vs.length = r.m * 1 ∧ (∀ u ∈ r.vs, u.oneCell' = true) ∧ (r.m = 0 ∨ ∃ b off, r.o = some ⟨b, off, none⟩ ∧ b < w.heap.size ∧ ∀ j u, r.vs[j]? = some u → w.cell? ⟨b, off + j, none⟩ = some u)
theorem RowV.Lies.below {w w' : World} {r : RowV} (h : r.Lies w) (hb : Below w.heap.size w w') : r.Lies w' := by
  obtain ⟨h1, h2, h3⟩ := h
  refine ⟨h1, h2, ?_⟩
  rcases h3 with h3 | ⟨b, off, e, hB, hc⟩
  · exact Or.inl h3
  · exact Or.inr ⟨b, off, e, Nat.lt_of_lt_of_le hB hb.size, fun j u hu => by rw [hb.cell hB]; exact hc j u hu⟩
def manyV (l : List RowV) : Nat := (l.map (·.m)).sum
def allV (l : List RowV) : List Value := (l.map (·.vs)).flatten
theorem manyV_succ (l : List RowV) {k : Nat} {r : RowV} (h : l[k]? = some r) : manyV (l.take (k + 1)) = manyV (l.take k) + r.m := by
  unfold manyV
  rw [List.take_add_one, h]; simp
theorem allV_succ (l : List RowV) {k : Nat} {r : RowV} (h : l[k]? = some r) : allV (l.take (k + 1)) = allV (l.take k) ++ r.vs := by
  unfold allV
  rw [List.take_add_one, h]; simp
theorem manyV_take (l : List RowV) (k : Nat) : manyV (l.take k) ≤ manyV l := by
  have : manyV l = manyV (l.take k) + manyV (l.drop k) := by
    unfold manyV
    rw [← List.sum_append_nat, ← List.map_append, List.take_append_drop]
  omega
/-- nothing put behind a row. -/
theorem run_append_nothing {P : Program} {w : World} {base : Nat} {t ty e : TypeId} {i : TypeInfo} {size : Nat} (ht : P.underlying t = some (.slice e)) (hi : P.info? e = some i)
    {v : Value} {n : Nat} {xs : List Value} (hown : w.ownsRow base e size v n xs) (ao : Option Addr) (cap : Nat) :
    (Builtin.append_ #[t, t] ty #[v, .slice ao 0 cap]).run P w = .ok v w := by
  cases ao with
  | none =>
    rcases hown.2 with ⟨rfl, rfl⟩ | ⟨g, c, cur, rfl, _, _, hnc, _⟩
    · simp [Builtin.append_, run_underlying ht, sizeOf, typeInfo, hi, Builtin.lenOf, Builtin.firstCells]
    · simp [Builtin.append_, run_underlying ht, sizeOf, typeInfo, hi, Builtin.lenOf, Builtin.firstCells, hnc, storeCells]
  | some a =>
    have hf := run_firstCells_some (P := P) w i.size 0 a 0 cap [] (by simp) (by intro j u h; simp at h)
    rcases hown.2 with ⟨rfl, rfl⟩ | ⟨g, c, cur, rfl, _, _, hnc, _⟩
    · simp [Builtin.append_, run_underlying ht, sizeOf, typeInfo, hi, Builtin.lenOf, hf]
    · simp [Builtin.append_, run_underlying ht, sizeOf, typeInfo, hi, Builtin.lenOf, hnc, hf, storeCells]

theorem infoN : (Tryz.prog.info? 3).map (fun i => (i.zero, i.size, i.bytes)) = some (some (.int .i64 0), 1, 8) := by kernel_rfl
set_option maxHeartbeats 2000000 in
/-- slices.Grow of nothing: a new row with room. -/
theorem growV1 (n : Nat) (h1 : n ≤ 200) (w : World) :
    Calls Tryz.prog 63 #[.slice none 0 0, .int .i64 n] w fun e w' => ∃ v, e = .returned v ∧ w'.ownsRow w.heap.size 3 1 v 0 [] ∧ Below w.heap.size w w' := by
  obtain ⟨i0, hi, hz0, hz1, hz2⟩ := info_parts infoN
  rcases Nat.eq_zero_or_pos n with rfl | h0
  · go_enter Tryz.func63, Tryz.ntmps63
    go_wp2
    go_ret
    exact ⟨_, rfl, World.ownsRow_nil _ _ _ _, Below.refl _ _⟩
  have a1 : ¬ ((n : Int) < 0) := by omega
  have a4 : (n : Int) > 0 := by omega
  have hold : (Builtin.firstCells i0.size 0 (.slice none 0 0)).run Tryz.prog w.drew = .ok #[] w.drew := run_firstCells_none w.drew i0.size 0 0 0
  have hrz : ∀ ty, (Builtin.append_ #[27, 3] ty #[.slice none 0 0, .int .i64 n]).run Tryz.prog w =
      .ok (.slice (some ⟨w.heap.size, 0, none⟩) n (grownCap w n 0 3)) (w.drew.alloc (.cells (#[] ++ Builtin.zeroCells (Value.cells (.int .i64 0)) n ++ Builtin.zeroCells (Value.cells (.int .i64 0)) (grownCap w n 0 3 - n)) 3)) := fun ty => by
    have h := Lib.run_append_grow_zeros w 27 3 ty 3 i0 (.int .i64 0) .i64 .i64 Tryz.underlying27 Tryz.underlying3 hi hz0 none 0 0 [] hold n h0 (by omega) (by omega) (by omega) (by rw [hz2]; omega) (by rw [Nat.zero_add, hz2]; exact growslice_fits (by omega) (by omega))
    rw [Nat.zero_add] at h
    exact h
  have hGn : n ≤ grownCap w n 0 3 := grownCap_ge w _ _ _
  have hG63 : grownCap w n 0 3 ≤ maxLen := grownCap_le_maxLen w n 0 3 (by unfold maxLen; omega)
  obtain ⟨G, hG⟩ : ∃ G, G = grownCap w n 0 3 := ⟨_, rfl⟩
  rw [← hG] at hrz hGn hG63
  have HE : Hid (∃ w', w' = w.drew.alloc (.cells (#[] ++ Builtin.zeroCells (Value.cells (.int .i64 0)) n ++ Builtin.zeroCells (Value.cells (.int .i64 0)) (G - n)) 3) ∧ w'.ownsRow w.heap.size 3 1 (.slice (some ⟨w.heap.size, 0, none⟩) 0 G) 0 [] ∧ Below w.heap.size w w') := by
    refine ⟨_, rfl, ?_, ?_⟩
    · refine ⟨by simp, .inr ⟨w.heap.size, G, _, rfl, Nat.le_refl _, heap_alloc_new w.drew _, Nat.zero_le _, hG63, ?_, by simp⟩⟩
      simp [Builtin.zeroCells, Value.cells]
      omega
    · exact ((Below.refl _ w).drew).trans (below_alloc1 w.drew _)
  have hG63' : G ≤ 9223372036854775807 := by unfold maxLen at hG63; omega
  clear hold hG hG63
  obtain ⟨w', hw', HE⟩ := HE.out
  rw [← hw'] at hrz
  have HE' : Hid (w'.ownsRow w.heap.size 3 1 (.slice (some ⟨w.heap.size, 0, none⟩) 0 G) 0 [] ∧ Below w.heap.size w w') := HE
  clear hw' HE
  go_enter Tryz.func63, Tryz.ntmps63
  go_wp2_with (at_builtin; refine Lib.wpList_append_run _ rfl _ _ _ _ rfl _ _ rfl rfl _ _ (hrz _) ?_)
  go_ret
  exact ⟨_, rfl, HE'.out⟩

set_option maxHeartbeats 4000000 in
/-- slices.Concat: a new row of all. -/
theorem concatV1 (l : List RowV) (A lcap : Nat) (w : World) (hl : l.length ≤ 4) (hA : A < w.heap.size) (hc : ∀ k r, l[k]? = some r → w.cell? ⟨A, k, none⟩ = some (.slice r.o r.m r.cap)) (hr : ∀ r ∈ l, r.Lies w) (h1 : manyV l ≤ 200) :
    Calls Tryz.prog 35 #[.slice (some ⟨A, 0, none⟩) l.length lcap] w fun e w' => ∃ v, e = .returned v ∧ w'.ownsRow w.heap.size 3 1 v (manyV l) (allV l) ∧ Below w.heap.size w w' := by
  obtain ⟨i0, hi, hz0, hz1, hz2⟩ := info_parts infoN
  obtain ⟨N, hN⟩ : ∃ N, N = l.length := ⟨_, rfl⟩
  rw [← hN] at hl ⊢
  have HN : Hid (N = l.length) := hN
  clear hN
  have HC : Hid (∀ W, Below w.heap.size w W → ∀ k r, l[k]? = some r → W.cell? ⟨A, k, none⟩ = some (.slice r.o r.m r.cap)) := fun W hW k r h => by rw [hW.cell (show (⟨A, k, none⟩ : Addr).block < _ from hA)]; exact hc k r h
  have HR : Hid (∀ W, Below w.heap.size w W → ∀ (k : Nat) (r : RowV), l[k]? = some r → r.Lies W) := fun W hW k r h => (hr r (List.mem_of_getElem? h)).below hW
  have HS : Hid (∀ k, manyV (l.take k) ≤ 200) := fun k => Nat.le_trans (manyV_take l k) h1
  have HG : Hid (∀ W, Calls Tryz.prog 63 #[.slice none 0 0, .int .i64 (manyV l)] W fun e w' => ∃ v, e = .returned v ∧ w'.ownsRow W.heap.size 3 1 v 0 [] ∧ Below W.heap.size W w') := fun W => growV1 _ h1 W
  obtain ⟨M, hM⟩ : ∃ M, M = manyV l := ⟨_, rfl⟩
  rw [← hM] at HG ⊢
  have HM : Hid (M = manyV l) := hM
  clear hM hc hr h1 hA
  go_enter Tryz.func35, Tryz.ntmps35
  go_wp2_with fail
  go_loop [3, 5, 11] (fun c _ i => ∃ k : Nat, k ≤ N ∧ i = .int .i64 k ∧ c = .int .i64 (manyV (l.take k))) (fun _ _ i => N - (intOf i).toNat)
  case atStart => exact ⟨0, Nat.zero_le _, rfl, rfl⟩
  case round =>
    obtain ⟨k, hk, rfl, rfl⟩ := hrel
    by_cases hlt : k < N
    · obtain ⟨r, hr⟩ : ∃ r, l[k]? = some r := ⟨_, List.getElem?_eq_getElem (by have := HN.out; omega)⟩
      have hcell := HC.out w (Below.refl _ _) k r hr
      have HE : Hid (manyV (l.take (k + 1)) = manyV (l.take k) + r.m) := manyV_succ l hr
      have hs1 := HS.out (k + 1)
      rw [HE.out] at hs1
      obtain ⟨S, hS⟩ : ∃ S, S = manyV (l.take k) := ⟨_, rfl⟩
      rw [← hS] at HE hs1 ⊢
      clear hS hr
      obtain ⟨ro, rm, rc, rvs⟩ := r
      simp only at hcell HE hs1
      have q : ¬ ((S : Int) + (rm : Int) < 0) := by omega
      go_wp2
      go_round
      case rel => exact ⟨k + 1, by omega, by go_num, by rw [HE.out]; go_num⟩
      case measure => simp [intOf]; omega
    · have HE : Hid (manyV (l.take k) = M) := by unfold Hid; rw [List.take_of_length_le (by have := HN.out; omega), HM.out]
      rw [HE.out]
      go_wp2_with fail
      go_at_call 63
      refine (HG.out _).mono ?_
      rintro e w2 ⟨v2, rfl, hown, hb⟩
      obtain ⟨K, hK⟩ : ∃ K, K = w.heap.size := ⟨_, rfl⟩
      rw [← hK] at hown hb HC HR
      have HB2 : Hid (Below K w w2 ∧ K ≤ w2.heap.size) := ⟨hb, by have := hb.size; omega⟩
      have HO2 : Hid (w2.ownsRow K 3 1 v2 0 []) := hown
      have HKe : Hid (w.heap.size = K) := hK.symm
      clear hb hown hK
      go_wp2_with fail
      go_loopw [6, 8, 27] (fun v _ i wr => ∃ k : Nat, k ≤ N ∧ i = .int .i64 k ∧ wr.ownsRow K 3 1 v (manyV (l.take k)) (allV (l.take k)) ∧ Below K w wr ∧ K ≤ wr.heap.size) (fun _ _ i _ => N - (intOf i).toNat)
      case atStart => exact ⟨0, Nat.zero_le _, rfl, HO2.out, HB2.out.1, HB2.out.2⟩
      case round =>
        obtain ⟨j, hj, rfl, hown, hbel, hKw⟩ := hrel
        by_cases hjl : j < N
        · obtain ⟨r, hr⟩ : ∃ r, l[j]? = some r := ⟨_, List.getElem?_eq_getElem (by have := HN.out; omega)⟩
          have hcell := HC.out wr hbel j r hr
          have HL : Hid (r.Lies wr) := HR.out wr hbel j r hr
          have HE : Hid (manyV (l.take (j + 1)) = manyV (l.take j) + r.m) := manyV_succ l hr
          have HE2 : Hid (allV (l.take (j + 1)) = allV (l.take j) ++ r.vs) := allV_succ l hr
          have hs1 := HS.out (j + 1)
          rw [HE.out] at hs1
          obtain ⟨S, hS⟩ : ∃ S, S = manyV (l.take j) := ⟨_, rfl⟩
          obtain ⟨XS, hXS⟩ : ∃ XS, XS = allV (l.take j) := ⟨_, rfl⟩
          rw [← hS] at HE hs1 hown
          rw [← hXS] at HE2 hown
          clear hS hXS hr
          obtain ⟨ro, rm, rc, rvs⟩ := r
          simp only at hcell HE HE2 hs1
          have HOW : Hid (wr.ownsRow K 3 1 u6 S XS) := hown
          have HBW : Hid (Below K w wr ∧ K ≤ wr.heap.size) := ⟨hbel, hKw⟩
          clear hown hbel hKw
          rcases Nat.eq_zero_or_pos rm with hz | hrm
          · subst hz
            have hvs : rvs = [] := List.eq_nil_of_length_eq_zero (by have := HL.out.1; simpa using this)
            have HO3 : Hid (wr.ownsRow K 3 1 u6 (manyV (l.take (j + 1))) (allV (l.take (j + 1)))) := by
              unfold Hid; rw [HE.out, HE2.out, hvs, List.append_nil, Nat.add_zero]; exact HOW.out
            have hrun : ∀ ty, (Builtin.append_ #[27, 27] ty #[u6, .slice ro 0 rc]).run Tryz.prog wr = .ok u6 wr := fun ty => run_append_nothing Tryz.underlying27 hi HOW.out ro rc
            clear hvs
            go_wp2_with (first | (at_builtin; refine Lib.wpList_append_run _ rfl _ _ _ _ rfl _ _ rfl rfl _ _ (hrun _) ?_))
            go_roundw
            case rel => exact ⟨j + 1, by omega, by go_num, HO3.out, HBW.out.1, HBW.out.2⟩
            case measure => simp [intOf]; omega
          · obtain ⟨rb, roff, rfl, hB, hcs⟩ : ∃ b off, ro = some ⟨b, off, none⟩ ∧ b < wr.heap.size ∧ ∀ j u, rvs[j]? = some u → wr.cell? ⟨b, off + j, none⟩ = some u := HL.out.2.2.resolve_left (by show ¬ rm = 0; omega)
            have HCs : Hid (∀ j u, rvs[j]? = some u → wr.cell? ⟨rb, roff + j, none⟩ = some u) := hcs
            clear hcs
            go_wp2_with (first | (at_builtin; refine wpList_append_own _ rfl (.tmp 31) (.tmp 32) 27 rfl K 3 i0 (.int .i64 0) 1 8 Tryz.underlying27 hi hz0 hz1 hz2 rfl (by decide) u6 S XS rfl HOW.out ⟨rb, roff, none⟩ rm rc rvs rfl HL.out.1 ?a1 HL.out.2.1 ?a3 ?a4 ?a5 ?_))
            case a1 =>
              intro i u hu
              rw [Go.WideShapes.add_plain]
              exact HCs.out i u hu
            case a3 => unfold maxLen; omega
            case a4 => omega
            case a5 => exact HBW.out.2
            intro v' w3 hown' hgrow _
            have HB3 : Hid (Below K w w3 ∧ K ≤ w3.heap.size) := by
              refine ⟨HBW.out.1.grown hgrow HBW.out.2 (fun k hk => (HOW.out.lt k hk).1), ?_⟩
              have := hgrow.size
              have := HBW.out.2
              omega
            have HO3 : Hid (w3.ownsRow K 3 1 v' (manyV (l.take (j + 1))) (allV (l.take (j + 1)))) := by
              unfold Hid; rw [HE.out, HE2.out]; exact hown'
            clear hown' hgrow
            go_wp2
            go_roundw
            case rel => exact ⟨j + 1, by omega, by go_num, HO3.out, HB3.out.1, HB3.out.2⟩
            case measure => simp [intOf]; omega
        · rw [List.take_of_length_le (by have := HN.out; omega)] at hown
          have HO3 : Hid (wr.ownsRow K 3 1 u6 M (allV l)) := by unfold Hid; rw [HM.out]; exact hown
          have HB3 : Hid (Below K w wr) := hbel
          clear hown hbel
          go_wp2
          go_ret
          refine ⟨_, rfl, ?_, ?_⟩
          · rw [HKe.out]; exact HO3.out
          · rw [HKe.out]; exact HB3.out

set_option maxHeartbeats 2000000 in
/-- slices.Grow of nothing: a new row with room. -/
theorem growV2 (n : Nat) (h1 : n ≤ 200) (w : World) :
    Calls Tryz.prog 115 #[.slice none 0 0, .int .i64 n] w fun e w' => ∃ v, e = .returned v ∧ w'.ownsRow w.heap.size 27 1 v 0 [] ∧ Below w.heap.size w w' := by
  obtain ⟨i0, hi, hz0, hz1, hz2⟩ := info_parts infoS
  rcases Nat.eq_zero_or_pos n with rfl | h0
  · go_enter Tryz.func115, Tryz.ntmps115
    go_wp2
    go_ret
    exact ⟨_, rfl, World.ownsRow_nil _ _ _ _, Below.refl _ _⟩
  have a1 : ¬ ((n : Int) < 0) := by omega
  have a4 : (n : Int) > 0 := by omega
  have hold : (Builtin.firstCells i0.size 0 (.slice none 0 0)).run Tryz.prog w.drew = .ok #[] w.drew := run_firstCells_none w.drew i0.size 0 0 0
  have hrz : ∀ ty, (Builtin.append_ #[75, 3] ty #[.slice none 0 0, .int .i64 n]).run Tryz.prog w =
      .ok (.slice (some ⟨w.heap.size, 0, none⟩) n (grownCap w n 0 27)) (w.drew.alloc (.cells (#[] ++ Builtin.zeroCells (Value.cells (.slice none 0 0)) n ++ Builtin.zeroCells (Value.cells (.slice none 0 0)) (grownCap w n 0 27 - n)) 27)) := fun ty => by
    have h := Lib.run_append_grow_zeros w 75 3 ty 27 i0 (.slice none 0 0) .i64 .i64 Tryz.underlying75 Tryz.underlying3 hi hz0 none 0 0 [] hold n h0 (by omega) (by omega) (by omega) (by rw [hz2]; omega) (by rw [Nat.zero_add, hz2]; exact growslice_fits (by omega) (by omega))
    rw [Nat.zero_add] at h
    exact h
  have hGn : n ≤ grownCap w n 0 27 := grownCap_ge w _ _ _
  have hG63 : grownCap w n 0 27 ≤ maxLen := grownCap_le_maxLen w n 0 27 (by unfold maxLen; omega)
  obtain ⟨G, hG⟩ : ∃ G, G = grownCap w n 0 27 := ⟨_, rfl⟩
  rw [← hG] at hrz hGn hG63
  have HE : Hid (∃ w', w' = w.drew.alloc (.cells (#[] ++ Builtin.zeroCells (Value.cells (.slice none 0 0)) n ++ Builtin.zeroCells (Value.cells (.slice none 0 0)) (G - n)) 27) ∧ w'.ownsRow w.heap.size 27 1 (.slice (some ⟨w.heap.size, 0, none⟩) 0 G) 0 [] ∧ Below w.heap.size w w') := by
    refine ⟨_, rfl, ?_, ?_⟩
    · refine ⟨by simp, .inr ⟨w.heap.size, G, _, rfl, Nat.le_refl _, heap_alloc_new w.drew _, Nat.zero_le _, hG63, ?_, by simp⟩⟩
      simp [Builtin.zeroCells, Value.cells]
      omega
    · exact ((Below.refl _ w).drew).trans (below_alloc1 w.drew _)
  have hG63' : G ≤ 9223372036854775807 := by unfold maxLen at hG63; omega
  clear hold hG hG63
  obtain ⟨w', hw', HE⟩ := HE.out
  rw [← hw'] at hrz
  have HE' : Hid (w'.ownsRow w.heap.size 27 1 (.slice (some ⟨w.heap.size, 0, none⟩) 0 G) 0 [] ∧ Below w.heap.size w w') := HE
  clear hw' HE
  go_enter Tryz.func115, Tryz.ntmps115
  go_wp2_with (at_builtin; refine Lib.wpList_append_run _ rfl _ _ _ _ rfl _ _ rfl rfl _ _ (hrz _) ?_)
  go_ret
  exact ⟨_, rfl, HE'.out⟩

set_option maxHeartbeats 4000000 in
/-- slices.Concat: a new row of all. -/
theorem concatV2 (l : List RowV) (A lcap : Nat) (w : World) (hl : l.length ≤ 4) (hA : A < w.heap.size) (hc : ∀ k r, l[k]? = some r → w.cell? ⟨A, k, none⟩ = some (.slice r.o r.m r.cap)) (hr : ∀ r ∈ l, r.Lies w) (h1 : manyV l ≤ 200) :
    Calls Tryz.prog 96 #[.slice (some ⟨A, 0, none⟩) l.length lcap] w fun e w' => ∃ v, e = .returned v ∧ w'.ownsRow w.heap.size 27 1 v (manyV l) (allV l) ∧ Below w.heap.size w w' := by
  obtain ⟨i0, hi, hz0, hz1, hz2⟩ := info_parts infoS
  obtain ⟨N, hN⟩ : ∃ N, N = l.length := ⟨_, rfl⟩
  rw [← hN] at hl ⊢
  have HN : Hid (N = l.length) := hN
  clear hN
  have HC : Hid (∀ W, Below w.heap.size w W → ∀ k r, l[k]? = some r → W.cell? ⟨A, k, none⟩ = some (.slice r.o r.m r.cap)) := fun W hW k r h => by rw [hW.cell (show (⟨A, k, none⟩ : Addr).block < _ from hA)]; exact hc k r h
  have HR : Hid (∀ W, Below w.heap.size w W → ∀ (k : Nat) (r : RowV), l[k]? = some r → r.Lies W) := fun W hW k r h => (hr r (List.mem_of_getElem? h)).below hW
  have HS : Hid (∀ k, manyV (l.take k) ≤ 200) := fun k => Nat.le_trans (manyV_take l k) h1
  have HG : Hid (∀ W, Calls Tryz.prog 115 #[.slice none 0 0, .int .i64 (manyV l)] W fun e w' => ∃ v, e = .returned v ∧ w'.ownsRow W.heap.size 27 1 v 0 [] ∧ Below W.heap.size W w') := fun W => growV2 _ h1 W
  obtain ⟨M, hM⟩ : ∃ M, M = manyV l := ⟨_, rfl⟩
  rw [← hM] at HG ⊢
  have HM : Hid (M = manyV l) := hM
  clear hM hc hr h1 hA
  go_enter Tryz.func96, Tryz.ntmps96
  go_wp2_with fail
  go_loop [3, 5, 11] (fun c _ i => ∃ k : Nat, k ≤ N ∧ i = .int .i64 k ∧ c = .int .i64 (manyV (l.take k))) (fun _ _ i => N - (intOf i).toNat)
  case atStart => exact ⟨0, Nat.zero_le _, rfl, rfl⟩
  case round =>
    obtain ⟨k, hk, rfl, rfl⟩ := hrel
    by_cases hlt : k < N
    · obtain ⟨r, hr⟩ : ∃ r, l[k]? = some r := ⟨_, List.getElem?_eq_getElem (by have := HN.out; omega)⟩
      have hcell := HC.out w (Below.refl _ _) k r hr
      have HE : Hid (manyV (l.take (k + 1)) = manyV (l.take k) + r.m) := manyV_succ l hr
      have hs1 := HS.out (k + 1)
      rw [HE.out] at hs1
      obtain ⟨S, hS⟩ : ∃ S, S = manyV (l.take k) := ⟨_, rfl⟩
      rw [← hS] at HE hs1 ⊢
      clear hS hr
      obtain ⟨ro, rm, rc, rvs⟩ := r
      simp only at hcell HE hs1
      have q : ¬ ((S : Int) + (rm : Int) < 0) := by omega
      go_wp2
      go_round
      case rel => exact ⟨k + 1, by omega, by go_num, by rw [HE.out]; go_num⟩
      case measure => simp [intOf]; omega
    · have HE : Hid (manyV (l.take k) = M) := by unfold Hid; rw [List.take_of_length_le (by have := HN.out; omega), HM.out]
      rw [HE.out]
      go_wp2_with fail
      go_at_call 115
      refine (HG.out _).mono ?_
      rintro e w2 ⟨v2, rfl, hown, hb⟩
      obtain ⟨K, hK⟩ : ∃ K, K = w.heap.size := ⟨_, rfl⟩
      rw [← hK] at hown hb HC HR
      have HB2 : Hid (Below K w w2 ∧ K ≤ w2.heap.size) := ⟨hb, by have := hb.size; omega⟩
      have HO2 : Hid (w2.ownsRow K 27 1 v2 0 []) := hown
      have HKe : Hid (w.heap.size = K) := hK.symm
      clear hb hown hK
      go_wp2_with fail
      go_loopw [6, 8, 27] (fun v _ i wr => ∃ k : Nat, k ≤ N ∧ i = .int .i64 k ∧ wr.ownsRow K 27 1 v (manyV (l.take k)) (allV (l.take k)) ∧ Below K w wr ∧ K ≤ wr.heap.size) (fun _ _ i _ => N - (intOf i).toNat)
      case atStart => exact ⟨0, Nat.zero_le _, rfl, HO2.out, HB2.out.1, HB2.out.2⟩
      case round =>
        obtain ⟨j, hj, rfl, hown, hbel, hKw⟩ := hrel
        by_cases hjl : j < N
        · obtain ⟨r, hr⟩ : ∃ r, l[j]? = some r := ⟨_, List.getElem?_eq_getElem (by have := HN.out; omega)⟩
          have hcell := HC.out wr hbel j r hr
          have HL : Hid (r.Lies wr) := HR.out wr hbel j r hr
          have HE : Hid (manyV (l.take (j + 1)) = manyV (l.take j) + r.m) := manyV_succ l hr
          have HE2 : Hid (allV (l.take (j + 1)) = allV (l.take j) ++ r.vs) := allV_succ l hr
          have hs1 := HS.out (j + 1)
          rw [HE.out] at hs1
          obtain ⟨S, hS⟩ : ∃ S, S = manyV (l.take j) := ⟨_, rfl⟩
          obtain ⟨XS, hXS⟩ : ∃ XS, XS = allV (l.take j) := ⟨_, rfl⟩
          rw [← hS] at HE hs1 hown
          rw [← hXS] at HE2 hown
          clear hS hXS hr
          obtain ⟨ro, rm, rc, rvs⟩ := r
          simp only at hcell HE HE2 hs1
          have HOW : Hid (wr.ownsRow K 27 1 u6 S XS) := hown
          have HBW : Hid (Below K w wr ∧ K ≤ wr.heap.size) := ⟨hbel, hKw⟩
          clear hown hbel hKw
          rcases Nat.eq_zero_or_pos rm with hz | hrm
          · subst hz
            have hvs : rvs = [] := List.eq_nil_of_length_eq_zero (by have := HL.out.1; simpa using this)
            have HO3 : Hid (wr.ownsRow K 27 1 u6 (manyV (l.take (j + 1))) (allV (l.take (j + 1)))) := by
              unfold Hid; rw [HE.out, HE2.out, hvs, List.append_nil, Nat.add_zero]; exact HOW.out
            have hrun : ∀ ty, (Builtin.append_ #[75, 75] ty #[u6, .slice ro 0 rc]).run Tryz.prog wr = .ok u6 wr := fun ty => run_append_nothing Tryz.underlying75 hi HOW.out ro rc
            clear hvs
            go_wp2_with (first | (at_builtin; refine Lib.wpList_append_run _ rfl _ _ _ _ rfl _ _ rfl rfl _ _ (hrun _) ?_))
            go_roundw
            case rel => exact ⟨j + 1, by omega, by go_num, HO3.out, HBW.out.1, HBW.out.2⟩
            case measure => simp [intOf]; omega
          · obtain ⟨rb, roff, rfl, hB, hcs⟩ : ∃ b off, ro = some ⟨b, off, none⟩ ∧ b < wr.heap.size ∧ ∀ j u, rvs[j]? = some u → wr.cell? ⟨b, off + j, none⟩ = some u := HL.out.2.2.resolve_left (by show ¬ rm = 0; omega)
            have HCs : Hid (∀ j u, rvs[j]? = some u → wr.cell? ⟨rb, roff + j, none⟩ = some u) := hcs
            clear hcs
            go_wp2_with (first | (at_builtin; refine wpList_append_own _ rfl (.tmp 31) (.tmp 32) 75 rfl K 27 i0 (.slice none 0 0) 1 24 Tryz.underlying75 hi hz0 hz1 hz2 rfl (by decide) u6 S XS rfl HOW.out ⟨rb, roff, none⟩ rm rc rvs rfl HL.out.1 ?a1 HL.out.2.1 ?a3 ?a4 ?a5 ?_))
            case a1 =>
              intro i u hu
              rw [Go.WideShapes.add_plain]
              exact HCs.out i u hu
            case a3 => unfold maxLen; omega
            case a4 => omega
            case a5 => exact HBW.out.2
            intro v' w3 hown' hgrow _
            have HB3 : Hid (Below K w w3 ∧ K ≤ w3.heap.size) := by
              refine ⟨HBW.out.1.grown hgrow HBW.out.2 (fun k hk => (HOW.out.lt k hk).1), ?_⟩
              have := hgrow.size
              have := HBW.out.2
              omega
            have HO3 : Hid (w3.ownsRow K 27 1 v' (manyV (l.take (j + 1))) (allV (l.take (j + 1)))) := by
              unfold Hid; rw [HE.out, HE2.out]; exact hown'
            clear hown' hgrow
            go_wp2
            go_roundw
            case rel => exact ⟨j + 1, by omega, by go_num, HO3.out, HB3.out.1, HB3.out.2⟩
            case measure => simp [intOf]; omega
        · rw [List.take_of_length_le (by have := HN.out; omega)] at hown
          have HO3 : Hid (wr.ownsRow K 27 1 u6 M (allV l)) := by unfold Hid; rw [HM.out]; exact hown
          have HB3 : Hid (Below K w wr) := hbel
          clear hown hbel
          go_wp2
          go_ret
          refine ⟨_, rfl, ?_, ?_⟩
          · rw [HKe.out]; exact HO3.out
          · rw [HKe.out]; exact HB3.out

end Go.Proofs.YtpdpnlpepfgknafGreatDoor

namespace Go.Proofs.YtpdpnlpepfgknafGreatDoor
open Go.ChangeShapes Go.WideShapes Go.ChangeAt Go.RowKit
open Go.Shelf
set_option maxRecDepth 100000

theorem far_any (x y : Int) (hx : x.natAbs ≤ 6) (hy : y.natAbs ≤ 6) (w : World) :
    Calls Tryz.prog 112 #[.int .i64 x, .int .i64 y] w fun e w' => e = .returned (.int .i64 (farC x y)) ∧ w' = w := by
  have h := AnyG.cmp_Compare_int Tryz.laysCompare x.natAbs y.natAbs w
  change Calls Tryz.prog 113 _ _ _ at h
  have H : Hid (Calls Tryz.prog 113 #[.int .i64 x.natAbs, .int .i64 y.natAbs] w fun e w' => e = .returned (.int .i64 (farC x y)) ∧ w' = w) := h
  clear h
  obtain ⟨R, hR⟩ : ∃ R, R = farC x y := ⟨_, rfl⟩
  rw [← hR] at H ⊢
  clear hR
  have x1 : -9223372036854775808 ≤ -x := by omega
  have x2 : -x ≤ 9223372036854775807 := by omega
  have y1 : -9223372036854775808 ≤ -y := by omega
  have y2 : -y ≤ 9223372036854775807 := by omega
  have ex : max x (-x) = (x.natAbs : Int) := by omega
  have ey : max y (-y) = (y.natAbs : Int) := by omega
  go_enter Tryz.func112, Tryz.ntmps112
  go_wp2_with (go_at_call 113; refine H.out.mono ?_; rintro e w' ⟨rfl, rfl⟩)
  go_ret
  exact ⟨rfl, rfl⟩
/-- the members of cubes. -/
abbrev Mem := { x : Int // x.natAbs ≤ 6 }
instance : Inhabited Mem := ⟨⟨0, by decide⟩⟩
def encM (x : Mem) : Value := .int .i64 x.1
def farM (x y : Mem) : Int := farC x.1 y.1
theorem farM_lt (x y : Mem) : ltOf farM x y = decide (x.1.natAbs < y.1.natAbs) := by
  unfold ltOf farM farC Lib.compareInt
  by_cases h1 : x.1.natAbs < y.1.natAbs
  · have : (x.1.natAbs : Int) < (y.1.natAbs : Int) := by omega
    simp [h1, this]
  · have : ¬ (x.1.natAbs : Int) < (y.1.natAbs : Int) := by omega
    by_cases h2 : (y.1.natAbs : Int) < (x.1.natAbs : Int) <;> simp [h1, this, h2]
theorem farM_swo : Sort.SWO (ltOf farM) where
  irrefl x := by rw [farM_lt]; simp
  trans x y z h1 h2 := by rw [farM_lt] at *; simp at *; omega
  ntrans x y z h1 h2 := by rw [farM_lt] at *; simp at *; omega
theorem below_put {α : Type} [Inhabited α] {enc : α → Value} {w : World} {K blk off m : Nat} {d : Array α} (hK : K ≤ blk) : Below K w (Sort.putRow enc (Sort.ahead w m) blk off d) := by
  refine ⟨rfl, rfl, rfl, by simp [Sort.ahead], fun k hk => ?_⟩
  have : blk ≠ k := by omega
  simp [Sort.putRow, Sort.mapBlock, Array.getElem?_modify, this, Sort.ahead]
theorem below_grow {w : World} {K : Nat} {os : Array Obj} (hK : K ≤ w.heap.size) : Below K w (Sort.grow w os) :=
  ⟨rfl, rfl, rfl, by simp, fun k hk => Sort.heap_grow_old w os (by omega)⟩
theorem below_sort {α : Type} [Inhabited α] {enc : α → Value} {w : World} {K blk off m : Nat} {d : Array α} {os : Array Obj} (hK : K ≤ blk) (hs : K ≤ w.heap.size) : Below K w (sortWorld enc w blk off m d os) := by
  unfold sortWorld
  exact (below_put hK).trans (below_grow (by simp [Sort.ahead]; exact hs))
end Go.Proofs.YtpdpnlpepfgknafGreatDoor

namespace Go.Proofs.YtpdpnlpepfgknafGreatDoor
open Go.ChangeShapes Go.WideShapes Go.ChangeAt Go.RowKit
open Go.Shelf
set_option maxRecDepth 100000

/-- a row of numbers as one that is put together. -/
theorem reads_row {w : World} {v : Value} {t : List Int} (h : Reads w v t) : ∃ o cap, v = .slice o t.length cap ∧ (⟨o, t.length, cap, t.map (Value.int .i64)⟩ : RowV).Lies w := by
  rcases h with ⟨ao, cap, rfl, rfl⟩ | ⟨b, off, cap, rfl, hB, h0, _, hc⟩
  · exact ⟨ao, cap, rfl, by simp, by simp, Or.inl rfl⟩
  · refine ⟨_, cap, rfl, by simp, ?_, Or.inr ⟨b, off, rfl, hB, fun j u hu => ?_⟩⟩
    · intro u hu
      obtain ⟨s, _, rfl⟩ := List.mem_map.1 hu; rfl
    · have hu' : (t.map (Value.int .i64))[j]? = some u := hu
      rw [List.getElem?_map] at hu'
      cases hcj : t[j]? with
      | none => rw [hcj] at hu'; cases hu'
      | some s =>
        rw [hcj] at hu'
        have hjl := (List.getElem?_eq_some_iff.1 hcj).1
        rw [hc j hjl, List.getD_eq_getElem?_getD, hcj]
        simpa using hu'
/-- members as such. -/
def memsOf (t : List Int) (h : ∀ m ∈ t, m.natAbs ≤ 6) : List Mem := t.attach.map (fun x => ⟨x.1, h x.1 x.2⟩)
theorem memsOf_val (t : List Int) (h : ∀ m ∈ t, m.natAbs ≤ 6) : (memsOf t h).map (·.1) = t := by
  unfold memsOf
  rw [List.map_map]
  exact List.attach_map_subtype_val t
theorem memsOf_len (t : List Int) (h : ∀ m ∈ t, m.natAbs ≤ 6) : (memsOf t h).length = t.length := by simp [memsOf]
theorem get_val (d : Array Mem) (j : Nat) (hj : j < d.size) : (d.toList.map (·.1)).getD j 0 = (d[j]!).1 := by
  rw [List.getD_eq_getElem?_getD, List.getElem?_map]
  simp [hj]
theorem holds_mems {w : World} {g cap n base : Nat} {t : List Int} {e : TypeId} (h : ∀ m ∈ t, m.natAbs ≤ 6) (ho : w.ownsRow base e 1 (.slice (some ⟨g, 0, none⟩) n cap) n (t.map (Value.int .i64))) (hn : n = t.length) : Sort.Holds encM w g 0 (memsOf t h).toArray := by
  intro j hj
  have hj' : j < t.length := by simpa [memsOf_len] using hj
  refine ⟨?_, by rw [Nat.zero_add]; exact ho.frozenAt j⟩
  rw [Nat.zero_add, ho.cellAt j (by omega)]
  have e1 : ((memsOf t h).toArray[j]!).1 = t.getD j 0 := by
    have := get_val (memsOf t h).toArray j hj
    rw [← this]
    show ((memsOf t h).map (·.1)).getD j 0 = _
    rw [memsOf_val]
  unfold encM
  rw [e1, List.getElem?_map, List.getD_eq_getElem?_getD, List.getElem?_eq_getElem hj']
  rfl
theorem holds_ints {w : World} {g : Nat} {d : Array Mem} (h : Sort.Holds encM w g 0 d) : Sort.Holds (Value.int .i64) w g 0 (d.toList.map (·.1)).toArray := by
  intro j hj
  have hj' : j < d.size := by simpa using hj
  have := h j hj'
  refine ⟨?_, this.2⟩
  rw [this.1]
  unfold encM
  have e := get_val d j hj'
  rw [← e]
  simp [hj']

theorem sort_none (a : Option Addr) (cap : Nat) (fv : Value) (w : World) : Calls Tryz.prog 111 #[.slice a 0 cap, fv] w fun e w' => e = .returned (.tuple #[]) ∧ w' = w :=
  AnyF.slices_SortFunc_none Tryz.laysSort0 a cap fv w
theorem compact_none (a : Option Addr) (cap : Nat) (w : World) : Calls Tryz.prog 114 #[.slice a 0 cap] w fun e w' => e = .returned (.slice a 0 cap) ∧ w' = w :=
  AnyG.slices_Compact_int_empty Tryz.laysCompact a cap w
theorem compact_some (g cap : Nat) (zs : List Int) (w : World) (hH : Sort.Holds (Value.int .i64) w g 0 zs.toArray) (hsz : zs.length ≤ 9223372036854775807) (hcap : zs.length ≤ cap) :
    Calls Tryz.prog 114 #[.slice (some ⟨g, 0, none⟩) zs.length cap] w fun e w' => e = .returned (.slice (some ⟨g, 0, none⟩) (Lib.compact zs).length cap) ∧ ∃ q, w' = Sort.putRow (Value.int .i64) (Sort.ahead w q) g 0 (Lib.compact zs ++ List.replicate (zs.length - (Lib.compact zs).length) 0).toArray :=
  AnyG.slices_Compact_int Tryz.laysCompact g 0 cap zs w hH hsz hcap
theorem sort_some (g cap : Nat) (D : Array Mem) (w : World) (hH : Sort.Holds encM w g 0 D) (hg : g < w.heap.size) (hs : D.size < 4611686018427387904) :
    Calls Tryz.prog 111 #[.slice (some ⟨g, 0, none⟩) D.size cap, .func (.func 112) #[] #[]] w fun e w' => e = .returned (.tuple #[]) ∧ ∃ d' q os, Sort.PermIn 0 D.size D d' ∧ Sort.SortedIn (ltOf farM) 0 D.size d' ∧ w' = sortWorld encM w g 0 q d' os :=
  have e71 : ∀ args w, (callFunc 112 args).run Tryz.prog w = .ok (.enter 112 args) w := enters_of Tryz.func112 (by kernel_rfl) rfl
  Any.slices_SortFunc Tryz.laysSort encM (fun _ => rfl) farM farM_swo 112 #[] g 0 cap D w e71 (fun m os dk hs x y => (far_any x.1 y.1 x.2 y.2 _).mono fun e w' ⟨h1, h2⟩ => ⟨h1, 0, #[], by rw [h2]; simp [World.drewN]⟩) hH hg hs

set_option maxHeartbeats 4000000 in
theorem joined_any (vc vd : Value) (c d : List Int) (M : Nat) (hM : M ≤ 6) (w : World) (hc : cubeOk M c) (hd : cubeOk M d) (hC : Reads w vc c) (hD : Reads w vd d) :
    Calls Tryz.prog 95 #[vc, vd] w fun e w' => ∃ v r, e = .returned v ∧ RS (fun b => w.heap.size ≤ b) w' v r ∧ ((∀ m, m ∈ r ↔ m ∈ c ++ d) ∧ (bothWays (c ++ d) = false → r = joinC c d)) ∧ Below w.heap.size w w' := by
  have hc6 := cube_len hc
  have hd6 := cube_len hd
  have hmem : ∀ m ∈ c ++ d, m.natAbs ≤ 6 := by
    intro m hm
    rcases List.mem_append.1 hm with h | h
    · have := hc.1 m h; omega
    · have := hd.1 m h; omega
  obtain ⟨co, ccap, rfl, lc⟩ := reads_row hC
  obtain ⟨eo, ecap, rfl, ld⟩ := reads_row hD
  obtain ⟨w1, hw1⟩ : ∃ w1, w1 = w.alloc (.cells #[.slice co c.length ccap, .slice eo d.length ecap] 27) := ⟨_, rfl⟩
  have HB1 : Hid (Below w.heap.size w w1 ∧ w1.heap.size = w.heap.size + 1) := by unfold Hid; rw [hw1]; exact ⟨below_alloc1 _ _, by simp⟩
  have HCo : Hid (Calls Tryz.prog 35 #[.slice (some ⟨w.heap.size, 0, none⟩) 2 2] w1 fun e w' => ∃ v, e = .returned v ∧ w'.ownsRow w1.heap.size 3 1 v (c.length + d.length) ((c ++ d).map (Value.int .i64)) ∧ Below w1.heap.size w1 w') := by
    have h := concatV1 [⟨co, c.length, ccap, c.map (Value.int .i64)⟩, ⟨eo, d.length, ecap, d.map (Value.int .i64)⟩] w.heap.size 2 w1 (by simp) (by have := HB1.out.2; omega) (fun k r hk => ?_) (fun r hr => ?_) (by simp [manyV]; omega)
    · have e1 : manyV [⟨co, c.length, ccap, c.map (Value.int .i64)⟩, ⟨eo, d.length, ecap, d.map (Value.int .i64)⟩] = c.length + d.length := by simp [manyV]
      have e2 : allV [⟨co, c.length, ccap, c.map (Value.int .i64)⟩, ⟨eo, d.length, ecap, d.map (Value.int .i64)⟩] = (c ++ d).map (Value.int .i64) := by simp [allV]
      rw [e1, e2] at h
      exact h
    · match k, hk with
      | 0, hk => simp at hk; subst hk; rw [hw1]; simp
      | 1, hk => simp at hk; subst hk; rw [hw1]; simp
    · simp at hr
      rcases hr with rfl | rfl
      · exact lc.below HB1.out.1
      · exact ld.below HB1.out.1
  have HJ : Hid (∀ (e : Array Int), e.toList.Perm (c ++ d) → (∀ i j, i < j → j < e.size → (e[i]!).natAbs ≤ (e[j]!).natAbs) → (∀ m, m ∈ Lib.compact e.toList ↔ m ∈ c ++ d) ∧ (bothWays (c ++ d) = false → Lib.compact e.toList = joinC c d)) := fun e hp hs => joined_is hM hc hd hp hs
  have HL : Hid (c.length ≤ 6 ∧ d.length ≤ 6) := ⟨by omega, by omega⟩
  obtain ⟨nc, hnc⟩ : ∃ nc, nc = c.length := ⟨_, rfl⟩
  obtain ⟨nd, hnd⟩ : ∃ nd, nd = d.length := ⟨_, rfl⟩
  rw [← hnc, ← hnd] at HCo hw1 HL
  rw [← hnc, ← hnd]
  have HN : Hid (nc + nd = (c ++ d).length) := by unfold Hid; simp [hnc, hnd]
  clear lc ld hc hd hC hD hc6 hd6 hnc hnd
  go_enter Tryz.func95, Tryz.ntmps95
  go_wp2_with fail
  rw [← hw1]
  clear hw1
  go_at_call 35
  refine HCo.out.mono ?_
  rintro e w2 ⟨v2, rfl, hown, hb⟩
  have HB2 : Hid (Below w.heap.size w w2 ∧ w1.heap.size ≤ w2.heap.size) := ⟨HB1.out.1.trans (hb.mono HB1.out.1.size), hb.size⟩
  have HO2 : Hid (w2.ownsRow w1.heap.size 3 1 v2 (nc + nd) ((c ++ d).map (Value.int .i64))) := hown
  clear hb hown HCo
  obtain ⟨n, hn⟩ : ∃ n, n = nc + nd := ⟨_, rfl⟩
  rw [← hn] at HO2 HN
  have HNn : Hid (n = nc + nd) := hn
  clear hn
  rcases Nat.eq_zero_or_pos n with h0 | h0
  · subst h0
    have hnil : c ++ d = [] := List.eq_nil_of_length_eq_zero HN.out.symm
    obtain ⟨vo, vcap, rfl⟩ : ∃ vo vcap, v2 = .slice vo 0 vcap := by
      rcases HO2.out.2 with ⟨rfl, _⟩ | ⟨g, cap, cur, rfl, _⟩
      · exact ⟨none, 0, rfl⟩
      · exact ⟨_, cap, rfl⟩
    have HJ0 : Hid ((∀ m, m ∈ ([] : List Int) ↔ m ∈ c ++ d) ∧ (bothWays (c ++ d) = false → ([] : List Int) = joinC c d)) := by
      have := HJ.out #[] (by rw [hnil]) (by intro i j _ hj; simp at hj)
      have e : Lib.compact (#[] : Array Int).toList = [] := by simp [Lib.compact, Lib.compactUpTo]
      rw [e] at this
      exact this
    have HSo : Hid (∀ fv, Calls Tryz.prog 111 #[.slice vo 0 vcap, fv] w2 fun e w' => e = .returned (.tuple #[]) ∧ w' = w2) := fun fv => sort_none vo vcap fv w2
    have HCm : Hid (Calls Tryz.prog 114 #[.slice vo 0 vcap] w2 fun e w' => e = .returned (.slice vo 0 vcap) ∧ w' = w2) := compact_none vo vcap w2
    clear hnil HO2 HJ
    go_wp2_with (first
      | (go_at_call 111; refine (HSo.out _).mono ?_; rintro e w' ⟨rfl, rfl⟩)
      | (go_at_call 114; refine HCm.out.mono ?_; rintro e w' ⟨rfl, rfl⟩))
    go_ret
    exact ⟨_, [], rfl, Or.inl ⟨vo, vcap, rfl, rfl⟩, HJ0.out, HB2.out.1⟩
  · obtain ⟨g, cap, rfl⟩ : ∃ g cap, v2 = .slice (some ⟨g, 0, none⟩) n cap := by
      rcases HO2.out.2 with ⟨_, hz⟩ | ⟨g, cap, cur, rfl, _⟩
      · omega
      · exact ⟨g, cap, rfl⟩
    obtain ⟨D, hD⟩ : ∃ D, D = (memsOf (c ++ d) hmem).toArray := ⟨_, rfl⟩
    have hDs : D.size = n := by rw [hD, HN.out]; simp [memsOf_len]
    have hDl : (D.toList.map (·.1)) = c ++ d := by rw [hD]; exact memsOf_val _ hmem
    have hHo : Sort.Holds encM w2 g 0 D := by rw [hD]; exact holds_mems hmem HO2.out HN.out
    have hgl := HO2.out.lt g rfl
    have hnc : n ≤ cap := by
      rcases HO2.out.2 with ⟨h, _⟩ | ⟨g', cap', cur, h, _, _, hle, _⟩
      · cases h
      · cases h; exact hle
    have HSo : Hid (Calls Tryz.prog 111 #[.slice (some ⟨g, 0, none⟩) n cap, .func (.func 112) #[] #[]] w2 fun e w' => e = .returned (.tuple #[]) ∧ ∃ d' q os, Sort.PermIn 0 D.size D d' ∧ Sort.SortedIn (ltOf farM) 0 D.size d' ∧ w' = sortWorld encM w2 g 0 q d' os) := by
      have h := sort_some g cap D w2 hHo hgl.2 (by rw [hDs]; have := HL.out; have := HNn.out; omega)
      unfold Hid
      rw [hDs] at h ⊢
      exact h
    have HD : Hid (D.size = n ∧ D.toList.map (·.1) = c ++ d ∧ Sort.Holds encM w2 g 0 D) := ⟨hDs, hDl, hHo⟩
    have HG : Hid ((w1.heap.size ≤ g ∧ g < w2.heap.size) ∧ n ≤ cap) := ⟨hgl, hnc⟩
    have h12 : n ≤ 12 := by have := HL.out; have := HNn.out; omega
    clear hDs hDl hHo hgl hnc hD hmem HO2
    go_wp2_with fail
    go_at_call 111
    refine HSo.out.mono ?_
    rintro e w3 ⟨rfl, d', q, os, hperm, hsorted, hw3⟩
    obtain ⟨zs, hzs⟩ : ∃ zs, zs = d'.toList.map (·.1) := ⟨_, rfl⟩
    have hds : d'.size = D.size := hperm.1
    have hzl : zs.length = n := by rw [hzs]; simp [hds, HD.out.1]
    have hH3 : Sort.Holds encM w3 g 0 d' := by rw [hw3]; exact holds_sortWorld encM w2 g 0 q D d' os HG.out.1.2 HD.out.2.2 hds
    have hB3 : Below w1.heap.size w2 w3 := by rw [hw3]; exact below_sort HG.out.1.1 (by have := HG.out.1; omega)
    have hzp : zs.Perm (c ++ d) := by
      have h1 := hperm.2.2
      have e1 : (d'.extract 0 D.size).toList = d'.toList := by rw [← hds]; simp
      have e2 : (D.extract 0 D.size).toList = D.toList := by simp
      rw [e1, e2] at h1
      rw [hzs, ← HD.out.2.1]
      exact h1.map _
    have hzso : ∀ i j, i < j → j < zs.toArray.size → (zs.toArray[i]!).natAbs ≤ (zs.toArray[j]!).natAbs := by
      intro i j hij hj
      have hj' : j < d'.size := by rw [hds, HD.out.1, ← hzl]; simpa using hj
      have h1 := hsorted i j (Nat.zero_le _) hij (by rw [← hds]; exact hj')
      rw [farM_lt] at h1
      have g1 : ∀ k, k < d'.size → zs.toArray[k]! = (d'[k]!).1 := fun k hk => by
        have := get_val d' k hk
        rw [← hzs] at this
        rw [← this]
        simp [hzl, ← HD.out.1, ← hds, hk]
      rw [g1 i (by omega), g1 j hj']
      simpa using h1
    have HZ : Hid ((∀ m, m ∈ Lib.compact zs ↔ m ∈ c ++ d) ∧ (bothWays (c ++ d) = false → Lib.compact zs = joinC c d)) := HJ.out zs.toArray hzp hzso
    have HCm : Hid (Calls Tryz.prog 114 #[.slice (some ⟨g, 0, none⟩) n cap] w3 fun e w' => e = .returned (.slice (some ⟨g, 0, none⟩) (Lib.compact zs).length cap) ∧ ∃ q, w' = Sort.putRow (Value.int .i64) (Sort.ahead w3 q) g 0 (Lib.compact zs ++ List.replicate (zs.length - (Lib.compact zs).length) 0).toArray) := by
      have h := compact_some g cap zs w3 (by rw [hzs]; exact holds_ints hH3) (by omega) (by rw [hzl]; exact HG.out.2)
      rw [hzl] at h
      rw [← hzl] at h ⊢
      rw [hzl] at h ⊢
      exact h
    have HH3 : Hid (Sort.Holds (Value.int .i64) w3 g 0 zs.toArray ∧ (zs.length = n ∧ g < w3.heap.size)) := ⟨by rw [hzs]; exact holds_ints hH3, hzl, by have := hB3.size; have := HG.out.1; omega⟩
    have HB3 : Hid (Below w.heap.size w w3) := HB2.out.1.trans (hB3.mono HB1.out.1.size)
    clear hperm hsorted hw3 hzs hds hzl hH3 hB3 hzp hzso HSo HJ
    go_wp2_with fail
    go_at_call 114
    refine HCm.out.mono ?_
    rintro e w4 ⟨rfl, q2, hw4⟩
    obtain ⟨r, hr⟩ : ∃ r, r = Lib.compact zs := ⟨_, rfl⟩
    rw [← hr] at HZ hw4 ⊢
    have hrl : r.length ≤ zs.length := by rw [hr]; exact Lib.compact_length_le zs
    have hr0 : 0 < r.length := by
      have hne : c ++ d ≠ [] := fun e => by have := HN.out; rw [e] at this; simp at this; omega
      obtain ⟨m, hm⟩ := List.exists_mem_of_ne_nil _ hne
      exact List.length_pos_of_mem ((HZ.out.1 m).2 hm)
    have HR4 : Hid (RS (fun b => w.heap.size ≤ b) w4 (.slice (some ⟨g, 0, none⟩) r.length cap) r ∧ Below w.heap.size w w4) := by
      refine ⟨Or.inr ⟨g, 0, cap, rfl, ⟨?_, ?_⟩, hr0, ⟨by have := HH3.out.2.1; omega, by have := HH3.out.2.1; have := HG.out.2; omega⟩, fun k hk => ?_⟩, ?_⟩
      · have := HB1.out.2; have := HG.out.1; omega
      · rw [hw4]; simp [Sort.ahead]; exact HH3.out.2.2
      · rw [hw4]
        have hsz : (r ++ List.replicate (zs.length - r.length) 0).toArray.size = zs.toArray.size := by simp; omega
        have h := Sort.cell?_putRow (Value.int .i64) (Sort.ahead w3 q2) g 0 zs.toArray (r ++ List.replicate (zs.length - r.length) 0).toArray (Sort.holds_ahead _ w3 q2 g 0 _ HH3.out.1) hsz k (by rw [hsz]; simp; omega)
        rw [h]
        congr 2
        rw [List.getD_eq_getElem?_getD, getElem!_pos _ k (by rw [hsz]; simp; omega)]
        simp [List.getElem_append_left hk, hk]
      · rw [hw4]
        exact HB3.out.trans (below_put (by have := HG.out.1; have := HB1.out.2; omega))
    clear hw4 hr hrl hr0
    go_wp2
    go_ret
    exact ⟨_, r, rfl, HR4.out.1, HZ.out, HR4.out.2⟩
end Go.Proofs.YtpdpnlpepfgknafGreatDoor
