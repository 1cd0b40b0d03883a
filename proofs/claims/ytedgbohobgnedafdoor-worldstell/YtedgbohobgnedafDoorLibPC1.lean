/-
  Plain facts on sets as numbers (a set of u things is a number from 0 to 2^u - 1): no program is read here. Each is a finite reckoning by the kernel.
  Plain facts for the reference functions of chapter 1 (powers of 2, things of a set one by one): no program is read here.
  Plain facts on terms as rows of signs (chapter 2): how many terms a row makes, its fault, the pile of sets that it works out, terms as trees. No program is read here.
  Plain facts on the reference's value of a term, thing by thing, and on the nine letters. No program is read here.
  Plain facts on fields (chapter 6): the field in which a thing lies, how many lie in each, the world of so many, where a term lies. No program is read here.
  Plain facts on atoms (chapter 3): the fault of one, and whether it holds. No program is read here.
  Plain facts on formulas as atoms and rows of signs (chapter 4): how many formulas a row makes, its fault, the pile that it works out, its opposite, and two together. No program is read here.
  Plain facts on fields and formulas (chapter 6): whether a formula holds in a world hangs on how many things lie in each field alone. No program is read here.
  Plain facts on rows (chapter 7): the row of an atom, what it says of how many things lie in each field; rows that are so. No program is read here.
  Plain facts on counts of so many things, one behind the other (chapter 8). No program is read here. Plain facts on all counts of so many things: they go by the first field, then by the second, and so on, and none is left out; the first that fit, how many do, the next ones (chapter 8). No program is read here. Plain facts on what chapter 8 tells: how many counts fit rows, the first that do, and the next ones. No program is read here. Plain facts on the ends of all counts, and on the first that fit (chapter 8's statements). No program is read here. Plain facts on the counts behind others: the field ahead of the last that has any grows by one, and what is left goes into the last field (chapter 8). No program is read here.
  Plain facts on a row of signs as one formula, by how deep it is: a right formula is one, and what it holds is made of what its parts hold. No program is read here.
  Plain facts on cubes (chapter 5): two cubes joined, the cubes of And, Or, No and Then, the pile that a row of signs works out; they are cubes, none twice, and one of them holds just if the formula does. No program is read here.
  Plain facts on models: of the first of a formula's cubes that some counts fit, the least of these; in its world the formula holds, and where there is none it never does (chapter 9). No program is read here.
  Plain facts on where a formula does not hold, whether it is sure, and on a formula that a name has at least so many things (chapter 9). No program is read here.
  Plain facts on how many worlds there are, how many are alike, and in how many a formula holds (chapter 11). No program is read here.
  Plain facts on how many worlds are alike, as they are counted one thing behind the other (chapter 11). No program is read here.
  Proved: what sets.Check and sets.Do return, of any numbers, and that it leaves memory as it was (contracts that the statements lean on).
-/
import Derived.WalkKit
import Derived.Test.YtedgbohobgnedafDoorRows
import Derived.ProofKit
import Derived.OpenShut
namespace Go.Proofs.YtedgbohobgnedafDoor
open Go.RowKit

/-- all u things. -/
def allN (u : Int) : Int := 2 ^ u.toNat - 1
def orN (a b : Int) : Int := ((a.toNat ||| b.toNat : Nat) : Int)
def andN (a b : Int) : Int := ((a.toNat &&& b.toNat : Nat) : Int)
/-- what a has, and b has not. -/
def lessN (a b : Int) : Int := a - andN a b
/-- how many things. -/
def pcN (x : Int) : Int := x % 2 + x / 2 % 2 + x / 4 % 2 + x / 8 % 2 + x / 16 % 2 + x / 32 % 2
/-- is it a set of u things? -/
def okB (u s : Int) : Bool := decide (0 ≤ u ∧ u ≤ 6 ∧ 0 ≤ s ∧ s ≤ allN u)

theorem okB_iff {u s : Int} : okB u s = true ↔ 0 ≤ u ∧ u ≤ 6 ∧ 0 ≤ s ∧ s ≤ allN u := by simp [okB]
theorem okB_not {u s : Int} : okB u s = false ↔ ¬ (0 ≤ u ∧ u ≤ 6 ∧ 0 ≤ s ∧ s ≤ allN u) := by simp [okB]

theorem seven {u : Int} (h0 : 0 ≤ u) (h1 : u ≤ 6) : u = 0 ∨ u = 1 ∨ u = 2 ∨ u = 3 ∨ u = 4 ∨ u = 5 ∨ u = 6 := by omega
theorem allN_le {u : Int} (h0 : 0 ≤ u) (h1 : u ≤ 6) : 0 ≤ allN u ∧ allN u ≤ 63 := by
  rcases seven h0 h1 with rfl | rfl | rfl | rfl | rfl | rfl | rfl <;> decide
theorem okB_lt {u s : Int} (h : okB u s = true) : 0 ≤ u ∧ u ≤ 6 ∧ 0 ≤ s ∧ s < 64 := by
  obtain ⟨a, b, c, d⟩ := okB_iff.1 h
  have := (allN_le a b).2
  omega

/-- from numbers below 64 to all that are: a fact on each natural number is one on each integer. -/
theorem upto64 {P : Int → Prop} (h : ∀ n : Nat, n < 64 → P n) (x : Int) (h0 : 0 ≤ x) (h1 : x < 64) : P x := by
  obtain ⟨n, rfl⟩ := Int.eq_ofNat_of_zero_le h0
  exact h n (by omega)
theorem upto64two {P : Int → Int → Prop} (h : ∀ n : Nat, n < 64 → ∀ m : Nat, m < 64 → P n m) (x y : Int) (h0 : 0 ≤ x) (h1 : x < 64) (h2 : 0 ≤ y) (h3 : y < 64) : P x y :=
  upto64 (P := fun x => P x y) (fun n hn => upto64 (P := fun y => P n y) (h n hn) y h2 h3) x h0 h1

theorem or_bits (a b : Int) (h0 : 0 ≤ a) (h1 : a < 64) (h2 : 0 ≤ b) (h3 : b < 64) : bits .or .i64 a b = orN a b :=
  upto64two (P := fun a b => bits .or .i64 a b = orN a b) (by decide +kernel) a b h0 h1 h2 h3
theorem and_bits (a b : Int) (h0 : 0 ≤ a) (h1 : a < 64) (h2 : 0 ≤ b) (h3 : b < 64) : bits .and .i64 a b = andN a b :=
  upto64two (P := fun a b => bits .and .i64 a b = andN a b) (by decide +kernel) a b h0 h1 h2 h3
theorem less_bits (a b : Int) (h0 : 0 ≤ a) (h1 : a < 64) (h2 : 0 ≤ b) (h3 : b < 64) : bits .andNot .i64 a b = lessN a b :=
  upto64two (P := fun a b => bits .andNot .i64 a b = lessN a b) (by decide +kernel) a b h0 h1 h2 h3

/-- from numbers of sets to sets. -/
theorem uptoSets {P : Int → Int → Int → Prop} (h : ∀ u : Nat, u < 7 → ∀ n : Nat, n < 2 ^ u → ∀ m : Nat, m < 2 ^ u → P u n m) (u a b : Int) (ha : okB u a = true) (hb : okB u b = true) : P u a b := by
  obtain ⟨u0, u1, a0, a1⟩ := okB_iff.1 ha
  obtain ⟨_, _, b0, b1⟩ := okB_iff.1 hb
  obtain ⟨U, rfl⟩ := Int.eq_ofNat_of_zero_le u0
  obtain ⟨x, rfl⟩ := Int.eq_ofNat_of_zero_le a0
  obtain ⟨y, rfl⟩ := Int.eq_ofNat_of_zero_le b0
  have hp : allN (U : Int) = ((2 ^ U : Nat) : Int) - 1 := by unfold allN; simp
  have h1 : 0 < 2 ^ U := Nat.pow_pos (by omega)
  exact h U (by omega) x (by omega) y (by omega)

theorem ok_or {u a b : Int} (ha : okB u a = true) (hb : okB u b = true) : okB u (orN a b) = true :=
  uptoSets (P := fun u a b => okB u (orN a b) = true) (by decide +kernel) u a b ha hb
theorem ok_and {u a b : Int} (ha : okB u a = true) (hb : okB u b = true) : okB u (andN a b) = true :=
  uptoSets (P := fun u a b => okB u (andN a b) = true) (by decide +kernel) u a b ha hb
theorem ok_less {u a b : Int} (ha : okB u a = true) (hb : okB u b = true) : okB u (lessN a b) = true :=
  uptoSets (P := fun u a b => okB u (lessN a b) = true) (by decide +kernel) u a b ha hb
theorem ok_not {u a : Int} (ha : okB u a = true) : okB u (lessN (allN u) a) = true :=
  uptoSets (P := fun u a _ => okB u (lessN (allN u) a) = true) (by decide +kernel) u a a ha ha
theorem ok_zero {u : Int} (h0 : 0 ≤ u) (h1 : u ≤ 6) : okB u 0 = true := okB_iff.2 ⟨h0, h1, by omega, (allN_le h0 h1).1⟩

/-- what is done to two sets. -/
def doN (what u a b : Int) : Int := if what = 5 then orN a b else if what = 6 then andN a b else if what = 7 then lessN a b else lessN (allN u) a
theorem doN5 (u a b : Int) : doN 5 u a b = orN a b := rfl
theorem doN6 (u a b : Int) : doN 6 u a b = andN a b := rfl
theorem doN7 (u a b : Int) : doN 7 u a b = lessN a b := rfl
theorem doN8 (u a b : Int) : doN 8 u a b = lessN (allN u) a := rfl
theorem ok_do {what u a b : Int} (ha : okB u a = true) (hb : okB u b = true) : okB u (doN what u a b) = true := by
  unfold doN
  split
  · exact ok_or ha hb
  split
  · exact ok_and ha hb
  split
  · exact ok_less ha hb
  exact ok_not ha
/-- has it thing i? -/
def hasB (s i : Int) : Bool := decide (s / 2 ^ i.toNat % 2 = 1)

/-- De Morgan, what is less and both is the first, and not twice is not at all: as numbers. -/
theorem turn1 {u a b : Int} (ha : okB u a = true) (hb : okB u b = true) : lessN (allN u) (andN a b) = orN (lessN (allN u) a) (lessN (allN u) b) :=
  uptoSets (P := fun u a b => lessN (allN u) (andN a b) = orN (lessN (allN u) a) (lessN (allN u) b)) (by decide +kernel) u a b ha hb
theorem turn2 {u a b : Int} (ha : okB u a = true) (hb : okB u b = true) : orN (lessN a b) (andN a b) = a :=
  uptoSets (P := fun _ a b => orN (lessN a b) (andN a b) = a) (by decide +kernel) u a b ha hb
theorem turn3 {u a : Int} (ha : okB u a = true) : lessN (allN u) (lessN (allN u) a) = a :=
  uptoSets (P := fun u a _ => lessN (allN u) (lessN (allN u) a) = a) (by decide +kernel) u a a ha ha
theorem turn4 {u a b : Int} (ha : okB u a = true) (hb : okB u b = true) : pcN (orN a b) + pcN (andN a b) = pcN a + pcN b :=
  uptoSets (P := fun _ a b => pcN (orN a b) + pcN (andN a b) = pcN a + pcN b) (by decide +kernel) u a b ha hb
theorem pcN_le (x : Int) : 0 ≤ pcN x ∧ pcN x ≤ 6 := by unfold pcN; omega
end Go.Proofs.YtedgbohobgnedafDoor

namespace Go.Proofs.YtedgbohobgnedafDoor
open Go.RowKit

/-- 2 to the k. -/
def pw (k : Nat) : Int := 2 ^ k
theorem pw_succ (k : Nat) : pw (k + 1) = 2 * pw k := by unfold pw; rw [Int.pow_succ]; omega
theorem pw_pos (k : Nat) : 1 ≤ pw k := by
  induction k with
  | zero => decide
  | succ k ih => rw [pw_succ]; omega
theorem pw_mono {k l : Nat} (h : k ≤ l) : pw k ≤ pw l := by
  induction l with
  | zero => obtain rfl : k = 0 := by omega
            exact Int.le_refl _
  | succ l ih =>
    rcases Nat.lt_or_ge l k with h' | h'
    · obtain rfl : k = l + 1 := by omega
      exact Int.le_refl _
    · have := ih h'
      have := pw_pos l
      rw [pw_succ]; omega
theorem pw_le61 {k : Nat} (h : k ≤ 61) : pw k ≤ 2305843009213693952 := pw_mono h
theorem pw_le6 {k : Nat} (h : k ≤ 6) : pw k ≤ 64 := pw_mono h
theorem allN_pw (u : Int) : allN u = pw u.toNat - 1 := rfl
theorem hasB_pw (s i : Int) : hasB s i = decide (s / pw i.toNat % 2 = 1) := rfl

/-- the things of a set, one by one, of the first k. -/
def pcTo (s : Int) : Nat → Int
  | 0 => 0
  | k + 1 => pcTo s k + if hasB s k = true then 1 else 0
theorem pcTo_le (s : Int) (k : Nat) : 0 ≤ pcTo s k ∧ pcTo s k ≤ k := by
  induction k with
  | zero => exact ⟨Int.le_refl _, Int.le_refl _⟩
  | succ k ih => unfold pcTo; split <;> omega
theorem pcTo_six (s : Int) (h0 : 0 ≤ s) (h1 : s < 64) : pcTo s 6 = pcN s :=
  upto64 (P := fun s => pcTo s 6 = pcN s) (by decide +kernel) s h0 h1

/-- is a thing in what is done to two sets? -/
def inB (what : Int) (x y : Bool) : Bool := if what = 5 then x || y else if what = 6 then x && y else if what = 7 then x && !y else if what = 8 then !x else false
def doTo (what a b : Int) : Nat → Int
  | 0 => 0
  | k + 1 => doTo what a b k + if inB what (hasB a k) (hasB b k) = true then pw k else 0
theorem doTo_le (what a b : Int) (k : Nat) : 0 ≤ doTo what a b k ∧ doTo what a b k < pw k := by
  induction k with
  | zero => exact ⟨Int.le_refl _, show (0 : Int) < pw 0 by decide⟩
  | succ k ih =>
    have := pw_pos k
    unfold doTo
    rw [pw_succ]
    split <;> omega
theorem doTo_do (what u a b : Int) (hl : 5 ≤ what) (hm : what ≤ 8) (ha : okB u a = true) (hb : okB u b = true) : doTo what a b u.toNat = doN what u a b := by
  have hd : what = 5 ∨ what = 6 ∨ what = 7 ∨ what = 8 := by omega
  rcases hd with rfl | rfl | rfl | rfl
  · exact uptoSets (P := fun u a b => doTo 5 a b u.toNat = doN 5 u a b) (by decide +kernel) u a b ha hb
  · exact uptoSets (P := fun u a b => doTo 6 a b u.toNat = doN 6 u a b) (by decide +kernel) u a b ha hb
  · exact uptoSets (P := fun u a b => doTo 7 a b u.toNat = doN 7 u a b) (by decide +kernel) u a b ha hb
  · exact uptoSets (P := fun u a b => doTo 8 a b u.toNat = doN 8 u a b) (by decide +kernel) u a b ha hb

theorem wrap_fit (n : Int) (h0 : 0 ≤ n) (h1 : n ≤ 9223372036854775807) : wrap64 n = n := by unfold wrap64; omega
/-- how the walk spells s / 2^i % 2 == 1. -/
theorem has_spell (s : Int) (i : Nat) (h0 : 0 ≤ s) (h1 : s ≤ 9223372036854775807) : ((wrap64 (s.tdiv (pw i))).tmod 2 == 1) = hasB s i := by
  have hp := pw_pos i
  have hd : 0 ≤ s / pw i := Int.ediv_nonneg h0 (by omega)
  have hle : s / pw i ≤ s := Int.ediv_le_self _ h0
  rw [Int.tdiv_eq_ediv_of_nonneg h0, wrap_fit _ (by omega) (by omega), Int.tmod_eq_emod_of_nonneg hd, hasB_pw, Int.toNat_natCast]
  rfl
theorem has_spell2 (s : Int) (i : Nat) (h0 : 0 ≤ s) : ((s / pw i).tmod 2 == 1) = hasB s i := by
  have hp := pw_pos i
  have hd : 0 ≤ s / pw i := Int.ediv_nonneg h0 (by omega)
  rw [Int.tmod_eq_emod_of_nonneg hd, hasB_pw, Int.toNat_natCast]
  rfl
end Go.Proofs.YtedgbohobgnedafDoor

namespace Go.Proofs.YtedgbohobgnedafDoor
open Go.RowKit

/-- how many terms a sign takes. -/
def takesN (s : Int) : Int := if s = 5 ∨ s = 6 ∨ s = 7 then 2 else if s = 8 then 1 else 0
/-- is it a sign? -/
def signB (s : Int) : Bool := decide (0 ≤ s ∧ s ≤ 8)
/-- how many terms there are behind a row of signs; none: a sign takes more than there are. -/
def cnt : List Int → Int → Option Int
  | [], n => some n
  | s :: l, n => if n < takesN s then none else cnt l (n + 1 - takesN s)
/-- what is wrong with a row of signs: the number of the error, or 0. -/
def faultN (t : List Int) : Int := if t.length = 0 then 5 else if 12 < t.length then 4 else if t.all signB = true then (if cnt t 0 = some 1 then 0 else 3) else 1

theorem signB_iff {s : Int} : signB s = true ↔ 0 ≤ s ∧ s ≤ 8 := by simp [signB]
theorem takesN_range (s : Int) : 0 ≤ takesN s ∧ takesN s ≤ 2 := by unfold takesN; split <;> (try split) <;> omega
theorem takes5 (s : Int) (h : s < 5) : takesN s = 0 := by unfold takesN; rw [if_neg (by omega), if_neg (by omega)]
theorem takes2 (s : Int) (h : 5 ≤ s) (h' : s ≤ 7) : takesN s = 2 := by unfold takesN; rw [if_pos (by omega)]
theorem takes1 : takesN 8 = 1 := by decide

theorem cnt_append (a b : List Int) (n : Int) : cnt (a ++ b) n = (cnt a n).bind (cnt b) := by
  induction a generalizing n with
  | nil => rfl
  | cons s l ih =>
    simp only [List.cons_append, cnt]
    split
    · rfl
    · exact ih _
theorem cnt_nonneg {l : List Int} {n m : Int} (hn : 0 ≤ n) (h : cnt l n = some m) : 0 ≤ m ∧ m ≤ n + l.length := by
  induction l generalizing n with
  | nil => simp [cnt] at h; subst h; simp; omega
  | cons s l ih =>
    have := takesN_range s
    unfold cnt at h
    split at h
    · cases h
    · have := ih (by omega) h
      simp; omega

/-- one sign more. -/
theorem take_succ_getD (t : List Int) {k : Nat} (h : k < t.length) : t.take (k + 1) = t.take k ++ [t.getD k 0] := by
  rw [List.take_add_one]; simp [List.getElem?_eq_getElem h]
theorem cnt_take_succ (t : List Int) {k : Nat} (h : k < t.length) {m : Int} (hm : cnt (t.take k) 0 = some m) : cnt (t.take (k + 1)) 0 = if m < takesN (t.getD k 0) then none else some (m + 1 - takesN (t.getD k 0)) := by
  rw [take_succ_getD t h, cnt_append, hm]; rfl
theorem cnt_take_none (t : List Int) (k : Nat) (h : cnt (t.take k) 0 = none) : cnt t 0 = none := by
  have : cnt (t.take k ++ t.drop k) 0 = none := by rw [cnt_append, h]; rfl
  rwa [List.take_append_drop] at this
theorem cnt_take_some (t : List Int) (k : Nat) {n : Int} (h : cnt t 0 = some n) : ∃ m, cnt (t.take k) 0 = some m := by
  cases hc : cnt (t.take k) 0 with
  | none => rw [cnt_take_none t k hc] at h; cases h
  | some m => exact ⟨m, rfl⟩

/-! ### a world, and the pile -/
structure Wd where
  u : Int
  a : Int
  b : Int
  c : Int
def Wd.ok (w : Wd) : Bool := okB w.u w.a && okB w.u w.b && okB w.u w.c
def Wd.name (w : Wd) (s : Int) : Int := if s = 0 then w.a else if s = 1 then w.b else w.c
/-- the set that a sign makes of those it takes. -/
def Wd.made (w : Wd) (s : Int) (l : List Int) : Int := if s < 3 then w.name s else if s = 3 then 0 else if s = 4 then doN 8 w.u 0 0 else doN s w.u (l.getD 0 0) (l.getD (l.length - 1) 0)
/-- where what a sign takes begins. -/
def restN (p : List Int) (s : Int) : Nat := p.length - (takesN s).toNat
def Wd.step (w : Wd) (p : List Int) (s : Int) : List Int := p.take (restN p s) ++ [w.made s (p.drop (restN p s))]
def Wd.pile (w : Wd) (t p : List Int) : List Int := t.foldl w.step p

theorem pile_append (w : Wd) (a b p : List Int) : w.pile (a ++ b) p = w.pile b (w.pile a p) := by simp [Wd.pile, List.foldl_append]
theorem pile_succ (w : Wd) (t p : List Int) {k : Nat} (h : k < t.length) : w.pile (t.take (k + 1)) p = w.step (w.pile (t.take k) p) (t.getD k 0) := by
  rw [take_succ_getD t h, pile_append]; rfl
theorem step_length (w : Wd) (p : List Int) (s : Int) (h : takesN s ≤ p.length) : ((w.step p s).length : Int) = p.length + 1 - takesN s := by
  have := takesN_range s
  simp [Wd.step, restN]
  omega
theorem pile_length (w : Wd) (t p : List Int) {n : Int} (h : cnt t p.length = some n) : ((w.pile t p).length : Int) = n := by
  induction t generalizing p with
  | nil => simp [cnt] at h; simpa [Wd.pile] using h
  | cons s l ih =>
    unfold cnt at h
    split at h
    · cases h
    · rename_i hs
      have e := step_length w p s (by omega)
      exact ih (w.step p s) (by rw [e]; exact h)

theorem Wd.ok_iff {w : Wd} : w.ok = true ↔ okB w.u w.a = true ∧ okB w.u w.b = true ∧ okB w.u w.c = true := by simp [Wd.ok, and_assoc]
theorem ok_name {w : Wd} (h : w.ok = true) (s : Int) : okB w.u (w.name s) = true := by
  obtain ⟨h1, h2, h3⟩ := Wd.ok_iff.1 h
  unfold Wd.name
  split
  · exact h1
  split
  · exact h2
  exact h3
theorem ok_u {w : Wd} (h : w.ok = true) : 0 ≤ w.u ∧ w.u ≤ 6 := by
  obtain ⟨h1, h2, _⟩ := okB_iff.1 (Wd.ok_iff.1 h).1
  exact ⟨h1, h2⟩
theorem ok_getD {w : Wd} (h : w.ok = true) {p : List Int} (hp : ∀ x ∈ p, okB w.u x = true) (k : Nat) : okB w.u (p.getD k 0) = true := by
  rcases Nat.lt_or_ge k p.length with hk | hk
  · rw [List.getD_eq_getElem?_getD, List.getElem?_eq_getElem hk]; exact hp _ (List.getElem_mem hk)
  · rw [List.getD_eq_getElem?_getD, List.getElem?_eq_none hk]; exact ok_zero (ok_u h).1 (ok_u h).2
theorem ok_made {w : Wd} (h : w.ok = true) {p : List Int} (hp : ∀ x ∈ p, okB w.u x = true) (s : Int) : okB w.u (w.made s p) = true := by
  have z := ok_zero (ok_u h).1 (ok_u h).2
  unfold Wd.made
  split
  · exact ok_name h s
  split
  · exact z
  split
  · exact ok_do z z
  exact ok_do (ok_getD h hp _) (ok_getD h hp _)
theorem ok_step {w : Wd} (h : w.ok = true) {p : List Int} (hp : ∀ x ∈ p, okB w.u x = true) (s : Int) : ∀ x ∈ w.step p s, okB w.u x = true := by
  intro x hx
  unfold Wd.step at hx
  rcases List.mem_append.1 hx with hx | hx
  · exact hp x (List.mem_of_mem_take hx)
  · rw [List.mem_singleton.1 hx]
    exact ok_made h (fun y hy => hp y (List.mem_of_mem_drop hy)) s
theorem ok_pile {w : Wd} (h : w.ok = true) (t : List Int) {p : List Int} (hp : ∀ x ∈ p, okB w.u x = true) : ∀ x ∈ w.pile t p, okB w.u x = true := by
  induction t generalizing p with
  | nil => exact hp
  | cons s l ih => exact ih (p := w.step p s) (ok_step h hp s)

/-- the set of a term. -/
def Wd.val (w : Wd) (t : List Int) : Int := (w.pile t []).getD 0 0
theorem ok_val {w : Wd} (h : w.ok = true) (t : List Int) : okB w.u (w.val t) = true := ok_getD h (ok_pile h t (p := []) (by intro x hx; cases hx)) 0

/-! ### one term, by how deep it is -/
/-- a row of signs that is one term, of depth at most n. -/
def isTm : Nat → List Int → Prop
  | 0, _ => False
  | n + 1, q => (∃ s : Int, 0 ≤ s ∧ s ≤ 4 ∧ q = [s]) ∨ (∃ t, isTm n t ∧ q = t ++ [8]) ∨ (∃ (s : Int) (a b : List Int), 5 ≤ s ∧ s ≤ 7 ∧ isTm n a ∧ isTm n b ∧ q = a ++ (b ++ [s]))
theorem isTm_mono {n : Nat} : ∀ {m : Nat} {q : List Int}, n ≤ m → isTm n q → isTm m q := by
  induction n with
  | zero => intro m q _ h; exact h.elim
  | succ n ih =>
    intro m q hm h
    obtain ⟨k, rfl⟩ : ∃ k, m = k + 1 := ⟨m - 1, by omega⟩
    rcases h with ⟨s, h0, h4, e⟩ | ⟨t, ht, e⟩ | ⟨s, a, b, h5, h7, ha, hb, e⟩
    · exact Or.inl ⟨s, h0, h4, e⟩
    · exact Or.inr (Or.inl ⟨t, ih (by omega) ht, e⟩)
    · exact Or.inr (Or.inr ⟨s, a, b, h5, h7, ih (by omega) ha, ih (by omega) hb, e⟩)

theorem made_leaf (w : Wd) (s : Int) (l : List Int) (h : s ≤ 4) : w.made s l = w.made s [] := by
  unfold Wd.made
  by_cases h3 : s < 3
  · rw [if_pos h3, if_pos h3]
  rw [if_neg h3, if_neg h3]
  by_cases h4 : s = 3
  · rw [if_pos h4, if_pos h4]
  rw [if_neg h4, if_neg h4, if_pos (by omega), if_pos (by omega)]
theorem made_do (w : Wd) (s : Int) (l : List Int) (h : 5 ≤ s) : w.made s l = doN s w.u (l.getD 0 0) (l.getD (l.length - 1) 0) := by
  unfold Wd.made
  rw [if_neg (by omega), if_neg (by omega), if_neg (by omega)]

theorem pile_one (w : Wd) (s : Int) (hs : s ≤ 4) (p : List Int) : w.pile [s] p = p ++ [w.made s []] := by
  show w.step p s = _
  unfold Wd.step restN
  rw [takes5 s (by omega)]
  simp
theorem pile_opp (w : Wd) (t : List Int) (v : Int) (h : ∀ p, w.pile t p = p ++ [v]) (p : List Int) : w.pile (t ++ [8]) p = p ++ [doN 8 w.u v v] := by
  rw [pile_append, h]
  show w.step _ 8 = _
  unfold Wd.step restN
  rw [takes1, made_do _ _ _ (by omega)]
  simp
theorem pile_bin (w : Wd) (s : Int) (h5 : 5 ≤ s) (h7 : s ≤ 7) (a b : List Int) (x y : Int) (ha : ∀ p, w.pile a p = p ++ [x]) (hb : ∀ p, w.pile b p = p ++ [y]) (p : List Int) : w.pile (a ++ (b ++ [s])) p = p ++ [doN s w.u x y] := by
  rw [pile_append, ha, pile_append, hb]
  show w.step _ s = _
  unfold Wd.step restN
  rw [takes2 s h5 h7, made_do _ _ _ h5]
  simp
theorem val_of_pile {w : Wd} {q : List Int} {v : Int} (h : ∀ p, w.pile q p = p ++ [v]) : w.val q = v := by
  unfold Wd.val; rw [h]; rfl
/-- a term lays its set on the pile. -/
theorem pile_tm (w : Wd) (n : Nat) : ∀ q, isTm n q → ∀ p, w.pile q p = p ++ [w.val q] := by
  induction n with
  | zero => intro q h; exact h.elim
  | succ n ih =>
    intro q h
    rcases h with ⟨s, h0, h4, rfl⟩ | ⟨t, ht, rfl⟩ | ⟨s, a, b, h5, h7, ha, hb, rfl⟩
    · have := pile_one w s h4
      rw [val_of_pile this]; exact this
    · have := pile_opp w t _ (ih t ht)
      rw [val_of_pile this]; exact this
    · have := pile_bin w s h5 h7 a b _ _ (ih a ha) (ih b hb)
      rw [val_of_pile this]; exact this
theorem val_leaf (w : Wd) (s : Int) (h : s ≤ 4) : w.val [s] = w.made s [] := val_of_pile (pile_one w s h)
theorem val_opp (w : Wd) {n : Nat} {t : List Int} (h : isTm n t) : w.val (t ++ [8]) = doN 8 w.u (w.val t) (w.val t) := val_of_pile (pile_opp w t _ (pile_tm w n t h))
theorem val_bin (w : Wd) {n m : Nat} {s : Int} (h5 : 5 ≤ s) (h7 : s ≤ 7) {a b : List Int} (ha : isTm n a) (hb : isTm m b) : w.val (a ++ (b ++ [s])) = doN s w.u (w.val a) (w.val b) := val_of_pile (pile_bin w s h5 h7 a b _ _ (pile_tm w n a ha) (pile_tm w m b hb))

/-- a row of right signs is as many terms as it makes. -/
theorem trees (t : List Int) (ht : ∀ s ∈ t, 0 ≤ s ∧ s ≤ 8) (ts : List (List Int)) (hts : ∀ q ∈ ts, ∃ n, isTm n q) {n : Int} (h : cnt t ts.length = some n) :
    ∃ ts' : List (List Int), (ts'.length : Int) = n ∧ (∀ q ∈ ts', ∃ n, isTm n q) ∧ ts'.flatten = ts.flatten ++ t := by
  induction t generalizing ts with
  | nil => simp [cnt] at h; exact ⟨ts, h, hts, by simp⟩
  | cons s l ih =>
    have hs := ht s (by simp)
    have hl : ∀ x ∈ l, 0 ≤ x ∧ x ≤ 8 := fun x hx => ht x (by simp [hx])
    unfold cnt at h
    split at h
    · cases h
    · rename_i hn
      by_cases h5 : s < 5
      · rw [takes5 s h5] at h
        obtain ⟨ts', h1, h2, h3⟩ := ih hl (ts ++ [[s]]) (by
          intro q hq
          rcases List.mem_append.1 hq with hq | hq
          · exact hts q hq
          · rw [List.mem_singleton.1 hq]; exact ⟨1, Or.inl ⟨s, hs.1, by omega, rfl⟩⟩) (by rw [← h]; simp)
        exact ⟨ts', h1, h2, by rw [h3]; simp⟩
      by_cases h8 : s = 8
      · subst h8
        rw [takes1] at h hn
        obtain ⟨ts0, a, rfl⟩ : ∃ ts0 a, ts = ts0 ++ [a] := by
          rcases List.eq_nil_or_concat ts with rfl | ⟨x, y, rfl⟩
          · simp at hn
          · exact ⟨x, y, by simp⟩
        obtain ⟨ts', h1, h2, h3⟩ := ih hl (ts0 ++ [a ++ [8]]) (by
          intro q hq
          rcases List.mem_append.1 hq with hq | hq
          · exact hts q (by simp [hq])
          · rw [List.mem_singleton.1 hq]
            obtain ⟨k, hk⟩ := hts a (by simp)
            exact ⟨k + 1, Or.inr (Or.inl ⟨a, hk, rfl⟩)⟩) (by rw [← h]; simp)
        exact ⟨ts', h1, h2, by rw [h3]; simp⟩
      · rw [takes2 s (by omega) (by omega)] at h hn
        obtain ⟨ts0, a, b, rfl⟩ : ∃ ts0 a b, ts = ts0 ++ [a, b] := by
          rcases List.eq_nil_or_concat ts with rfl | ⟨x, y, rfl⟩
          · simp at hn
          · rcases List.eq_nil_or_concat x with rfl | ⟨x', z, rfl⟩
            · simp at hn
            · exact ⟨x', z, y, by simp⟩
        obtain ⟨ts', h1, h2, h3⟩ := ih hl (ts0 ++ [a ++ (b ++ [s])]) (by
          intro q hq
          rcases List.mem_append.1 hq with hq | hq
          · exact hts q (by simp [hq])
          · rw [List.mem_singleton.1 hq]
            obtain ⟨k, hk⟩ := hts a (by simp)
            obtain ⟨j, hj⟩ := hts b (by simp)
            exact ⟨k + j + 1, Or.inr (Or.inr ⟨s, a, b, by omega, by omega, isTm_mono (by omega) hk, isTm_mono (by omega) hj, rfl⟩)⟩) (by rw [← h]; simp; congr 1; omega)
        exact ⟨ts', h1, h2, by rw [h3]; simp⟩

/-- a right term is one. -/
theorem tree (t : List Int) (hs : t.all signB = true) (h : cnt t 0 = some 1) : ∃ n, isTm n t := by
  obtain ⟨ts, h1, h2, h3⟩ := trees t (fun s hm => signB_iff.1 (List.all_eq_true.1 hs s hm)) [] (by intro q hq; cases hq) h
  match ts, h1 with
  | [q], _ =>
    have e : q = t := by simpa using h3
    rw [← e]; exact h2 q (by simp)
  | [], h1 => simp at h1
  | _ :: _ :: _, h1 => simp at h1; omega

theorem fault_zero {t : List Int} : faultN t = 0 ↔ t.length ≠ 0 ∧ t.length ≤ 12 ∧ t.all signB = true ∧ cnt t 0 = some 1 := by
  unfold faultN
  by_cases h1 : t.length = 0
  · rw [if_pos h1]; exact ⟨fun h => by omega, fun h => absurd h1 h.1⟩
  rw [if_neg h1]
  by_cases h2 : 12 < t.length
  · rw [if_pos h2]; exact ⟨fun h => by omega, fun h => by omega⟩
  rw [if_neg h2]
  by_cases h3 : t.all signB = true
  · rw [if_pos h3]
    by_cases h4 : cnt t 0 = some 1
    · rw [if_pos h4]; exact ⟨fun _ => ⟨h1, by omega, h3, h4⟩, fun _ => rfl⟩
    · rw [if_neg h4]; exact ⟨fun h => by omega, fun h => absurd h.2.2.2 h4⟩
  · rw [if_neg h3]; exact ⟨fun h => by omega, fun h => absurd h.2.2.1 h3⟩

theorem cnt_more (r : List Int) (n m : Int) (h : cnt r n = some m) : cnt r (n + 1) = some (m + 1) := by
  induction r generalizing n with
  | nil => simp [cnt] at h ⊢; exact h
  | cons s l ih =>
    unfold cnt at h ⊢
    split at h
    · cases h
    · rw [if_neg (by omega), show n + 1 + 1 - takesN s = n + 1 - takesN s + 1 by omega]
      exact ih _ h
/-- behind a right term another one, and what is done to both. -/
theorem good_two {t r : List Int} (ht : faultN t = 0) (hr : faultN r = 0) (hl : t.length + r.length ≤ 11) {s : Int} (h5 : 5 ≤ s) (h7 : s ≤ 7) : faultN (t ++ (r ++ [s])) = 0 := by
  obtain ⟨a1, a2, a3, a4⟩ := fault_zero.1 ht
  obtain ⟨b1, b2, b3, b4⟩ := fault_zero.1 hr
  refine fault_zero.2 ⟨by simp, by simp; omega, ?_, ?_⟩
  · simp only [List.all_append, a3, b3, Bool.true_and, List.all_cons, List.all_nil, Bool.and_true]
    exact signB_iff.2 ⟨by omega, by omega⟩
  · rw [cnt_append, a4]
    show cnt (r ++ [s]) 1 = _
    have e : cnt r 1 = some 2 := cnt_more r 0 1 b4
    rw [cnt_append, e]
    show cnt [s] 2 = _
    simp [cnt, takes2 s h5 h7]
theorem val_two (w : Wd) {t r : List Int} (ht : faultN t = 0) (hr : faultN r = 0) {s : Int} (h5 : 5 ≤ s) (h7 : s ≤ 7) : w.val (t ++ (r ++ [s])) = doN s w.u (w.val t) (w.val r) := by
  obtain ⟨a1, a2, a3, a4⟩ := fault_zero.1 ht
  obtain ⟨b1, b2, b3, b4⟩ := fault_zero.1 hr
  obtain ⟨n, hn⟩ := tree t a3 a4
  obtain ⟨m, hm⟩ := tree r b3 b4
  exact val_bin w h5 h7 hn hm

/-- not twice is not at all. -/
theorem good_twice {t : List Int} (ht : faultN t = 0) (hl : t.length ≤ 10) : faultN (t ++ [8, 8]) = 0 := by
  obtain ⟨a1, a2, a3, a4⟩ := fault_zero.1 ht
  refine fault_zero.2 ⟨by simp, by simp; omega, ?_, ?_⟩
  · simp only [List.all_append, a3, Bool.true_and]; decide
  · rw [cnt_append, a4]; decide
theorem val_twice {w : Wd} (hw : w.ok = true) {t : List Int} (ht : faultN t = 0) : w.val (t ++ [8, 8]) = w.val t := by
  obtain ⟨a1, a2, a3, a4⟩ := fault_zero.1 ht
  obtain ⟨n, hn⟩ := tree t a3 a4
  have hn1 : isTm (n + 1) (t ++ [8]) := Or.inr (Or.inl ⟨t, hn, rfl⟩)
  rw [show t ++ [8, 8] = (t ++ [8]) ++ [8] by simp, val_opp w hn1, val_opp w hn]
  exact turn3 (ok_val hw t)
end Go.Proofs.YtedgbohobgnedafDoor

namespace Go.Proofs.YtedgbohobgnedafDoor
open Go.RowKit

theorem has_do {what u a b : Int} (hl : 5 ≤ what) (hm : what ≤ 8) (ha : okB u a = true) (hb : okB u b = true) (i : Nat) (hi : (i : Int) < u) : hasB (doN what u a b) i = inB what (hasB a i) (hasB b i) := by
  have hd : what = 5 ∨ what = 6 ∨ what = 7 ∨ what = 8 := by omega
  have hj : i < u.toNat := by omega
  rcases hd with rfl | rfl | rfl | rfl
  · exact uptoSets (P := fun u a b => ∀ i < u.toNat, hasB (doN 5 u a b) i = inB 5 (hasB a i) (hasB b i)) (by decide +kernel) u a b ha hb i hj
  · exact uptoSets (P := fun u a b => ∀ i < u.toNat, hasB (doN 6 u a b) i = inB 6 (hasB a i) (hasB b i)) (by decide +kernel) u a b ha hb i hj
  · exact uptoSets (P := fun u a b => ∀ i < u.toNat, hasB (doN 7 u a b) i = inB 7 (hasB a i) (hasB b i)) (by decide +kernel) u a b ha hb i hj
  · exact uptoSets (P := fun u a b => ∀ i < u.toNat, hasB (doN 8 u a b) i = inB 8 (hasB a i) (hasB b i)) (by decide +kernel) u a b ha hb i hj
theorem has_none (i : Nat) : hasB 0 i = false := by simp [hasB]

theorem has_opp {w : Wd} (h : w.ok = true) {n : Nat} {t : List Int} (ht : isTm n t) (i : Nat) (hi : (i : Int) < w.u) : hasB (w.val (t ++ [8])) i = !hasB (w.val t) i := by
  rw [val_opp w ht]
  exact has_do (by omega) (by omega) (ok_val h t) (ok_val h t) i hi
theorem has_two {w : Wd} (h : w.ok = true) {s : Int} (h5 : 5 ≤ s) (h7 : s ≤ 7) {n m : Nat} {a b : List Int} (ha : isTm n a) (hb : isTm m b) (i : Nat) (hi : (i : Int) < w.u) : hasB (w.val (a ++ (b ++ [s]))) i = inB s (hasB (w.val a) i) (hasB (w.val b) i) := by
  rw [val_bin w h5 h7 ha hb]
  exact has_do (by omega) (by omega) (ok_val h a) (ok_val h b) i hi
theorem has_leaf {w : Wd} (h : w.ok = true) (s : Int) (h0 : 0 ≤ s) (h4 : s ≤ 4) (i : Nat) (hi : (i : Int) < w.u) : hasB (w.val [s]) i = if s < 3 then hasB (w.name s) i else s == 4 := by
  have z := ok_zero (ok_u h).1 (ok_u h).2
  rw [val_leaf w s h4]
  unfold Wd.made
  by_cases h3 : s < 3
  · rw [if_pos h3, if_pos h3]
  rw [if_neg h3, if_neg h3]
  by_cases h3' : s = 3
  · subst h3'; rw [if_pos rfl]; exact has_none i
  obtain rfl : s = 4 := by omega
  rw [if_neg h3', if_pos rfl, has_do (by omega) (by omega) z z i hi, has_none]; rfl

/-- the value of a set, thing by thing, of the first k. -/
def sumTo (v : Int) : Nat → Int
  | 0 => 0
  | k + 1 => sumTo v k + if hasB v k = true then pw k else 0
theorem sumTo_le (v : Int) (k : Nat) : 0 ≤ sumTo v k ∧ sumTo v k < pw k := by
  induction k with
  | zero => exact ⟨Int.le_refl _, show (0 : Int) < pw 0 by decide⟩
  | succ k ih =>
    have := pw_pos k
    unfold sumTo
    rw [pw_succ]
    split <;> omega
theorem sumTo_all {u v : Int} (h : okB u v = true) : sumTo v u.toNat = v :=
  uptoSets (P := fun u v _ => sumTo v u.toNat = v) (by decide +kernel) u v v h h

/-! ### the letters -/
/-- the bytes of the signs, one by one. -/
def letterL : List UInt8 := [65, 66, 67, 48, 49, 43, 42, 45, 126]
def letterB : ByteArray := ⟨#[65, 66, 67, 48, 49, 43, 42, 45, 126]⟩
/-- which sign a byte is; -1: none. -/
def signOf (b : UInt8) : Int := if b = 65 then 0 else if b = 66 then 1 else if b = 67 then 2 else if b = 48 then 3 else if b = 49 then 4 else if b = 43 then 5 else if b = 42 then 6 else if b = 45 then 7 else if b = 126 then 8 else -1
/-- the byte of a sign. -/
def byteOf (s : Int) : UInt8 := if s = 0 then 65 else if s = 1 then 66 else if s = 2 then 67 else if s = 3 then 48 else if s = 4 then 49 else if s = 5 then 43 else if s = 6 then 42 else if s = 7 then 45 else 126
theorem nine {s : Int} (h : signB s = true) : s = 0 ∨ s = 1 ∨ s = 2 ∨ s = 3 ∨ s = 4 ∨ s = 5 ∨ s = 6 ∨ s = 7 ∨ s = 8 := by
  have := signB_iff.1 h; omega
theorem sign_byte {s : Int} (h : signB s = true) : signOf (byteOf s) = s := by
  rcases nine h with rfl | rfl | rfl | rfl | rfl | rfl | rfl | rfl | rfl <;> decide
theorem byte_all : ∀ b : UInt8, (signOf b = -1 ∨ (signB (signOf b) = true ∧ byteOf (signOf b) = b)) := by
  intro b
  have h : ∀ n : Fin 256, (signOf ⟨⟨n⟩⟩ = -1 ∨ (signB (signOf ⟨⟨n⟩⟩) = true ∧ byteOf (signOf ⟨⟨n⟩⟩) = ⟨⟨n⟩⟩)) := by decide +kernel
  exact h b.toBitVec.toFin
theorem byte_sign {b : UInt8} (h : signOf b ≠ -1) : signB (signOf b) = true ∧ byteOf (signOf b) = b := (byte_all b).resolve_left h
/-- a term as a text; a text as signs. -/
def textN (t : List Int) : List UInt8 := t.map byteOf
def readN (l : List UInt8) : List Int := l.map signOf
def lettersB (l : List UInt8) : Bool := l.all fun b => signOf b != -1
/-- what is wrong with a text. -/
def textFault (l : List UInt8) : Int := if lettersB l = true then faultN (readN l) else 2
theorem read_text {t : List Int} (h : t.all signB = true) : readN (textN t) = t := by
  induction t with
  | nil => rfl
  | cons s l ih =>
    simp only [List.all_cons, Bool.and_eq_true] at h
    simp only [textN, readN, List.map_cons, sign_byte h.1]
    exact congrArg _ (ih h.2)
theorem letters_text {t : List Int} (h : t.all signB = true) : lettersB (textN t) = true := by
  induction t with
  | nil => rfl
  | cons s l ih =>
    simp only [List.all_cons, Bool.and_eq_true] at h
    have := signB_iff.1 h.1
    simp only [lettersB, textN, List.map_cons, List.all_cons, sign_byte h.1, Bool.and_eq_true, bne_iff_ne, ne_eq]
    exact ⟨by omega, ih h.2⟩
theorem text_read {l : List UInt8} (h : lettersB l = true) : textN (readN l) = l := by
  induction l with
  | nil => rfl
  | cons b l ih =>
    simp only [lettersB, List.all_cons, Bool.and_eq_true, bne_iff_ne, ne_eq] at h
    simp only [textN, readN, List.map_cons, (byte_sign h.1).2]
    exact congrArg _ (ih h.2)
theorem read_signs {l : List UInt8} (h : lettersB l = true) : (readN l).all signB = true := by
  induction l with
  | nil => rfl
  | cons b l ih =>
    simp only [lettersB, List.all_cons, Bool.and_eq_true, bne_iff_ne, ne_eq] at h
    simp only [readN, List.map_cons, List.all_cons, (byte_sign h.1).1, Bool.true_and]
    exact ih h.2
end Go.Proofs.YtedgbohobgnedafDoor

namespace Go.Proofs.YtedgbohobgnedafDoor
open Go.RowKit

/-- 1, if so, else 0. -/
def oneB (x : Bool) : Int := if x = true then 1 else 0
theorem oneB_le (x : Bool) : 0 ≤ oneB x ∧ oneB x ≤ 1 := by cases x <;> decide
/-- has name k the things of field f? -/
def bitB (f k : Nat) : Bool := decide (f / 2 ^ k % 2 = 1)
/-- the field in which thing i lies. -/
def Wd.field (w : Wd) (i : Nat) : Nat := (hasB w.a i).toNat + 2 * (hasB w.b i).toNat + 4 * (hasB w.c i).toNat
theorem field_lt (w : Wd) (i : Nat) : w.field i < 8 := by
  unfold Wd.field
  cases hasB w.a i <;> cases hasB w.b i <;> cases hasB w.c i <;> decide
theorem eight {f : Nat} (h : f < 8) : f = 0 ∨ f = 1 ∨ f = 2 ∨ f = 3 ∨ f = 4 ∨ f = 5 ∨ f = 6 ∨ f = 7 := by omega
theorem field_bit (w : Wd) (i : Nat) : bitB (w.field i) 0 = hasB w.a i ∧ bitB (w.field i) 1 = hasB w.b i ∧ bitB (w.field i) 2 = hasB w.c i := by
  unfold Wd.field
  cases hasB w.a i <;> cases hasB w.b i <;> cases hasB w.c i <;> decide
theorem bit_field {f : Nat} (h : f < 8) : (bitB f 0).toNat + 2 * (bitB f 1).toNat + 4 * (bitB f 2).toNat = f := by
  rcases eight h with rfl | rfl | rfl | rfl | rfl | rfl | rfl | rfl <;> decide

/-- how many of the first k things lie in field f. -/
def Wd.fc (w : Wd) : Nat → Nat → Int
  | 0, _ => 0
  | k + 1, f => w.fc k f + if w.field k = f then 1 else 0
theorem fc_le (w : Wd) (k f : Nat) : 0 ≤ w.fc k f ∧ w.fc k f ≤ k := by
  induction k with
  | zero => exact ⟨Int.le_refl _, Int.le_refl _⟩
  | succ k ih => unfold Wd.fc; split <;> omega

/-- so many in the first k fields, added up; those of some fields alone. -/
def sumN (N : Nat → Int) : Nat → Int
  | 0 => 0
  | k + 1 => sumN N k + N k
def sumIn (L : Nat → Bool) (N : Nat → Int) : Nat → Int
  | 0 => 0
  | k + 1 => sumIn L N k + if L k = true then N k else 0
/-- is each by itself right? -/
def eachB (N : Nat → Int) : Nat → Bool
  | 0 => true
  | k + 1 => eachB N k && decide (0 ≤ N k ∧ N k ≤ 6)
/-- what is wrong with counts: the number of the error, or 0. -/
def countsFault (N : Nat → Int) : Int := if eachB N 8 = true then (if sumN N 8 ≤ 6 then 0 else 4) else 1

theorem eachB_iff {N : Nat → Int} {k : Nat} : eachB N k = true ↔ ∀ f, f < k → 0 ≤ N f ∧ N f ≤ 6 := by
  induction k with
  | zero => exact ⟨fun _ f hf => by omega, fun _ => rfl⟩
  | succ k ih =>
    unfold eachB
    rw [Bool.and_eq_true, ih, decide_eq_true_iff]
    refine ⟨fun h f hf => ?_, fun h => ⟨fun f hf => h f (by omega), h k (by omega)⟩⟩
    rcases Nat.lt_or_ge f k with h' | h'
    · exact h.1 f h'
    · obtain rfl : f = k := by omega
      exact h.2
theorem eachB_no {N : Nat → Int} {k : Nat} (hk : k < 8) (h : ¬ (0 ≤ N k ∧ N k ≤ 6)) : eachB N 8 = false := by
  rcases (Bool.eq_false_or_eq_true (eachB N 8)).symm with e | e
  · exact e
  · exact absurd (eachB_iff.1 e k hk) h
theorem sumN_le {N : Nat → Int} {k : Nat} (h : ∀ f, f < k → 0 ≤ N f ∧ N f ≤ 6) : 0 ≤ sumN N k ∧ sumN N k ≤ 6 * k := by
  induction k with
  | zero => exact ⟨Int.le_refl _, Int.le_refl _⟩
  | succ k ih =>
    have := ih fun f hf => h f (by omega)
    have := h k (by omega)
    unfold sumN; omega
theorem sumN_mono {N : Nat → Int} {k l : Nat} (hkl : k ≤ l) (h : ∀ f, f < l → 0 ≤ N f ∧ N f ≤ 6) : sumN N k ≤ sumN N l := by
  induction l with
  | zero => obtain rfl : k = 0 := by omega
            exact Int.le_refl _
  | succ l ih =>
    rcases Nat.lt_or_ge l k with h' | h'
    · obtain rfl : k = l + 1 := by omega
      exact Int.le_refl _
    · have := ih h' fun f hf => h f (by omega)
      have := h l (by omega)
      have e : sumN N (l + 1) = sumN N l + N l := rfl
      rw [e]; omega
theorem sumIn_le {L : Nat → Bool} {N : Nat → Int} {k : Nat} (h : ∀ f, f < k → 0 ≤ N f ∧ N f ≤ 6) : 0 ≤ sumIn L N k ∧ sumIn L N k ≤ sumN N k := by
  induction k with
  | zero => exact ⟨Int.le_refl _, Int.le_refl _⟩
  | succ k ih =>
    have := ih fun f hf => h f (by omega)
    have := h k (by omega)
    unfold sumIn sumN; split <;> omega
theorem counts_zero {N : Nat → Int} : countsFault N = 0 ↔ (∀ f, f < 8 → 0 ≤ N f ∧ N f ≤ 6) ∧ sumN N 8 ≤ 6 := by
  unfold countsFault
  by_cases h : eachB N 8 = true
  · rw [if_pos h]
    by_cases h' : sumN N 8 ≤ 6
    · rw [if_pos h']; exact ⟨fun _ => ⟨eachB_iff.1 h, h'⟩, fun _ => rfl⟩
    · rw [if_neg h']; exact ⟨fun e => (by cases e), fun e => absurd e.2 h'⟩
  · rw [if_neg h]; exact ⟨fun e => (by cases e), fun e => absurd (eachB_iff.2 e.1) h⟩

/-! ### one thing more -/
/-- the world with one thing more, which lies in field f. -/
def Wd.more (w : Wd) (f : Nat) : Wd := ⟨w.u + 1, w.a + oneB (bitB f 0) * pw w.u.toNat, w.b + oneB (bitB f 1) * pw w.u.toNat, w.c + oneB (bitB f 2) * pw w.u.toNat⟩
def Wd.mores (w : Wd) (f : Nat) : Nat → Wd
  | 0 => w
  | j + 1 => (w.mores f j).more f
/-- the world of so many in each of the first k fields. -/
def madeN (N : Nat → Int) : Nat → Wd
  | 0 => ⟨0, 0, 0, 0⟩
  | k + 1 => (madeN N k).mores k (N k).toNat

theorem ok_more1 {u a : Int} (h : okB u a = true) (h5 : u ≤ 5) (x : Bool) : okB (u + 1) (a + oneB x * pw u.toNat) = true := by
  have e : ∀ x, okB u a = true → u ≤ 5 → okB (u + 1) (a + oneB x * pw u.toNat) = true := fun x h h5 =>
    uptoSets (P := fun u a _ => u ≤ 5 → ∀ x, okB (u + 1) (a + oneB x * pw u.toNat) = true) (by decide +kernel) u a a h h h5 x
  exact e x h h5
theorem has_more1 {u a : Int} (h : okB u a = true) (h5 : u ≤ 5) (x : Bool) : (∀ i : Nat, i < u.toNat → hasB (a + oneB x * pw u.toNat) i = hasB a i) ∧ hasB (a + oneB x * pw u.toNat) u.toNat = x :=
  uptoSets (P := fun u a _ => u ≤ 5 → ∀ x, (∀ i : Nat, i < u.toNat → hasB (a + oneB x * pw u.toNat) i = hasB a i) ∧ hasB (a + oneB x * pw u.toNat) u.toNat = x) (by decide +kernel) u a a h h h5 x
theorem more_u (w : Wd) (f : Nat) : (w.more f).u = w.u + 1 := rfl
theorem more_ok {w : Wd} (h : w.ok = true) (h5 : w.u ≤ 5) (f : Nat) : (w.more f).ok = true := by
  obtain ⟨h1, h2, h3⟩ := Wd.ok_iff.1 h
  exact Wd.ok_iff.2 ⟨ok_more1 h1 h5 _, ok_more1 h2 h5 _, ok_more1 h3 h5 _⟩
theorem field_more {w : Wd} (h : w.ok = true) (h5 : w.u ≤ 5) {f : Nat} (hf : f < 8) : (∀ i : Nat, i < w.u.toNat → (w.more f).field i = w.field i) ∧ (w.more f).field w.u.toNat = f := by
  obtain ⟨h1, h2, h3⟩ := Wd.ok_iff.1 h
  refine ⟨fun i hi => ?_, ?_⟩
  · unfold Wd.field Wd.more
    simp only
    rw [(has_more1 h1 h5 _).1 i hi, (has_more1 h2 h5 _).1 i hi, (has_more1 h3 h5 _).1 i hi]
  · unfold Wd.field Wd.more
    simp only
    rw [(has_more1 h1 h5 _).2, (has_more1 h2 h5 _).2, (has_more1 h3 h5 _).2]
    exact bit_field hf
theorem fc_same {w w' : Wd} {k : Nat} (h : ∀ i, i < k → w'.field i = w.field i) (g : Nat) : w'.fc k g = w.fc k g := by
  induction k with
  | zero => rfl
  | succ k ih =>
    unfold Wd.fc
    rw [ih fun i hi => h i (by omega), h k (by omega)]
theorem fc_more {w : Wd} (h : w.ok = true) (h5 : w.u ≤ 5) {f : Nat} (hf : f < 8) (g : Nat) : (w.more f).fc (w.u.toNat + 1) g = w.fc w.u.toNat g + if f = g then 1 else 0 := by
  obtain ⟨e1, e2⟩ := field_more h h5 hf
  show (w.more f).fc w.u.toNat g + _ = _
  rw [fc_same e1, e2]
theorem mores_u (w : Wd) (f : Nat) (j : Nat) : (w.mores f j).u = w.u + j := by
  induction j with
  | zero => simp [Wd.mores]
  | succ j ih => unfold Wd.mores; rw [more_u, ih]; push_cast; omega
theorem mores_ok {w : Wd} (h : w.ok = true) (f : Nat) {j : Nat} (hj : w.u + j ≤ 6) : (w.mores f j).ok = true := by
  induction j with
  | zero => exact h
  | succ j ih =>
    have := mores_u w f j
    exact more_ok (ih (by push_cast at hj; omega)) (by push_cast at hj; omega) f
theorem fc_mores {w : Wd} (h : w.ok = true) {f : Nat} (hf : f < 8) {j : Nat} (hj : w.u + j ≤ 6) (g : Nat) : (w.mores f j).fc (w.u.toNat + j) g = w.fc w.u.toNat g + if f = g then (j : Int) else 0 := by
  induction j with
  | zero => show w.fc _ g = _; split <;> simp
  | succ j ih =>
    have hu := (ok_u h).1
    have e := mores_u w f j
    push_cast at hj
    have e' : (w.mores f j).u.toNat = w.u.toNat + j := by omega
    have := fc_more (mores_ok h f (j := j) (by omega)) (by omega) hf g
    rw [e', ih (by omega)] at this
    rw [show w.u.toNat + (j + 1) = w.u.toNat + j + 1 by omega]
    show ((w.mores f j).more f).fc _ g = _
    rw [this]
    split
    · push_cast; omega
    · omega

theorem made_all {N : Nat → Int} (h : ∀ f, f < 8 → 0 ≤ N f ∧ N f ≤ 6) (hs : sumN N 8 ≤ 6) {k : Nat} (hk : k ≤ 8) :
    (madeN N k).ok = true ∧ (madeN N k).u = sumN N k ∧ ∀ g, (madeN N k).fc (sumN N k).toNat g = if g < k then N g else 0 := by
  induction k with
  | zero => exact ⟨show (⟨0, 0, 0, 0⟩ : Wd).ok = true by decide, rfl, fun g => by simp [sumN, Wd.fc]⟩
  | succ k ih =>
    obtain ⟨i1, i2, i3⟩ := ih (by omega)
    have hN := h k (by omega)
    have hm := sumN_mono (N := N) hk h
    have h0 := (sumN_le (N := N) (k := k) fun f hf => h f (by omega)).1
    have es : sumN N (k + 1) = sumN N k + N k := rfl
    have ht : ((N k).toNat : Int) = N k := by omega
    refine ⟨mores_ok i1 k (by rw [i2]; omega), ?_, fun g => ?_⟩
    · show ((madeN N k).mores k (N k).toNat).u = _
      rw [mores_u, i2, es, ht]
    · have := fc_mores i1 (f := k) (by omega) (j := (N k).toNat) (by rw [i2]; omega) g
      rw [i2, i3, ht] at this
      rw [es, show (sumN N k + N k).toNat = (sumN N k).toNat + (N k).toNat by omega]
      show ((madeN N k).mores k (N k).toNat).fc _ g = _
      rw [this]
      by_cases e : k = g
      · subst e; rw [if_neg (by omega), if_pos rfl, if_pos (by omega)]; omega
      · rw [if_neg e]
        by_cases e' : g < k
        · rw [if_pos e', if_pos (by omega)]; omega
        · rw [if_neg e', if_neg (by omega)]; omega

/-- of right counts: the world is right, has as many things, and so many lie in each field. -/
theorem made_ok {N : Nat → Int} (h : countsFault N = 0) : (madeN N 8).ok = true := (made_all (counts_zero.1 h).1 (counts_zero.1 h).2 (Nat.le_refl _)).1
theorem made_u {N : Nat → Int} (h : countsFault N = 0) : (madeN N 8).u = sumN N 8 := (made_all (counts_zero.1 h).1 (counts_zero.1 h).2 (Nat.le_refl _)).2.1
theorem made_fc {N : Nat → Int} (h : countsFault N = 0) {g : Nat} (hg : g < 8) : (madeN N 8).fc (madeN N 8).u.toNat g = N g := by
  obtain ⟨_, e, f⟩ := made_all (counts_zero.1 h).1 (counts_zero.1 h).2 (Nat.le_refl _)
  rw [e, f g, if_pos hg]

/-! ### all things lie in a field -/
theorem sumN_same {N M : Nat → Int} {k : Nat} (h : ∀ f, f < k → N f = M f) : sumN N k = sumN M k := by
  induction k with
  | zero => rfl
  | succ k ih => unfold sumN; rw [ih fun f hf => h f (by omega), h k (by omega)]
theorem sumIn_same {L : Nat → Bool} {N M : Nat → Int} {k : Nat} (h : ∀ f, f < k → N f = M f) : sumIn L N k = sumIn L M k := by
  induction k with
  | zero => rfl
  | succ k ih => unfold sumIn; rw [ih fun f hf => h f (by omega), h k (by omega)]
theorem sumIn_one (L : Nat → Bool) (N : Nat → Int) (g k : Nat) : sumIn L (fun f => N f + if g = f then 1 else 0) k = sumIn L N k + if g < k ∧ L g = true then 1 else 0 := by
  induction k with
  | zero => simp [sumIn]
  | succ k ih =>
    unfold sumIn
    rw [ih]
    rcases (Bool.eq_false_or_eq_true (L k)).symm with l | l
    · have l' : ¬ L k = true := by rw [l]; decide
      have e : (g < k ∧ L g = true) ↔ (g < k + 1 ∧ L g = true) := by
        refine ⟨fun h => ⟨by omega, h.2⟩, fun h => ⟨?_, h.2⟩⟩
        rcases Nat.lt_or_ge g k with h' | h'
        · exact h'
        · obtain rfl : g = k := by omega
          rw [l] at h; exact absurd h.2 (by decide)
      simp only [e, if_neg l', Int.add_zero]
    · rw [if_pos l, if_pos l]
      by_cases e : g = k
      · subst e
        have e1 : ¬ (g < g ∧ L g = true) := by omega
        have e2 : g < g + 1 ∧ L g = true := ⟨by omega, l⟩
        rw [if_neg e1, if_pos e2, if_pos rfl]; omega
      · have e1 : (g < k ∧ L g = true) ↔ (g < k + 1 ∧ L g = true) := ⟨fun h => ⟨by omega, h.2⟩, fun h => ⟨by omega, h.2⟩⟩
        rw [if_neg e]
        simp only [e1]
        omega
theorem sumN_all (N : Nat → Int) (k : Nat) : sumIn (fun _ => true) N k = sumN N k := by
  induction k with
  | zero => rfl
  | succ k ih => unfold sumIn sumN; rw [ih, if_pos rfl]
theorem sumIn_fc (w : Wd) (L : Nat → Bool) (k : Nat) : sumIn L (w.fc (k + 1)) 8 = sumIn L (w.fc k) 8 + if L (w.field k) = true then 1 else 0 := by
  have := sumIn_one L (w.fc k) (w.field k) 8
  have e : (w.fc (k + 1)) = fun f => w.fc k f + if w.field k = f then 1 else 0 := rfl
  rw [e, this]
  have hf := field_lt w k
  by_cases l : L (w.field k) = true
  · rw [if_pos l, if_pos ⟨hf, l⟩]
  · rw [if_neg l, if_neg fun h => l h.2]
theorem sumIn_zero (w : Wd) (L : Nat → Bool) (k : Nat) : sumIn L (w.fc 0) k = 0 := by
  induction k with
  | zero => rfl
  | succ k ih => unfold sumIn; rw [ih]; simp [Wd.fc]
theorem sum_fc (w : Wd) (k : Nat) : sumN (w.fc k) 8 = k := by
  rw [← sumN_all]
  induction k with
  | zero => exact sumIn_zero w _ 8
  | succ k ih => rw [sumIn_fc, ih, if_pos rfl]; push_cast; rfl
theorem counts_fc {w : Wd} (h : w.ok = true) : countsFault (w.fc w.u.toNat) = 0 := by
  have hu := ok_u h
  refine counts_zero.2 ⟨fun f _ => ?_, ?_⟩
  · have := fc_le w w.u.toNat f; omega
  · rw [sum_fc]; omega

/-! ### where a term lies -/
/-- the world of one thing, which lies in field f. -/
def oneW (f : Nat) : Wd := (⟨0, 0, 0, 0⟩ : Wd).more f
theorem oneW_ok (f : Nat) : (oneW f).ok = true := more_ok (by decide) (by decide) f
theorem oneW_u (f : Nat) : (oneW f).u = 1 := rfl
/-- does a term lie in field f? -/
def liesB (t : List Int) (f : Nat) : Bool := hasB ((oneW f).val t) ((0 : Nat) : Int)
theorem oneW_has {f : Nat} : hasB (oneW f).a ((0 : Nat) : Int) = bitB f 0 ∧ hasB (oneW f).b ((0 : Nat) : Int) = bitB f 1 ∧ hasB (oneW f).c ((0 : Nat) : Int) = bitB f 2 := by
  unfold oneW Wd.more
  simp only
  cases bitB f 0 <;> cases bitB f 1 <;> cases bitB f 2 <;> decide
theorem oneW_val (f : Nat) (t : List Int) : (oneW f).val t = oneB (liesB t f) := by
  have h := ok_val (oneW_ok f) t
  unfold liesB
  rw [oneW_u] at h
  obtain ⟨_, _, h0, h1⟩ := okB_iff.1 h
  have h1' : (oneW f).val t ≤ 1 := h1
  have hd : (oneW f).val t = 0 ∨ (oneW f).val t = 1 := by omega
  rcases hd with e | e <;> rw [e] <;> decide
/-- a thing is in what a term is, if the term lies in its field. -/
theorem has_field {w : Wd} (h : w.ok = true) (i : Nat) (hi : (i : Int) < w.u) (n : Nat) : ∀ t, isTm n t → hasB (w.val t) i = liesB t (w.field i) := by
  obtain ⟨b0, b1, b2⟩ := field_bit w i
  obtain ⟨o0, o1, o2⟩ := oneW_has (f := w.field i)
  have h1 : ((0 : Nat) : Int) < (oneW (w.field i)).u := by rw [oneW_u]; decide
  have ho := oneW_ok (w.field i)
  induction n with
  | zero => intro t ht; exact ht.elim
  | succ n ih =>
    intro t ht
    rcases ht with ⟨s, h0, h4, rfl⟩ | ⟨t, ht, rfl⟩ | ⟨s, x, y, h5, h7, hx, hy, rfl⟩
    · unfold liesB
      rw [has_leaf h s h0 h4 i hi, has_leaf ho s h0 h4 0 h1]
      by_cases h3 : s < 3
      · rw [if_pos h3, if_pos h3]
        unfold Wd.name
        by_cases s0 : s = 0
        · rw [if_pos s0, if_pos s0, o0, b0]
        · rw [if_neg s0, if_neg s0]
          by_cases s1 : s = 1
          · rw [if_pos s1, if_pos s1, o1, b1]
          · rw [if_neg s1, if_neg s1, o2, b2]
      · rw [if_neg h3, if_neg h3]
    · have e := ih t ht
      unfold liesB at e ⊢
      rw [has_opp h ht i hi, has_opp ho ht 0 h1, e]
    · have ex := ih x hx
      have ey := ih y hy
      unfold liesB at ex ey ⊢
      rw [has_two h h5 h7 hx hy i hi, has_two ho h5 h7 hx hy 0 h1, ex, ey]
theorem pcTo_u {u v : Int} (h : okB u v = true) : pcTo v u.toNat = pcN v :=
  uptoSets (P := fun u v _ => pcTo v u.toNat = pcN v) (by decide +kernel) u v v h h
/-- a term has as many things in a world as in its fields. -/
theorem size_fields {w : Wd} (h : w.ok = true) {n : Nat} {t : List Int} (ht : isTm n t) : pcN (w.val t) = sumIn (liesB t) (w.fc w.u.toNat) 8 := by
  have e : ∀ k : Nat, k ≤ w.u.toNat → pcTo (w.val t) k = sumIn (liesB t) (w.fc k) 8 := by
    intro k
    induction k with
    | zero => intro _; rw [sumIn_zero]; rfl
    | succ k ih =>
      intro hk
      rw [sumIn_fc, ← ih (by omega), ← has_field h k (by omega) n t ht]
      rfl
  rw [← pcTo_u (ok_val h t)]
  exact e _ (Nat.le_refl _)
theorem size_same {w w' : Wd} (h : w.ok = true) (h' : w'.ok = true) (he : ∀ f, f < 8 → w'.fc w'.u.toNat f = w.fc w.u.toNat f) {n : Nat} {t : List Int} (ht : isTm n t) : pcN (w'.val t) = pcN (w.val t) := by
  rw [size_fields h ht, size_fields h' ht]
  exact sumIn_same he

/-! ### the mask -/
/-- 2^f for each of the first k fields, added up. -/
def maskTo (L : Nat → Bool) : Nat → Int
  | 0 => 0
  | k + 1 => maskTo L k + oneB (L k) * pw k
theorem maskTo_le (L : Nat → Bool) (k : Nat) : 0 ≤ maskTo L k ∧ maskTo L k < pw k := by
  induction k with
  | zero => exact ⟨Int.le_refl _, show (0 : Int) < pw 0 by decide⟩
  | succ k ih =>
    have := pw_pos k
    unfold maskTo
    rw [pw_succ]
    unfold oneB
    split <;> omega
theorem has_mask1 : ∀ k : Nat, k < 8 → ∀ m : Nat, m < 2 ^ k → ∀ x, (∀ i : Nat, i < k → hasB ((m : Int) + oneB x * pw k) i = hasB m i) ∧ hasB ((m : Int) + oneB x * pw k) k = x := by decide +kernel
theorem has_mask (L : Nat → Bool) {k : Nat} (hk : k ≤ 8) {f : Nat} (hf : f < k) : hasB (maskTo L k) f = L f := by
  induction k with
  | zero => omega
  | succ k ih =>
    obtain ⟨m0, m1⟩ := maskTo_le L k
    obtain ⟨m, hm⟩ := Int.eq_ofNat_of_zero_le m0
    have hp : pw k = ((2 ^ k : Nat) : Int) := by unfold pw; simp
    have h := has_mask1 k (by omega) m (by rw [hm, hp] at m1; omega) (L k)
    unfold maskTo
    rw [hm]
    rcases Nat.lt_or_ge f k with h' | h'
    · rw [h.1 f h', ← hm]; exact ih (by omega) h'
    · obtain rfl : f = k := by omega
      exact h.2
end Go.Proofs.YtedgbohobgnedafDoor

namespace Go.Proofs.YtedgbohobgnedafDoor
open Go.RowKit

/-- has a kind a second term? a number? -/
def secondB (k : Int) : Bool := decide (k = 1 ∨ k = 2 ∨ k = 5)
def numberB (k : Int) : Bool := decide (k = 3 ∨ k = 4 ∨ k = 5)
/-- what is wrong with the second term. -/
def secondFault (k : Int) (t : List Int) : Int := if secondB k = true then faultN t else if 0 < t.length then 3 else 0
/-- how great a number may be. -/
def mostN (k : Int) : Int := if numberB k = true then 20 else 0
/-- what is wrong with an atom. -/
def atomFault (k : Int) (s t : List Int) (n : Int) : Int :=
  if 1 ≤ k ∧ k ≤ 5 then (if faultN s = 0 then (if secondFault k t = 0 then (if - mostN k ≤ n ∧ n ≤ mostN k then 0 else 1) else secondFault k t) else faultN s) else 1
/-- what an atom says of two sets. -/
def saysB (k n x y : Int) : Bool :=
  if k = 1 then decide (lessN x y = 0) else if k = 2 then decide (x = y) else if k = 3 then decide (n ≤ pcN x) else if k = 4 then decide (pcN x ≤ n) else decide (pcN x ≤ pcN y + n)
/-- the set of the second term, where there is one. -/
def Wd.snd (w : Wd) (k : Int) (t : List Int) : Int := if secondB k = true then w.val t else 0
/-- does it hold? -/
def Wd.holds (w : Wd) (k : Int) (s t : List Int) (n : Int) : Bool := saysB k n (w.val s) (w.snd k t)
/-- what Holds tells: the number of the error, and the answer. -/
def Wd.holdsFault (w : Wd) (k : Int) (s t : List Int) (n : Int) : Int := if atomFault k s t n = 0 then (if w.ok = true then 0 else 1) else atomFault k s t n
def Wd.holdsIs (w : Wd) (k : Int) (s t : List Int) (n : Int) : Bool := if w.holdsFault k s t n = 0 then w.holds k s t n else false

theorem five {k : Int} (h0 : 1 ≤ k) (h1 : k ≤ 5) : k = 1 ∨ k = 2 ∨ k = 3 ∨ k = 4 ∨ k = 5 := by omega
theorem atomFault_kind {k : Int} (h : ¬ (1 ≤ k ∧ k ≤ 5)) (s t : List Int) (n : Int) : atomFault k s t n = 1 := by unfold atomFault; rw [if_neg h]
theorem atomFault_first {k : Int} (h : 1 ≤ k ∧ k ≤ 5) {s : List Int} (hs : ¬ faultN s = 0) (t : List Int) (n : Int) : atomFault k s t n = faultN s := by unfold atomFault; rw [if_pos h, if_neg hs]
theorem atomFault_second {k : Int} (h : 1 ≤ k ∧ k ≤ 5) {s : List Int} (hs : faultN s = 0) {t : List Int} (ht : ¬ secondFault k t = 0) (n : Int) : atomFault k s t n = secondFault k t := by unfold atomFault; rw [if_pos h, if_pos hs, if_neg ht]
theorem atomFault_third {k : Int} (h : 1 ≤ k ∧ k ≤ 5) {s : List Int} (hs : faultN s = 0) {t : List Int} (ht : secondFault k t = 0) (n : Int) : atomFault k s t n = if - mostN k ≤ n ∧ n ≤ mostN k then 0 else 1 := by unfold atomFault; rw [if_pos h, if_pos hs, if_pos ht]
theorem atomFault_zero {k : Int} {s t : List Int} {n : Int} : atomFault k s t n = 0 ↔ (1 ≤ k ∧ k ≤ 5) ∧ faultN s = 0 ∧ secondFault k t = 0 ∧ - mostN k ≤ n ∧ n ≤ mostN k := by
  by_cases h : 1 ≤ k ∧ k ≤ 5
  · by_cases hs : faultN s = 0
    · by_cases ht : secondFault k t = 0
      · rw [atomFault_third h hs ht]
        by_cases hn : - mostN k ≤ n ∧ n ≤ mostN k
        · rw [if_pos hn]; exact ⟨fun _ => ⟨h, hs, ht, hn⟩, fun _ => rfl⟩
        · rw [if_neg hn]; exact ⟨fun h => (by cases h), fun h' => absurd h'.2.2.2 hn⟩
      · rw [atomFault_second h hs ht]; exact ⟨fun h' => absurd h' ht, fun h' => absurd h'.2.2.1 ht⟩
    · rw [atomFault_first h hs]; exact ⟨fun h' => absurd h' hs, fun h' => absurd h'.2.1 hs⟩
  · rw [atomFault_kind h]; exact ⟨fun h' => (by cases h'), fun h' => absurd h'.1 h⟩
theorem second_reads {k : Int} {t : List Int} (ht : secondFault k t = 0) : secondB k = true → faultN t = 0 := by
  intro h'
  unfold secondFault at ht
  rw [if_pos h'] at ht
  exact ht

/-! ### none has fewer than none, nor more than all -/
theorem none_all {w : Wd} (hw : w.ok = true) (s : List Int) : lessN (w.val s) (allN w.u) = 0 := by
  have h := ok_val hw s
  exact uptoSets (P := fun u a _ => lessN a (allN u) = 0) (by decide +kernel) w.u (w.val s) (w.val s) h h
theorem none_size {w : Wd} (hw : w.ok = true) (s : List Int) : pcN (w.val s) ≤ w.u := by
  have h := ok_val hw s
  exact uptoSets (P := fun u a _ => pcN a ≤ u) (by decide +kernel) w.u (w.val s) (w.val s) h h
end Go.Proofs.YtedgbohobgnedafDoor

namespace Go.Proofs.YtedgbohobgnedafDoor
open Go.RowKit

/-- how many formulas a sign takes. -/
def takesF (s : Int) : Int := if s = 10 ∨ s = 11 ∨ s = 13 then 2 else if s = 12 then 1 else 0
/-- is it a sign, where there are so many atoms? -/
def signF (m : Nat) (s : Int) : Bool := !(decide (takesF s = 0) && (decide (s < 0) || decide ((m : Int) ≤ s)))
/-- how many formulas there are behind a row of signs; none: a sign takes more than there are. -/
def cntF : List Int → Int → Option Int
  | [], n => some n
  | s :: l, n => if n < takesF s then none else cntF l (n + 1 - takesF s)
/-- an atom. -/
structure At where
  k : Int
  s : List Int
  t : List Int
  n : Int
def At.fault (a : At) : Int := atomFault a.k a.s a.t a.n
/-- what is wrong with the first atom that is none. -/
def firstFault : List At → Int
  | [] => 0
  | a :: l => if a.fault = 0 then firstFault l else a.fault
/-- what is wrong with a formula: the number of the error, or 0. -/
def formFault (ats : List At) (c : List Int) : Int :=
  if ats.length = 0 ∨ c.length = 0 then 5 else if 6 < ats.length ∨ 20 < c.length then 4 else if firstFault ats = 0 then (if c.all (signF ats.length) = true then (if cntF c 0 = some 1 then 0 else 3) else 1) else firstFault ats

theorem takesF_range (s : Int) : 0 ≤ takesF s ∧ takesF s ≤ 2 := by unfold takesF; split <;> (try split) <;> omega
theorem takesF_leaf {s : Int} (h : takesF s = 0) : s ≠ 10 ∧ s ≠ 11 ∧ s ≠ 12 ∧ s ≠ 13 := by
  unfold takesF at h
  split at h
  · omega
  · split at h <;> omega
theorem takesF_low {s : Int} (h : s < 10) : takesF s = 0 := by unfold takesF; rw [if_neg (by omega), if_neg (by omega)]
theorem signF_iff {m : Nat} {s : Int} : signF m s = true ↔ (takesF s ≠ 0 ∨ (0 ≤ s ∧ s < m)) := by
  unfold signF
  by_cases h : takesF s = 0
  · simp [h]
  · simp [h]
theorem firstFault_zero {ats : List At} : firstFault ats = 0 ↔ ∀ a ∈ ats, a.fault = 0 := by
  induction ats with
  | nil => simp [firstFault]
  | cons a l ih =>
    unfold firstFault
    by_cases h : a.fault = 0
    · rw [if_pos h, ih]; simp [h]
    · rw [if_neg h]; simp [h]
theorem formFault_zero {ats : List At} {c : List Int} : formFault ats c = 0 ↔ (1 ≤ ats.length ∧ ats.length ≤ 6) ∧ (1 ≤ c.length ∧ c.length ≤ 20) ∧ (∀ a ∈ ats, a.fault = 0) ∧ c.all (signF ats.length) = true ∧ cntF c 0 = some 1 := by
  unfold formFault
  by_cases h1 : ats.length = 0 ∨ c.length = 0
  · rw [if_pos h1]; exact ⟨fun h => (by cases h), fun h => by omega⟩
  rw [if_neg h1]
  by_cases h2 : 6 < ats.length ∨ 20 < c.length
  · rw [if_pos h2]; exact ⟨fun h => (by cases h), fun h => by omega⟩
  rw [if_neg h2]
  by_cases h3 : firstFault ats = 0
  · rw [if_pos h3]
    by_cases h4 : c.all (signF ats.length) = true
    · rw [if_pos h4]
      by_cases h5 : cntF c 0 = some 1
      · rw [if_pos h5]; exact ⟨fun _ => ⟨by omega, by omega, firstFault_zero.1 h3, h4, h5⟩, fun _ => rfl⟩
      · rw [if_neg h5]; exact ⟨fun h => (by cases h), fun h => absurd h.2.2.2.2 h5⟩
    · rw [if_neg h4]; exact ⟨fun h => (by cases h), fun h => absurd h.2.2.2.1 h4⟩
  · rw [if_neg h3]; exact ⟨fun h => absurd h h3, fun h => absurd (firstFault_zero.2 h.2.2.1) h3⟩

theorem cntF_append (a b : List Int) (n : Int) : cntF (a ++ b) n = (cntF a n).bind (cntF b) := by
  induction a generalizing n with
  | nil => rfl
  | cons s l ih =>
    simp only [List.cons_append, cntF]
    split
    · rfl
    · exact ih _
theorem cntF_nonneg {l : List Int} {n m : Int} (hn : 0 ≤ n) (h : cntF l n = some m) : 0 ≤ m ∧ m ≤ n + l.length := by
  induction l generalizing n with
  | nil => simp [cntF] at h; subst h; simp; omega
  | cons s l ih =>
    have := takesF_range s
    unfold cntF at h
    split at h
    · cases h
    · have := ih (by omega) h
      simp; omega
theorem takeF_succ (t : List Int) {k : Nat} (h : k < t.length) : t.take (k + 1) = t.take k ++ [t.getD k 0] := by
  rw [List.take_add_one]; simp [List.getElem?_eq_getElem h]
theorem cntF_take_succ (t : List Int) {k : Nat} (h : k < t.length) {m : Int} (hm : cntF (t.take k) 0 = some m) : cntF (t.take (k + 1)) 0 = if m < takesF (t.getD k 0) then none else some (m + 1 - takesF (t.getD k 0)) := by
  rw [takeF_succ t h, cntF_append, hm]; rfl
theorem cntF_take_none (t : List Int) (k : Nat) (h : cntF (t.take k) 0 = none) : cntF t 0 = none := by
  have : cntF (t.take k ++ t.drop k) 0 = none := by rw [cntF_append, h]; rfl
  rwa [List.take_append_drop] at this
theorem cntF_take_some (t : List Int) (k : Nat) {n : Int} (h : cntF t 0 = some n) : ∃ m, cntF (t.take k) 0 = some m := by
  cases hc : cntF (t.take k) 0 with
  | none => rw [cntF_take_none t k hc] at h; cases h
  | some m => exact ⟨m, rfl⟩
theorem cntF_more (r : List Int) (n m : Int) (h : cntF r n = some m) : cntF r (n + 1) = some (m + 1) := by
  induction r generalizing n with
  | nil => simp [cntF] at h ⊢; exact h
  | cons s l ih =>
    unfold cntF at h ⊢
    split at h
    · cases h
    · rw [if_neg (by omega), show n + 1 + 1 - takesF s = n + 1 - takesF s + 1 by omega]
      exact ih _ h

/-! ### the pile -/
/-- whether what a sign makes of those it takes holds. -/
def madeF (held : List Bool) (s : Int) (l : List Bool) : Bool :=
  if s = 10 then l.getD 0 false && l.getD 1 false else if s = 11 then l.getD 0 false || l.getD 1 false else if s = 13 then !l.getD 0 false || l.getD 1 false else if s = 12 then !l.getD 0 false else held.getD s.toNat false
def restF (p : List Bool) (s : Int) : Nat := p.length - (takesF s).toNat
def stepF (held : List Bool) (p : List Bool) (s : Int) : List Bool := p.take (restF p s) ++ [madeF held s (p.drop (restF p s))]
def pileF (held : List Bool) (c : List Int) (p : List Bool) : List Bool := c.foldl (stepF held) p
/-- does a row of signs hold, where these atoms do? -/
def valF (held : List Bool) (c : List Int) : Bool := (pileF held c []).getD 0 false

theorem pileF_append (held : List Bool) (a b : List Int) (p : List Bool) : pileF held (a ++ b) p = pileF held b (pileF held a p) := by simp [pileF, List.foldl_append]
theorem pileF_succ (held : List Bool) (t : List Int) (p : List Bool) {k : Nat} (h : k < t.length) : pileF held (t.take (k + 1)) p = stepF held (pileF held (t.take k) p) (t.getD k 0) := by
  rw [takeF_succ t h, pileF_append]; rfl
theorem stepF_length (held : List Bool) (p : List Bool) (s : Int) (h : takesF s ≤ p.length) : ((stepF held p s).length : Int) = p.length + 1 - takesF s := by
  have := takesF_range s
  simp [stepF, restF]
  omega
theorem pileF_length (held : List Bool) (t : List Int) (p : List Bool) {n : Int} (h : cntF t p.length = some n) : ((pileF held t p).length : Int) = n := by
  induction t generalizing p with
  | nil => simp [cntF] at h; simpa [pileF] using h
  | cons s l ih =>
    unfold cntF at h
    split at h
    · cases h
    · rename_i hs
      have e := stepF_length held p s (by omega)
      exact ih (stepF held p s) (by rw [e]; exact h)
/-- a row of signs does not see what lies beneath what it takes. -/
theorem stepF_under (held q p : List Bool) (s : Int) (h : takesF s ≤ p.length) : stepF held (q ++ p) s = q ++ stepF held p s := by
  have hr := takesF_range s
  have e : restF (q ++ p) s = q.length + restF p s := by unfold restF; simp; omega
  unfold stepF
  rw [e, List.take_length_add_append, List.drop_length_add_append, List.append_assoc]
theorem pileF_under (held : List Bool) (t : List Int) (q p : List Bool) {n : Int} (h : cntF t p.length = some n) : pileF held t (q ++ p) = q ++ pileF held t p := by
  induction t generalizing p with
  | nil => rfl
  | cons s l ih =>
    unfold cntF at h
    split at h
    · cases h
    · rename_i hs
      have e := stepF_length held p s (by omega)
      have := ih (stepF held p s) (by rw [e]; exact h)
      show pileF held l (stepF held (q ++ p) s) = q ++ pileF held l (stepF held p s)
      rw [stepF_under held q p s (by omega)]; exact this
/-- one formula lays its answer on the pile. -/
theorem pileF_one (held : List Bool) {t : List Int} (h : cntF t 0 = some 1) (q : List Bool) : pileF held t q = q ++ [valF held t] := by
  have h1 := pileF_under held t q [] h
  rw [List.append_nil] at h1
  rw [h1]
  have h2 := pileF_length held t [] h
  match e : pileF held t [], h2 with
  | [x], _ => simp [valF, e]
  | [], h2 => simp at h2
  | _ :: _ :: _, h2 => simp at h2; omega
/-- where atoms hold alike, a formula does. -/
theorem pileF_alike {h1 h2 : List Bool} {t1 t2 : List Int} (ht : t1.length = t2.length) (hs : ∀ k, k < t1.length → takesF (t1.getD k 0) = takesF (t2.getD k 0) ∧ ∀ l, madeF h1 (t1.getD k 0) l = madeF h2 (t2.getD k 0) l) (p : List Bool) : pileF h1 t1 p = pileF h2 t2 p := by
  induction t1 generalizing t2 p with
  | nil =>
    cases t2 with
    | nil => rfl
    | cons => simp at ht
  | cons s l ih =>
    cases t2 with
    | nil => simp at ht
    | cons s2 l2 =>
      have e0 := hs 0 (by simp)
      simp only [List.getD_cons_zero] at e0
      have e1 : stepF h1 p s = stepF h2 p s2 := by unfold stepF restF; rw [e0.1, e0.2]
      show pileF h1 l (stepF h1 p s) = pileF h2 l2 (stepF h2 p s2)
      rw [e1]
      refine ih (by simpa using ht) (fun k hk => ?_) _
      have := hs (k + 1) (by simp; omega)
      simpa only [List.getD_cons_succ] using this

/-! ### the opposite -/
theorem good_no {ats : List At} {c : List Int} (h : formFault ats c = 0) (hl : c.length ≤ 19) : formFault ats (c ++ [12]) = 0 := by
  obtain ⟨h1, h2, h3, h4, h5⟩ := formFault_zero.1 h
  refine formFault_zero.2 ⟨h1, by simp; omega, h3, ?_, ?_⟩
  · rw [List.all_append, h4]; simp [signF, takesF]
  · rw [cntF_append, h5]; rfl
theorem val_no (held : List Bool) {c : List Int} (h : cntF c 0 = some 1) : valF held (c ++ [12]) = !valF held c := by
  have : pileF held (c ++ [12]) [] = [!valF held c] := by
    rw [pileF_append, pileF_one held h]; rfl
  rw [valF, this]; rfl
theorem cnt_no {c : List Int} (h : cntF c 0 = some 1) : cntF (c ++ [12]) 0 = some 1 := by rw [cntF_append, h]; rfl
/-- no twice is not at all. -/
theorem val_no_no (held : List Bool) {c : List Int} (h : cntF c 0 = some 1) : valF held ((c ++ [12]) ++ [12]) = valF held c := by
  rw [val_no held (cnt_no h), val_no held h, Bool.not_not]
/-- a formula then itself. -/
theorem good_then {ats : List At} {c : List Int} (h : formFault ats c = 0) (hl : c.length ≤ 9) : formFault ats (c ++ (c ++ [13])) = 0 := by
  obtain ⟨h1, h2, h3, h4, h5⟩ := formFault_zero.1 h
  refine formFault_zero.2 ⟨h1, by simp; omega, h3, ?_, ?_⟩
  · rw [List.all_append, List.all_append, h4]; simp [signF, takesF]
  · rw [cntF_append, h5]
    show cntF (c ++ [13]) 1 = _
    rw [cntF_append, show cntF c 1 = some 2 from cntF_more c 0 1 h5]; rfl
theorem val_then (held : List Bool) {c : List Int} (h : cntF c 0 = some 1) : valF held (c ++ (c ++ [13])) = true := by
  have : pileF held (c ++ (c ++ [13])) [] = [!valF held c || valF held c] := by
    rw [pileF_append, pileF_one held h, pileF_append, pileF_one held h]; rfl
  rw [valF, this]
  cases valF held c <;> rfl

/-! ### both -/
/-- a sign whose atoms have numbers greater by so many. -/
def movedF (m : Nat) (s : Int) : Int := if takesF s = 0 then s + m else s
theorem good_both {ats bs : List At} {c d : List Int} (h : formFault ats c = 0) (h' : formFault bs d = 0) (hl : ats.length + bs.length ≤ 6) (hc : c.length + d.length ≤ 19) : formFault (ats ++ bs) (c ++ (d.map (movedF ats.length) ++ [10])) = 0 := by
  obtain ⟨h1, h2, h3, h4, h5⟩ := formFault_zero.1 h
  obtain ⟨g1, g2, g3, g4, g5⟩ := formFault_zero.1 h'
  have hm : ∀ s ∈ d, takesF (movedF ats.length s) = takesF s ∧ signF (ats ++ bs).length (movedF ats.length s) = true := by
    intro s hs
    have := signF_iff.1 (List.all_eq_true.1 g4 s hs)
    unfold movedF
    by_cases h0 : takesF s = 0
    · rw [if_pos h0]
      have h6 : 0 ≤ s ∧ s < bs.length := this.resolve_left (by simp [h0])
      exact ⟨by rw [h0]; exact takesF_low (by omega), signF_iff.2 (Or.inr (by simp; omega))⟩
    · rw [if_neg h0]
      exact ⟨rfl, signF_iff.2 (Or.inl h0)⟩
  have hcnt : ∀ n, cntF (d.map (movedF ats.length)) n = cntF d n := by
    have : ∀ (l : List Int), (∀ s ∈ l, takesF (movedF ats.length s) = takesF s) → ∀ n, cntF (l.map (movedF ats.length)) n = cntF l n := by
      intro l
      induction l with
      | nil => intro _ n; rfl
      | cons s l ih =>
        intro hh n
        have e := hh s (by simp)
        simp only [List.map_cons, cntF, e]
        rw [ih (fun x hx => hh x (by simp [hx]))]
    exact this d (fun s hs => (hm s hs).1)
  refine formFault_zero.2 ⟨by simp; omega, by simp; omega, ?_, ?_, ?_⟩
  · intro a ha
    rcases List.mem_append.1 ha with ha | ha
    · exact h3 a ha
    · exact g3 a ha
  · rw [List.all_append, List.all_append]
    have e1 : c.all (signF (ats ++ bs).length) = true := by
      rw [List.all_eq_true]
      intro s hs
      rcases signF_iff.1 (List.all_eq_true.1 h4 s hs) with h | h
      · exact signF_iff.2 (Or.inl h)
      · exact signF_iff.2 (Or.inr (by simp; omega))
    have e2 : (d.map (movedF ats.length)).all (signF (ats ++ bs).length) = true := by
      rw [List.all_map, List.all_eq_true]
      intro s hs
      exact (hm s hs).2
    rw [e1, e2]; simp [signF, takesF]
  · rw [cntF_append, h5]
    show cntF (d.map (movedF ats.length) ++ [10]) 1 = _
    rw [cntF_append, hcnt, show cntF d 1 = some 2 from cntF_more d 0 1 g5]; rfl
theorem madeF_leaf (held : List Bool) {s : Int} (h : takesF s = 0) (l : List Bool) : madeF held s l = held.getD s.toNat false := by
  have := takesF_leaf h
  unfold madeF
  rw [if_neg this.1, if_neg this.2.1, if_neg this.2.2.2, if_neg this.2.2.1]
theorem madeF_op (h1 h2 : List Bool) {s : Int} (h : takesF s ≠ 0) (l : List Bool) : madeF h1 s l = madeF h2 s l := by
  have : s = 10 ∨ s = 11 ∨ s = 13 ∨ s = 12 := by
    unfold takesF at h
    split at h
    · omega
    · split at h <;> omega
  rcases this with rfl | rfl | rfl | rfl <;> rfl
theorem val_both {ats bs : List At} {c d : List Int} (ha hb : List Bool) (la : ha.length = ats.length) (h : formFault ats c = 0) (h' : formFault bs d = 0) (hl : ats.length + bs.length ≤ 6) : valF (ha ++ hb) (c ++ (d.map (movedF ats.length) ++ [10])) = (valF ha c && valF hb d) := by
  obtain ⟨h1, h2, h3, h4, h5⟩ := formFault_zero.1 h
  obtain ⟨g1, g2, g3, g4, g5⟩ := formFault_zero.1 h'
  have e1 : ∀ p, pileF (ha ++ hb) c p = pileF ha c p := fun p => by
    refine pileF_alike rfl (fun k hk => ⟨rfl, fun l => ?_⟩) p
    have hm : c.getD k 0 ∈ c := by rw [List.getD_eq_getElem?_getD, List.getElem?_eq_getElem hk]; exact List.getElem_mem hk
    rcases signF_iff.1 (List.all_eq_true.1 h4 _ hm) with h0 | h0
    · exact madeF_op _ _ h0 l
    · have t0 : takesF (c.getD k 0) = 0 := takesF_low (by omega)
      rw [madeF_leaf _ t0, madeF_leaf _ t0, List.getD_eq_getElem?_getD, List.getElem?_append_left (by omega), ← List.getD_eq_getElem?_getD]
  have e2 : ∀ p, pileF (ha ++ hb) (d.map (movedF ats.length)) p = pileF hb d p := fun p => by
    refine pileF_alike (by simp) (fun k hk => ?_) p
    have hk' : k < d.length := by simpa using hk
    have eg : (d.map (movedF ats.length)).getD k 0 = movedF ats.length (d.getD k 0) := by
      simp [List.getElem?_eq_getElem hk']
    rw [eg]
    have hm : d.getD k 0 ∈ d := by rw [List.getD_eq_getElem?_getD, List.getElem?_eq_getElem hk']; exact List.getElem_mem hk'
    generalize d.getD k 0 = s at hm
    unfold movedF
    rcases signF_iff.1 (List.all_eq_true.1 g4 s hm) with h0 | h0
    · rw [if_neg h0]; exact ⟨rfl, fun l => madeF_op _ _ h0 l⟩
    · have t0 : takesF s = 0 := takesF_low (by omega)
      have t1 : takesF (s + ats.length) = 0 := takesF_low (by omega)
      rw [if_pos t0]
      refine ⟨by rw [t0, t1], fun l => ?_⟩
      rw [madeF_leaf _ t0, madeF_leaf _ t1, show (s + (ats.length : Int)).toNat = ha.length + s.toNat by omega]
      rw [List.getD_eq_getElem?_getD, List.getElem?_append_right (by omega), Nat.add_sub_cancel_left, ← List.getD_eq_getElem?_getD]
  have hp : pileF (ha ++ hb) (c ++ (d.map (movedF ats.length) ++ [10])) [] = [valF ha c && valF hb d] := by
    rw [pileF_append, pileF_append, e1, e2, pileF_one ha h5, pileF_one hb g5]; rfl
  rw [valF, hp]; rfl

/-! ### Holds -/
def Wd.heldL (w : Wd) (ats : List At) : List Bool := ats.map fun a => w.holds a.k a.s a.t a.n
/-- what Holds tells. -/
def Wd.formFault (w : Wd) (ats : List At) (c : List Int) : Int := if YtedgbohobgnedafDoor.formFault ats c = 0 then (if w.ok = true then 0 else 1) else YtedgbohobgnedafDoor.formFault ats c
def Wd.formIs (w : Wd) (ats : List At) (c : List Int) : Bool := if w.formFault ats c = 0 then valF (w.heldL ats) c else false
theorem wdForm_zero {w : Wd} {ats : List At} {c : List Int} : w.formFault ats c = 0 ↔ YtedgbohobgnedafDoor.formFault ats c = 0 ∧ w.ok = true := by
  unfold Wd.formFault
  by_cases h : YtedgbohobgnedafDoor.formFault ats c = 0
  · rw [if_pos h]
    by_cases h' : w.ok = true
    · rw [if_pos h']; exact ⟨fun _ => ⟨h, h'⟩, fun _ => rfl⟩
    · rw [if_neg h']; exact ⟨fun h => (by cases h), fun h => absurd h.2 h'⟩
  · rw [if_neg h]; exact ⟨fun h' => absurd h' h, fun h' => absurd h'.1 h⟩
/-- what is wrong with the opposite of a formula. -/
def negFault (ats : List At) (c : List Int) : Int := if formFault ats c = 0 then (if 19 < c.length then 4 else 0) else formFault ats c
end Go.Proofs.YtedgbohobgnedafDoor

namespace Go.Proofs.YtedgbohobgnedafDoor
open Go.RowKit

theorem none_of_size {u x : Int} (h : okB u x = true) : (x = 0 ↔ pcN x = 0) :=
  uptoSets (P := fun _ x _ => x = 0 ↔ pcN x = 0) (by decide +kernel) u x x h h
theorem same_of_less {u x y : Int} (hx : okB u x = true) (hy : okB u y = true) : (x = y ↔ lessN x y = 0 ∧ lessN y x = 0) :=
  uptoSets (P := fun _ x y => x = y ↔ lessN x y = 0 ∧ lessN y x = 0) (by decide +kernel) u x y hx hy

/-- two right worlds with as many things in each field. -/
structure Alike (w w' : Wd) : Prop where
  ok : w.ok = true
  ok' : w'.ok = true
  fc : ∀ f, f < 8 → w'.fc w'.u.toNat f = w.fc w.u.toNat f

theorem Alike.size {w w' : Wd} (h : Alike w w') {n : Nat} {t : List Int} (ht : isTm n t) : pcN (w'.val t) = pcN (w.val t) := size_same h.ok h.ok' h.fc ht
theorem Alike.less {w w' : Wd} (h : Alike w w') {n m : Nat} {s t : List Int} (hs : isTm n s) (ht : isTm m t) : (lessN (w'.val s) (w'.val t) = 0 ↔ lessN (w.val s) (w.val t) = 0) := by
  have e : ∀ v : Wd, v.val (s ++ (t ++ [7])) = lessN (v.val s) (v.val t) := fun v => by rw [val_bin v (by omega) (by omega) hs ht, doN7]
  have hn : isTm (n + m + 1) (s ++ (t ++ [7])) := Or.inr (Or.inr ⟨7, s, t, by omega, by omega, isTm_mono (by omega) hs, isTm_mono (by omega) ht, rfl⟩)
  rw [← e, ← e, none_of_size (ok_val h.ok' _), none_of_size (ok_val h.ok _), h.size hn]
theorem one_term {t : List Int} (h : faultN t = 0) : ∃ n, isTm n t := tree t (fault_zero.1 h).2.2.1 (fault_zero.1 h).2.2.2
theorem Alike.holds {w w' : Wd} (h : Alike w w') {k : Int} {s t : List Int} {n : Int} (hf : atomFault k s t n = 0) : w'.holds k s t n = w.holds k s t n := by
  obtain ⟨hk, hs, ht, _⟩ := atomFault_zero.1 hf
  obtain ⟨i, hi⟩ := one_term hs
  unfold Wd.holds Wd.snd saysB
  rcases five hk.1 hk.2 with rfl | rfl | rfl | rfl | rfl
  · obtain ⟨j, hj⟩ := one_term (second_reads ht (by decide))
    rw [if_pos (show secondB 1 = true by decide), if_pos rfl, if_pos (show secondB 1 = true by decide), if_pos rfl]
    exact decide_eq_decide.2 (h.less hi hj)
  · obtain ⟨j, hj⟩ := one_term (second_reads ht (by decide))
    rw [if_pos (show secondB 2 = true by decide), if_pos (show secondB 2 = true by decide), if_neg (by decide), if_pos rfl, if_neg (by decide), if_pos rfl]
    refine decide_eq_decide.2 ?_
    rw [same_of_less (ok_val h.ok' s) (ok_val h.ok' t), same_of_less (ok_val h.ok s) (ok_val h.ok t), h.less hi hj, h.less hj hi]
  · rw [if_neg (by decide), if_neg (by decide), if_pos rfl, if_neg (by decide), if_neg (by decide), if_pos rfl, h.size hi]
  · rw [if_neg (by decide), if_neg (by decide), if_neg (by decide), if_pos rfl, if_neg (by decide), if_neg (by decide), if_neg (by decide), if_pos rfl, h.size hi]
  · obtain ⟨j, hj⟩ := one_term (second_reads ht (by decide))
    rw [if_pos (show secondB 5 = true by decide), if_pos (show secondB 5 = true by decide), if_neg (by decide), if_neg (by decide), if_neg (by decide), if_neg (by decide), if_neg (by decide), if_neg (by decide), if_neg (by decide), if_neg (by decide), h.size hi, h.size hj]
theorem Alike.fault {w w' : Wd} (h : Alike w w') (ats : List At) (c : List Int) : w'.formFault ats c = w.formFault ats c := by
  unfold Wd.formFault; rw [h.ok, h.ok']
/-- a formula holds in a world just if in one with as many things in each field. -/
theorem Alike.form {w w' : Wd} (h : Alike w w') (ats : List At) (c : List Int) : w'.formIs ats c = w.formIs ats c := by
  unfold Wd.formIs
  rw [h.fault]
  by_cases hf : w.formFault ats c = 0
  · rw [if_pos hf, if_pos hf]
    obtain ⟨_, _, hall, _⟩ := formFault_zero.1 (wdForm_zero.1 hf).1
    have e : w'.heldL ats = w.heldL ats := by
      unfold Wd.heldL
      exact List.map_congr_left fun a ha => h.holds (hall a ha)
    rw [e]
  · rw [if_neg hf, if_neg hf]
/-- the world of the counts of a world is like it. -/
theorem alike_made {w : Wd} (h : w.ok = true) : Alike w (madeN (w.fc w.u.toNat) 8) :=
  ⟨h, made_ok (counts_fc h), fun _ hf => made_fc (counts_fc h) hf⟩
theorem made_things {w : Wd} (h : w.ok = true) : (madeN (w.fc w.u.toNat) 8).u = w.u := by
  rw [made_u (counts_fc h), sum_fc]
  have := (ok_u h).1
  omega
end Go.Proofs.YtedgbohobgnedafDoor

namespace Go.Proofs.YtedgbohobgnedafDoor
open Go.RowKit

/-- how many times a field is counted, of a kind, by whether it is in S, and in T. -/
def timesK (k : Int) (x y : Bool) : Int :=
  if k = 1 then oneB (x && !y) else if k = 2 then oneB (x && !y) + oneB (y && !x) else if k = 3 then - oneB (x && !y) else if k = 4 then oneB (x && !y) else oneB x - oneB y
/-- the most that they may be, of a kind. -/
def mostK (k n : Int) : Int := if k = 3 then -n else n
/-- the row of an atom that holds, or does not. -/
def baseT (k : Int) (s t : List Int) (f : Nat) : Int := timesK k (liesB s f) (liesB t f)
def rowT (k : Int) (s t : List Int) (h : Bool) (f : Nat) : Int := if h = true then baseT k s t f else - baseT k s t f
def rowM (k n : Int) (h : Bool) : Int := if h = true then mostK k n else -(mostK k n + 1)
theorem timesK_le (k : Int) (x y : Bool) : -1 ≤ timesK k x y ∧ timesK k x y ≤ 1 := by
  unfold timesK
  split
  · cases x <;> cases y <;> decide
  split
  · cases x <;> cases y <;> decide
  split
  · cases x <;> cases y <;> decide
  split
  · cases x <;> cases y <;> decide
  · cases x <;> cases y <;> decide
theorem rowT_le (k : Int) (s t : List Int) (h : Bool) (f : Nat) : -1 ≤ rowT k s t h f ∧ rowT k s t h f ≤ 1 := by
  have := timesK_le k (liesB s f) (liesB t f)
  unfold rowT baseT; split <;> omega
theorem mostN_le (k : Int) : 0 ≤ mostN k ∧ mostN k ≤ 20 := by unfold mostN; split <;> omega
theorem rowM_le {k : Int} {s t : List Int} {n : Int} (hf : atomFault k s t n = 0) (h : Bool) : -21 ≤ rowM k n h ∧ rowM k n h ≤ 20 := by
  obtain ⟨_, _, _, h1, h2⟩ := atomFault_zero.1 hf
  have := mostN_le k
  unfold rowM mostK
  split <;> split <;> omega

/-- a row: how many times each field is counted, and the most. -/
structure Rw where
  t : Nat → Int
  m : Int
def sumT (T N : Nat → Int) : Nat → Int
  | 0 => 0
  | k + 1 => sumT T N k + T k * N k
/-- is each of the times right? -/
def okT (T : Nat → Int) : Nat → Bool
  | 0 => true
  | k + 1 => okT T k && decide (-2 ≤ T k ∧ T k ≤ 2)
def Rw.wrong (r : Rw) : Bool := !(okT r.t 8 && decide (-100 ≤ r.m ∧ r.m ≤ 100))
def Rw.so (r : Rw) (N : Nat → Int) : Bool := decide (sumT r.t N 8 ≤ r.m)
/-- what is wrong with rows; with rows and counts; whether all are so. -/
def rowsFault (l : List Rw) : Int := if 12 < l.length then 4 else if l.any Rw.wrong = true then 1 else 0
def fitsFault (l : List Rw) (N : Nat → Int) : Int := if rowsFault l = 0 then countsFault N else rowsFault l
def fitsIs (l : List Rw) (N : Nat → Int) : Bool := if fitsFault l N = 0 then l.all (fun r => r.so N) else false
theorem okT_iff {T : Nat → Int} {k : Nat} : okT T k = true ↔ ∀ f, f < k → -2 ≤ T f ∧ T f ≤ 2 := by
  induction k with
  | zero => exact ⟨fun _ f hf => by omega, fun _ => rfl⟩
  | succ k ih =>
    unfold okT
    rw [Bool.and_eq_true, ih, decide_eq_true_iff]
    refine ⟨fun h f hf => ?_, fun h => ⟨fun f hf => h f (by omega), h k (by omega)⟩⟩
    rcases Nat.lt_or_ge f k with h' | h'
    · exact h.1 f h'
    · obtain rfl : f = k := by omega
      exact h.2
theorem right_iff {r : Rw} : r.wrong = false ↔ (∀ f, f < 8 → -2 ≤ r.t f ∧ r.t f ≤ 2) ∧ -100 ≤ r.m ∧ r.m ≤ 100 := by
  unfold Rw.wrong
  rw [Bool.not_eq_false', Bool.and_eq_true, okT_iff, decide_eq_true_iff]
theorem wrong_time {r : Rw} {f : Nat} (hf : f < 8) (h : ¬ (-2 ≤ r.t f ∧ r.t f ≤ 2)) : r.wrong = true := by
  rcases (Bool.eq_false_or_eq_true r.wrong).symm with e | e
  · exact absurd ((right_iff.1 e).1 f hf) h
  · exact e
theorem wrong_most {r : Rw} (h : ¬ (-100 ≤ r.m ∧ r.m ≤ 100)) : r.wrong = true := by
  rcases (Bool.eq_false_or_eq_true r.wrong).symm with e | e
  · exact absurd (right_iff.1 e).2 h
  · exact e
theorem mul_le {x y : Int} (hx : -2 ≤ x ∧ x ≤ 2) (hy : 0 ≤ y ∧ y ≤ 6) : -12 ≤ x * y ∧ x * y ≤ 12 := by
  obtain ⟨x0, x1⟩ := hx
  have d : x = -2 ∨ x = -1 ∨ x = 0 ∨ x = 1 ∨ x = 2 := by omega
  rcases d with rfl | rfl | rfl | rfl | rfl <;> omega
theorem sumT_le {T N : Nat → Int} {k : Nat} (hT : ∀ f, f < k → -2 ≤ T f ∧ T f ≤ 2) (hN : ∀ f, f < k → 0 ≤ N f ∧ N f ≤ 6) : -12 * (k : Int) ≤ sumT T N k ∧ sumT T N k ≤ 12 * k := by
  induction k with
  | zero => exact ⟨Int.le_refl _, Int.le_refl _⟩
  | succ k ih =>
    have := ih (fun f hf => hT f (by omega)) fun f hf => hN f (by omega)
    have := mul_le (hT k (by omega)) (hN k (by omega))
    unfold sumT; push_cast; omega
theorem sumT_same {T S N M : Nat → Int} {k : Nat} (h : ∀ f, f < k → T f = S f) (h' : ∀ f, f < k → N f = M f) : sumT T N k = sumT S M k := by
  induction k with
  | zero => rfl
  | succ k ih => unfold sumT; rw [ih (fun f hf => h f (by omega)) fun f hf => h' f (by omega), h k (by omega), h' k (by omega)]
theorem sumT_one (L : Nat → Bool) (N : Nat → Int) (k : Nat) : sumT (fun f => oneB (L f)) N k = sumIn L N k := by
  induction k with
  | zero => rfl
  | succ k ih =>
    unfold sumT sumIn
    rw [ih]
    unfold oneB
    split <;> omega
theorem sumT_neg (T N : Nat → Int) (k : Nat) : sumT (fun f => - T f) N k = - sumT T N k := by
  induction k with
  | zero => rfl
  | succ k ih => unfold sumT; rw [ih, Int.neg_mul]; omega
theorem sumT_add (T S N : Nat → Int) (k : Nat) : sumT (fun f => T f + S f) N k = sumT T N k + sumT S N k := by
  induction k with
  | zero => rfl
  | succ k ih => unfold sumT; rw [ih, Int.add_mul]; omega
theorem sumT_sub (T S N : Nat → Int) (k : Nat) : sumT (fun f => T f - S f) N k = sumT T N k - sumT S N k := by
  induction k with
  | zero => rfl
  | succ k ih => unfold sumT; rw [ih, Int.sub_mul]; omega

/-! ### a row says what the atom says -/
theorem lies_none (f : Nat) : liesB [] f = false := by
  show hasB 0 ((0 : Nat) : Int) = false
  decide
theorem lies_less {n m : Nat} {s t : List Int} (hs : isTm n s) (ht : isTm m t) (f : Nat) : liesB (s ++ (t ++ [7])) f = (liesB s f && !liesB t f) := by
  unfold liesB
  rw [has_two (oneW_ok f) (by omega) (by omega) hs ht 0 (by rw [oneW_u]; decide)]
  rfl
/-- how many are in the first, and not in the second. -/
theorem size_less {w : Wd} (h : w.ok = true) {n m : Nat} {s t : List Int} (hs : isTm n s) (ht : isTm m t) : pcN (lessN (w.val s) (w.val t)) = sumT (fun f => oneB (liesB s f && !liesB t f)) (w.fc w.u.toNat) 8 := by
  have e : w.val (s ++ (t ++ [7])) = lessN (w.val s) (w.val t) := by rw [val_bin w (by omega) (by omega) hs ht, doN7]
  have hn : isTm (n + m + 1) (s ++ (t ++ [7])) := Or.inr (Or.inr ⟨7, s, t, by omega, by omega, isTm_mono (by omega) hs, isTm_mono (by omega) ht, rfl⟩)
  rw [← e, size_fields h hn, ← sumT_one]
  exact sumT_same (fun f _ => by rw [lies_less hs ht]) fun _ _ => rfl
theorem size_one {w : Wd} (h : w.ok = true) {n : Nat} {s : List Int} (hs : isTm n s) : pcN (w.val s) = sumT (fun f => oneB (liesB s f)) (w.fc w.u.toNat) 8 := by
  rw [size_fields h hs, sumT_one]
theorem less_ok {w : Wd} (h : w.ok = true) (s t : List Int) : okB w.u (lessN (w.val s) (w.val t)) = true := by
  have := ok_do (what := 7) (ok_val h s) (ok_val h t)
  rw [doN7] at this
  exact this
theorem second_none {k : Int} {t : List Int} (ht : secondFault k t = 0) (hk : secondB k = false) : t = [] := by
  unfold secondFault at ht
  rw [hk] at ht
  cases t with
  | nil => rfl
  | cons a t => simp at ht
theorem row_says {w : Wd} (h : w.ok = true) {k : Int} {s t : List Int} {n : Int} (hf : atomFault k s t n = 0) : (sumT (baseT k s t) (w.fc w.u.toNat) 8 ≤ mostK k n ↔ w.holds k s t n = true) := by
  obtain ⟨hk, hs, ht, n0, n1⟩ := atomFault_zero.1 hf
  obtain ⟨i, hi⟩ := one_term hs
  unfold Wd.holds Wd.snd saysB
  rcases five hk.1 hk.2 with rfl | rfl | rfl | rfl | rfl
  · obtain ⟨j, hj⟩ := one_term (second_reads ht (by decide))
    have e : baseT 1 s t = fun f => oneB (liesB s f && !liesB t f) := by funext f; rfl
    have en : n = 0 := by have : mostN 1 = 0 := by decide
                          omega
    rw [if_pos (show secondB 1 = true by decide), if_pos rfl, decide_eq_true_iff, e, ← size_less h hi hj, none_of_size (less_ok h s t), en]
    have := pcN_le (lessN (w.val s) (w.val t))
    show _ ≤ (0 : Int) ↔ _
    omega
  · obtain ⟨j, hj⟩ := one_term (second_reads ht (by decide))
    have e : baseT 2 s t = fun f => oneB (liesB s f && !liesB t f) + oneB (liesB t f && !liesB s f) := by funext f; rfl
    have en : n = 0 := by have : mostN 2 = 0 := by decide
                          omega
    rw [if_pos (show secondB 2 = true by decide), if_neg (by decide), if_pos rfl, decide_eq_true_iff, e, sumT_add, ← size_less h hi hj, ← size_less h hj hi, same_of_less (ok_val h s) (ok_val h t), none_of_size (less_ok h s t), none_of_size (less_ok h t s), en]
    have := pcN_le (lessN (w.val s) (w.val t))
    have := pcN_le (lessN (w.val t) (w.val s))
    show _ ≤ (0 : Int) ↔ _
    omega
  · obtain rfl := second_none ht (by decide)
    have e : baseT 3 s [] = fun f => - oneB (liesB s f) := by
      funext f
      show - oneB (liesB s f && !liesB [] f) = _
      rw [lies_none]; simp
    rw [if_neg (by decide), if_neg (by decide), if_pos rfl, decide_eq_true_iff, e, sumT_neg, ← size_one h hi]
    show _ ≤ -n ↔ _
    omega
  · obtain rfl := second_none ht (by decide)
    have e : baseT 4 s [] = fun f => oneB (liesB s f) := by
      funext f
      show oneB (liesB s f && !liesB [] f) = _
      rw [lies_none]; simp
    rw [if_neg (by decide), if_neg (by decide), if_neg (by decide), if_pos rfl, decide_eq_true_iff, e, ← size_one h hi]
    show _ ≤ n ↔ _
    omega
  · obtain ⟨j, hj⟩ := one_term (second_reads ht (by decide))
    have e : baseT 5 s t = fun f => oneB (liesB s f) - oneB (liesB t f) := by funext f; rfl
    rw [if_pos (show secondB 5 = true by decide), if_neg (by decide), if_neg (by decide), if_neg (by decide), if_neg (by decide), decide_eq_true_iff, e, sumT_sub, ← size_one h hi, ← size_one h hj]
    show _ ≤ n ↔ _
    omega
/-- the row is so just if the atom holds; the other one just if it does not. -/
theorem rows_say {w : Wd} (h : w.ok = true) {k : Int} {s t : List Int} {n : Int} (hf : atomFault k s t n = 0) (hh : Bool) : (Rw.mk (rowT k s t hh) (rowM k n hh)).so (w.fc w.u.toNat) = (if hh = true then w.holds k s t n else !w.holds k s t n) := by
  have e := row_says h hf
  unfold Rw.so
  cases hh
  · have e' : rowT k s t false = fun f => - baseT k s t f := by funext f; rfl
    have em : rowM k n false = -(mostK k n + 1) := rfl
    rw [e', sumT_neg, em, if_neg (by decide)]
    rcases (Bool.eq_false_or_eq_true (w.holds k s t n)).symm with q | q
    · rw [q] at e ⊢
      simp only [Bool.not_false, decide_eq_true_eq]
      have := mt e.1 (by decide)
      omega
    · rw [q] at e ⊢
      simp only [Bool.not_true, decide_eq_false_iff_not]
      have := e.2 rfl
      omega
  · have e' : rowT k s t true = baseT k s t := by funext f; rfl
    have em : rowM k n true = mostK k n := rfl
    rw [e', em, if_pos rfl, Bool.eq_iff_iff, decide_eq_true_iff, e]
theorem row_right {k : Int} {s t : List Int} {n : Int} (hf : atomFault k s t n = 0) (hh : Bool) : (Rw.mk (rowT k s t hh) (rowM k n hh)).wrong = false := by
  refine right_iff.2 ⟨fun f _ => ?_, ?_⟩
  · have := rowT_le k s t hh f
    show -2 ≤ rowT k s t hh f ∧ rowT k s t hh f ≤ 2
    omega
  · have := rowM_le hf hh
    show -100 ≤ rowM k n hh ∧ rowM k n hh ≤ 100
    omega
end Go.Proofs.YtedgbohobgnedafDoor

namespace Go.Proofs.YtedgbohobgnedafDoor
open Go.RowKit

/-- a number put into a place. -/
def putN (N : Nat → Int) (f : Nat) (x : Int) : Nat → Int := fun g => if g = f then x else N g
theorem putN_same (N : Nat → Int) (f : Nat) (x : Int) : putN N f x f = x := by unfold putN; rw [if_pos rfl]
theorem putN_other (N : Nat → Int) {f g : Nat} (h : g ≠ f) (x : Int) : putN N f x g = N g := by unfold putN; rw [if_neg h]
theorem putN_twice (N : Nat → Int) (f : Nat) (x y : Int) : putN (putN N f x) f y = putN N f y := by
  funext g; unfold putN; split <;> rfl
/-- all ways to put u things into the last r + 1 of the eight fields, one behind the other. -/
def allF : Nat → Nat → (Nat → Int) → List (Nat → Int)
  | 0, u, N => [putN N 7 u]
  | r + 1, u, N => (List.range (u + 1)).flatMap fun k => allF r (u - k) (putN N (6 - r) k)
/-- all counts of u things. -/
def everyC (u : Nat) : List (Nat → Int) := allF 7 u fun _ => 0
/-- the first of the loop's rounds. -/
def allTo (r u : Nat) (N : Nat → Int) (k : Nat) : List (Nat → Int) := (List.range k).flatMap fun j => allF r (u - j) (putN N (6 - r) j)
theorem allTo_zero (r u : Nat) (N : Nat → Int) : allTo r u N 0 = [] := rfl
theorem allTo_succ (r u : Nat) (N : Nat → Int) (k : Nat) : allTo r u N (k + 1) = allTo r u N k ++ allF r (u - k) (putN N (6 - r) k) := by
  unfold allTo; rw [List.range_succ, List.flatMap_append]; simp
theorem allTo_all (r u : Nat) (N : Nat → Int) : allTo r u N (u + 1) = allF (r + 1) u N := rfl
/-- how many there are: as ways to choose r of u + r. -/
def waysN : Nat → Nat → Nat
  | 0, _ => 1
  | r + 1, u => ((List.range (u + 1)).map fun k => waysN r (u - k)).sum
theorem length_allF (r : Nat) : ∀ (u : Nat) (N : Nat → Int), (allF r u N).length = waysN r u := by
  induction r with
  | zero => intro u N; rfl
  | succ r ih =>
    intro u N
    unfold allF waysN
    rw [List.length_flatMap]
    congr 1
    apply List.map_congr_left
    intro k _
    exact ih _ _
theorem ways_le : ∀ r, r ≤ 7 → ∀ u, u ≤ 6 → waysN r u ≤ 1716 := by decide +kernel
theorem length_everyC {u : Nat} (h : u ≤ 6) : (everyC u).length ≤ 1716 := by
  unfold everyC; rw [length_allF]; exact ways_le 7 (by omega) u h
theorem len_allTo_le (r u : Nat) (N : Nat → Int) {k : Nat} (hk : k ≤ u + 1) : (allTo r u N k).length ≤ (allF (r + 1) u N).length := by
  rw [← allTo_all]
  unfold allTo
  rw [List.length_flatMap, List.length_flatMap]
  have e : List.range (u + 1) = List.range k ++ (List.range (u + 1 - k)).map (k + ·) := by
    rw [← List.range_add]; congr 1; omega
  rw [e, List.map_append, List.sum_append]
  omega
/-- each is u things together, none fewer than 0. -/
theorem allF_sum (r : Nat) (hr : r ≤ 7) : ∀ (u : Nat) (N : Nat → Int), ∀ M ∈ allF r u N, (∀ g, g < 7 - r → M g = N g) ∧ (∀ g, 7 - r ≤ g → g < 8 → 0 ≤ M g ∧ M g ≤ u) ∧ sumN M 8 = sumN N (7 - r) + u := by
  induction r with
  | zero =>
    intro u N M hM
    obtain rfl : M = putN N 7 u := by simpa [allF] using hM
    refine ⟨fun g hg => putN_other N (by omega) _, fun g h1 h2 => ?_, ?_⟩
    · obtain rfl : g = 7 := by omega
      rw [putN_same]; omega
    · show sumN (putN N 7 u) 7 + putN N 7 u 7 = _
      rw [putN_same, sumN_same (M := N) fun f hf => putN_other N (by omega) _]
  | succ r ih =>
    intro u N M hM
    unfold allF at hM
    rw [List.mem_flatMap] at hM
    obtain ⟨k, hk, hM⟩ := hM
    have hk' : k < u + 1 := List.mem_range.1 hk
    obtain ⟨i1, i2, i3⟩ := ih (by omega) (u - k) _ M hM
    have e7 : 7 - r = 7 - (r + 1) + 1 := by omega
    have e6 : 6 - r = 7 - (r + 1) := by omega
    rw [e6] at i1 i3
    refine ⟨fun g hg => ?_, fun g h1 h2 => ?_, ?_⟩
    · rw [i1 g (by omega)]; exact putN_other N (by omega) _
    · by_cases e : g = 7 - (r + 1)
      · rw [i1 g (by omega), e, putN_same]; omega
      · have := i2 g (by omega) h2
        omega
    · rw [i3, e7]
      show sumN _ (7 - (r + 1)) + putN N (7 - (r + 1)) k (7 - (r + 1)) + _ = _
      rw [putN_same, sumN_same (M := N) fun f hf => putN_other N (by omega) _]
      omega
theorem everyC_sum {u : Nat} {M : Nat → Int} (h : M ∈ everyC u) : (∀ g, g < 8 → 0 ≤ M g ∧ M g ≤ u) ∧ sumN M 8 = u := by
  obtain ⟨_, h2, h3⟩ := allF_sum 7 (by omega) u (fun _ => 0) M h
  refine ⟨fun g hg => h2 g (by omega) hg, ?_⟩
  rw [h3]; show (0 : Int) + u = u; omega
theorem everyC_right {u : Nat} (hu : u ≤ 6) {M : Nat → Int} (h : M ∈ everyC u) : countsFault M = 0 := by
  obtain ⟨h1, h2⟩ := everyC_sum h
  exact counts_zero.2 ⟨fun f hf => by have := h1 f hf; omega, by omega⟩
end Go.Proofs.YtedgbohobgnedafDoor
namespace Go.Proofs.YtedgbohobgnedafDoor
open Go.RowKit

/-- ahead, by the first field that differs. -/
def aheadC (N M : Nat → Int) : Prop := ∃ f, f < 8 ∧ (∀ g, g < f → N g = M g) ∧ N f < M f
theorem allF_front {r : Nat} (hr : r ≤ 7) {u : Nat} {N M : Nat → Int} (h : M ∈ allF r u N) {g : Nat} (hg : g < 7 - r) : M g = N g := (allF_sum r hr u N M h).1 g hg
theorem allF_sorted (r : Nat) (hr : r ≤ 7) : ∀ (u : Nat) (N : Nat → Int), (allF r u N).Pairwise aheadC := by
  induction r with
  | zero => intro u N; exact List.pairwise_singleton _ _
  | succ r ih =>
    intro u N
    unfold allF
    rw [List.pairwise_flatMap]
    refine ⟨fun k _ => ih (by omega) _ _, ?_⟩
    refine List.Pairwise.imp ?_ List.pairwise_lt_range
    intro j k hjk A hA B hB
    have e : 6 - r = 7 - (r + 1) := by omega
    refine ⟨6 - r, by omega, fun g hg => ?_, ?_⟩
    · rw [allF_front (by omega) hA (by omega), allF_front (by omega) hB (by omega), putN_other N (by omega), putN_other N (by omega)]
    · rw [allF_front (by omega) hA (by omega), allF_front (by omega) hB (by omega), putN_same, putN_same]
      omega
theorem sumN_up {N : Nat → Int} {k l : Nat} (hkl : k ≤ l) (h : ∀ g, k ≤ g → g < l → 0 ≤ N g) : sumN N k ≤ sumN N l := by
  induction l with
  | zero => obtain rfl : k = 0 := by omega
            exact Int.le_refl _
  | succ l ih =>
    rcases Nat.lt_or_ge l k with h' | h'
    · obtain rfl : k = l + 1 := by omega
      exact Int.le_refl _
    · have := ih h' fun g h1 h2 => h g h1 (by omega)
      have := h l h' (by omega)
      have e : sumN N (l + 1) = sumN N l + N l := rfl
      rw [e]; omega
theorem allF_all (r : Nat) (hr : r ≤ 7) : ∀ (u : Nat) (N M : Nat → Int), (∀ g, g < 7 - r → M g = N g) → (∀ g, 7 - r ≤ g → g < 8 → 0 ≤ M g) → sumN M 8 = sumN N (7 - r) + u → ∃ A ∈ allF r u N, ∀ g, g < 8 → A g = M g := by
  induction r with
  | zero =>
    intro u N M h1 h2 h3
    refine ⟨putN N 7 u, by simp [allF], fun g hg => ?_⟩
    by_cases e : g = 7
    · subst e
      rw [putN_same]
      have e8 : sumN M 8 = sumN M 7 + M 7 := rfl
      have e7 : sumN M 7 = sumN N 7 := sumN_same fun f hf => h1 f (by omega)
      have : sumN N (7 - 0) = sumN N 7 := rfl
      omega
    · rw [putN_other N e, h1 g (by omega)]
  | succ r ih =>
    intro u N M h1 h2 h3
    obtain ⟨f, hf⟩ : ∃ f, f = 7 - (r + 1) := ⟨_, rfl⟩
    have e6 : 6 - r = f := by omega
    have e7 : 7 - r = f + 1 := by omega
    rw [← hf] at h1 h2 h3
    have m0 := h2 f (Nat.le_refl _) (by omega)
    obtain ⟨k, hk⟩ := Int.eq_ofNat_of_zero_le m0
    have ef : sumN M (f + 1) = sumN N f + k := by
      show sumN M f + M f = _
      rw [sumN_same (M := N) fun g hg => h1 g hg, hk]
    have hup := sumN_up (N := M) (k := f + 1) (l := 8) (by omega) fun g a b => h2 g (by omega) b
    have hku : k ≤ u := by omega
    obtain ⟨A, hA, hAM⟩ := ih (by omega) (u - k) (putN N f k) M (fun g hg => by
      by_cases e : g = f
      · rw [e, putN_same, hk]
      · rw [putN_other N e, h1 g (by omega)]) (fun g a b => h2 g (by omega) b) (by
      rw [e7]
      show _ = sumN (putN N f k) f + putN N f k f + _
      rw [putN_same, sumN_same (M := N) fun g hg => putN_other N (by omega) _]
      omega)
    refine ⟨A, ?_, hAM⟩
    unfold allF
    rw [List.mem_flatMap]
    exact ⟨k, List.mem_range.2 (by omega), by rw [e6]; exact hA⟩
/-- no counts of u things are left out. -/
theorem everyC_all {u : Nat} {M : Nat → Int} (h0 : ∀ g, g < 8 → 0 ≤ M g) (hs : sumN M 8 = u) : ∃ A ∈ everyC u, ∀ g, g < 8 → A g = M g :=
  allF_all 7 (by omega) u _ M (fun g hg => by omega) (fun g _ hg => h0 g hg) (by rw [hs]; show _ = (0 : Int) + u; omega)
theorem everyC_sorted (u : Nat) : (everyC u).Pairwise aheadC := allF_sorted 7 (by omega) u _
theorem aheadC_irrefl {N M : Nat → Int} (h : aheadC N M) : ¬ ∀ g, g < 8 → N g = M g := by
  obtain ⟨f, hf, _, hlt⟩ := h
  intro e
  have := e f hf
  omega
theorem aheadC_asymm {N M : Nat → Int} (h : aheadC N M) : ¬ aheadC M N := by
  obtain ⟨f, hf, he, hlt⟩ := h
  rintro ⟨g, hg, he', hlt'⟩
  rcases Nat.lt_trichotomy f g with h' | h' | h'
  · have := he' f h'; omega
  · subst h'; omega
  · have := he g h'; omega
/-- two of them with the same numbers are the same one. -/
theorem everyC_once {u i j : Nat} {A B : Nat → Int} (hi : (everyC u)[i]? = some A) (hj : (everyC u)[j]? = some B) (h : ∀ g, g < 8 → A g = B g) : i = j := by
  have hs := List.pairwise_iff_getElem.1 (everyC_sorted u)
  obtain ⟨hi', rfl⟩ := List.getElem?_eq_some_iff.1 hi
  obtain ⟨hj', rfl⟩ := List.getElem?_eq_some_iff.1 hj
  rcases Nat.lt_trichotomy i j with h' | h' | h'
  · exact absurd h (aheadC_irrefl (hs i j hi' hj' h'))
  · exact h'
  · exact absurd (fun g hg => (h g hg).symm) (aheadC_irrefl (hs j i hj' hi' h'))
theorem everyC_two : (everyC 2).length = 36 := by unfold everyC; rw [length_allF]; decide +kernel
end Go.Proofs.YtedgbohobgnedafDoor
namespace Go.Proofs.YtedgbohobgnedafDoor
open Go.RowKit

/-- do counts fit all rows? -/
def fitB (l : List Rw) (N : Nat → Int) : Bool := l.all fun r => r.so N
def zeroC : Nat → Int := fun _ => 0
/-- how many from the j-th on do, and the first of these. -/
def manyD (A : List (Nat → Int)) (p : (Nat → Int) → Bool) (j : Nat) : Nat := ((A.drop j).filter p).length
def leastD (A : List (Nat → Int)) (p : (Nat → Int) → Bool) (j : Nat) : Nat → Int := ((A.drop j).find? p).getD zeroC
theorem manyD_end (A : List (Nat → Int)) (p : (Nat → Int) → Bool) : manyD A p A.length = 0 := by unfold manyD; simp
theorem leastD_end (A : List (Nat → Int)) (p : (Nat → Int) → Bool) : leastD A p A.length = zeroC := by unfold leastD; simp
theorem manyD_step {A : List (Nat → Int)} {p : (Nat → Int) → Bool} {j : Nat} {M : Nat → Int} (h : A[j]? = some M) : manyD A p j = manyD A p (j + 1) + (if p M = true then 1 else 0) := by
  obtain ⟨hj, rfl⟩ := List.getElem?_eq_some_iff.1 h
  unfold manyD
  rw [List.drop_eq_getElem_cons hj, List.filter_cons]
  split
  · rw [List.length_cons]
  · rfl
theorem leastD_step {A : List (Nat → Int)} {p : (Nat → Int) → Bool} {j : Nat} {M : Nat → Int} (h : A[j]? = some M) : leastD A p j = if p M = true then M else leastD A p (j + 1) := by
  obtain ⟨hj, rfl⟩ := List.getElem?_eq_some_iff.1 h
  unfold leastD
  rw [List.drop_eq_getElem_cons hj, List.find?_cons]
  split
  · rename_i hp; rw [if_pos hp]; rfl
  · rename_i hp; rw [if_neg (by rw [hp]; decide)]
theorem manyD_le (A : List (Nat → Int)) (p : (Nat → Int) → Bool) (j : Nat) : manyD A p j ≤ A.length := by
  unfold manyD
  have := List.length_filter_le p (A.drop j)
  rw [List.length_drop] at this
  omega
theorem manyD_none {A : List (Nat → Int)} {p : (Nat → Int) → Bool} {j : Nat} (h : manyD A p j = 0) : leastD A p j = zeroC := by
  unfold manyD at h
  have hn := List.eq_nil_of_length_eq_zero h
  have : (A.drop j).find? p = none := by
    rw [List.find?_eq_none]
    intro x hx hp
    have : x ∈ (A.drop j).filter p := List.mem_filter.2 ⟨hx, hp⟩
    rw [hn] at this
    cases this
  unfold leastD
  rw [this]
  rfl
/-- the one behind the first i that are these counts; none, if there is none. -/
def nextTo (A : List (Nat → Int)) (q : (Nat → Int) → Bool) : Nat → Option (Nat → Int)
  | 0 => none
  | i + 1 => if q (A.getD i zeroC) = true then some (A.getD (i + 1) zeroC) else nextTo A q i
/-- what is wrong with so many things and rows; how many fit, the first that do, and what Least tells. -/
def fitFault (u : Int) (l : List Rw) : Int := if 0 ≤ u ∧ u ≤ 6 then rowsFault l else 1
def fitManyN (u : Int) (l : List Rw) : Int := if fitFault u l = 0 then (manyD (everyC u.toNat) (fitB l) 0 : Int) else 0
def leastFault (u : Int) (l : List Rw) : Int := if fitFault u l = 0 then (if fitManyN u l = 0 then 5 else 0) else fitFault u l
def leastN (u : Int) (l : List Rw) : Nat → Int := if fitFault u l = 0 then leastD (everyC u.toNat) (fitB l) 0 else zeroC
/-- the next ones. -/
def nextO (u : Int) (N : Nat → Int) : Option (Nat → Int) := nextTo (everyC u.toNat) (fun M => (List.range 8).all fun f => M f == N f) ((everyC u.toNat).length - 1)
def nextFault (u : Int) (N : Nat → Int) : Int :=
  if 0 ≤ u ∧ u ≤ 6 then (if countsFault N = 0 then (if sumN N 8 = u then (if (nextO u N).isSome = true then 0 else 5) else 3) else countsFault N) else 1
def nextN (u : Int) (N : Nat → Int) : Nat → Int := if nextFault u N = 0 then (nextO u N).getD zeroC else zeroC
end Go.Proofs.YtedgbohobgnedafDoor
namespace Go.Proofs.YtedgbohobgnedafDoor
open Go.RowKit

theorem allF_ne (r : Nat) : ∀ (u : Nat) (N : Nat → Int), allF r u N ≠ [] := by
  induction r with
  | zero => intro u N h; cases h
  | succ r ih =>
    intro u N h
    unfold allF at h
    rw [List.flatMap_eq_nil_iff] at h
    exact ih _ _ (h 0 (List.mem_range.2 (by omega)))
/-- the first has all in the last field. -/
theorem allF_head (r : Nat) : ∀ (u : Nat) (N : Nat → Int), ∃ M, (allF r u N)[0]? = some M ∧ M 7 = (u : Int) := by
  induction r with
  | zero => intro u N; exact ⟨putN N 7 u, rfl, putN_same _ _ _⟩
  | succ r ih =>
    intro u N
    obtain ⟨M, h1, h2⟩ := ih u (putN N (6 - r) (0 : Nat))
    refine ⟨M, ?_, h2⟩
    unfold allF
    rw [List.range_succ_eq_map, List.flatMap_cons, List.getElem?_append_left (by have := (List.getElem?_eq_some_iff.1 h1).1; exact this)]
    exact h1
/-- the last has all in the first one. -/
theorem allF_last (r : Nat) (hr : r ≤ 7) : ∀ (u : Nat) (N : Nat → Int), ∃ M, (allF r u N)[(allF r u N).length - 1]? = some M ∧ ∀ g, g < 8 → M g = if g = 7 - r then (u : Int) else if 7 - r < g then 0 else N g := by
  induction r with
  | zero =>
    intro u N
    refine ⟨putN N 7 u, rfl, fun g hg => ?_⟩
    by_cases e : g = 7
    · subst e; rw [putN_same, if_pos rfl]
    · rw [putN_other N e, if_neg (by omega), if_neg (by omega)]
  | succ r ih =>
    intro u N
    obtain ⟨M, h1, h2⟩ := ih (by omega) 0 (putN N (6 - r) u)
    have e : allF (r + 1) u N = allTo r u N u ++ allF r 0 (putN N (6 - r) u) := by
      rw [← allTo_all, allTo_succ, Nat.sub_self]
    have hp : 0 < (allF r 0 (putN N (6 - r) u)).length := List.length_pos_iff.2 (allF_ne r 0 _)
    refine ⟨M, ?_, fun g hg => ?_⟩
    · rw [e, List.length_append, List.getElem?_append_right (by omega)]
      rw [show (allTo r u N u).length + (allF r 0 (putN N (6 - r) u)).length - 1 - (allTo r u N u).length = (allF r 0 (putN N (6 - r) u)).length - 1 by omega]
      exact h1
    · rw [h2 g hg]
      by_cases e1 : g = 7 - (r + 1)
      · rw [if_neg (by omega), if_neg (by omega), if_pos e1, show 6 - r = g by omega, putN_same]
      · rw [if_neg e1]
        by_cases e2 : g = 7 - r
        · rw [if_pos e2, if_pos (by omega)]; rfl
        · rw [if_neg e2]
          by_cases e3 : 7 - r < g
          · rw [if_pos e3, if_pos (by omega)]
          · rw [if_neg e3, if_neg (by omega), putN_other N (by omega)]
theorem nextTo_none {A : List (Nat → Int)} {q : (Nat → Int) → Bool} {n : Nat} (h : ∀ i, i < n → q (A.getD i zeroC) = false) : nextTo A q n = none := by
  induction n with
  | zero => rfl
  | succ n ih =>
    unfold nextTo
    rw [if_neg (by rw [h n (by omega)]; decide)]
    exact ih fun i hi => h i (by omega)
theorem getD_of {A : List (Nat → Int)} {i : Nat} (h : i < A.length) : A[i]? = some (A.getD i zeroC) := by
  rw [List.getD_eq_getElem?_getD, List.getElem?_eq_getElem h]; rfl
theorem all8_iff {N M : Nat → Int} : ((List.range 8).all fun f => M f == N f) = true ↔ ∀ f, f < 8 → M f = N f := by
  rw [List.all_eq_true]
  exact ⟨fun h f hf => by simpa using h f (List.mem_range.2 hf), fun h f hf => by simpa using h f (List.mem_range.1 hf)⟩
/-- behind all in the first field there are none. -/
theorem next_last (u : Nat) (N : Nat → Int) (h0 : N 0 = u) (h : ∀ g, 0 < g → g < 8 → N g = 0) : nextO (u : Int) N = none := by
  unfold nextO
  rw [Int.toNat_natCast]
  obtain ⟨M, h1, h2⟩ := allF_last 7 (by omega) u fun _ => 0
  refine nextTo_none fun i hi => ?_
  rcases (Bool.eq_false_or_eq_true ((List.range 8).all fun f => (everyC u).getD i zeroC f == N f)).symm with e | e
  · exact e
  · have e' := all8_iff.1 e
    have := everyC_once (u := u) (getD_of (show i < (everyC u).length by omega)) h1 (fun g hg => by
      rw [e' g hg, h2 g hg]
      by_cases eg : g = 0
      · subst eg; rw [h0]; rfl
      · rw [h g (by omega) hg, if_neg (by omega), if_pos (by omega)])
    have hl : (allF 7 u fun _ => 0) = everyC u := rfl
    rw [hl] at this
    omega
/-- without a row all fit. -/
theorem fitB_nil (N : Nat → Int) : fitB [] N = true := rfl
theorem many_nil {u : Nat} (hu : u ≤ 6) : fitManyN (u : Int) [] = ((everyC u).length : Int) := by
  have e : fitFault (u : Int) [] = 0 := by unfold fitFault; rw [if_pos (by omega)]; rfl
  unfold fitManyN manyD
  rw [if_pos e, Int.toNat_natCast, List.drop_zero, List.filter_eq_self.2 fun M _ => fitB_nil M]
theorem least_nil {u : Nat} (hu : u ≤ 6) : leastFault (u : Int) [] = 0 ∧ leastN (u : Int) [] 7 = u := by
  have e : fitFault (u : Int) [] = 0 := by unfold fitFault; rw [if_pos (by omega)]; rfl
  obtain ⟨M, h1, h2⟩ := allF_head 7 u fun _ => 0
  have hl : (allF 7 u fun _ => 0) = everyC u := rfl
  rw [hl] at h1
  constructor
  · unfold leastFault
    have hp : 0 < (everyC u).length := (List.getElem?_eq_some_iff.1 h1).1
    rw [if_pos e, if_neg (by rw [many_nil hu]; omega)]
  · unfold leastN leastD
    rw [if_pos e, Int.toNat_natCast, List.drop_zero]
    cases hA : everyC u with
    | nil => rw [hA] at h1; simp at h1
    | cons B A =>
      rw [hA] at h1
      obtain rfl : B = M := by simpa using h1
      rw [List.find?_cons_of_pos (fitB_nil B)]
      exact h2

/-! ### none ahead fits -/
theorem fitB_same {l : List Rw} {N M : Nat → Int} (h : ∀ g, g < 8 → N g = M g) : fitB l N = fitB l M := by
  unfold fitB
  have : ∀ r : Rw, r.so N = r.so M := fun r => by unfold Rw.so; rw [sumT_same (fun _ _ => rfl) h]
  simp only [this]
theorem fitB_append (l m : List Rw) (N : Nat → Int) : fitB (l ++ m) N = (fitB l N && fitB m N) := by unfold fitB; rw [List.all_append]
theorem manyD_append (A : List (Nat → Int)) (l m : List Rw) (j : Nat) : manyD A (fitB (l ++ m)) j ≤ manyD A (fitB l) j := by
  unfold manyD
  have e : (A.drop j).filter (fitB (l ++ m)) = ((A.drop j).filter (fitB l)).filter (fitB m) := by
    rw [List.filter_filter]
    apply List.filter_congr
    intro N _
    rw [fitB_append, Bool.and_comm]
  rw [e]
  exact List.length_filter_le _ _
theorem manyD_all (A : List (Nat → Int)) (p : (Nat → Int) → Bool) : manyD A p 0 ≤ A.length := manyD_le A p 0
/-- where none fits, none of u things does. -/
theorem none_fits {u : Nat} {l : List Rw} (h : manyD (everyC u) (fitB l) 0 = 0) {N : Nat → Int} (h0 : ∀ g, g < 8 → 0 ≤ N g) (hs : sumN N 8 = u) : fitB l N = false := by
  obtain ⟨A, hA, hAN⟩ := everyC_all h0 hs
  rw [← fitB_same (l := l) hAN]
  rcases (Bool.eq_false_or_eq_true (fitB l A)).symm with e | e
  · exact e
  · unfold manyD at h
    rw [List.drop_zero] at h
    have hn := List.eq_nil_of_length_eq_zero h
    have : A ∈ (everyC u).filter (fitB l) := List.mem_filter.2 ⟨hA, e⟩
    rw [hn] at this
    cases this
/-- where some fit, the least is one of these, and fits. -/
theorem least_fits {u : Nat} {l : List Rw} (h : ¬ manyD (everyC u) (fitB l) 0 = 0) : leastD (everyC u) (fitB l) 0 ∈ everyC u ∧ fitB l (leastD (everyC u) (fitB l) 0) = true := by
  unfold leastD
  rw [List.drop_zero]
  cases e : (everyC u).find? (fitB l) with
  | none =>
    refine absurd ?_ h
    unfold manyD
    rw [List.drop_zero, List.filter_eq_nil_iff.2 fun M hM => by simpa using List.find?_eq_none.1 e M hM]
    rfl
  | some M => exact ⟨List.mem_of_find?_eq_some e, List.find?_some e⟩
/-- what fits is not ahead of the least. -/
theorem least_first {u : Nat} {l : List Rw} {N : Nat → Int} (h0 : ∀ g, g < 8 → 0 ≤ N g) (hs : sumN N 8 = u) (hf : fitB l N = true) {f : Nat} (hfl : f < 8) (he : ∀ g, g < f → N g = leastD (everyC u) (fitB l) 0 g) (hne : N f ≠ leastD (everyC u) (fitB l) 0 f) : leastD (everyC u) (fitB l) 0 f < N f := by
  obtain ⟨A, hA, hAN⟩ := everyC_all h0 hs
  have hfA : fitB l A = true := by rw [fitB_same hAN]; exact hf
  have hsrt := everyC_sorted u
  obtain ⟨X, hX⟩ : ∃ X, X = leastD (everyC u) (fitB l) 0 := ⟨_, rfl⟩
  rw [← hX] at he hne ⊢
  have key : aheadC X A ∨ ∀ g, g < 8 → X g = A g := by
    unfold leastD at hX
    rw [List.drop_zero] at hX
    cases e : (everyC u).find? (fitB l) with
    | none => exact absurd hfA (by simpa using List.find?_eq_none.1 e A hA)
    | some M =>
      rw [e] at hX
      have hXM : X = M := hX
      obtain ⟨hM, ats, bs, hab, has⟩ := List.find?_eq_some_iff_append.1 e
      rw [hab] at hA hsrt
      rcases List.mem_append.1 hA with h | h
      · have := has A h
        rw [hfA] at this
        simp at this
      · rcases List.mem_cons.1 h with h | h
        · right; intro g _; rw [hXM, h]
        · left
          rw [hXM]
          exact (List.pairwise_cons.1 (List.pairwise_append.1 hsrt).2.1).1 A h
  rcases key with ⟨d, hd, hde, hdl⟩ | h
  · have hAd := hAN
    rcases Nat.lt_trichotomy d f with h' | h' | h'
    · have := he d h'
      have := hAd d hd
      omega
    · subst h'
      rw [← hAN d hd]; exact hdl
    · have := hde f h'
      have := hAd f hfl
      omega
  · exact absurd ((hAN f hfl).symm.trans (h f hfl).symm) hne
end Go.Proofs.YtedgbohobgnedafDoor
namespace Go.Proofs.YtedgbohobgnedafDoor
open Go.RowKit

/-- the last of the first k fields that has any; 0, if none has. -/
def lastTo (N : Nat → Int) : Nat → Nat
  | 0 => 0
  | k + 1 => if 0 < N k then k else lastTo N k
theorem lastTo_lt (N : Nat → Int) (k : Nat) (h : lastTo N k ≠ 0) : lastTo N k < k := by
  induction k with
  | zero => exact absurd rfl h
  | succ k ih =>
    unfold lastTo at h ⊢
    split
    · omega
    · rename_i hn
      rw [if_neg hn] at h
      have := ih h
      omega
theorem lastTo_same {N M : Nat → Int} {k : Nat} (h : ∀ g, g < k → N g = M g) : lastTo N k = lastTo M k := by
  induction k with
  | zero => rfl
  | succ k ih => unfold lastTo; rw [h k (by omega), ih fun g hg => h g (by omega)]
theorem lastTo_has {N : Nat → Int} {k : Nat} (h : lastTo N k ≠ 0) : 0 < N (lastTo N k) := by
  induction k with
  | zero => exact absurd rfl h
  | succ k ih =>
    unfold lastTo at h ⊢
    split
    · rename_i hp; exact hp
    · rename_i hn
      rw [if_neg hn] at h
      exact ih h
/-- L the last that has any: the counts behind. -/
def afterL (N : Nat → Int) (L : Nat) : Nat → Int := putN (putN (putN N L 0) (L - 1) (N (L - 1) + 1)) 7 (N L - 1)
def afterN (N : Nat → Int) : Nat → Int := afterL N (lastTo N 8)
def afterO (N : Nat → Int) : Nat → Int := if lastTo N 8 = 0 then zeroC else afterN N
theorem afterN_same {N M : Nat → Int} (h : ∀ g, g < 8 → N g = M g) (hl : lastTo N 8 ≠ 0) : ∀ g, g < 8 → afterN N g = afterN M g := by
  intro g hg
  have hlt := lastTo_lt N 8 hl
  unfold afterN afterL
  rw [← lastTo_same h, h _ hlt, h (lastTo N 8 - 1) (by omega)]
  unfold putN
  rw [h g hg]
/-- each is behind the one ahead of it. -/
def stepsB : List (Nat → Int) → Bool
  | [] => true
  | M :: L => (match L with
    | [] => lastTo M 8 == 0
    | M' :: _ => lastTo M 8 != 0 && (List.range 8).all fun f => afterN M f == M' f) && stepsB L
theorem steps_all : ∀ u, u ≤ 6 → stepsB (everyC u) = true := by decide +kernel
theorem steps_at {A : List (Nat → Int)} (h : stepsB A = true) : ∀ {i : Nat} {M : Nat → Int}, A[i]? = some M →
    (lastTo M 8 ≠ 0 ∧ ∃ M', A[i + 1]? = some M' ∧ ∀ f, f < 8 → afterN M f = M' f) ∨ (lastTo M 8 = 0 ∧ i + 1 = A.length) := by
  induction A with
  | nil => intro i M hi; simp at hi
  | cons X L ih =>
    intro i M hi
    unfold stepsB at h
    rw [Bool.and_eq_true] at h
    cases i with
    | zero =>
      obtain rfl : X = M := by simpa using hi
      cases L with
      | nil =>
        have h1 := h.1
        simp only [beq_iff_eq] at h1
        exact Or.inr ⟨h1, rfl⟩
      | cons M' L =>
        have h1 := h.1
        simp only [Bool.and_eq_true, bne_iff_ne, ne_eq, List.all_eq_true, beq_iff_eq, List.mem_range] at h1
        exact Or.inl ⟨h1.1, M', rfl, h1.2⟩
    | succ i =>
      rcases ih h.2 (i := i) (M := M) (by simpa using hi) with ⟨a, M', b, c⟩ | ⟨a, b⟩
      · exact Or.inl ⟨a, M', by simpa using b, c⟩
      · exact Or.inr ⟨a, by simp [b]⟩
theorem every_steps {u : Nat} (hu : u ≤ 6) {i : Nat} {M : Nat → Int} (hi : (everyC u)[i]? = some M) :
    (lastTo M 8 ≠ 0 ∧ ∃ M', (everyC u)[i + 1]? = some M' ∧ ∀ f, f < 8 → afterN M f = M' f) ∨ (lastTo M 8 = 0 ∧ i + 1 = (everyC u).length) := steps_at (steps_all u hu) hi
theorem nextTo_one {A : List (Nat → Int)} {q : (Nat → Int) → Bool} {n j : Nat} (hj : j < n) (hq : q (A.getD j zeroC) = true) (h : ∀ i, i < n → q (A.getD i zeroC) = true → i = j) : nextTo A q n = some (A.getD (j + 1) zeroC) := by
  induction n with
  | zero => omega
  | succ n ih =>
    unfold nextTo
    by_cases e : n = j
    · subst e; rw [if_pos hq]
    · have : ¬ q (A.getD n zeroC) = true := fun hn => e (h n (by omega) hn)
      rw [if_neg this]
      exact ih (by omega) fun i hi hqi => h i (by omega) hqi
/-- what is told of the next ones, by the last that has any. -/
theorem next_after {u : Nat} (hu : u ≤ 6) {N : Nat → Int} (hf : countsFault N = 0) (hs : sumN N 8 = u) :
    nextFault (u : Int) N = (if lastTo N 8 = 0 then 5 else 0) ∧ ∀ g, g < 8 → nextN (u : Int) N g = afterO N g := by
  obtain ⟨A, hA, hAN⟩ := everyC_all (u := u) (fun g hg => ((counts_zero.1 hf).1 g hg).1) hs
  obtain ⟨i, hi⟩ := List.mem_iff_getElem?.1 hA
  have hil := (List.getElem?_eq_some_iff.1 hi).1
  have hl := lastTo_same (k := 8) hAN
  have huu : (0 : Int) ≤ (u : Int) ∧ (u : Int) ≤ 6 := by omega
  have hgi : (everyC u).getD i zeroC = A := by rw [List.getD_eq_getElem?_getD, hi]; rfl
  have honly : ∀ j, j < (everyC u).length → ((List.range 8).all fun f => (everyC u).getD j zeroC f == N f) = true → j = i := fun j hj hq =>
    everyC_once (u := u) (getD_of hj) hi fun g hg => ((all8_iff.1 hq) g hg).trans (hAN g hg).symm
  rcases every_steps hu hi with ⟨h0, M', hM', he⟩ | ⟨h0, he⟩
  · have hil2 := (List.getElem?_eq_some_iff.1 hM').1
    have hgM : (everyC u).getD (i + 1) zeroC = M' := by rw [List.getD_eq_getElem?_getD, hM']; rfl
    have ho : nextO (u : Int) N = some M' := by
      unfold nextO
      rw [Int.toNat_natCast, ← hgM]
      exact nextTo_one (by omega) (by rw [hgi]; exact all8_iff.2 hAN) fun j hj hq => honly j (by omega) hq
    have hnf : nextFault (u : Int) N = 0 := by unfold nextFault; rw [if_pos huu, if_pos hf, if_pos hs, ho]; rfl
    rw [hl] at h0
    refine ⟨by rw [if_neg h0]; exact hnf, fun g hg => ?_⟩
    unfold nextN afterO
    rw [if_pos hnf, if_neg h0, ho]
    show M' g = _
    rw [← he g hg]
    exact afterN_same hAN (by rw [hl]; exact h0) g hg
  · have ho : nextO (u : Int) N = none := by
      unfold nextO
      rw [Int.toNat_natCast]
      refine nextTo_none fun j hj => ?_
      rcases (Bool.eq_false_or_eq_true ((List.range 8).all fun f => (everyC u).getD j zeroC f == N f)).symm with e | e
      · exact e
      · have := honly j (by omega) e
        omega
    have hnf : nextFault (u : Int) N = 5 := by unfold nextFault; rw [if_pos huu, if_pos hf, if_pos hs, ho]; rfl
    rw [hl] at h0
    refine ⟨by rw [if_pos h0]; exact hnf, fun g _ => ?_⟩
    unfold nextN afterO
    rw [if_neg (by rw [hnf]; decide), if_pos h0]
end Go.Proofs.YtedgbohobgnedafDoor

namespace Go.Proofs.YtedgbohobgnedafDoor
open Go.RowKit

/-- a row of signs that is one formula over m atoms, of depth at most n. -/
def isFm (m : Nat) : Nat → List Int → Prop
  | 0, _ => False
  | n + 1, q => (∃ s : Int, 0 ≤ s ∧ s < m ∧ q = [s]) ∨ (∃ t, isFm m n t ∧ q = t ++ [12]) ∨ (∃ (s : Int) (a b : List Int), (s = 10 ∨ s = 11 ∨ s = 13) ∧ isFm m n a ∧ isFm m n b ∧ q = a ++ (b ++ [s]))
theorem isFm_mono {m n : Nat} : ∀ {k : Nat} {q : List Int}, n ≤ k → isFm m n q → isFm m k q := by
  induction n with
  | zero => intro k q _ h; exact h.elim
  | succ n ih =>
    intro k q hk h
    obtain ⟨j, rfl⟩ : ∃ j, k = j + 1 := ⟨k - 1, by omega⟩
    rcases h with ⟨s, h0, h4, e⟩ | ⟨t, ht, e⟩ | ⟨s, a, b, h5, ha, hb, e⟩
    · exact Or.inl ⟨s, h0, h4, e⟩
    · exact Or.inr (Or.inl ⟨t, ih (by omega) ht, e⟩)
    · exact Or.inr (Or.inr ⟨s, a, b, h5, ih (by omega) ha, ih (by omega) hb, e⟩)
/-- a row of right signs is as many formulas as it makes. -/
theorem treesF (m : Nat) (t : List Int) (ht : ∀ s ∈ t, signF m s = true) (ts : List (List Int)) (hts : ∀ q ∈ ts, ∃ n, isFm m n q) {n : Int} (h : cntF t ts.length = some n) :
    ∃ ts' : List (List Int), (ts'.length : Int) = n ∧ (∀ q ∈ ts', ∃ n, isFm m n q) ∧ ts'.flatten = ts.flatten ++ t := by
  induction t generalizing ts with
  | nil => simp [cntF] at h; exact ⟨ts, h, hts, by simp⟩
  | cons s l ih =>
    have hs := signF_iff.1 (ht s (by simp))
    have hl : ∀ x ∈ l, signF m x = true := fun x hx => ht x (by simp [hx])
    unfold cntF at h
    split at h
    · cases h
    · rename_i hn
      by_cases h2 : s = 10 ∨ s = 11 ∨ s = 13
      · have e : takesF s = 2 := by unfold takesF; rw [if_pos h2]
        rw [e] at h hn
        obtain ⟨ts0, a, b, rfl⟩ : ∃ ts0 a b, ts = ts0 ++ [a, b] := by
          rcases List.eq_nil_or_concat ts with rfl | ⟨x, y, rfl⟩
          · simp at hn
          · rcases List.eq_nil_or_concat x with rfl | ⟨x', z, rfl⟩
            · simp at hn
            · exact ⟨x', z, y, by simp⟩
        obtain ⟨ts', h1, h2', h3⟩ := ih hl (ts0 ++ [a ++ (b ++ [s])]) (by
          intro q hq
          rcases List.mem_append.1 hq with hq | hq
          · exact hts q (by simp [hq])
          · rw [List.mem_singleton.1 hq]
            obtain ⟨k, hk⟩ := hts a (by simp)
            obtain ⟨j, hj⟩ := hts b (by simp)
            exact ⟨k + j + 1, Or.inr (Or.inr ⟨s, a, b, h2, isFm_mono (by omega) hk, isFm_mono (by omega) hj, rfl⟩)⟩) (by rw [← h]; simp; congr 1; omega)
        exact ⟨ts', h1, h2', by rw [h3]; simp⟩
      by_cases h8 : s = 12
      · subst h8
        have e : takesF 12 = 1 := by decide
        rw [e] at h hn
        obtain ⟨ts0, a, rfl⟩ : ∃ ts0 a, ts = ts0 ++ [a] := by
          rcases List.eq_nil_or_concat ts with rfl | ⟨x, y, rfl⟩
          · simp at hn
          · exact ⟨x, y, by simp⟩
        obtain ⟨ts', h1, h2', h3⟩ := ih hl (ts0 ++ [a ++ [12]]) (by
          intro q hq
          rcases List.mem_append.1 hq with hq | hq
          · exact hts q (by simp [hq])
          · rw [List.mem_singleton.1 hq]
            obtain ⟨k, hk⟩ := hts a (by simp)
            exact ⟨k + 1, Or.inr (Or.inl ⟨a, hk, rfl⟩)⟩) (by rw [← h]; simp)
        exact ⟨ts', h1, h2', by rw [h3]; simp⟩
      · have e : takesF s = 0 := by unfold takesF; rw [if_neg h2, if_neg h8]
        rw [e] at h
        have hs' : 0 ≤ s ∧ s < m := hs.resolve_left (by simp [e])
        obtain ⟨ts', h1, h2', h3⟩ := ih hl (ts ++ [[s]]) (by
          intro q hq
          rcases List.mem_append.1 hq with hq | hq
          · exact hts q hq
          · rw [List.mem_singleton.1 hq]; exact ⟨1, Or.inl ⟨s, hs'.1, hs'.2, rfl⟩⟩) (by rw [← h]; simp)
        exact ⟨ts', h1, h2', by rw [h3]; simp⟩
/-- a right formula is one. -/
theorem treeF {m : Nat} {t : List Int} (hs : t.all (signF m) = true) (h : cntF t 0 = some 1) : ∃ n, isFm m n t := by
  obtain ⟨ts, h1, h2, h3⟩ := treesF m t (List.all_eq_true.1 hs) [] (by intro q hq; cases hq) h
  match ts, h1 with
  | [q], _ =>
    have e : q = t := by simpa using h3
    rw [← e]; exact h2 q (by simp)
  | [], h1 => simp at h1
  | _ :: _ :: _, h1 => simp at h1; omega
/-- one formula counts one. -/
theorem cnt_fm {m : Nat} (hm : m ≤ 6) (n : Nat) : ∀ q, isFm m n q → cntF q 0 = some 1 := by
  induction n with
  | zero => intro q h; exact h.elim
  | succ n ih =>
    intro q h
    rcases h with ⟨s, h0, h4, rfl⟩ | ⟨t, ht, rfl⟩ | ⟨s, a, b, h5, ha, hb, rfl⟩
    · have e : takesF s = 0 := takesF_low (by omega)
      simp [cntF, e]
    · exact cnt_no (ih t ht)
    · have e : takesF s = 2 := by unfold takesF; rw [if_pos h5]
      rw [cntF_append, ih a ha]
      show cntF (b ++ [s]) 1 = _
      rw [cntF_append, show cntF b 1 = some 2 from cntF_more b 0 1 (ih b hb)]
      simp [cntF, e]
def boolF (s : Int) (x y : Bool) : Bool := if s = 10 then x && y else if s = 11 then x || y else !x || y
theorem valF_leaf (held : List Bool) {s : Int} (h : s < 10) : valF held [s] = held.getD s.toNat false := by
  have e := takesF_low h
  have : pileF held [s] [] = [held.getD s.toNat false] := by
    show stepF held [] s = _
    unfold stepF
    rw [madeF_leaf held e]
    simp [restF]
  rw [valF, this]; rfl
theorem valF_two (held : List Bool) {s : Int} (h : s = 10 ∨ s = 11 ∨ s = 13) {a b : List Int} (ha : cntF a 0 = some 1) (hb : cntF b 0 = some 1) : valF held (a ++ (b ++ [s])) = boolF s (valF held a) (valF held b) := by
  have : pileF held (a ++ (b ++ [s])) [] = [boolF s (valF held a) (valF held b)] := by
    rw [pileF_append, pileF_one held ha, pileF_append, pileF_one held hb]
    rcases h with rfl | rfl | rfl <;> rfl
  rw [valF, this]; rfl
end Go.Proofs.YtedgbohobgnedafDoor

namespace Go.Proofs.YtedgbohobgnedafDoor
open Go.RowKit

/-- a cube over M atoms: members of atoms, by atoms, rising, each once. -/
def cubeOk (M : Nat) (c : List Int) : Prop := (∀ m ∈ c, 1 ≤ m.natAbs ∧ m.natAbs ≤ M) ∧ c.Pairwise (fun a b => a.natAbs < b.natAbs)
/-- an atom both ways. -/
def bothWays (c : List Int) : Bool := c.any (fun m => c.contains (-m))
def atomIn (c : List Int) (n : Int) : List Int := if c.contains n = true then [n] else if c.contains (-n) = true then [-n] else []
def joinC (c d : List Int) : List Int := [1, 2, 3, 4, 5, 6].flatMap (atomIn (c ++ d))
def putC (L : List (List Int)) (c : List Int) : List (List Int) := if L.contains c = true then L else L ++ [c]
def andS (c : List Int) (L : List (List Int)) (d : List Int) : List (List Int) := if bothWays (c ++ d) = true then L else putC L (joinC c d)
def andR (B : List (List Int)) (L : List (List Int)) (c : List Int) : List (List Int) := B.foldl (andS c) L
def andC (A B : List (List Int)) : List (List Int) := A.foldl (andR B) []
def orC (A B : List (List Int)) : List (List Int) := (A ++ B).foldl putC []
def turnC (c : List Int) : List (List Int) := c.map (fun m => [-m])
def capC (L : List (List Int)) : Option (List (List Int)) := if 40 < L.length then none else some L
def noC : List (List Int) → List (List Int) → Option (List (List Int))
  | [], out => some out
  | c :: l, out => (capC (andC out (turnC c))).bind (noC l)
def madeC (s : Int) (l : List (List (List Int))) : Option (List (List Int)) :=
  if s = 10 then capC (andC (l.getD 0 []) (l.getD 1 [])) else if s = 11 then capC (orC (l.getD 0 []) (l.getD 1 [])) else if s = 13 then (noC (l.getD 0 []) [[]]).bind (fun x => capC (orC x (l.getD 1 []))) else if s = 12 then noC (l.getD 0 []) [[]] else some [[s + 1]]
def restC (p : List (List (List Int))) (s : Int) : Nat := p.length - (takesF s).toNat
def stepC (p : List (List (List Int))) (s : Int) : Option (List (List (List Int))) := (madeC s (p.drop (restC p s))).map (fun x => p.take (restC p s) ++ [x])
def pileC : List Int → List (List (List Int)) → Option (List (List (List Int)))
  | [], p => some p
  | s :: l, p => (stepC p s).bind (pileC l)
/-- the cubes of a right row of signs; none: too many. -/
def cubesC (c : List Int) : Option (List (List Int)) := (pileC c []).map (fun p => p.getD 0 [])

/-! ### cubes stay cubes -/
theorem bothWays_iff {c : List Int} : bothWays c = true ↔ ∃ m, m ∈ c ∧ -m ∈ c := by
  unfold bothWays; simp [List.any_eq_true]
theorem bothWays_mem {c d : List Int} (h : ∀ m, m ∈ c ↔ m ∈ d) : bothWays c = bothWays d := by
  rw [Bool.eq_iff_iff, bothWays_iff, bothWays_iff]
  simp [h]
theorem cube_noway {M : Nat} {c : List Int} (h : cubeOk M c) : bothWays c = false := by
  rw [← Bool.not_eq_true, bothWays_iff]
  rintro ⟨m, h1, h2⟩
  have hr := h.1 m h1
  have key : ∀ l : List Int, l.Pairwise (fun a b => a.natAbs < b.natAbs) → ∀ x ∈ l, ∀ y ∈ l, x.natAbs = y.natAbs → x = y := by
    intro l hl
    induction hl with
    | nil => intro x hx; cases hx
    | cons hh _ ih =>
      intro x hx y hy e
      rcases List.mem_cons.1 hx with ex | hx'
      · rcases List.mem_cons.1 hy with ey | hy'
        · rw [ex, ey]
        · have := hh y hy'; rw [← ex] at this; omega
      · rcases List.mem_cons.1 hy with ey | hy'
        · have := hh x hx'; rw [← ey] at this; omega
        · exact ih x hx' y hy' e
  have := key c h.2 m h1 (-m) h2 (by simp)
  omega
theorem rising_len {M : Nat} : ∀ (c : List Int) (k : Nat), (∀ m ∈ c, k < m.natAbs ∧ m.natAbs ≤ M) → c.Pairwise (fun a b => a.natAbs < b.natAbs) → c.length + k ≤ M ∨ c = [] := by
  intro c
  induction c with
  | nil => intro k _ _; exact Or.inr rfl
  | cons m l ih =>
    intro k h hp
    have hm := h m (by simp)
    rw [List.pairwise_cons] at hp
    rcases ih m.natAbs (fun x hx => ⟨hp.1 x hx, (h x (by simp [hx])).2⟩) hp.2 with h1 | rfl
    · left; simp; omega
    · left; simp; omega
theorem cube_len {M : Nat} {c : List Int} (h : cubeOk M c) : c.length ≤ M := by
  rcases rising_len c 0 (fun m hm => ⟨by have := (h.1 m hm).1; omega, (h.1 m hm).2⟩) h.2 with h1 | rfl
  · omega
  · simp
theorem rising_ext : ∀ {c d : List Int}, c.Pairwise (fun a b => a.natAbs < b.natAbs) → d.Pairwise (fun a b => a.natAbs < b.natAbs) → (∀ m, m ∈ c ↔ m ∈ d) → c = d := by
  intro c
  induction c with
  | nil =>
    intro d _ _ h
    cases d with
    | nil => rfl
    | cons x l => have := (h x).2 (by simp); cases this
  | cons a l ih =>
    intro d hc hd h
    cases d with
    | nil => have := (h a).1 (by simp); cases this
    | cons b k =>
      rw [List.pairwise_cons] at hc hd
      have hab : a = b := by
        rcases List.mem_cons.1 ((h a).1 (by simp)) with e | e
        · exact e
        · rcases List.mem_cons.1 ((h b).2 (by simp)) with e' | e'
          · exact e'.symm
          · have h1 := hd.1 a e; have h2 := hc.1 b e'; omega
      subst hab
      rw [ih hc.2 hd.2 (fun m => ?_)]
      have hm := h m
      constructor
      · intro hml
        rcases List.mem_cons.1 (hm.1 (by simp [hml])) with rfl | e
        · have := hc.1 m hml; omega
        · exact e
      · intro hmk
        rcases List.mem_cons.1 (hm.2 (by simp [hmk])) with rfl | e
        · have := hd.1 m hmk; omega
        · exact e
theorem mem_joinC {c d : List Int} (hr : ∀ m ∈ c ++ d, 1 ≤ m.natAbs ∧ m.natAbs ≤ 6) (hb : bothWays (c ++ d) = false) (m : Int) : m ∈ joinC c d ↔ m ∈ c ++ d := by
  rw [← Bool.not_eq_true, bothWays_iff] at hb
  unfold joinC
  rw [List.mem_flatMap]
  constructor
  · rintro ⟨n, _, hn⟩
    unfold atomIn at hn
    split at hn
    · rename_i h; rw [List.mem_singleton.1 hn]; simpa using h
    · split at hn
      · rename_i h; rw [List.mem_singleton.1 hn]; simpa using h
      · cases hn
  · intro hm
    have h6 := hr m hm
    refine ⟨(m.natAbs : Int), ?_, ?_⟩
    · have : m.natAbs = 1 ∨ m.natAbs = 2 ∨ m.natAbs = 3 ∨ m.natAbs = 4 ∨ m.natAbs = 5 ∨ m.natAbs = 6 := by omega
      rcases this with e | e | e | e | e | e <;> rw [e] <;> simp
    · unfold atomIn
      rcases Int.natAbs_eq m with e | e
      · rw [← e, if_pos (by simpa using hm)]; simp
      · have e2 : (m.natAbs : Int) = -m := by omega
        rw [e2, if_neg, if_pos]
        · simp
        · simpa using hm
        · intro hc
          exact hb ⟨m, hm, by simpa using hc⟩
theorem join_ok {M : Nat} (hM : M ≤ 6) {c d : List Int} (hc : cubeOk M c) (hd : cubeOk M d) (hb : bothWays (c ++ d) = false) : cubeOk M (joinC c d) := by
  have hr : ∀ m ∈ c ++ d, 1 ≤ m.natAbs ∧ m.natAbs ≤ M := by
    intro m hm
    rcases List.mem_append.1 hm with h | h
    · exact hc.1 m h
    · exact hd.1 m h
  refine ⟨fun m hm => hr m ((mem_joinC (fun m h => by have := hr m h; omega) hb m).1 hm), ?_⟩
  unfold joinC
  have one : ∀ n x, x ∈ atomIn (c ++ d) n → x.natAbs = n.natAbs := by
    intro n x hx
    unfold atomIn at hx
    split at hx
    · rw [List.mem_singleton.1 hx]
    · split at hx
      · rw [List.mem_singleton.1 hx]; simp
      · cases hx
  rw [List.pairwise_flatMap]
  refine ⟨fun n _ => ?_, ?_⟩
  · unfold atomIn
    split
    · simp
    · split <;> simp
  · have : ([1, 2, 3, 4, 5, 6] : List Int).Pairwise (fun a b => a.natAbs < b.natAbs) := by decide
    refine this.imp ?_
    intro a b hab x hx y hy
    rw [one a x hx, one b y hy]; exact hab
/-- cubes, none twice. -/
def okL (M : Nat) (L : List (List Int)) : Prop := (∀ c ∈ L, cubeOk M c) ∧ L.Nodup
theorem put_ok {M : Nat} {L : List (List Int)} {c : List Int} (h : okL M L) (hc : cubeOk M c) : okL M (putC L c) := by
  unfold putC
  split
  · exact h
  · rename_i hn
    refine ⟨fun x hx => ?_, ?_⟩
    · rcases List.mem_append.1 hx with hx | hx
      · exact h.1 x hx
      · rw [List.mem_singleton.1 hx]; exact hc
    · rw [List.nodup_append]
      refine ⟨h.2, by simp, ?_⟩
      intro x hx y hy e
      rw [List.mem_singleton.1 hy] at e
      subst e
      exact hn (by simpa using hx)
theorem put_len (L : List (List Int)) (c : List Int) : L.length ≤ (putC L c).length ∧ (putC L c).length ≤ L.length + 1 := by
  unfold putC; split <;> simp
theorem andS_ok {M : Nat} (hM : M ≤ 6) {L : List (List Int)} {c d : List Int} (h : okL M L) (hc : cubeOk M c) (hd : cubeOk M d) : okL M (andS c L d) := by
  unfold andS
  split
  · exact h
  · rename_i hb
    exact put_ok h (join_ok hM hc hd (by simpa using hb))
theorem andS_len (L : List (List Int)) (c d : List Int) : L.length ≤ (andS c L d).length ∧ (andS c L d).length ≤ L.length + 1 := by
  unfold andS; split
  · simp
  · exact put_len _ _
theorem andR_ok {M : Nat} (hM : M ≤ 6) {B : List (List Int)} (hB : ∀ d ∈ B, cubeOk M d) : ∀ {L : List (List Int)} {c : List Int}, okL M L → cubeOk M c → okL M (andR B L c) := by
  induction B with
  | nil => intro L c h _; exact h
  | cons d l ih =>
    intro L c h hc
    exact ih (fun x hx => hB x (by simp [hx])) (andS_ok hM h hc (hB d (by simp))) hc
theorem andR_len (B : List (List Int)) : ∀ (L : List (List Int)) (c : List Int), L.length ≤ (andR B L c).length := by
  induction B with
  | nil => intro L c; exact Nat.le_refl _
  | cons d l ih => intro L c; exact Nat.le_trans (andS_len L c d).1 (ih _ c)
theorem andF_ok {M : Nat} (hM : M ≤ 6) {A B : List (List Int)} (hA : ∀ c ∈ A, cubeOk M c) (hB : ∀ d ∈ B, cubeOk M d) : ∀ {L : List (List Int)}, okL M L → okL M (A.foldl (andR B) L) := by
  induction A with
  | nil => intro L h; exact h
  | cons c l ih => intro L h; exact ih (fun x hx => hA x (by simp [hx])) (andR_ok hM hB h (hA c (by simp)))
theorem andF_len (A B : List (List Int)) : ∀ (L : List (List Int)), L.length ≤ (A.foldl (andR B) L).length := by
  induction A with
  | nil => intro L; exact Nat.le_refl _
  | cons c l ih => intro L; exact Nat.le_trans (andR_len B L c) (ih _)
theorem okL_nil (M : Nat) : okL M [] := ⟨fun c h => (by cases h), List.nodup_nil⟩
theorem and_ok {M : Nat} (hM : M ≤ 6) {A B : List (List Int)} (hA : ∀ c ∈ A, cubeOk M c) (hB : ∀ d ∈ B, cubeOk M d) : okL M (andC A B) := andF_ok hM hA hB (okL_nil M)
theorem putF_ok {M : Nat} {B : List (List Int)} (hB : ∀ d ∈ B, cubeOk M d) : ∀ {L : List (List Int)}, okL M L → okL M (B.foldl putC L) := by
  induction B with
  | nil => intro L h; exact h
  | cons c l ih => intro L h; exact ih (fun x hx => hB x (by simp [hx])) (put_ok h (hB c (by simp)))
theorem putF_len (B : List (List Int)) : ∀ (L : List (List Int)), L.length ≤ (B.foldl putC L).length ∧ (B.foldl putC L).length ≤ L.length + B.length := by
  induction B with
  | nil => intro L; simp
  | cons c l ih => intro L; have h1 := put_len L c; have h2 := ih (putC L c); simp only [List.foldl_cons, List.length_cons]; omega
theorem or_ok {M : Nat} {A B : List (List Int)} (hA : ∀ c ∈ A, cubeOk M c) (hB : ∀ d ∈ B, cubeOk M d) : okL M (orC A B) := by
  refine putF_ok (fun d hd => ?_) (okL_nil M)
  rcases List.mem_append.1 hd with h | h
  · exact hA d h
  · exact hB d h
/-- where none of the first is there twice, they are all there. -/
theorem putF_nodup : ∀ (A L : List (List Int)), (L ++ A).Nodup → A.foldl putC L = L ++ A := by
  intro A
  induction A with
  | nil => intro L _; simp
  | cons c l ih =>
    intro L h
    have hc : ¬ L.contains c = true := by
      intro hc
      rw [List.nodup_append] at h
      exact h.2.2 c (by simpa using hc) c (by simp) rfl
    show l.foldl putC (putC L c) = _
    rw [show putC L c = L ++ [c] by unfold putC; rw [if_neg hc], ih]
    · simp
    · simpa using h
theorem or_eq {A B : List (List Int)} (hA : A.Nodup) : orC A B = B.foldl putC A := by
  unfold orC
  rw [List.foldl_append, putF_nodup A [] (by simpa using hA)]
  simp
theorem turn_ok {M : Nat} {c : List Int} (h : cubeOk M c) : ∀ d ∈ turnC c, cubeOk M d := by
  intro d hd
  obtain ⟨m, hm, rfl⟩ := List.mem_map.1 hd
  exact ⟨fun x hx => by rw [List.mem_singleton.1 hx]; have := h.1 m hm; simpa using this, by simp⟩
theorem cap_some {L K : List (List Int)} (h : capC L = some K) : K = L ∧ L.length ≤ 40 := by
  unfold capC at h
  split at h
  · cases h
  · exact ⟨(Option.some.inj h).symm, by omega⟩
theorem okL_one (M : Nat) : okL M [[]] := ⟨fun c h => by rw [List.mem_singleton.1 h]; exact ⟨fun m hm => (by cases hm), List.Pairwise.nil⟩, by simp⟩
theorem no_ok {M : Nat} (hM : M ≤ 6) : ∀ (L out K : List (List Int)), (∀ c ∈ L, cubeOk M c) → okL M out → out.length ≤ 40 → noC L out = some K → okL M K ∧ K.length ≤ 40 := by
  intro L
  induction L with
  | nil => intro out K _ ho hl h; cases h; exact ⟨ho, hl⟩
  | cons c l ih =>
    intro out K hL ho hl h
    unfold noC at h
    cases he : capC (andC out (turnC c)) with
    | none => rw [he] at h; cases h
    | some x =>
      rw [he] at h
      obtain ⟨rfl, hx⟩ := cap_some he
      exact ih _ K (fun d hd => hL d (by simp [hd])) (and_ok hM ho.1 (turn_ok (hL c (by simp)))) hx h
/-! ### what they say -/
/-- does a member hold, where these atoms do? -/
def litC (held : List Bool) (m : Int) : Bool := held.getD (m.natAbs - 1) false == decide (0 < m)
def allC (held : List Bool) (c : List Int) : Bool := c.all (litC held)
def anyC (held : List Bool) (L : List (List Int)) : Bool := L.any (allC held)
theorem anyC_append (held : List Bool) (L K : List (List Int)) : anyC held (L ++ K) = (anyC held L || anyC held K) := by simp [anyC]
theorem any_put (held : List Bool) (L : List (List Int)) (c : List Int) : anyC held (putC L c) = (anyC held L || allC held c) := by
  unfold putC
  split
  · rename_i h
    have hm : c ∈ L := by simpa using h
    cases hc : allC held c with
    | false => simp
    | true =>
      simp only [Bool.or_true]
      exact List.any_eq_true.2 ⟨c, hm, hc⟩
  · simp [anyC]
theorem lit_neg (held : List Bool) {m : Int} (h : m ≠ 0) : litC held (-m) = !litC held m := by
  unfold litC
  rw [Int.natAbs_neg]
  have : decide (0 < -m) = !decide (0 < m) := by
    by_cases h1 : 0 < m
    · simp [h1]; omega
    · have h2 : 0 < -m := by omega
      simp [h1]; omega
  rw [this]
  cases held.getD (m.natAbs - 1) false <;> cases decide (0 < m) <;> rfl
theorem all_append (held : List Bool) (c d : List Int) : allC held (c ++ d) = (allC held c && allC held d) := by simp [allC]
theorem all_mem (held : List Bool) {c d : List Int} (h : ∀ m, m ∈ c ↔ m ∈ d) : allC held c = allC held d := by
  rw [Bool.eq_iff_iff]
  unfold allC
  rw [List.all_eq_true, List.all_eq_true]
  simp [h]
theorem any_andS (held : List Bool) {M : Nat} (hM : M ≤ 6) (L : List (List Int)) {c d : List Int} (hc : cubeOk M c) (hd : cubeOk M d) : anyC held (andS c L d) = (anyC held L || (allC held c && allC held d)) := by
  have hr : ∀ m ∈ c ++ d, 1 ≤ m.natAbs ∧ m.natAbs ≤ 6 := by
    intro m hm
    rcases List.mem_append.1 hm with h | h
    · have := hc.1 m h; omega
    · have := hd.1 m h; omega
  unfold andS
  split
  · rename_i hb
    obtain ⟨m, h1, h2⟩ := bothWays_iff.1 hb
    have : allC held (c ++ d) = false := by
      rw [← Bool.not_eq_true]
      intro hall
      have a1 := List.all_eq_true.1 hall m h1
      have a2 := List.all_eq_true.1 hall (-m) h2
      rw [lit_neg held (by have := hr m h1; omega), a1] at a2
      cases a2
    rw [← all_append, this]; simp
  · rename_i hb
    rw [any_put, ← all_append, all_mem held (mem_joinC hr (by simpa using hb))]
theorem any_andR (held : List Bool) {M : Nat} (hM : M ≤ 6) {c : List Int} (hc : cubeOk M c) : ∀ (B L : List (List Int)), (∀ d ∈ B, cubeOk M d) → anyC held (andR B L c) = (anyC held L || (allC held c && anyC held B)) := by
  intro B
  induction B with
  | nil => intro L _; simp [andR, anyC]
  | cons d l ih =>
    intro L hB
    have e : andR (d :: l) L c = andR l (andS c L d) c := rfl
    rw [e, ih _ (fun x hx => hB x (by simp [hx])), any_andS held hM L hc (hB d (by simp))]
    have : anyC held (d :: l) = (allC held d || anyC held l) := rfl
    rw [this]
    cases anyC held L <;> cases allC held c <;> cases allC held d <;> cases anyC held l <;> rfl
theorem any_and (held : List Bool) {M : Nat} (hM : M ≤ 6) {A B : List (List Int)} (hA : ∀ c ∈ A, cubeOk M c) (hB : ∀ d ∈ B, cubeOk M d) : anyC held (andC A B) = (anyC held A && anyC held B) := by
  have key : ∀ (A L : List (List Int)), (∀ c ∈ A, cubeOk M c) → anyC held (A.foldl (andR B) L) = (anyC held L || (anyC held A && anyC held B)) := by
    intro A
    induction A with
    | nil => intro L _; simp [anyC]
    | cons c l ih =>
      intro L hA
      show anyC held (l.foldl (andR B) (andR B L c)) = _
      rw [ih _ (fun x hx => hA x (by simp [hx])), any_andR held hM (hA c (by simp)) B L hB]
      have : anyC held (c :: l) = (allC held c || anyC held l) := rfl
      rw [this]
      cases anyC held L <;> cases allC held c <;> cases anyC held B <;> cases anyC held l <;> rfl
  unfold andC
  rw [key A [] hA]
  simp [anyC]
theorem any_putF (held : List Bool) : ∀ (B L : List (List Int)), anyC held (B.foldl putC L) = (anyC held L || anyC held B) := by
  intro B
  induction B with
  | nil => intro L; simp [anyC]
  | cons c l ih =>
    intro L
    show anyC held (l.foldl putC (putC L c)) = _
    rw [ih, any_put]
    have : anyC held (c :: l) = (allC held c || anyC held l) := rfl
    rw [this, Bool.or_assoc]
theorem any_or (held : List Bool) (A B : List (List Int)) : anyC held (orC A B) = (anyC held A || anyC held B) := by
  unfold orC
  rw [any_putF, anyC_append]
  simp [anyC]
theorem any_turn (held : List Bool) {c : List Int} (h : ∀ m ∈ c, m ≠ 0) : anyC held (turnC c) = !allC held c := by
  induction c with
  | nil => rfl
  | cons m l ih =>
    have e1 : anyC held (turnC (m :: l)) = (litC held (-m) || anyC held (turnC l)) := by
      simp [anyC, turnC, allC]
    have e2 : allC held (m :: l) = (litC held m && allC held l) := rfl
    rw [e1, e2, ih (fun x hx => h x (by simp [hx])), lit_neg held (h m (by simp))]
    cases litC held m <;> simp
theorem any_no (held : List Bool) {M : Nat} (hM : M ≤ 6) : ∀ (L out K : List (List Int)), (∀ c ∈ L, cubeOk M c) → (∀ c ∈ out, cubeOk M c) → noC L out = some K → anyC held K = (anyC held out && !anyC held L) := by
  intro L
  induction L with
  | nil => intro out K _ _ h; cases h; simp [anyC]
  | cons c l ih =>
    intro out K hL ho h
    unfold noC at h
    cases he : capC (andC out (turnC c)) with
    | none => rw [he] at h; cases h
    | some x =>
      rw [he] at h
      obtain ⟨rfl, hx⟩ := cap_some he
      have hc := hL c (by simp)
      rw [ih _ K (fun d hd => hL d (by simp [hd])) (and_ok hM ho (turn_ok hc)).1 h, any_and held hM ho (turn_ok hc), any_turn held (fun m hm => by have := hc.1 m hm; omega)]
      have : anyC held (c :: l) = (allC held c || anyC held l) := rfl
      rw [this]
      cases anyC held out <;> cases allC held c <;> cases anyC held l <;> rfl

/-! ### the pile -/
theorem pileC_append (a b : List Int) (p : List (List (List Int))) : pileC (a ++ b) p = (pileC a p).bind (pileC b) := by
  induction a generalizing p with
  | nil => rfl
  | cons s l ih =>
    show (stepC p s).bind (pileC (l ++ b)) = ((stepC p s).bind (pileC l)).bind (pileC b)
    cases stepC p s with
    | none => rfl
    | some q => exact ih q
theorem pileC_succ (t : List Int) (p : List (List (List Int))) {k : Nat} (h : k < t.length) : pileC (t.take (k + 1)) p = (pileC (t.take k) p).bind (fun q => stepC q (t.getD k 0)) := by
  rw [takeF_succ t h, pileC_append]
  congr 1
  funext q
  show (stepC q (t.getD k 0)).bind (pileC []) = _
  cases stepC q (t.getD k 0) <;> rfl
theorem pileC_none (t : List Int) (p : List (List (List Int))) (k : Nat) (h : pileC (t.take k) p = none) : pileC t p = none := by
  have : pileC (t.take k ++ t.drop k) p = none := by rw [pileC_append, h]; rfl
  rwa [List.take_append_drop] at this
/-- what lies on the pile: cubes, not too many, that say what the formulas say. -/
def okP (M : Nat) (p : List (List (List Int))) : Prop := ∀ L ∈ p, okL M L ∧ L.length ≤ 40
theorem cubes_made_ok {M : Nat} (hM : M ≤ 6) {s : Int} (hs : takesF s ≠ 0 ∨ (0 ≤ s ∧ s < M)) {l : List (List (List Int))} (hl : okP M l) {K : List (List Int)} (h : madeC s l = some K) : okL M K ∧ K.length ≤ 40 := by
  have h0 : ∀ i, okL M (l.getD i []) ∧ (l.getD i []).length ≤ 40 := by
    intro i
    rw [List.getD_eq_getElem?_getD]
    cases hi : l[i]? with
    | none => exact ⟨okL_nil M, by simp⟩
    | some x => exact hl x (List.mem_of_getElem? hi)
  unfold madeC at h
  split at h
  · obtain ⟨rfl, hk⟩ := cap_some h
    exact ⟨and_ok hM (h0 0).1.1 (h0 1).1.1, hk⟩
  split at h
  · obtain ⟨rfl, hk⟩ := cap_some h
    exact ⟨or_ok (h0 0).1.1 (h0 1).1.1, hk⟩
  split at h
  · cases he : noC (l.getD 0 []) [[]] with
    | none => rw [he] at h; cases h
    | some x =>
      rw [he] at h
      have hx := no_ok hM _ _ _ (h0 0).1.1 (okL_one M) (by simp) he
      obtain ⟨rfl, hk⟩ := cap_some h
      exact ⟨or_ok hx.1.1 (h0 1).1.1, hk⟩
  split at h
  · exact no_ok hM _ _ _ (h0 0).1.1 (okL_one M) (by simp) h
  · rename_i h1 h2 h3 h4
    have ht : takesF s = 0 := by unfold takesF; rw [if_neg (by omega), if_neg h4]
    have hs' := hs.resolve_left (by simp [ht])
    obtain rfl := Option.some.inj h
    refine ⟨⟨fun c hc => ?_, by simp⟩, by simp⟩
    rw [List.mem_singleton.1 hc]
    refine ⟨fun m hm => ?_, by simp⟩
    rw [List.mem_singleton.1 hm]; omega
theorem made_any (held : List Bool) {M : Nat} (hM : M ≤ 6) {s : Int} (hs : takesF s ≠ 0 ∨ (0 ≤ s ∧ s < M)) {l : List (List (List Int))} (hl : okP M l) {K : List (List Int)} (h : madeC s l = some K) : anyC held K = madeF held s (l.map (anyC held)) := by
  have h0 : ∀ i, ∀ c ∈ l.getD i [], cubeOk M c := by
    intro i
    rw [List.getD_eq_getElem?_getD]
    cases hi : l[i]? with
    | none => intro c hc; cases hc
    | some x => exact (hl x (List.mem_of_getElem? hi)).1.1
  have g : ∀ i, (l.map (anyC held)).getD i false = anyC held (l.getD i []) := by
    intro i
    rw [List.getD_eq_getElem?_getD, List.getD_eq_getElem?_getD, List.getElem?_map]
    cases l[i]? <;> rfl
  unfold madeC at h
  unfold madeF
  rw [g, g]
  split at h
  · rename_i e; subst e
    obtain ⟨rfl, hk⟩ := cap_some h
    rw [if_pos rfl]
    exact any_and held hM (h0 0) (h0 1)
  split at h
  · rename_i e; subst e
    obtain ⟨rfl, hk⟩ := cap_some h
    rw [if_neg (by decide), if_pos rfl]
    exact any_or held _ _
  split at h
  · rename_i e; subst e
    rw [if_neg (by decide), if_neg (by decide), if_pos rfl]
    cases he : noC (l.getD 0 []) [[]] with
    | none => rw [he] at h; cases h
    | some x =>
      rw [he] at h
      obtain ⟨rfl, hk⟩ := cap_some h
      rw [any_or, any_no held hM _ _ _ (h0 0) (okL_one M).1 he]
      simp [anyC, allC]
  split at h
  · rename_i e; subst e
    rw [if_neg (by decide), if_neg (by decide), if_neg (by decide), if_pos rfl]
    rw [any_no held hM _ _ _ (h0 0) (okL_one M).1 h]
    simp [anyC, allC]
  · rename_i h1 h2 h3 h4
    have ht : takesF s = 0 := by unfold takesF; rw [if_neg (by omega), if_neg h4]
    have hs' := hs.resolve_left (by simp [ht])
    obtain rfl := Option.some.inj h
    rw [if_neg h1, if_neg h2, if_neg h3, if_neg h4]
    have e1 : (s + 1).natAbs - 1 = s.toNat := by omega
    have e2 : decide (0 < s + 1) = true := by simp; omega
    simp [anyC, allC, litC, e1, e2]
theorem step_ok (held : List Bool) {M : Nat} (hM : M ≤ 6) {s : Int} (hs : takesF s ≠ 0 ∨ (0 ≤ s ∧ s < M)) {p q : List (List (List Int))} (hp : okP M p) (h : stepC p s = some q) : okP M q ∧ q.map (anyC held) = stepF held (p.map (anyC held)) s := by
  unfold stepC at h
  cases he : madeC s (p.drop (restC p s)) with
  | none => rw [he] at h; cases h
  | some K =>
    rw [he] at h
    obtain rfl := Option.some.inj h
    have hd : okP M (p.drop (restC p s)) := fun L hL => hp L (List.mem_of_mem_drop hL)
    refine ⟨fun L hL => ?_, ?_⟩
    · rcases List.mem_append.1 hL with hL | hL
      · exact hp L (List.mem_of_mem_take hL)
      · rw [List.mem_singleton.1 hL]; exact cubes_made_ok hM hs hd he
    · unfold stepF restF
      rw [List.map_append, List.length_map, ← List.map_take, ← List.map_drop]
      show _ ++ [anyC held K] = _
      rw [made_any held hM hs hd he]; rfl
theorem pile_ok (held : List Bool) {M : Nat} (hM : M ≤ 6) : ∀ (c : List Int) (p q : List (List (List Int))), c.all (signF M) = true → okP M p → pileC c p = some q → okP M q ∧ q.map (anyC held) = pileF held c (p.map (anyC held)) := by
  intro c
  induction c with
  | nil => intro p q _ hp h; cases h; exact ⟨hp, rfl⟩
  | cons s l ih =>
    intro p q hs hp h
    rw [List.all_cons, Bool.and_eq_true] at hs
    unfold pileC at h
    cases he : stepC p s with
    | none => rw [he] at h; cases h
    | some x =>
      rw [he] at h
      obtain ⟨h1, h2⟩ := step_ok held hM (signF_iff.1 hs.1) hp he
      obtain ⟨g1, g2⟩ := ih x q hs.2 h1 h
      refine ⟨g1, ?_⟩
      rw [g2, h2]; rfl
theorem stepC_length {p q : List (List (List Int))} {s : Int} (ht : takesF s ≤ p.length) (h : stepC p s = some q) : (q.length : Int) = p.length + 1 - takesF s := by
  have := takesF_range s
  unfold stepC at h
  cases he : madeC s (p.drop (restC p s)) with
  | none => rw [he] at h; cases h
  | some K =>
    rw [he] at h
    obtain rfl := Option.some.inj h
    simp [restC]
    omega
theorem pileC_length : ∀ (t : List Int) (p q : List (List (List Int))) {n : Int}, cntF t p.length = some n → pileC t p = some q → (q.length : Int) = n := by
  intro t
  induction t with
  | nil => intro p q n h hq; cases hq; simp [cntF] at h; exact h
  | cons s l ih =>
    intro p q n h hq
    unfold cntF at h
    split at h
    · cases h
    · rename_i hs
      unfold pileC at hq
      cases he : stepC p s with
      | none => rw [he] at hq; cases hq
      | some x =>
        rw [he] at hq
        refine ih x q ?_ hq
        rw [stepC_length (by omega) he]; exact h
/-- CUBES SAY WHAT THE FORMULA SAYS. -/
theorem cubes_say (held : List Bool) {ats : List At} {c : List Int} (hf : formFault ats c = 0) {L : List (List Int)} (h : cubesC c = some L) : okL ats.length L ∧ L.length ≤ 40 ∧ anyC held L = valF held c := by
  obtain ⟨⟨_, h6⟩, _, _, hs, hone⟩ := formFault_zero.1 hf
  unfold cubesC at h
  cases he : pileC c [] with
  | none => rw [he] at h; cases h
  | some q =>
    rw [he] at h
    obtain rfl := Option.some.inj h
    obtain ⟨h1, h2⟩ := pile_ok held h6 c [] q hs (fun L hL => by cases hL) he
    have hl := pileC_length c [] q hone he
    match q, hl with
    | [x], _ =>
      have := h1 x (by simp)
      refine ⟨this.1, this.2, ?_⟩
      show anyC held x = valF held c
      unfold valF
      have e : pileF held c [] = [anyC held x] := h2.symm
      rw [e]; rfl
    | [], h => simp at h
    | _ :: _ :: _, h => simp at h; omega
end Go.Proofs.YtedgbohobgnedafDoor

namespace Go.Proofs.YtedgbohobgnedafDoor
open Go.RowKit

def atZ : At := ⟨0, [], [], 0⟩
/-- the row of a member of a cube, and the rows of a cube. -/
def rowOf (ats : List At) (m : Int) : Rw := ⟨rowT (ats.getD (m.natAbs - 1) atZ).k (ats.getD (m.natAbs - 1) atZ).s (ats.getD (m.natAbs - 1) atZ).t (decide (0 < m)), rowM (ats.getD (m.natAbs - 1) atZ).k (ats.getD (m.natAbs - 1) atZ).n (decide (0 < m))⟩
def cubeR (ats : List At) (c : List Int) : List Rw := c.map (rowOf ats)
/-- the least counts of the first of the cubes that some fit. -/
def modelL (ats : List At) (u : Nat) : List (List Int) → Option (Nat → Int)
  | [] => none
  | c :: L => match (everyC u).find? (fitB (cubeR ats c)) with
    | some N => some N
    | none => modelL ats u L
theorem modelL_some {ats : List At} {u : Nat} {L : List (List Int)} {N : Nat → Int} (h : modelL ats u L = some N) : N ∈ everyC u ∧ ∃ c ∈ L, fitB (cubeR ats c) N = true := by
  induction L with
  | nil => simp [modelL] at h
  | cons c L ih =>
    unfold modelL at h
    cases e : (everyC u).find? (fitB (cubeR ats c)) with
    | some M =>
      rw [e] at h
      obtain rfl : M = N := by simpa using h
      exact ⟨List.mem_of_find?_eq_some e, c, List.mem_cons_self, List.find?_some e⟩
    | none =>
      rw [e] at h
      obtain ⟨h1, d, h2, h3⟩ := ih h
      exact ⟨h1, d, List.mem_cons_of_mem _ h2, h3⟩
theorem modelL_none {ats : List At} {u : Nat} {L : List (List Int)} (h : modelL ats u L = none) : ∀ c ∈ L, ∀ N ∈ everyC u, fitB (cubeR ats c) N = false := by
  induction L with
  | nil => intro c hc; cases hc
  | cons c L ih =>
    unfold modelL at h
    cases e : (everyC u).find? (fitB (cubeR ats c)) with
    | some M => rw [e] at h; simp at h
    | none =>
      rw [e] at h
      intro d hd N hN
      rcases List.mem_cons.1 hd with rfl | hd
      · simpa using List.find?_eq_none.1 e N hN
      · exact ih h d hd N hN
/-- an atom of the formula, by a member of a cube. -/
theorem at_of {ats : List At} {m : Int} (h1 : 1 ≤ m.natAbs) (h2 : m.natAbs ≤ ats.length) : ats.getD (m.natAbs - 1) atZ ∈ ats := by
  rw [List.getD_eq_getElem?_getD, List.getElem?_eq_getElem (by omega)]
  exact List.getElem_mem _
theorem held_of {w : Wd} {ats : List At} {m : Int} (h1 : 1 ≤ m.natAbs) (h2 : m.natAbs ≤ ats.length) : (w.heldL ats).getD (m.natAbs - 1) false = w.holds (ats.getD (m.natAbs - 1) atZ).k (ats.getD (m.natAbs - 1) atZ).s (ats.getD (m.natAbs - 1) atZ).t (ats.getD (m.natAbs - 1) atZ).n := by
  unfold Wd.heldL
  rw [List.getD_eq_getElem?_getD, List.getD_eq_getElem?_getD, List.getElem?_map, List.getElem?_eq_getElem (show m.natAbs - 1 < ats.length by omega)]
  rfl
/-- a cube's rows are so at a world's counts just if the cube holds in it. -/
theorem cube_says {w : Wd} (hw : w.ok = true) {ats : List At} (ha : ∀ a ∈ ats, a.fault = 0) {c : List Int} (hc : cubeOk ats.length c) : fitB (cubeR ats c) (w.fc w.u.toNat) = allC (w.heldL ats) c := by
  unfold fitB cubeR allC
  rw [List.all_map]
  have key : ∀ m ∈ c, ((fun r : Rw => r.so (w.fc w.u.toNat)) ∘ rowOf ats) m = litC (w.heldL ats) m := fun m hm => by
    obtain ⟨h1, h2⟩ := hc.1 m hm
    have hf : atomFault (ats.getD (m.natAbs - 1) atZ).k (ats.getD (m.natAbs - 1) atZ).s (ats.getD (m.natAbs - 1) atZ).t (ats.getD (m.natAbs - 1) atZ).n = 0 := ha _ (at_of h1 h2)
    show (rowOf ats m).so (w.fc w.u.toNat) = _
    unfold rowOf litC
    rw [rows_say hw hf, held_of h1 h2]
    by_cases hp : 0 < m
    · rw [decide_eq_true hp, if_pos rfl]
      cases w.holds (ats.getD (m.natAbs - 1) atZ).k (ats.getD (m.natAbs - 1) atZ).s (ats.getD (m.natAbs - 1) atZ).t (ats.getD (m.natAbs - 1) atZ).n <;> rfl
    · rw [decide_eq_false hp, if_neg (by decide)]
      cases w.holds (ats.getD (m.natAbs - 1) atZ).k (ats.getD (m.natAbs - 1) atZ).s (ats.getD (m.natAbs - 1) atZ).t (ats.getD (m.natAbs - 1) atZ).n <;> rfl
  induction c with
  | nil => rfl
  | cons m c ih =>
    rw [List.all_cons, List.all_cons, key m List.mem_cons_self, ih ⟨fun x hx => hc.1 x (List.mem_cons_of_mem _ hx), (List.pairwise_cons.1 hc.2).2⟩ fun x hx => key x (List.mem_cons_of_mem _ hx)]
/-- in a model it holds. -/
theorem model_holds {ats : List At} {c : List Int} (hf : formFault ats c = 0) {L : List (List Int)} (hL : cubesC c = some L) {u : Nat} (hu : u ≤ 6) {N : Nat → Int} (h : modelL ats u L = some N) :
    countsFault N = 0 ∧ (madeN N 8).ok = true ∧ (madeN N 8).u = u ∧ (madeN N 8).formIs ats c = true := by
  obtain ⟨h1, d, h2, h3⟩ := modelL_some h
  have hc := everyC_right hu h1
  have hok := made_ok hc
  have hsum := (everyC_sum h1).2
  have hmu := made_u hc
  obtain ⟨g1, _, g3⟩ := cubes_say ((madeN N 8).heldL ats) hf hL
  have ha := (formFault_zero.1 hf).2.2.1
  have hd := cube_says hok ha (g1.1 d h2)
  rw [fitB_same (M := N) fun g hg => made_fc hc hg, h3] at hd
  refine ⟨hc, hok, by rw [hmu, hsum], ?_⟩
  unfold Wd.formIs
  rw [if_pos (wdForm_zero.2 ⟨hf, hok⟩), ← g3]
  unfold anyC
  rw [List.any_eq_true]
  exact ⟨d, h2, hd.symm⟩
/-- where there is none it never holds. -/
theorem model_never {ats : List At} {c : List Int} (hf : formFault ats c = 0) {L : List (List Int)} (hL : cubesC c = some L) {u : Nat} (h : modelL ats u L = none) {w : Wd} (hw : w.ok = true) (hwu : w.u = u) : w.formIs ats c = false := by
  obtain ⟨g1, _, g3⟩ := cubes_say (w.heldL ats) hf hL
  have ha := (formFault_zero.1 hf).2.2.1
  unfold Wd.formIs
  rw [if_pos (wdForm_zero.2 ⟨hf, hw⟩), ← g3]
  unfold anyC
  rw [List.any_eq_false]
  intro d hd
  have hs := cube_says hw ha (g1.1 d hd)
  have hcf := counts_fc hw
  have hsum : sumN (w.fc w.u.toNat) 8 = u := by rw [sum_fc, hwu]; rfl
  obtain ⟨A, hA, hAw⟩ := everyC_all (u := u) (fun g hg => ((counts_zero.1 hcf).1 g hg).1) hsum
  have := modelL_none h d hd A hA
  rw [fitB_same hAw, hs] at this
  rw [this]
  decide

/-- the rows of a cube of right atoms are right. -/
theorem cube_rows {ats : List At} (ha : ∀ a ∈ ats, a.fault = 0) (h6 : ats.length ≤ 6) {d : List Int} (hd : cubeOk ats.length d) : rowsFault (cubeR ats d) = 0 := by
  unfold rowsFault
  have hl : (cubeR ats d).length ≤ 6 := by unfold cubeR; rw [List.length_map]; have := cube_len hd; omega
  rw [if_neg (by omega)]
  have hw : (cubeR ats d).any Rw.wrong = false := by
    rw [List.any_eq_false]
    intro r hr
    unfold cubeR at hr
    obtain ⟨m, hm, rfl⟩ := List.mem_map.1 hr
    obtain ⟨h1, h2⟩ := hd.1 m hm
    have hf : atomFault (ats.getD (m.natAbs - 1) atZ).k (ats.getD (m.natAbs - 1) atZ).s (ats.getD (m.natAbs - 1) atZ).t (ats.getD (m.natAbs - 1) atZ).n = 0 := ha _ (at_of h1 h2)
    have := row_right hf (decide (0 < m))
    unfold rowOf
    rw [this]
    decide
  rw [hw]
  rfl
/-- what is told: of a model, of one of the opposite, and whether it is sure. -/
def modelFault (ats : List At) (c : List Int) (u : Int) : Int :=
  if formFault ats c = 0 then (match cubesC c with
    | none => 4
    | some L => if 0 ≤ u ∧ u ≤ 6 then (if (modelL ats u.toNat L).isSome = true then 0 else 5) else 1) else formFault ats c
def modelN (ats : List At) (c : List Int) (u : Int) : Nat → Int := (modelL ats u.toNat ((cubesC c).getD [])).getD zeroC
def modelW (ats : List At) (c : List Int) (u : Int) : Wd := if modelFault ats c u = 0 then madeN (modelN ats c u) 8 else ⟨0, 0, 0, 0⟩
end Go.Proofs.YtedgbohobgnedafDoor

namespace Go.Proofs.YtedgbohobgnedafDoor
open Go.RowKit

def againstFault (ats : List At) (c : List Int) (u : Int) : Int := if negFault ats c = 0 then modelFault ats (c ++ [12]) u else negFault ats c
def againstW (ats : List At) (c : List Int) (u : Int) : Wd := if negFault ats c = 0 then modelW ats (c ++ [12]) u else ⟨0, 0, 0, 0⟩
def sureB (ats : List At) (c : List Int) (u : Int) : Bool := decide (againstFault ats c u = 5 ∧ formFault ats c = 0)
def sureFault (ats : List At) (c : List Int) (u : Int) : Int := if sureB ats c u = true then 0 else againstFault ats c u
theorem neg_good {ats : List At} {c : List Int} (h : negFault ats c = 0) : formFault ats c = 0 ∧ c.length ≤ 19 ∧ formFault ats (c ++ [12]) = 0 := by
  unfold negFault at h
  by_cases hf : formFault ats c = 0
  · rw [if_pos hf] at h
    by_cases h19 : 19 < c.length
    · rw [if_pos h19] at h; exact absurd h (by decide)
    · exact ⟨hf, by omega, good_no hf (by omega)⟩
  · rw [if_neg hf] at h; exact absurd h hf
theorem neg_five {ats : List At} {c : List Int} (h : negFault ats c = 5) : formFault ats c = 5 := by
  unfold negFault at h
  by_cases hf : formFault ats c = 0
  · rw [if_pos hf] at h
    by_cases h19 : 19 < c.length
    · rw [if_pos h19] at h; exact absurd h (by decide)
    · rw [if_neg h19] at h; exact absurd h (by decide)
  · rw [if_neg hf] at h; exact h
/-- the formula that a name has at least n things. -/
def manyA (name n : Int) : List At := [⟨3, [name], [], n⟩]
/-- what a world has of a name. -/
def Wd.has (w : Wd) : Nat → Int
  | 0 => w.a
  | 1 => w.b
  | _ => w.c
theorem many_facts : ∀ name : Nat, name < 3 → ∀ n : Nat, n < 6 → modelFault (manyA (name : Int) ((n : Int) + 1)) [0] ((n : Int) + 1) = 0 ∧ (modelW (manyA (name : Int) ((n : Int) + 1)) [0] ((n : Int) + 1)).has name + 1 = pw (n + 1) ∧ modelFault (manyA (name : Int) ((n : Int) + 1)) [0] (n : Int) = 5 ∧ sureB (manyA (name : Int) ((n : Int) + 1)) [0] (n : Int) = false ∧ sureFault (manyA (name : Int) ((n : Int) + 1)) [0] (n : Int) = 0 := by decide +kernel
theorem model_zero {ats : List At} {c : List Int} {u : Int} (h : modelFault ats c u = 0) : formFault ats c = 0 ∧ (modelW ats c u).ok = true ∧ (modelW ats c u).u = u ∧ (modelW ats c u).formIs ats c = true := by
  have h0 := h
  unfold modelFault at h
  by_cases hf : formFault ats c = 0
  · rw [if_pos hf] at h
    cases hL : cubesC c with
    | none => rw [hL] at h; have h : (4 : Int) = 0 := h; omega
    | some L =>
      rw [hL] at h
      have h : (if 0 ≤ u ∧ u ≤ 6 then (if (modelL ats u.toNat L).isSome = true then (0 : Int) else 5) else 1) = 0 := h
      by_cases hu : 0 ≤ u ∧ u ≤ 6
      · rw [if_pos hu] at h
        cases hm : modelL ats u.toNat L with
        | none => rw [hm] at h; have h : (5 : Int) = 0 := h; omega
        | some N =>
          have e : modelW ats c u = madeN N 8 := by
            unfold modelW modelN
            rw [if_pos h0, hL]
            show madeN ((modelL ats u.toNat L).getD zeroC) 8 = _
            rw [hm]; rfl
          obtain ⟨_, g2, g3, g4⟩ := model_holds hf hL (by omega) hm
          rw [e]
          exact ⟨hf, g2, by rw [g3]; omega, g4⟩
      · rw [if_neg hu] at h; exact absurd h (by decide)
  · rw [if_neg hf] at h; exact absurd h hf
theorem model_five {ats : List At} {c : List Int} {u : Int} (h : modelFault ats c u = 5) (hf : formFault ats c = 0) {w : Wd} (hw : w.ok = true) (hwu : w.u = u) : w.formIs ats c = false := by
  unfold modelFault at h
  rw [if_pos hf] at h
  cases hL : cubesC c with
  | none => rw [hL] at h; have h : (4 : Int) = 5 := h; omega
  | some L =>
    rw [hL] at h
    have h : (if 0 ≤ u ∧ u ≤ 6 then (if (modelL ats u.toNat L).isSome = true then (0 : Int) else 5) else 1) = 5 := h
    by_cases hu : 0 ≤ u ∧ u ≤ 6
    · rw [if_pos hu] at h
      cases hm : modelL ats u.toNat L with
      | none => exact model_never hf hL hm hw (by rw [hwu]; omega)
      | some N => rw [hm] at h; have h : (0 : Int) = 5 := h; omega
    · rw [if_neg hu] at h; exact absurd h (by decide)
theorem formIs_no {ats : List At} {c : List Int} (hf : formFault ats c = 0) (h19 : c.length ≤ 19) {w : Wd} (hw : w.ok = true) : w.formIs ats (c ++ [12]) = !w.formIs ats c := by
  unfold Wd.formIs
  rw [if_pos (wdForm_zero.2 ⟨hf, hw⟩), if_pos (wdForm_zero.2 ⟨good_no hf h19, hw⟩)]
  exact val_no _ (formFault_zero.1 hf).2.2.2.2
theorem one_facts : modelFault (manyA 0 2) [0] 2 = 0 ∧ modelW (manyA 0 2) [0] 2 = ⟨2, 3, 3, 3⟩ ∧ modelFault (manyA 0 2) [0] 1 = 5 ∧ modelW (manyA 0 2) [0] 1 = ⟨0, 0, 0, 0⟩ := by
  have h : modelFault (manyA 0 2) [0] 2 = 0 ∧ ((modelW (manyA 0 2) [0] 2).u = 2 ∧ (modelW (manyA 0 2) [0] 2).a = 3 ∧ (modelW (manyA 0 2) [0] 2).b = 3 ∧ (modelW (manyA 0 2) [0] 2).c = 3) ∧ modelFault (manyA 0 2) [0] 1 = 5 := by decide +kernel
  obtain ⟨h1, ⟨h2, h3, h4, h5⟩, h6⟩ := h
  refine ⟨h1, ?_, h6, by unfold modelW; rw [if_neg (by rw [h6]; decide)]⟩
  cases e : modelW (manyA 0 2) [0] 2 with
  | mk u a b c => rw [e] at h2 h3 h4 h5; simp only at h2 h3 h4 h5; rw [h2, h3, h4, h5]
end Go.Proofs.YtedgbohobgnedafDoor

namespace Go.Proofs.YtedgbohobgnedafDoor
open Go.RowKit

def facN : Nat → Int
  | 0 => 1
  | n + 1 => ((n : Int) + 1) * facN n
/-- parted by 2, by 3, and on, up to n. -/
def downN (w : Int) : Nat → Int
  | 0 => w
  | 1 => w
  | k + 2 => (downN w (k + 1)).tdiv ((k : Int) + 2)
def likeTo (N : Nat → Int) : Nat → Int
  | 0 => facN (sumN N 8).toNat
  | i + 1 => downN (likeTo N i) (N i).toNat
/-- how many worlds have so many things in each field. -/
def likeN (N : Nat → Int) : Int := likeTo N 8
def eightN : Nat → Int
  | 0 => 1
  | n + 1 => eightN n * 8
/-- the worlds of those counts that are so. -/
def sumL (p : (Nat → Int) → Bool) : List (Nat → Int) → Int
  | [] => 0
  | N :: A => (if p N = true then likeN N else 0) + sumL p A

theorem downN_range {w : Int} (h : 0 ≤ w) (k : Nat) : 0 ≤ downN w k ∧ downN w k ≤ w := by
  induction k with
  | zero => exact ⟨h, Int.le_refl _⟩
  | succ k ih =>
    cases k with
    | zero => exact ⟨h, Int.le_refl _⟩
    | succ k =>
      show 0 ≤ (downN w (k + 1)).tdiv ((k : Int) + 2) ∧ (downN w (k + 1)).tdiv ((k : Int) + 2) ≤ w
      exact ⟨Int.tdiv_nonneg ih.1 (by omega), Int.le_trans (Int.tdiv_le_self _ ih.1) ih.2⟩
theorem downN_step (w : Int) (k : Nat) : downN w (k + 2) = (downN w (k + 1)).tdiv ((k : Int) + 2) := rfl
theorem facN_range : ∀ n, n ≤ 6 → 1 ≤ facN n ∧ facN n ≤ 720 := by decide
theorem likeTo_range {N : Nat → Int} (h : countsFault N = 0) (i : Nat) : 0 ≤ likeTo N i ∧ likeTo N i ≤ 720 := by
  induction i with
  | zero =>
    have := facN_range (sumN N 8).toNat (by have := (counts_zero.1 h).2; omega)
    exact ⟨by show 0 ≤ facN _; omega, this.2⟩
  | succ i ih =>
    have := downN_range ih.1 (N i).toNat
    exact ⟨this.1, Int.le_trans this.2 ih.2⟩
theorem likeTo_same {N M : Nat → Int} (h : ∀ g, g < 8 → N g = M g) : ∀ i, i ≤ 8 → likeTo N i = likeTo M i := by
  intro i
  induction i with
  | zero =>
    intro _
    have e : ∀ k, k ≤ 8 → sumN N k = sumN M k := by
      intro k
      induction k with
      | zero => intro _; rfl
      | succ k ih => intro hk; unfold sumN; rw [ih (by omega), h k (by omega)]
    show facN _ = facN _
    rw [e 8 (by omega)]
  | succ i ih =>
    intro hi
    show downN _ _ = downN _ _
    rw [ih (by omega), h i (by omega)]
theorem likeN_same {N M : Nat → Int} (h : ∀ g, g < 8 → N g = M g) : likeN N = likeN M := likeTo_same h 8 (by omega)
theorem like_facts : ∀ u, u ≤ 6 → ((everyC u).all fun N => decide (1 ≤ likeN N)) = true ∧ sumL (fun _ => true) (everyC u) = eightN u := by decide +kernel
theorem like_pos {u : Nat} (hu : u ≤ 6) {N : Nat → Int} (h : N ∈ everyC u) : 1 ≤ likeN N := of_decide_eq_true (List.all_eq_true.1 (like_facts u hu).1 N h)
theorem eight_le : ∀ u, u ≤ 6 → eightN u ≤ 262144 := by decide
theorem sumL_take {p : (Nat → Int) → Bool} : ∀ {A : List (Nat → Int)} {k : Nat} {N : Nat → Int}, A[k]? = some N → sumL p (A.take (k + 1)) = sumL p (A.take k) + if p N = true then likeN N else 0 := by
  intro A
  induction A with
  | nil => intro k N h; simp at h
  | cons M A ih =>
    intro k N h
    cases k with
    | zero =>
      obtain rfl : M = N := by simpa using h
      simp [sumL]
    | succ k =>
      have := ih (k := k) (N := N) (by simpa using h)
      simp only [List.take_succ_cons, sumL]
      rw [this]
      omega
theorem eight_pos (u : Nat) : 1 ≤ eightN u := by
  induction u with
  | zero => exact Int.le_refl _
  | succ u ih => show 1 ≤ eightN u * 8; omega
theorem sumL_part {A : List (Nat → Int)} (hp : ∀ N ∈ A, 0 ≤ likeN N) {p : (Nat → Int) → Bool} : ∀ k, sumL p (A.take k) ≤ sumL p A := by
  induction A with
  | nil => intro k; simp
  | cons M A ih =>
    intro k
    have h1 := hp M List.mem_cons_self
    have h2 := ih fun N hN => hp N (List.mem_cons_of_mem _ hN)
    cases k with
    | zero =>
      have h3 := h2 0
      simp only [List.take_zero, sumL] at h3 ⊢
      by_cases h : p M = true
      · rw [if_pos h]; omega
      · rw [if_neg h]; omega
    | succ k =>
      have := h2 k
      simp only [List.take_succ_cons, sumL]
      omega
theorem sumL_range {A : List (Nat → Int)} (hp : ∀ N ∈ A, 1 ≤ likeN N) (p : (Nat → Int) → Bool) : 0 ≤ sumL p A ∧ sumL p A ≤ sumL (fun _ => true) A := by
  induction A with
  | nil => exact ⟨Int.le_refl _, Int.le_refl _⟩
  | cons N A ih =>
    have h1 := hp N List.mem_cons_self
    have h2 := ih fun M hM => hp M (List.mem_cons_of_mem _ hM)
    simp only [sumL, if_true]
    by_cases h : p N = true
    · rw [if_pos h]; omega
    · rw [if_neg h]; omega
theorem sumL_not {A : List (Nat → Int)} {p q : (Nat → Int) → Bool} (h : ∀ N ∈ A, q N = !p N) : sumL p A + sumL q A = sumL (fun _ => true) A := by
  induction A with
  | nil => rfl
  | cons N A ih =>
    have h1 := h N List.mem_cons_self
    have h2 := ih fun M hM => h M (List.mem_cons_of_mem _ hM)
    simp only [sumL, if_true]
    rw [h1]
    cases p N <;> simp <;> omega
theorem sumL_has {A : List (Nat → Int)} (hp : ∀ N ∈ A, 1 ≤ likeN N) {p : (Nat → Int) → Bool} {N : Nat → Int} (hN : N ∈ A) (h : p N = true) : likeN N ≤ sumL p A := by
  induction A with
  | nil => cases hN
  | cons M A ih =>
    have h1 := hp M List.mem_cons_self
    have h2 := sumL_range (fun M hM => hp M (List.mem_cons_of_mem _ hM)) p
    simp only [sumL]
    rcases List.mem_cons.1 hN with rfl | hN
    · rw [if_pos h]; omega
    · have := ih (fun M hM => hp M (List.mem_cons_of_mem _ hM)) hN
      by_cases hm : p M = true
      · rw [if_pos hm]; omega
      · rw [if_neg hm]; omega
theorem sumL_none {A : List (Nat → Int)} {p : (Nat → Int) → Bool} (h : ∀ N ∈ A, p N = false) : sumL p A = 0 := by
  induction A with
  | nil => rfl
  | cons M A ih =>
    simp only [sumL]
    rw [h M List.mem_cons_self, if_neg (by decide), ih fun N hN => h N (List.mem_cons_of_mem _ hN)]
    rfl

theorem made_same {N M : Nat → Int} (h : ∀ g, g < 8 → N g = M g) : madeN N 8 = madeN M 8 := by
  have e : ∀ k, k ≤ 8 → madeN N k = madeN M k := by
    intro k
    induction k with
    | zero => intro _; rfl
    | succ k ih => intro hk; unfold madeN; rw [ih (by omega), h k (by omega)]
  exact e 8 (by omega)

def allFault (u : Int) : Int := if 0 ≤ u ∧ u ≤ 6 then 0 else 1
def allW (u : Int) : Int := if 0 ≤ u ∧ u ≤ 6 then eightN u.toNat else 0
def likeW (w : Wd) : Int := if w.ok = true then likeN (w.fc w.u.toNat) else 0
def worldsFault (ats : List At) (c : List Int) (u : Int) : Int := if formFault ats c = 0 then allFault u else formFault ats c
def worldsN (ats : List At) (c : List Int) (u : Int) : Int := if worldsFault ats c u = 0 then sumL (fun N => (madeN N 8).formIs ats c) (everyC u.toNat) else 0
theorem worlds_zero {ats : List At} {c : List Int} {u : Int} (h : worldsFault ats c u = 0) : formFault ats c = 0 ∧ (0 ≤ u ∧ u ≤ 6) := by
  unfold worldsFault at h
  by_cases hf : formFault ats c = 0
  · rw [if_pos hf] at h
    unfold allFault at h
    by_cases hu : 0 ≤ u ∧ u ≤ 6
    · exact ⟨hf, hu⟩
    · rw [if_neg hu] at h; exact absurd h (by decide)
  · rw [if_neg hf] at h; exact absurd h hf
theorem worlds_range {ats : List At} {c : List Int} {u : Int} (h : worldsFault ats c u = 0) : 0 ≤ worldsN ats c u ∧ worldsN ats c u ≤ allW u := by
  obtain ⟨_, hu⟩ := worlds_zero h
  have hn : u.toNat ≤ 6 := by omega
  unfold worldsN allW
  rw [if_pos h, if_pos hu, ← (like_facts _ hn).2]
  exact sumL_range (fun N hN => like_pos hn hN) _
/-- where it holds and where it does not is all. -/
theorem worlds_not {ats : List At} {c : List Int} {u : Int} (h : worldsFault ats c u = 0) (hn : negFault ats c = 0) : worldsFault ats (c ++ [12]) u = 0 ∧ worldsN ats c u + worldsN ats (c ++ [12]) u = allW u := by
  obtain ⟨hf, hu⟩ := worlds_zero h
  obtain ⟨_, h19, hf'⟩ := neg_good hn
  have hn6 : u.toNat ≤ 6 := by omega
  have h' : worldsFault ats (c ++ [12]) u = 0 := by unfold worldsFault allFault; rw [if_pos hf', if_pos hu]
  refine ⟨h', ?_⟩
  unfold worldsN allW
  rw [if_pos h, if_pos h', if_pos hu, ← (like_facts _ hn6).2]
  refine sumL_not fun N hN => ?_
  exact formIs_no hf h19 (made_ok (everyC_right hn6 hN))
/-- the counts of a world are among all. -/
theorem world_counts {w : Wd} (hw : w.ok = true) {u : Int} (hu : w.u = u) : ∃ A ∈ everyC u.toNat, (∀ g, g < 8 → A g = w.fc w.u.toNat g) ∧ ∀ ats c, (madeN A 8).formIs ats c = w.formIs ats c := by
  have hcf := counts_fc hw
  have hsum : sumN (w.fc w.u.toNat) 8 = ((u.toNat : Nat) : Int) := by rw [sum_fc, hu]
  obtain ⟨A, hA, hAw⟩ := everyC_all (u := u.toNat) (fun g hg => ((counts_zero.1 hcf).1 g hg).1) hsum
  refine ⟨A, hA, hAw, fun ats c => ?_⟩
  have e := made_same (N := A) (M := w.fc w.u.toNat) hAw
  rw [e]
  exact (alike_made hw).form ats c
theorem worlds_some {ats : List At} {c : List Int} {u : Int} (h : worldsFault ats c u = 0) {w : Wd} (hw : w.ok = true) (hu : w.u = u) (hh : w.formIs ats c = true) : likeW w ≤ worldsN ats c u := by
  obtain ⟨_, hu6⟩ := worlds_zero h
  obtain ⟨A, hA, hAw, hAf⟩ := world_counts hw hu
  unfold likeW worldsN
  rw [if_pos hw, if_pos h, ← likeN_same hAw]
  exact sumL_has (fun N hN => like_pos (by omega) hN) hA (by rw [hAf]; exact hh)
theorem worlds_rest {ats : List At} {c : List Int} {u : Int} (h : worldsFault ats c u = 0) {w : Wd} (hw : w.ok = true) (hu : w.u = u) (hh : w.formIs ats c = false) : likeW w ≤ allW u - worldsN ats c u := by
  obtain ⟨_, hu6⟩ := worlds_zero h
  have hn6 : u.toNat ≤ 6 := by omega
  obtain ⟨A, hA, hAw, hAf⟩ := world_counts hw hu
  have hs := sumL_not (A := everyC u.toNat) (p := fun N => (madeN N 8).formIs ats c) (q := fun N => !(madeN N 8).formIs ats c) fun _ _ => rfl
  have hq := sumL_has (A := everyC u.toNat) (fun N hN => like_pos hn6 hN) (p := fun N => !(madeN N 8).formIs ats c) hA (by simp only [hAf, hh]; rfl)
  unfold likeW worldsN allW
  rw [if_pos hw, if_pos h, if_pos hu6, ← likeN_same hAw, ← (like_facts _ hn6).2]
  omega
theorem like_range {w : Wd} (hw : w.ok = true) {u : Int} (hu : w.u = u) (hu6 : 0 ≤ u ∧ u ≤ 6) : 1 ≤ likeW w ∧ likeW w ≤ allW u := by
  have hn6 : u.toNat ≤ 6 := by omega
  obtain ⟨A, hA, hAw, _⟩ := world_counts hw hu
  unfold likeW allW
  rw [if_pos hw, if_pos hu6, ← likeN_same hAw, ← (like_facts _ hn6).2]
  exact ⟨like_pos hn6 hA, sumL_has (fun N hN => like_pos hn6 hN) hA rfl⟩
/-- there is one just if there is a model. -/
theorem worlds_model {ats : List At} {c : List Int} {u : Int} (h : worldsFault ats c u = 0) : (modelFault ats c u = 0 → ¬ worldsN ats c u = 0) ∧ (modelFault ats c u = 5 → worldsN ats c u = 0) := by
  obtain ⟨hf, hu6⟩ := worlds_zero h
  refine ⟨fun hm => ?_, fun hm => ?_⟩
  · obtain ⟨_, g2, g3, g4⟩ := model_zero hm
    have h1 := worlds_some h g2 g3 g4
    have h2 := (like_range g2 g3 hu6).1
    omega
  · unfold worldsN
    rw [if_pos h]
    refine sumL_none fun N hN => ?_
    have hc := everyC_right (by omega) hN
    exact model_five hm hf (made_ok hc) (by rw [made_u hc, (everyC_sum hN).2]; omega)
end Go.Proofs.YtedgbohobgnedafDoor

namespace Go.Proofs.YtedgbohobgnedafDoor
open Go.RowKit

/-- k more things lie in a field, behind p things. -/
def fillN (m p : Int) : Nat → Int
  | 0 => m
  | k + 1 => (fillN m p k * (p + k + 1)).tdiv ((k : Int) + 1)
def layTo (N : Nat → Int) : Nat → Int
  | 0 => 1
  | i + 1 => fillN (layTo N i) (sumN N i) (N i).toNat
theorem lay_facts : ∀ u, u ≤ 6 → ((everyC u).all fun N => decide (layTo N 8 = likeN N) && (List.range 8).all fun i => (List.range 7).all fun k => decide (N i < (k : Int)) || decide (0 ≤ fillN (layTo N i) (sumN N i) k ∧ fillN (layTo N i) (sumN N i) k ≤ 720)) = true := by decide +kernel
theorem sum_same {N M : Nat → Int} (h : ∀ g, g < 8 → N g = M g) : ∀ k, k ≤ 8 → sumN N k = sumN M k := by
  intro k
  induction k with
  | zero => intro _; rfl
  | succ k ih => intro hk; unfold sumN; rw [ih (by omega), h k (by omega)]
theorem lay_same {N M : Nat → Int} (h : ∀ g, g < 8 → N g = M g) : ∀ k, k ≤ 8 → layTo N k = layTo M k := by
  intro k
  induction k with
  | zero => intro _; rfl
  | succ k ih => intro hk; unfold layTo; rw [ih (by omega), h k (by omega), sum_same h k (by omega)]
theorem sum_up {N : Nat → Int} (h : ∀ g, g < 8 → 0 ≤ N g) : ∀ k, k ≤ 8 → 0 ≤ sumN N k := by
  intro k
  induction k with
  | zero => intro _; exact Int.le_refl _
  | succ k ih => intro hk; have := ih (by omega); have := h k (by omega); show 0 ≤ sumN N k + N k; omega
theorem sum_more {N : Nat → Int} (h : ∀ g, g < 8 → 0 ≤ N g) : ∀ d k, k + d = 8 → sumN N k ≤ sumN N 8 := by
  intro d
  induction d with
  | zero => intro k hk; obtain rfl : k = 8 := by omega
            exact Int.le_refl _
  | succ d ih =>
    intro k hk
    have h1 := ih (k + 1) (by omega)
    have h2 := h k (by omega)
    have e : sumN N (k + 1) = sumN N k + N k := rfl
    omega
theorem lay_right {N : Nat → Int} (h : countsFault N = 0) : layTo N 8 = likeN N ∧ ∀ i, i < 8 → 0 ≤ sumN N i ∧ sumN N i + N i ≤ 6 ∧ ∀ k : Nat, (k : Int) ≤ N i → 0 ≤ fillN (layTo N i) (sumN N i) k ∧ fillN (layTo N i) (sumN N i) k ≤ 720 := by
  obtain ⟨h1, h2⟩ := counts_zero.1 h
  have hp : ∀ g, g < 8 → 0 ≤ N g := fun g hg => (h1 g hg).1
  have h0 := sum_up hp 8 (by omega)
  have hs : sumN N 8 = (((sumN N 8).toNat : Nat) : Int) := by omega
  obtain ⟨A, hA, hAN⟩ := everyC_all (u := (sumN N 8).toNat) hp hs
  have hf := List.all_eq_true.1 (lay_facts (sumN N 8).toNat (by omega)) A hA
  rw [Bool.and_eq_true] at hf
  refine ⟨?_, fun i hi => ⟨sum_up hp i (by omega), ?_, fun k hk => ?_⟩⟩
  · rw [← lay_same hAN 8 (by omega), ← likeN_same hAN]; exact of_decide_eq_true hf.1
  · have := sum_more hp (8 - (i + 1)) (i + 1) (by omega)
    have e : sumN N (i + 1) = sumN N i + N i := rfl
    omega
  · have h3 := h1 i hi
    have := sum_more hp (8 - (i + 1)) (i + 1) (by omega)
    have e : sumN N (i + 1) = sumN N i + N i := rfl
    have := sum_up hp i (by omega)
    have hq := List.all_eq_true.1 (List.all_eq_true.1 hf.2 i (List.mem_range.2 hi)) k (List.mem_range.2 (by omega))
    rw [Bool.or_eq_true] at hq
    rw [← lay_same hAN i (by omega), ← sum_same hAN i (by omega)]
    rcases hq with hq | hq
    · have := of_decide_eq_true hq
      rw [hAN i hi] at this
      omega
    · exact of_decide_eq_true hq
theorem lay_step (N : Nat → Int) (i : Nat) : layTo N (i + 1) = fillN (layTo N i) (sumN N i) (N i).toNat := rfl
theorem fill_step (m p : Int) (k : Nat) : fillN m p (k + 1) = (fillN m p k * (p + k + 1)).tdiv ((k : Int) + 1) := rfl
end Go.Proofs.YtedgbohobgnedafDoor

namespace Go.Proofs.YtedgbohobgnedafDoor
open Go.ChangeShapes Go.WideShapes Go.ChangeAt Go.RowKit

theorem ret_int {k : IntKind} {a b : Int} (h : a = b) : Ending.returned (.int k a) = .returned (.int k b) := by rw [h]

theorem all_any (u : Int) (h0 : 0 ≤ u) (h1 : u ≤ 6) (w : World) :
    Calls Tryd.prog 47 #[.int .i64 u] w fun e w' => e = .returned (.int .i64 (allN u)) ∧ w = w' := by
  rcases seven h0 h1 with rfl | rfl | rfl | rfl | rfl | rfl | rfl
  all_goals
    go_enter Tryd.func47, Tryd.ntmps47
    go_wp2
    go_ret
    exact ⟨rfl, rfl⟩

theorem check_ok (u s : Int) (h : okB u s = true) (w : World) :
    Calls Tryd.prog 30 #[.int .i64 u, .int .i64 s] w fun e w' => e = .returned .nilIface ∧ w = w' := by
  obtain ⟨h0, h1, h2, h3⟩ := okB_iff.1 h
  clear h
  go_enter Tryd.func30, Tryd.ntmps30
  go_wp2_with (go_at_call 47; refine (all_any _ h0 h1 _).mono ?_; rintro e w' ⟨rfl, rfl⟩)
  go_ret
  exact ⟨rfl, rfl⟩

theorem check_no (u s : Int) (h : okB u s = false) (w : World) :
    Calls Tryd.prog 30 #[.int .i64 u, .int .i64 s] w fun e w' => e = .returned (.iface 51 (.int .i64 1)) ∧ w = w' := by
  have h' := okB_not.1 h
  clear h
  by_cases h0 : u < 0
  · clear h'
    go_enter Tryd.func30, Tryd.ntmps30
    go_wp2_with fail
    go_ret
    exact ⟨rfl, rfl⟩
  by_cases h1 : 6 < u
  · clear h'
    go_enter Tryd.func30, Tryd.ntmps30
    go_wp2_with fail
    go_ret
    exact ⟨rfl, rfl⟩
  by_cases h2 : s < 0
  · clear h'
    go_enter Tryd.func30, Tryd.ntmps30
    go_wp2_with fail
    go_ret
    exact ⟨rfl, rfl⟩
  have h3 : allN u < s := by omega
  have h0' : 0 ≤ u := by omega
  have h1' : u ≤ 6 := by omega
  clear h'
  go_enter Tryd.func30, Tryd.ntmps30
  go_wp2_with (go_at_call 47; refine (all_any _ h0' h1' _).mono ?_; rintro e w' ⟨rfl, rfl⟩)
  go_ret
  exact ⟨rfl, rfl⟩

theorem ret_two {k : IntKind} {a b : Int} {v : Value} (h : a = b) : Ending.returned (.tuple #[.int k a, v]) = .returned (.tuple #[.int k b, v]) := by rw [h]

theorem do_ok (what u a b : Int) (hl : 5 ≤ what) (hm : what ≤ 8) (ha : okB u a = true) (hb : okB u b = true) (w : World) :
    Calls Tryd.prog 78 #[.int .i64 what, .int .i64 u, .int .i64 a, .int .i64 b] w fun e w' => e = .returned (.tuple #[.int .i64 (doN what u a b), .nilIface]) ∧ w = w' := by
  obtain ⟨u0, u1, a0, a1⟩ := okB_lt ha
  obtain ⟨_, _, b0, b1⟩ := okB_lt hb
  have hd : what = 5 ∨ what = 6 ∨ what = 7 ∨ what = 8 := by omega
  clear hl hm
  rcases hd with rfl | rfl | rfl | rfl
  · go_enter Tryd.func78, Tryd.ntmps78
    go_wp2_with (go_at_call 30; refine (check_ok _ _ ?_ _).mono ?_; assumption; rintro e w' ⟨rfl, rfl⟩)
    go_ret2
    exact ⟨ret_two (or_bits a b a0 a1 b0 b1), rfl⟩
  · go_enter Tryd.func78, Tryd.ntmps78
    go_wp2_with (go_at_call 30; refine (check_ok _ _ ?_ _).mono ?_; assumption; rintro e w' ⟨rfl, rfl⟩)
    go_ret2
    exact ⟨ret_two (and_bits a b a0 a1 b0 b1), rfl⟩
  · go_enter Tryd.func78, Tryd.ntmps78
    go_wp2_with (go_at_call 30; refine (check_ok _ _ ?_ _).mono ?_; assumption; rintro e w' ⟨rfl, rfl⟩)
    go_ret2
    exact ⟨ret_two (less_bits a b a0 a1 b0 b1), rfl⟩
  · go_enter Tryd.func78, Tryd.ntmps78
    go_wp2_with (first | (go_at_call 30; refine (check_ok _ _ ?_ _).mono ?_; assumption; rintro e w' ⟨rfl, rfl⟩) | (go_at_call 47; refine (all_any _ u0 u1 _).mono ?_; rintro e w' ⟨rfl, rfl⟩))
    go_ret2
    have hu := allN_le u0 u1
    exact ⟨ret_two (less_bits (allN u) a hu.1 (by omega) a0 a1), rfl⟩

theorem do_no (what u a b : Int) (h : okB u a = false ∨ okB u b = false ∨ what < 5 ∨ 8 < what) (w : World) :
    Calls Tryd.prog 78 #[.int .i64 what, .int .i64 u, .int .i64 a, .int .i64 b] w fun e w' => e = .returned (.tuple #[.int .i64 0, .iface 51 (.int .i64 1)]) ∧ w = w' := by
  by_cases ha : okB u a = false
  · clear h
    go_enter Tryd.func78, Tryd.ntmps78
    go_wp2_with (go_at_call 30; refine (check_no _ _ ha _).mono ?_; rintro e w' ⟨rfl, rfl⟩)
    go_ret2
    exact ⟨rfl, rfl⟩
  have ha' : okB u a = true := by simpa using ha
  by_cases hb : okB u b = false
  · clear h ha
    go_enter Tryd.func78, Tryd.ntmps78
    go_wp2_with (go_at_call 30; (first | (refine (check_ok _ _ ?_ _).mono ?_; assumption) | (refine (check_no _ _ ?_ _).mono ?_; assumption)); rintro e w' ⟨rfl, rfl⟩)
    go_ret2
    exact ⟨rfl, rfl⟩
  have hb' : okB u b = true := by simpa using hb
  have hw : what < 5 ∨ 8 < what := by simpa [ha', hb'] using h
  clear ha hb h
  rcases hw with hw | hw
  all_goals
    go_enter Tryd.func78, Tryd.ntmps78
    go_wp2_with (go_at_call 30; refine (check_ok _ _ ?_ _).mono ?_; assumption; rintro e w' ⟨rfl, rfl⟩)
    go_ret2
    exact ⟨rfl, rfl⟩
end Go.Proofs.YtedgbohobgnedafDoor
