/-
  Facts and contracts that the statement leans on.
-/
import Derived.WalkKit
import Derived.Test.YtnoohlibgaeklaaGreatDoorRows
import Derived.ProofKit
import Derived.OpenShut
import Derived.Deep.QuietTactic
import Derived.BigQuiet
import Derived.RegionTactic
import Derived.ChangeAlike
import Derived.OwnWalk
import Derived.Deep.RegionWith
import Derived.Laws.OwnMore
namespace Go.Proofs.YtnoohlibgaeklaaGreatDoor
open Go.RowKit
set_option maxRecDepth 100000
set_option maxHeartbeats 16000000
theorem hide {p : Prop} (h : p) : Hid p := h
abbrev Bw (a b : World) : Prop := Below a.heap.size a b
theorem bt {a b c : World} (h : Hid (Bw a b)) (k : Bw b c) : Hid (Bw a c) := h.out.trans (k.mono h.out.size)
theorem nm {α : Type} (a : α) : ∃ x, x = a := ⟨a, rfl⟩
abbrev Bk (W : World) (v : Value) (e : Ending) (w' : World) : Prop := e = .returned v ∧ Bw W w'
abbrev Sk (W : World) (v : Value) (e : Ending) (w' : World) : Prop := e = .returned v ∧ W = w'
def allN (u : Int) : Int := 2 ^ u.toNat - 1
def orN (a b : Int) : Int := ((a.toNat ||| b.toNat : Nat) : Int)
def andN (a b : Int) : Int := ((a.toNat &&& b.toNat : Nat) : Int)
def lessN (a b : Int) : Int := a - andN a b
def pcN (x : Int) : Int := x % 2 + x / 2 % 2 + x / 4 % 2 + x / 8 % 2 + x / 16 % 2 + x / 32 % 2
def okB (u s : Int) : Bool := decide (0 ≤ u ∧ u ≤ 6 ∧ 0 ≤ s ∧ s ≤ allN u)
theorem okB_iff {u s : Int} : okB u s = true ↔ 0 ≤ u ∧ u ≤ 6 ∧ 0 ≤ s ∧ s ≤ allN u := by simp [okB]
theorem okB_not {u s : Int} : okB u s = false ↔ ¬ (0 ≤ u ∧ u ≤ 6 ∧ 0 ≤ s ∧ s ≤ allN u) := by simp [okB]
theorem seven {u : Int} (h0 : 0 ≤ u) (h1 : u ≤ 6) : u = 0 ∨ u = 1 ∨ u = 2 ∨ u = 3 ∨ u = 4 ∨ u = 5 ∨ u = 6 := by omega
theorem allN_le {u : Int} (h0 : 0 ≤ u) (h1 : u ≤ 6) : 0 ≤ allN u ∧ allN u ≤ 63 := by
 rcases seven h0 h1 with rfl | rfl | rfl | rfl | rfl | rfl | rfl <;> decide
theorem okB_lt {u s : Int} (h : okB u s = true) : 0 ≤ u ∧ u ≤ 6 ∧ 0 ≤ s ∧ s < 64 := by
 obtain ⟨a, b, c, d⟩ := okB_iff.1 h
 have := (allN_le a b).2
 omega
theorem upto64 {P : Int → Prop} (h : ∀ n : Nat, n < 64 → P n) (x : Int) (h0 : 0 ≤ x) (h1 : x < 64) : P x := by
 obtain ⟨n, rfl⟩ := Int.eq_ofNat_of_zero_le h0
 exact h n (by omega)
theorem upto64two {P : Int → Int → Prop} (h : ∀ n : Nat, n < 64 → ∀ m : Nat, m < 64 → P n m) (x y : Int) (h0 : 0 ≤ x) (h1 : x < 64) (h2 : 0 ≤ y) (h3 : y < 64) : P x y :=
 upto64 (P := fun x => P x y) (fun n hn => upto64 (P := fun y => P n y) (h n hn) y h2 h3) x h0 h1
theorem or_bits (a b : Int) (h0 : 0 ≤ a) (h1 : a < 64) (h2 : 0 ≤ b) (h3 : b < 64) : bits .or .i64 a b = orN a b :=
 upto64two (P := fun a b => bits .or .i64 a b = orN a b) (by decide +kernel) a b h0 h1 h2 h3
theorem and_bits (a b : Int) (h0 : 0 ≤ a) (h1 : a < 64) (h2 : 0 ≤ b) (h3 : b < 64) : bits .and .i64 a b = andN a b :=
 upto64two (P := fun a b => bits .and .i64 a b = andN a b) (by decide +kernel) a b h0 h1 h2 h3
theorem less_bits (a b : Int) (h0 : 0 ≤ a) (h1 : a < 64) (h2 : 0 ≤ b) (h3 : b < 64) : bits .andNot .i64 a b = lessN a b :=
 upto64two (P := fun a b => bits .andNot .i64 a b = lessN a b) (by decide +kernel) a b h0 h1 h2 h3
theorem uptoSets {P : Int → Int → Int → Prop} (h : ∀ u : Nat, u < 7 → ∀ n : Nat, n < 2 ^ u → ∀ m : Nat, m < 2 ^ u → P u n m) (u a b : Int) (ha : okB u a = true) (hb : okB u b = true) : P u a b := by
 obtain ⟨u0, u1, a0, a1⟩ := okB_iff.1 ha
 obtain ⟨_, _, b0, b1⟩ := okB_iff.1 hb
 obtain ⟨U, rfl⟩ := Int.eq_ofNat_of_zero_le u0
 obtain ⟨x, rfl⟩ := Int.eq_ofNat_of_zero_le a0
 obtain ⟨y, rfl⟩ := Int.eq_ofNat_of_zero_le b0
 have hp : allN (U : Int) = ((2 ^ U : Nat) : Int) - 1 := by unfold allN; simp
 have h1 : 0 < 2 ^ U := Nat.pow_pos (by omega)
 exact h U (by omega) x (by omega) y (by omega)
theorem ok_or {u a b : Int} (ha : okB u a = true) (hb : okB u b = true) : okB u (orN a b) = true :=
 uptoSets (P := fun u a b => okB u (orN a b) = true) (by decide +kernel) u a b ha hb
theorem ok_and {u a b : Int} (ha : okB u a = true) (hb : okB u b = true) : okB u (andN a b) = true :=
 uptoSets (P := fun u a b => okB u (andN a b) = true) (by decide +kernel) u a b ha hb
theorem ok_less {u a b : Int} (ha : okB u a = true) (hb : okB u b = true) : okB u (lessN a b) = true :=
 uptoSets (P := fun u a b => okB u (lessN a b) = true) (by decide +kernel) u a b ha hb
theorem ok_not {u a : Int} (ha : okB u a = true) : okB u (lessN (allN u) a) = true :=
 uptoSets (P := fun u a _ => okB u (lessN (allN u) a) = true) (by decide +kernel) u a a ha ha
theorem ok_zero {u : Int} (h0 : 0 ≤ u) (h1 : u ≤ 6) : okB u 0 = true := okB_iff.2 ⟨h0, h1, by omega, (allN_le h0 h1).1⟩
def doN (what u a b : Int) : Int := if what = 5 then orN a b else if what = 6 then andN a b else if what = 7 then lessN a b else lessN (allN u) a
theorem doN7 (u a b : Int) : doN 7 u a b = lessN a b := rfl
theorem ok_do {what u a b : Int} (ha : okB u a = true) (hb : okB u b = true) : okB u (doN what u a b) = true := by
 unfold doN
 split
 ·exact ok_or ha hb
 split
 ·exact ok_and ha hb
 split
 ·exact ok_less ha hb
 exact ok_not ha
def hasB (s i : Int) : Bool := decide (s / 2 ^ i.toNat % 2 = 1)
theorem pcN_le (x : Int) : 0 ≤ pcN x ∧ pcN x ≤ 6 := by unfold pcN; omega
def pw (k : Nat) : Int := 2 ^ k
theorem pw_succ (k : Nat) : pw (k + 1) = 2 * pw k := by unfold pw; rw [Int.pow_succ]; omega
theorem pw_pos (k : Nat) : 1 ≤ pw k := by
 induction k with
 | zero => decide
 | succ k ih => rw [pw_succ]; omega
theorem pw_mono {k l : Nat} (h : k ≤ l) : pw k ≤ pw l := by
 induction l with
 | zero => obtain rfl : k = 0 := by omega
           exact Int.le_refl _
 | succ l ih =>
  rcases Nat.lt_or_ge l k with h' | h'
  ·obtain rfl : k = l + 1 := by omega
   exact Int.le_refl _
  ·have := ih h'
   have := pw_pos l
   rw [pw_succ]; omega
theorem pw_le61 {k : Nat} (h : k ≤ 61) : pw k ≤ 2305843009213693952 := pw_mono h
theorem pw_le6 {k : Nat} (h : k ≤ 6) : pw k ≤ 64 := pw_mono h
theorem hasB_pw (s i : Int) : hasB s i = decide (s / pw i.toNat % 2 = 1) := rfl
def pcTo (s : Int) : Nat → Int
 | 0 => 0
 | k + 1 => pcTo s k + if hasB s k = true then 1 else 0
theorem pcTo_le (s : Int) (k : Nat) : 0 ≤ pcTo s k ∧ pcTo s k ≤ k := by
 induction k with
 | zero => exact ⟨Int.le_refl _, Int.le_refl _⟩
 | succ k ih => unfold pcTo; split <;> omega
theorem pcTo_six (s : Int) (h0 : 0 ≤ s) (h1 : s < 64) : pcTo s 6 = pcN s :=
 upto64 (P := fun s => pcTo s 6 = pcN s) (by decide +kernel) s h0 h1
def inB (what : Int) (x y : Bool) : Bool := if what = 5 then x || y else if what = 6 then x && y else if what = 7 then x && !y else if what = 8 then !x else false
def doTo (what a b : Int) : Nat → Int
 | 0 => 0
 | k + 1 => doTo what a b k + if inB what (hasB a k) (hasB b k) = true then pw k else 0
theorem doTo_le (what a b : Int) (k : Nat) : 0 ≤ doTo what a b k ∧ doTo what a b k < pw k := by
 induction k with
 | zero => exact ⟨Int.le_refl _, show (0 : Int) < pw 0 by decide⟩
 | succ k ih =>
  have := pw_pos k
  unfold doTo
  rw [pw_succ]
  split <;> omega
theorem doTo_do (what u a b : Int) (hl : 5 ≤ what) (hm : what ≤ 8) (ha : okB u a = true) (hb : okB u b = true) : doTo what a b u.toNat = doN what u a b := by
 have hd : what = 5 ∨ what = 6 ∨ what = 7 ∨ what = 8 := by omega
 rcases hd with rfl | rfl | rfl | rfl
 ·exact uptoSets (P := fun u a b => doTo 5 a b u.toNat = doN 5 u a b) (by decide +kernel) u a b ha hb
 ·exact uptoSets (P := fun u a b => doTo 6 a b u.toNat = doN 6 u a b) (by decide +kernel) u a b ha hb
 ·exact uptoSets (P := fun u a b => doTo 7 a b u.toNat = doN 7 u a b) (by decide +kernel) u a b ha hb
 ·exact uptoSets (P := fun u a b => doTo 8 a b u.toNat = doN 8 u a b) (by decide +kernel) u a b ha hb
theorem has_spell2 (s : Int) (i : Nat) (h0 : 0 ≤ s) : ((s / pw i).tmod 2 == 1) = hasB s i := by
 have hp := pw_pos i
 have hd : 0 ≤ s / pw i := Int.ediv_nonneg h0 (by omega)
 rw [Int.tmod_eq_emod_of_nonneg hd, hasB_pw, Int.toNat_natCast]
 rfl
def takesN (s : Int) : Int := if s = 5 ∨ s = 6 ∨ s = 7 then 2 else if s = 8 then 1 else 0
def signB (s : Int) : Bool := decide (0 ≤ s ∧ s ≤ 8)
def cnt : List Int → Int → Option Int
 | [], n => some n
 | s :: l, n => if n < takesN s then none else cnt l (n + 1 - takesN s)
def faultN (t : List Int) : Int := if t.length = 0 then 5 else if 12 < t.length then 4 else if t.all signB = true then (if cnt t 0 = some 1 then 0 else 3) else 1
theorem signB_iff {s : Int} : signB s = true ↔ 0 ≤ s ∧ s ≤ 8 := by simp [signB]
theorem takesN_range (s : Int) : 0 ≤ takesN s ∧ takesN s ≤ 2 := by unfold takesN; split <;> (try split) <;> omega
theorem takes5 (s : Int) (h : s < 5) : takesN s = 0 := by unfold takesN; rw [if_neg (by omega), if_neg (by omega)]
theorem takes2 (s : Int) (h : 5 ≤ s) (h' : s ≤ 7) : takesN s = 2 := by unfold takesN; rw [if_pos (by omega)]
theorem takes1 : takesN 8 = 1 := by decide
theorem cnt_append (a b : List Int) (n : Int) : cnt (a ++ b) n = (cnt a n).bind (cnt b) := by
 induction a generalizing n with
 | nil => rfl
 | cons s l ih =>
  simp only [List.cons_append, cnt]
  split
  ·rfl
  ·exact ih _
theorem cnt_nonneg {l : List Int} {n m : Int} (hn : 0 ≤ n) (h : cnt l n = some m) : 0 ≤ m ∧ m ≤ n + l.length := by
 induction l generalizing n with
 | nil => simp [cnt] at h; subst h; simp; omega
 | cons s l ih =>
  have := takesN_range s
  unfold cnt at h
  split at h
  ·cases h
  ·have := ih (by omega) h
   simp; omega
theorem take_succ_getD (t : List Int) {k : Nat} (h : k < t.length) : t.take (k + 1) = t.take k ++ [t.getD k 0] := by
 rw [List.take_add_one]; simp [List.getElem?_eq_getElem h]
theorem cnt_take_succ (t : List Int) {k : Nat} (h : k < t.length) {m : Int} (hm : cnt (t.take k) 0 = some m) : cnt (t.take (k + 1)) 0 = if m < takesN (t.getD k 0) then none else some (m + 1 - takesN (t.getD k 0)) := by
 rw [take_succ_getD t h, cnt_append, hm]; rfl
theorem cnt_take_none (t : List Int) (k : Nat) (h : cnt (t.take k) 0 = none) : cnt t 0 = none := by
 have : cnt (t.take k ++ t.drop k) 0 = none := by rw [cnt_append, h]; rfl
 rwa [List.take_append_drop] at this
theorem cnt_take_some (t : List Int) (k : Nat) {n : Int} (h : cnt t 0 = some n) : ∃ m, cnt (t.take k) 0 = some m := by
 cases hc : cnt (t.take k) 0 with
 | none => rw [cnt_take_none t k hc] at h; cases h
 | some m => exact ⟨m, rfl⟩
structure Wd where
 u : Int
 a : Int
 b : Int
 c : Int
def Wd.ok (w : Wd) : Bool := okB w.u w.a && okB w.u w.b && okB w.u w.c
def Wd.name (w : Wd) (s : Int) : Int := if s = 0 then w.a else if s = 1 then w.b else w.c
def Wd.made (w : Wd) (s : Int) (l : List Int) : Int := if s < 3 then w.name s else if s = 3 then 0 else if s = 4 then doN 8 w.u 0 0 else doN s w.u (l.getD 0 0) (l.getD (l.length - 1) 0)
def restN (p : List Int) (s : Int) : Nat := p.length - (takesN s).toNat
def Wd.step (w : Wd) (p : List Int) (s : Int) : List Int := p.take (restN p s) ++ [w.made s (p.drop (restN p s))]
def Wd.pile (w : Wd) (t p : List Int) : List Int := t.foldl w.step p
theorem pile_append (w : Wd) (a b p : List Int) : w.pile (a ++ b) p = w.pile b (w.pile a p) := by simp [Wd.pile, List.foldl_append]
theorem pile_succ (w : Wd) (t p : List Int) {k : Nat} (h : k < t.length) : w.pile (t.take (k + 1)) p = w.step (w.pile (t.take k) p) (t.getD k 0) := by
 rw [take_succ_getD t h, pile_append]; rfl
theorem step_length (w : Wd) (p : List Int) (s : Int) (h : takesN s ≤ p.length) : ((w.step p s).length : Int) = p.length + 1 - takesN s := by
 have := takesN_range s
 simp [Wd.step, restN]
 omega
theorem pile_length (w : Wd) (t p : List Int) {n : Int} (h : cnt t p.length = some n) : ((w.pile t p).length : Int) = n := by
 induction t generalizing p with
 | nil => simp [cnt] at h; simpa [Wd.pile] using h
 | cons s l ih =>
  unfold cnt at h
  split at h
  ·cases h
  ·rename_i hs
   have e := step_length w p s (by omega)
   exact ih (w.step p s) (by rw [e]; exact h)
theorem Wd.ok_iff {w : Wd} : w.ok = true ↔ okB w.u w.a = true ∧ okB w.u w.b = true ∧ okB w.u w.c = true := by simp [Wd.ok, and_assoc]
theorem ok_name {w : Wd} (h : w.ok = true) (s : Int) : okB w.u (w.name s) = true := by
 obtain ⟨h1, h2, h3⟩ := Wd.ok_iff.1 h
 unfold Wd.name
 split
 ·exact h1
 split
 ·exact h2
 exact h3
theorem ok_u {w : Wd} (h : w.ok = true) : 0 ≤ w.u ∧ w.u ≤ 6 := by
 obtain ⟨h1, h2, _⟩ := okB_iff.1 (Wd.ok_iff.1 h).1
 exact ⟨h1, h2⟩
theorem ok_getD {w : Wd} (h : w.ok = true) {p : List Int} (hp : ∀ x ∈ p, okB w.u x = true) (k : Nat) : okB w.u (p.getD k 0) = true := by
 rcases Nat.lt_or_ge k p.length with hk | hk
 ·rw [List.getD_eq_getElem?_getD, List.getElem?_eq_getElem hk]; exact hp _ (List.getElem_mem hk)
 ·rw [List.getD_eq_getElem?_getD, List.getElem?_eq_none hk]; exact ok_zero (ok_u h).1 (ok_u h).2
theorem ok_made {w : Wd} (h : w.ok = true) {p : List Int} (hp : ∀ x ∈ p, okB w.u x = true) (s : Int) : okB w.u (w.made s p) = true := by
 have z := ok_zero (ok_u h).1 (ok_u h).2
 unfold Wd.made
 split
 ·exact ok_name h s
 split
 ·exact z
 split
 ·exact ok_do z z
 exact ok_do (ok_getD h hp _) (ok_getD h hp _)
theorem ok_step {w : Wd} (h : w.ok = true) {p : List Int} (hp : ∀ x ∈ p, okB w.u x = true) (s : Int) : ∀ x ∈ w.step p s, okB w.u x = true := by
 intro x hx
 unfold Wd.step at hx
 rcases List.mem_append.1 hx with hx | hx
 ·exact hp x (List.mem_of_mem_take hx)
 ·rw [List.mem_singleton.1 hx]
  exact ok_made h (fun y hy => hp y (List.mem_of_mem_drop hy)) s
theorem ok_pile {w : Wd} (h : w.ok = true) (t : List Int) {p : List Int} (hp : ∀ x ∈ p, okB w.u x = true) : ∀ x ∈ w.pile t p, okB w.u x = true := by
 induction t generalizing p with
 | nil => exact hp
 | cons s l ih => exact ih (p := w.step p s) (ok_step h hp s)
def Wd.val (w : Wd) (t : List Int) : Int := (w.pile t []).getD 0 0
theorem ok_val {w : Wd} (h : w.ok = true) (t : List Int) : okB w.u (w.val t) = true := ok_getD h (ok_pile h t (p := []) (by intro x hx; cases hx)) 0
def isTm : Nat → List Int → Prop
 | 0, _ => False
 | n + 1, q => (∃ s : Int, 0 ≤ s ∧ s ≤ 4 ∧ q = [s]) ∨ (∃ t, isTm n t ∧ q = t ++ [8]) ∨ (∃ (s : Int) (a b : List Int), 5 ≤ s ∧ s ≤ 7 ∧ isTm n a ∧ isTm n b ∧ q = a ++ (b ++ [s]))
theorem isTm_mono {n : Nat} : ∀ {m : Nat} {q : List Int}, n ≤ m → isTm n q → isTm m q := by
 induction n with
 | zero => intro m q _ h; exact h.elim
 | succ n ih =>
  intro m q hm h
  obtain ⟨k, rfl⟩ : ∃ k, m = k + 1 := ⟨m - 1, by omega⟩
  rcases h with ⟨s, h0, h4, e⟩ | ⟨t, ht, e⟩ | ⟨s, a, b, h5, h7, ha, hb, e⟩
  ·exact Or.inl ⟨s, h0, h4, e⟩
  ·exact Or.inr (Or.inl ⟨t, ih (by omega) ht, e⟩)
  ·exact Or.inr (Or.inr ⟨s, a, b, h5, h7, ih (by omega) ha, ih (by omega) hb, e⟩)
theorem made_leaf (w : Wd) (s : Int) (l : List Int) (h : s ≤ 4) : w.made s l = w.made s [] := by
 unfold Wd.made
 by_cases h3 : s < 3
 ·rw [if_pos h3, if_pos h3]
 rw [if_neg h3, if_neg h3]
 by_cases h4 : s = 3
 ·rw [if_pos h4, if_pos h4]
 rw [if_neg h4, if_neg h4, if_pos (by omega), if_pos (by omega)]
theorem made_do (w : Wd) (s : Int) (l : List Int) (h : 5 ≤ s) : w.made s l = doN s w.u (l.getD 0 0) (l.getD (l.length - 1) 0) := by
 unfold Wd.made
 rw [if_neg (by omega), if_neg (by omega), if_neg (by omega)]
theorem pile_one (w : Wd) (s : Int) (hs : s ≤ 4) (p : List Int) : w.pile [s] p = p ++ [w.made s []] := by
 show w.step p s = _
 unfold Wd.step restN
 rw [takes5 s (by omega)]
 simp
theorem pile_opp (w : Wd) (t : List Int) (v : Int) (h : ∀ p, w.pile t p = p ++ [v]) (p : List Int) : w.pile (t ++ [8]) p = p ++ [doN 8 w.u v v] := by
 rw [pile_append, h]
 show w.step _ 8 = _
 unfold Wd.step restN
 rw [takes1, made_do _ _ _ (by omega)]
 simp
theorem pile_bin (w : Wd) (s : Int) (h5 : 5 ≤ s) (h7 : s ≤ 7) (a b : List Int) (x y : Int) (ha : ∀ p, w.pile a p = p ++ [x]) (hb : ∀ p, w.pile b p = p ++ [y]) (p : List Int) : w.pile (a ++ (b ++ [s])) p = p ++ [doN s w.u x y] := by
 rw [pile_append, ha, pile_append, hb]
 show w.step _ s = _
 unfold Wd.step restN
 rw [takes2 s h5 h7, made_do _ _ _ h5]
 simp
theorem val_of_pile {w : Wd} {q : List Int} {v : Int} (h : ∀ p, w.pile q p = p ++ [v]) : w.val q = v := by
 unfold Wd.val; rw [h]; rfl
theorem pile_tm (w : Wd) (n : Nat) : ∀ q, isTm n q → ∀ p, w.pile q p = p ++ [w.val q] := by
 induction n with
 | zero => intro q h; exact h.elim
 | succ n ih =>
  intro q h
  rcases h with ⟨s, h0, h4, rfl⟩ | ⟨t, ht, rfl⟩ | ⟨s, a, b, h5, h7, ha, hb, rfl⟩
  ·have := pile_one w s h4
   rw [val_of_pile this]; exact this
  ·have := pile_opp w t _ (ih t ht)
   rw [val_of_pile this]; exact this
  ·have := pile_bin w s h5 h7 a b _ _ (ih a ha) (ih b hb)
   rw [val_of_pile this]; exact this
theorem val_leaf (w : Wd) (s : Int) (h : s ≤ 4) : w.val [s] = w.made s [] := val_of_pile (pile_one w s h)
theorem val_opp (w : Wd) {n : Nat} {t : List Int} (h : isTm n t) : w.val (t ++ [8]) = doN 8 w.u (w.val t) (w.val t) := val_of_pile (pile_opp w t _ (pile_tm w n t h))
theorem val_bin (w : Wd) {n m : Nat} {s : Int} (h5 : 5 ≤ s) (h7 : s ≤ 7) {a b : List Int} (ha : isTm n a) (hb : isTm m b) : w.val (a ++ (b ++ [s])) = doN s w.u (w.val a) (w.val b) := val_of_pile (pile_bin w s h5 h7 a b _ _ (pile_tm w n a ha) (pile_tm w m b hb))
theorem trees (t : List Int) (ht : ∀ s ∈ t, 0 ≤ s ∧ s ≤ 8) (ts : List (List Int)) (hts : ∀ q ∈ ts, ∃ n, isTm n q) {n : Int} (h : cnt t ts.length = some n) :
    ∃ ts' : List (List Int), (ts'.length : Int) = n ∧ (∀ q ∈ ts', ∃ n, isTm n q) ∧ ts'.flatten = ts.flatten ++ t := by
 induction t generalizing ts with
 | nil => simp [cnt] at h; exact ⟨ts, h, hts, by simp⟩
 | cons s l ih =>
  have hs := ht s (by simp)
  have hl : ∀ x ∈ l, 0 ≤ x ∧ x ≤ 8 := fun x hx => ht x (by simp [hx])
  unfold cnt at h
  split at h
  ·cases h
  ·rename_i hn
   by_cases h5 : s < 5
   ·rw [takes5 s h5] at h
    obtain ⟨ts', h1, h2, h3⟩ := ih hl (ts ++ [[s]]) (by
     intro q hq
     rcases List.mem_append.1 hq with hq | hq
     ·exact hts q hq
     ·rw [List.mem_singleton.1 hq]; exact ⟨1, Or.inl ⟨s, hs.1, by omega, rfl⟩⟩) (by rw [← h]; simp)
    exact ⟨ts', h1, h2, by rw [h3]; simp⟩
   by_cases h8 : s = 8
   ·subst h8
    rw [takes1] at h hn
    obtain ⟨ts0, a, rfl⟩ : ∃ ts0 a, ts = ts0 ++ [a] := by
     rcases List.eq_nil_or_concat ts with rfl | ⟨x, y, rfl⟩
     ·simp at hn
     ·exact ⟨x, y, by simp⟩
    obtain ⟨ts', h1, h2, h3⟩ := ih hl (ts0 ++ [a ++ [8]]) (by
     intro q hq
     rcases List.mem_append.1 hq with hq | hq
     ·exact hts q (by simp [hq])
     ·rw [List.mem_singleton.1 hq]
      obtain ⟨k, hk⟩ := hts a (by simp)
      exact ⟨k + 1, Or.inr (Or.inl ⟨a, hk, rfl⟩)⟩) (by rw [← h]; simp)
    exact ⟨ts', h1, h2, by rw [h3]; simp⟩
   ·rw [takes2 s (by omega) (by omega)] at h hn
    obtain ⟨ts0, a, b, rfl⟩ : ∃ ts0 a b, ts = ts0 ++ [a, b] := by
     rcases List.eq_nil_or_concat ts with rfl | ⟨x, y, rfl⟩
     ·simp at hn
     ·rcases List.eq_nil_or_concat x with rfl | ⟨x', z, rfl⟩
      ·simp at hn
      ·exact ⟨x', z, y, by simp⟩
    obtain ⟨ts', h1, h2, h3⟩ := ih hl (ts0 ++ [a ++ (b ++ [s])]) (by
     intro q hq
     rcases List.mem_append.1 hq with hq | hq
     ·exact hts q (by simp [hq])
     ·rw [List.mem_singleton.1 hq]
      obtain ⟨k, hk⟩ := hts a (by simp)
      obtain ⟨j, hj⟩ := hts b (by simp)
      exact ⟨k + j + 1, Or.inr (Or.inr ⟨s, a, b, by omega, by omega, isTm_mono (by omega) hk, isTm_mono (by omega) hj, rfl⟩)⟩) (by rw [← h]; simp; congr 1; omega)
    exact ⟨ts', h1, h2, by rw [h3]; simp⟩
theorem tree (t : List Int) (hs : t.all signB = true) (h : cnt t 0 = some 1) : ∃ n, isTm n t := by
 obtain ⟨ts, h1, h2, h3⟩ := trees t (fun s hm => signB_iff.1 (List.all_eq_true.1 hs s hm)) [] (by intro q hq; cases hq) h
 match ts, h1 with
 | [q], _ =>
  have e : q = t := by simpa using h3
  rw [← e]; exact h2 q (by simp)
 | [], h1 => simp at h1
 | _ :: _ :: _, h1 => simp at h1; omega
theorem fault_zero {t : List Int} : faultN t = 0 ↔ t.length ≠ 0 ∧ t.length ≤ 12 ∧ t.all signB = true ∧ cnt t 0 = some 1 := by
 unfold faultN
 by_cases h1 : t.length = 0
 ·rw [if_pos h1]; exact ⟨fun h => by omega, fun h => absurd h1 h.1⟩
 rw [if_neg h1]
 by_cases h2 : 12 < t.length
 ·rw [if_pos h2]; exact ⟨fun h => by omega, fun h => by omega⟩
 rw [if_neg h2]
 by_cases h3 : t.all signB = true
 ·rw [if_pos h3]
  by_cases h4 : cnt t 0 = some 1
  ·rw [if_pos h4]; exact ⟨fun _ => ⟨h1, by omega, h3, h4⟩, fun _ => rfl⟩
  ·rw [if_neg h4]; exact ⟨fun h => by omega, fun h => absurd h.2.2.2 h4⟩
 ·rw [if_neg h3]; exact ⟨fun h => by omega, fun h => absurd h.2.2.1 h3⟩
end Go.Proofs.YtnoohlibgaeklaaGreatDoor
namespace Go.Proofs.YtnoohlibgaeklaaGreatDoor
open Go.ChangeShapes Go.WideShapes Go.ChangeAt Go.RowKit
set_option maxRecDepth 100000
set_option maxHeartbeats 16000000
def Reads (w : World) (v : Value) (t : List Int) : Prop :=
 (∃ ao cap, v = .slice ao 0 cap ∧ t = []) ∨ (∃ b off cap, v = .slice (some ⟨b, off, none⟩) t.length cap ∧ b < w.heap.size ∧ 0 < t.length ∧ (t.length ≤ 9223372036854775807 ∧ t.length ≤ cap) ∧ ∀ k, k < t.length → w.cell? ⟨b, off + k, none⟩ = some (.int .i64 (t.getD k 0)))
theorem Reads.below {w w' : World} {v : Value} {t : List Int} (h : Reads w v t) (hb : Bw w w') : Reads w' v t := by
 rcases h with h | ⟨b, off, cap, h1, h2, h3, h4, h5⟩
 ·exact Or.inl h
 ·exact Or.inr ⟨b, off, cap, h1, Nat.lt_of_lt_of_le h2 hb.size, h3, h4, fun k hk => by rw [hb.cell h2]; exact h5 k hk⟩
def Wd.v (w : Wd) : Value := .agg #[.int .i64 w.u, .int .i64 w.a, .int .i64 w.b, .int .i64 w.c]
def NewV (K : Nat) (v : Value) : Prop := ∃ ao n c, v = .slice ao n c ∧ ∀ p, ao = some p → K ≤ p.block
def errV (n : Int) : Value := if n = 0 then .nilIface else .iface 91 (.int .i64 n)
theorem back_b {a b : Bool} (h : a = b) : Ending.returned (.bool a) = .returned (.bool b) := by rw [h]
theorem back_i {k : IntKind} {a b : Int} (h : a = b) : Ending.returned (.int k a) = .returned (.int k b) := by rw [h]
theorem back_v {a b : Value} (h : a = b) : Ending.returned a = .returned b := by rw [h]
theorem takes_any (s : Int) (w : World) :
    Calls Tryz.prog 177 #[.int .i64 s] w (Sk w (.int .i64 (takesN s))) := by
 by_cases h5 : s = 5
 ·subst h5
  go_enter Tryz.func177, Tryz.ntmps177
  go_wp2
  go_ret
  exact ⟨rfl, rfl⟩
 by_cases h6 : s = 6
 ·subst h6
  go_enter Tryz.func177, Tryz.ntmps177
  go_wp2
  go_ret
  exact ⟨rfl, rfl⟩
 by_cases h7 : s = 7
 ·subst h7
  go_enter Tryz.func177, Tryz.ntmps177
  go_wp2
  go_ret
  exact ⟨rfl, rfl⟩
 by_cases h8 : s = 8
 ·subst h8
  go_enter Tryz.func177, Tryz.ntmps177
  go_wp2
  go_ret
  exact ⟨rfl, rfl⟩
 have e : takesN s = 0 := by unfold takesN; rw [if_neg (by omega), if_neg h8]
 rw [e]
 clear e
 have h5' : (s == 5) = false := by simpa using h5
 have h6' : (s == 6) = false := by simpa using h6
 have h7' : (s == 7) = false := by simpa using h7
 have h8' : (s == 8) = false := by simpa using h8
 clear h5 h6 h7 h8
 go_enter Tryz.func177, Tryz.ntmps177
 go_wp2
 go_ret
 exact ⟨rfl, rfl⟩
theorem noSign_any (s : Int) (w : World) :
    Calls Tryz.prog 145 #[.int .i64 s] w (Sk w (.bool (!signB s))) := by
 by_cases h0 : s < 0
 ·have e : signB s = false := by simp [signB]; omega
  rw [e]
  clear e
  go_enter Tryz.func145, Tryz.ntmps145
  go_wp2
  go_ret
  exact ⟨rfl, rfl⟩
 by_cases h8 : 8 < s
 ·have e : signB s = false := by simp [signB]; omega
  rw [e]
  clear e
  go_enter Tryz.func145, Tryz.ntmps145
  go_wp2
  go_ret
  exact ⟨rfl, rfl⟩
 have e : signB s = true := by simp [signB]; omega
 rw [e]
 clear e
 go_enter Tryz.func145, Tryz.ntmps145
 go_wp2
 go_ret
 exact ⟨rfl, rfl⟩
def firstBad : List Int → Nat → Int
 | [], _ => -1
 | s :: l, k => if signB s = true then firstBad l (k + 1) else k
theorem firstBad_lt (t : List Int) (k : Nat) : (firstBad t k < 0 ↔ t.all signB = true) ∧ -1 ≤ firstBad t k := by
 induction t generalizing k with
 | nil => exact ⟨⟨fun _ => rfl, fun _ => show (-1 : Int) < 0 by decide⟩, Int.le_refl _⟩
 | cons s l ih =>
  unfold firstBad
  by_cases h : signB s = true
  ·rw [if_pos h]; simpa [h] using ih (k + 1)
  ·rw [if_neg h]; simp only [List.all_cons, h]; simp
theorem firstBad_drop (t : List Int) {k : Nat} (hk : k < t.length) : firstBad (t.drop k) k = if signB (t.getD k 0) = true then firstBad (t.drop (k + 1)) (k + 1) else k := by
 rw [List.drop_eq_getElem_cons hk]
 simp [firstBad, List.getElem?_eq_getElem hk]
theorem indexFunc_any (b off cap : Nat) (t : List Int) (w : World) (hl : t.length ≤ 9223372036854775807) (hc : ∀ k, k < t.length → w.cell? ⟨b, off + k, none⟩ = some (.int .i64 (t.getD k 0))) :
    Calls Tryz.prog 153 #[.slice (some ⟨b, off, none⟩) t.length cap, .func (.func 145) #[] #[]] w (Sk w (.int .i64 (firstBad t 0))) := by
 have HF : Hid (∀ {k : Nat}, k < t.length → firstBad (t.drop k) k = if signB (t.getD k 0) = true then firstBad (t.drop (k + 1)) (k + 1) else k) := fun {_} h => firstBad_drop t h
 have HC := hide hc
 clear hc
 obtain ⟨n, hn⟩ := nm t.length
 rw [← hn] at hl ⊢
 have HN := hide hn
 clear hn
 go_enter Tryz.func153, Tryz.ntmps153
 go_wp2
 go_loop [8] (fun i => ∃ k : Nat, k ≤ n ∧ i = .int .i64 k ∧ firstBad (t.drop k) k = firstBad t 0) (fun i => n - (intOf i).toNat)
 case atStart => exact ⟨0, Nat.zero_le _, rfl, rfl⟩
 case round =>
  obtain ⟨k, hk, rfl, hF⟩ := hrel
  have HK := hide hF
  clear hF
  by_cases hlt : k < n
  ·obtain ⟨s, hs⟩ := nm (t.getD k 0)
   have hc := HC.out k (by rw [← HN.out]; exact hlt)
   rw [← hs] at hc
   have HS := hide hs
   clear hs
   have HD : Hid (firstBad (t.drop k) k = if signB s = true then firstBad (t.drop (k + 1)) (k + 1) else k) := by
    have := HF.out (k := k) (by rw [← HN.out]; exact hlt)
    rw [← HS.out] at this; exact this
   by_cases hb : signB s = true
   ·have HD' : Hid (firstBad (t.drop (k + 1)) (k + 1) = firstBad t 0) := by
     have h1 := HD.out
     rw [if_pos hb] at h1
     exact h1.symm.trans HK.out
    go_wp2_with (go_at_call 145; refine (noSign_any _ _).mono ?_; rintro e w' ⟨rfl, rfl⟩)
    go_round
    case rel => exact ⟨k + 1, by omega, by go_num, HD'.out⟩
    case measure => simp [intOf]; omega
   ·have HD' : Hid ((k : Int) = firstBad t 0) := by
     have h1 := HD.out
     rw [if_neg hb] at h1
     exact h1.symm.trans HK.out
    have hb' : signB s = false := by simpa using hb
    clear hb
    go_wp2_with (go_at_call 145; refine (noSign_any _ _).mono ?_; rintro e w' ⟨rfl, rfl⟩)
    go_ret
    exact ⟨back_i HD'.out, rfl⟩
  ·have HE : Hid (firstBad t 0 = -1) := by
    have h1 := HK.out
    rw [List.drop_eq_nil_of_le (by have := HN.out; omega)] at h1
    exact h1.symm
   go_wp2
   go_ret
   exact ⟨back_i HE.out.symm, rfl⟩
theorem containsFunc_any (b off cap : Nat) (t : List Int) (w : World) (hl : t.length ≤ 9223372036854775807) (hc : ∀ k, k < t.length → w.cell? ⟨b, off + k, none⟩ = some (.int .i64 (t.getD k 0))) :
    Calls Tryz.prog 116 #[.slice (some ⟨b, off, none⟩) t.length cap, .func (.func 145) #[] #[]] w (Sk w (.bool (!t.all signB))) := by
 have c := indexFunc_any b off cap t w hl hc
 clear hc
 obtain ⟨h1, h2⟩ := firstBad_lt t 0
 obtain ⟨n, hn⟩ := nm (firstBad t 0)
 rw [← hn] at c h1 h2
 clear hn
 by_cases h : t.all signB = true
 ·obtain rfl : n = -1 := by have := h1.2 h; omega
  rw [h]
  clear h1 h2 h
  go_enter Tryz.func116, Tryz.ntmps116
  go_wp2_with (go_at_call 153; refine c.mono ?_; rintro e w' ⟨rfl, rfl⟩)
  go_ret
  exact ⟨rfl, rfl⟩
 ·have h0 : 0 ≤ n := by
   rcases Int.lt_or_le n 0 with h' | h'
   ·exact absurd (h1.1 h') h
   ·exact h'
  have h' : t.all signB = false := by simpa using h
  rw [h']
  clear h1 h2 h h'
  go_enter Tryz.func116, Tryz.ntmps116
  go_wp2_with (go_at_call 153; refine c.mono ?_; rintro e w' ⟨rfl, rfl⟩)
  go_ret
  exact ⟨rfl, rfl⟩
theorem isOne_any (b off cap : Nat) (t : List Int) (w : World) (hl : t.length ≤ 12) (hc : ∀ k, k < t.length → w.cell? ⟨b, off + k, none⟩ = some (.int .i64 (t.getD k 0))) :
    Calls Tryz.prog 146 #[.slice (some ⟨b, off, none⟩) t.length cap] w (Sk w (.bool (decide (cnt t 0 = some 1)))) := by
 have HC := hide hc
 clear hc
 obtain ⟨n, hn⟩ := nm t.length
 rw [← hn] at hl ⊢
 have HN := hide hn
 clear hn
 obtain ⟨R, hR⟩ := nm (decide (cnt t 0 = some 1))
 rw [← hR]
 have HR := hide hR
 clear hR
 go_enter Tryz.func146, Tryz.ntmps146
 go_wp2
 go_loop [3, 8] (fun c i => ∃ (k : Nat) (m : Int), k ≤ n ∧ i = .int .i64 k ∧ c = .int .i64 m ∧ cnt (t.take k) 0 = some m) (fun _ i => n - (intOf i).toNat)
 case atStart => exact ⟨0, 0, Nat.zero_le _, rfl, rfl, rfl⟩
 case round =>
  obtain ⟨k, m, hk, rfl, rfl, hm⟩ := hrel
  have HM := hide hm
  have hm0 : 0 ≤ m ∧ m ≤ 12 := by
   have := cnt_nonneg (Int.le_refl 0) hm
   simp at this
   omega
  clear hm
  by_cases hlt : k < n
  ·obtain ⟨s, hs⟩ := nm (t.getD k 0)
   have hc := HC.out k (by rw [← HN.out]; exact hlt)
   rw [← hs] at hc
   have HD : Hid (cnt (t.take (k + 1)) 0 = if m < takesN s then none else some (m + 1 - takesN s)) := by
    have := cnt_take_succ t (k := k) (by rw [← HN.out]; exact hlt) HM.out
    rw [← hs] at this; exact this
   clear hs
   have ht := takesN_range s
   by_cases hb : m < takesN s
   ·have HE : Hid (R = false) := by
     have h1 := HD.out
     rw [if_pos hb] at h1
     have h2 := cnt_take_none t (k + 1) h1
     have h3 := HR.out
     rw [h2] at h3
     exact h3.trans (by decide)
    go_wp2_with (go_at_call 177; refine (takes_any _ _).mono ?_; rintro e w' ⟨rfl, rfl⟩)
    go_ret
    exact ⟨back_b HE.out.symm, rfl⟩
   ·have HE : Hid (cnt (t.take (k + 1)) 0 = some (m + (1 - takesN s))) := by
     have h1 := HD.out
     rw [if_neg hb] at h1
     rw [show m + (1 - takesN s) = m + 1 - takesN s by omega]
     exact h1
    go_wp2_with (go_at_call 177; refine (takes_any _ _).mono ?_; rintro e w' ⟨rfl, rfl⟩)
    go_round
    case rel => exact ⟨k + 1, _, by omega, by go_num, rfl, HE.out⟩
    case measure => simp [intOf]; omega
  ·have HE : Hid (R = (m == 1)) := by
    have h1 := HM.out
    rw [List.take_of_length_le (by have := HN.out; omega)] at h1
    have h3 := HR.out
    rw [h1] at h3
    rw [h3]
    by_cases h : m = 1
    ·subst h; rfl
    ·rw [decide_eq_false (by simpa using h)]; exact (beq_eq_false_iff_ne.2 h).symm
   go_wp2
   go_ret
   exact ⟨back_b HE.out.symm, rfl⟩
theorem tcheck_any (t : List Int) (v : Value) (w : World) (h : Reads w v t) :
    Calls Tryz.prog 102 #[v] w (Sk w (errV (faultN t))) := by
 rcases h with ⟨ao, cap, rfl, rfl⟩ | ⟨b, off, cap, rfl, -, h0, ⟨hl, _⟩, hc⟩
 ·go_enter Tryz.func102, Tryz.ntmps102
  go_wp2
  go_ret
  exact ⟨rfl, rfl⟩
 ·have cF := containsFunc_any b off cap t w hl hc
  by_cases h12 : 12 < t.length
  ·have e : errV (faultN t) = .iface 91 (.int .i64 4) := by unfold faultN; rw [if_neg (by omega), if_pos h12]; rfl
   rw [e]
   clear e hc cF
   obtain ⟨n, hn⟩ := nm t.length
   rw [← hn] at h0 hl h12 ⊢
   clear hn
   go_enter Tryz.func102, Tryz.ntmps102
   go_wp2
   go_ret
   exact ⟨rfl, rfl⟩
  have hl12 : t.length ≤ 12 := by omega
  have cO := isOne_any b off cap t w hl12 hc
  clear hc
  obtain ⟨F, hF⟩ := nm (faultN t)
  rw [← hF]
  have HF : Hid (F = if t.all signB = true then (if cnt t 0 = some 1 then 0 else 3) else 1) := by
   unfold Hid; rw [hF]; unfold faultN; rw [if_neg (by omega), if_neg h12]
  clear hF
  obtain ⟨n, hn⟩ := nm t.length
  rw [← hn] at h0 hl hl12 h12 cF cO ⊢
  clear hn
  obtain ⟨x, hx⟩ := nm (t.all signB)
  obtain ⟨y, hy⟩ := nm (decide (cnt t 0 = some 1))
  rw [← hx] at cF
  rw [← hy] at cO
  have HF' : Hid (F = if x = true then (if y = true then 0 else 3) else 1) := by
   unfold Hid; rw [HF.out, hx, hy]; simp only [decide_eq_true_eq]
  clear HF hx hy
  have HP := hide cF
  have HQ := hide cO
  clear cF cO
  cases x <;> cases y
  all_goals
   go_enter Tryz.func102, Tryz.ntmps102
   go_wp2_with (first | (go_at_call 116; refine HP.out.mono ?_; rintro e w' ⟨rfl, rfl⟩) | (go_at_call 146; refine HQ.out.mono ?_; rintro e w' ⟨rfl, rfl⟩))
   go_ret
   exact ⟨back_v (by rw [HF'.out]; rfl), rfl⟩
theorem below_alloc1 (w : World) (o : Obj) : Bw w (w.alloc o) := (Below.refl _ _).alloc (Nat.le_refl _) _
theorem errV_no {n : Int} (h : ¬ n = 0) : errV n = .iface 91 (.int .i64 n) := by unfold errV; rw [if_neg h]
theorem ret_int {k : IntKind} {a b : Int} (h : a = b) : Ending.returned (.int k a) = .returned (.int k b) := by rw [h]
theorem all_any (u : Int) (h0 : 0 ≤ u) (h1 : u ≤ 6) (w : World) :
    Calls Tryz.prog 53 #[.int .i64 u] w (Sk w (.int .i64 (allN u))) := by
 rcases seven h0 h1 with rfl | rfl | rfl | rfl | rfl | rfl | rfl
 all_goals
  go_enter Tryz.func53, Tryz.ntmps53
  go_wp2
  go_ret
  exact ⟨rfl, rfl⟩
theorem check_ok (u s : Int) (h : okB u s = true) (w : World) :
    Calls Tryz.prog 32 #[.int .i64 u, .int .i64 s] w (Sk w .nilIface) := by
 obtain ⟨h0, h1, h2, h3⟩ := okB_iff.1 h
 clear h
 go_enter Tryz.func32, Tryz.ntmps32
 go_wp2_with (go_at_call 53; refine (all_any _ h0 h1 _).mono ?_; rintro e w' ⟨rfl, rfl⟩)
 go_ret
 exact ⟨rfl, rfl⟩
theorem check_no (u s : Int) (h : okB u s = false) (w : World) :
    Calls Tryz.prog 32 #[.int .i64 u, .int .i64 s] w (Sk w (.iface 91 (.int .i64 1))) := by
 have h' := okB_not.1 h
 clear h
 by_cases h0 : u < 0
 ·clear h'
  go_enter Tryz.func32, Tryz.ntmps32
  go_wp2_with fail
  go_ret
  exact ⟨rfl, rfl⟩
 by_cases h1 : 6 < u
 ·clear h'
  go_enter Tryz.func32, Tryz.ntmps32
  go_wp2_with fail
  go_ret
  exact ⟨rfl, rfl⟩
 by_cases h2 : s < 0
 ·clear h'
  go_enter Tryz.func32, Tryz.ntmps32
  go_wp2_with fail
  go_ret
  exact ⟨rfl, rfl⟩
 have h3 : allN u < s := by omega
 have h0' : 0 ≤ u := by omega
 have h1' : u ≤ 6 := by omega
 clear h'
 go_enter Tryz.func32, Tryz.ntmps32
 go_wp2_with (go_at_call 53; refine (all_any _ h0' h1' _).mono ?_; rintro e w' ⟨rfl, rfl⟩)
 go_ret
 exact ⟨rfl, rfl⟩
theorem ret_two {k : IntKind} {a b : Int} {v : Value} (h : a = b) : Ending.returned (.tuple #[.int k a, v]) = .returned (.tuple #[.int k b, v]) := by rw [h]
theorem do_ok (what u a b : Int) (hl : 5 ≤ what) (hm : what ≤ 8) (ha : okB u a = true) (hb : okB u b = true) (w : World) :
    Calls Tryz.prog 206 #[.int .i64 what, .int .i64 u, .int .i64 a, .int .i64 b] w (Sk w (.tuple #[.int .i64 (doN what u a b), .nilIface])) := by
 obtain ⟨u0, u1, a0, a1⟩ := okB_lt ha
 obtain ⟨_, _, b0, b1⟩ := okB_lt hb
 have hd : what = 5 ∨ what = 6 ∨ what = 7 ∨ what = 8 := by omega
 clear hl hm
 rcases hd with rfl | rfl | rfl | rfl
 ·go_enter Tryz.func206, Tryz.ntmps206
  go_wp2_with (go_at_call 32; refine (check_ok _ _ ?_ _).mono ?_; assumption; rintro e w' ⟨rfl, rfl⟩)
  go_ret2
  exact ⟨ret_two (or_bits a b a0 a1 b0 b1), rfl⟩
 ·go_enter Tryz.func206, Tryz.ntmps206
  go_wp2_with (go_at_call 32; refine (check_ok _ _ ?_ _).mono ?_; assumption; rintro e w' ⟨rfl, rfl⟩)
  go_ret2
  exact ⟨ret_two (and_bits a b a0 a1 b0 b1), rfl⟩
 ·go_enter Tryz.func206, Tryz.ntmps206
  go_wp2_with (go_at_call 32; refine (check_ok _ _ ?_ _).mono ?_; assumption; rintro e w' ⟨rfl, rfl⟩)
  go_ret2
  exact ⟨ret_two (less_bits a b a0 a1 b0 b1), rfl⟩
 ·go_enter Tryz.func206, Tryz.ntmps206
  go_wp2_with (first | (go_at_call 32; refine (check_ok _ _ ?_ _).mono ?_; assumption; rintro e w' ⟨rfl, rfl⟩) | (go_at_call 53; refine (all_any _ u0 u1 _).mono ?_; rintro e w' ⟨rfl, rfl⟩))
  go_ret2
  have hu := allN_le u0 u1
  exact ⟨ret_two (less_bits (allN u) a hu.1 (by omega) a0 a1), rfl⟩
theorem below_drewNs (w : World) : ∀ n, Bw w (w.drewN n)
 | 0 => Below.refl _ _
 | n + 1 => (below_drewNs w n).drew
theorem made_leaf_any (u a b c s : Int) (v : Value) (w : World) (h0 : 0 ≤ s) (h4 : s ≤ 4) (hw : (Wd.mk u a b c).ok = true) :
    Calls Tryz.prog 201 #[.int .i64 s, v, .agg #[.int .i64 u, .int .i64 a, .int .i64 b, .int .i64 c]] w (Bk w (.tuple #[.int .i64 ((Wd.mk u a b c).made s []), .nilIface])) := by
 have hd : s = 0 ∨ s = 1 ∨ s = 2 ∨ s = 3 ∨ s = 4 := by omega
 have z : okB u 0 = true := ok_zero (ok_u hw).1 (ok_u hw).2
 clear h0 h4 hw
 rcases hd with rfl | rfl | rfl | rfl | rfl
 ·go_enter Tryz.func201, Tryz.ntmps201
  go_wp2
  go_ret2
  exact ⟨rfl, below_alloc1 _ _⟩
 ·go_enter Tryz.func201, Tryz.ntmps201
  go_wp2
  go_ret2
  exact ⟨rfl, below_alloc1 _ _⟩
 ·go_enter Tryz.func201, Tryz.ntmps201
  go_wp2
  go_ret2
  exact ⟨rfl, below_alloc1 _ _⟩
 ·go_enter Tryz.func201, Tryz.ntmps201
  go_wp2
  go_ret2
  exact ⟨rfl, below_alloc1 _ _⟩
 ·go_enter Tryz.func201, Tryz.ntmps201
  go_wp2_with (go_at_call 206; refine (do_ok _ _ _ _ ?_ ?_ z z _).mono ?_; decide; decide; rintro e w' ⟨rfl, rfl⟩)
  go_ret2
  exact ⟨rfl, below_alloc1 _ _⟩
theorem made_one_any (u a b c s x : Int) (B off cap : Nat) (w : World) (h5 : 5 ≤ s) (h8 : s ≤ 8) (hx : okB u x = true) (hB : B < w.heap.size) (c0 : w.cell? ⟨B, off, none⟩ = some (.int .i64 x)) :
    Calls Tryz.prog 201 #[.int .i64 s, .slice (some ⟨B, off, none⟩) 1 cap, .agg #[.int .i64 u, .int .i64 a, .int .i64 b, .int .i64 c]] w (Bk w (.tuple #[.int .i64 (doN s u x x), .nilIface])) := by
 have g0 : (s == 0) = false := by simp; omega
 have g1 : (s == 1) = false := by simp; omega
 have g2 : (s == 2) = false := by simp; omega
 have g3 : (s == 3) = false := by simp; omega
 have g4 : (s == 4) = false := by simp; omega
 have HD : Hid (∀ W, Calls Tryz.prog 206 #[.int .i64 s, .int .i64 u, .int .i64 x, .int .i64 x] W fun e w' => e = .returned (.tuple #[.int .i64 (doN s u x x), .nilIface]) ∧ w' = W) := fun W => (do_ok s u x x h5 h8 hx hx W).mono fun _ _ h => (And.intro h.1 h.2.symm)
 clear hx
 have d0 : (w.alloc (.cells #[.int .i64 u, .int .i64 a, .int .i64 b, .int .i64 c] 58)).cell? ⟨B, off, none⟩ = some (.int .i64 x) := by
  rw [World.cell?_alloc_lt _ _ ⟨B, off, none⟩ hB]; exact c0
 clear c0 hB
 go_enter Tryz.func201, Tryz.ntmps201
 go_wp2_with fail
 go_quiet (first | (go_at_call 206; exact Calls.quiet_of_same (HD.out _)))
 go_wp2
 go_ret2
 exact ⟨rfl, (below_alloc1 _ _).trans ((below_drewNs _ _).mono (by simp))⟩
theorem made_two_any (u a b c s x y : Int) (B off cap : Nat) (w : World) (h5 : 5 ≤ s) (h8 : s ≤ 8) (hx : okB u x = true) (hy : okB u y = true) (hB : B < w.heap.size)
    (c0 : w.cell? ⟨B, off, none⟩ = some (.int .i64 x)) (c1 : w.cell? ⟨B, off + 1, none⟩ = some (.int .i64 y)) :
    Calls Tryz.prog 201 #[.int .i64 s, .slice (some ⟨B, off, none⟩) 2 cap, .agg #[.int .i64 u, .int .i64 a, .int .i64 b, .int .i64 c]] w (Bk w (.tuple #[.int .i64 (doN s u x y), .nilIface])) := by
 have g0 : (s == 0) = false := by simp; omega
 have g1 : (s == 1) = false := by simp; omega
 have g2 : (s == 2) = false := by simp; omega
 have g3 : (s == 3) = false := by simp; omega
 have g4 : (s == 4) = false := by simp; omega
 have HD : Hid (∀ W, Calls Tryz.prog 206 #[.int .i64 s, .int .i64 u, .int .i64 x, .int .i64 y] W fun e w' => e = .returned (.tuple #[.int .i64 (doN s u x y), .nilIface]) ∧ w' = W) := fun W => (do_ok s u x y h5 h8 hx hy W).mono fun _ _ h => (And.intro h.1 h.2.symm)
 clear hx hy
 have d0 : (w.alloc (.cells #[.int .i64 u, .int .i64 a, .int .i64 b, .int .i64 c] 58)).cell? ⟨B, off, none⟩ = some (.int .i64 x) := by
  rw [World.cell?_alloc_lt _ _ ⟨B, off, none⟩ hB]; exact c0
 have d1 : (w.alloc (.cells #[.int .i64 u, .int .i64 a, .int .i64 b, .int .i64 c] 58)).cell? ⟨B, off + 1, none⟩ = some (.int .i64 y) := by
  rw [World.cell?_alloc_lt _ _ ⟨B, off + 1, none⟩ hB]; exact c1
 clear c0 c1 hB
 go_enter Tryz.func201, Tryz.ntmps201
 go_wp2_with fail
 go_quiet (first | (go_at_call 206; exact Calls.quiet_of_same (HD.out _)))
 go_wp2
 go_ret2
 exact ⟨rfl, (below_alloc1 _ _).trans ((below_drewNs _ _).mono (by simp))⟩
theorem infoInt : (Tryz.prog.info? 3).map (fun i => (i.zero, i.size, i.bytes)) = some (some (.int .i64 0), 1, 8) := by kernel_rfl
theorem ownsRow_below {w w' : World} {base : Nat} {e : TypeId} {size : Nat} {v : Value} {n : Nat} {xs : List Value} (h : w.ownsRow base e size v n xs) (hb : Bw w w') : w'.ownsRow base e size v n xs := by
 obtain ⟨h1, h2⟩ := h
 refine ⟨h1, ?_⟩
 rcases h2 with h2 | ⟨g, cap, cur, hv, hg, hh, r⟩
 ·exact .inl h2
 ·refine .inr ⟨g, cap, cur, hv, hg, ?_, r⟩
  rw [hb.block g (Array.getElem?_eq_some_iff.1 hh).1]; exact hh
theorem ownsRow_take {w : World} {base : Nat} {e : TypeId} {g cap n r : Nat} {xs : List Value} (h : w.ownsRow base e 1 (.slice (some ⟨g, 0, none⟩) n cap) n xs) (hr : r ≤ n) : w.ownsRow base e 1 (.slice (some ⟨g, 0, none⟩) r cap) r (xs.take r) := by
 obtain ⟨h1, h2⟩ := h
 rcases h2 with ⟨h0, _⟩ | ⟨g', cap', cur, hv, hg, hh, hn, hcap, hsz, htake⟩
 ·cases h0
 ·cases hv
  refine ⟨by rw [List.length_take]; omega, .inr ⟨g, cap, cur, rfl, hg, hh, by omega, hcap, hsz, ?_⟩⟩
  rw [← htake, List.take_take]
  congr 1
  omega
theorem ownsRow_int {w : World} {base : Nat} {e : TypeId} {g cap : Nat} {p : List Int} (h : w.ownsRow base e 1 (.slice (some ⟨g, 0, none⟩) p.length cap) p.length (p.map (Value.int .i64))) {j : Nat} (hj : j < p.length) : w.cell? ⟨g, j, none⟩ = some (.int .i64 (p.getD j 0)) := by
 rw [h.cellAt j (by omega)]
 simp [List.getElem?_eq_getElem hj]
theorem ownsRow_block {w : World} {base : Nat} {e : TypeId} {size g n cap : Nat} {xs : List Value} (h : w.ownsRow base e size (.slice (some ⟨g, 0, none⟩) n cap) n xs) : base ≤ g ∧ g < w.heap.size ∧ n ≤ cap := by
 rcases h.2 with ⟨h0, _⟩ | ⟨g', cap', cur, hv, hg, hh, hn, _⟩
 ·cases h0
 ·cases hv
  exact ⟨hg, (Array.getElem?_eq_some_iff.1 hh).1, hn⟩
theorem step_leaf (w : Wd) (p : List Int) (s : Int) (h : s ≤ 4) : w.step p s = p.take p.length ++ [w.made s []] := by
 unfold Wd.step restN
 rw [takes5 s (by omega), made_leaf w s _ h]; rfl
theorem step_one (w : Wd) (p : List Int) (h : 1 ≤ p.length) : w.step p 8 = p.take (p.length - 1) ++ [doN 8 w.u (p.getD (p.length - 1) 0) (p.getD (p.length - 1) 0)] := by
 unfold Wd.step restN
 rw [takes1, made_do w 8 _ (by omega)]
 have e : (p.drop (p.length - 1)) = [p.getD (p.length - 1) 0] := by
  rw [List.drop_eq_getElem_cons (by omega), List.drop_eq_nil_of_le (by omega)]
  simp [List.getElem?_eq_getElem (show p.length - 1 < p.length by omega)]
 simp only [show (1 : Int).toNat = 1 from rfl, e]; rfl
theorem step_two (w : Wd) (p : List Int) (s : Int) (h5 : 5 ≤ s) (h7 : s ≤ 7) (h : 2 ≤ p.length) : w.step p s = p.take (p.length - 2) ++ [doN s w.u (p.getD (p.length - 2) 0) (p.getD (p.length - 2 + 1) 0)] := by
 unfold Wd.step restN
 rw [takes2 s h5 h7, made_do w s _ h5]
 have e : (p.drop (p.length - 2)) = [p.getD (p.length - 2) 0, p.getD (p.length - 2 + 1) 0] := by
  rw [List.drop_eq_getElem_cons (by omega), List.drop_eq_getElem_cons (by omega), List.drop_eq_nil_of_le (by omega)]
  simp [List.getElem?_eq_getElem (show p.length - 2 < p.length by omega), List.getElem?_eq_getElem (show p.length - 2 + 1 < p.length by omega)]
 simp only [show (2 : Int).toNat = 2 from rfl, e]; rfl
theorem work_rel {w1 wr wm w2 : World} {K : Nat} {v v' : Value} {p q : List Int} {r : Nat} {X : Int} (hK : K ≤ wr.heap.size) (hb : Below K w1 wr) (hm : Bw wr wm)
    (hown : w2.ownsRow K 3 1 v' (r + 1) (((p.take r).map (Value.int .i64)) ++ [.int .i64 X])) (hv : ∀ k, v.ownBlock = some k → K ≤ k)
    (hg : (wm.alloc (.cells #[.int .i64 X] 3)).grownBy w2 v.ownBlock) (hr : r ≤ p.length) (hq : q = p.take r ++ [X]) :
    w2.ownsRow K 3 1 v' q.length (q.map (Value.int .i64)) ∧ Below K w1 w2 ∧ K ≤ w2.heap.size := by
 have hs : wr.heap.size ≤ wm.heap.size := hm.size
 have e1 : q.length = r + 1 := by rw [hq]; simp; omega
 have e2 : q.map (Value.int .i64) = ((p.take r).map (Value.int .i64)) ++ [.int .i64 X] := by rw [hq]; simp
 have b1 : Below K w1 (wm.alloc (.cells #[.int .i64 X] 3)) := (hb.trans (hm.mono hK)).alloc (by omega) _
 have b2 : Below K w1 w2 := b1.grown hg (by simp; omega) hv
 refine ⟨by rw [e1, e2]; exact hown, b2, ?_⟩
 have := hg.size
 simp at this
 omega
end Go.Proofs.YtnoohlibgaeklaaGreatDoor
