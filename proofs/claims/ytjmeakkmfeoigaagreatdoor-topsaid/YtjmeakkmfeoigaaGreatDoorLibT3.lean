/-
  Facts and contracts that the statement leans on.
-/
import Derived.Test.YtjmeakkmfeoigaaGreatDoorLibT1
import Derived.Test.YtjmeakkmfeoigaaGreatDoorLibT2
namespace Go.Proofs.YtjmeakkmfeoigaaGreatDoor
open Go.RowKit
def takesN (s : Int) : Int := if s = 5 ∨ s = 6 ∨ s = 7 then 2 else if s = 8 then 1 else 0
def signB (s : Int) : Bool := decide (0 ≤ s ∧ s ≤ 8)
def cnt : List Int → Int → Option Int
 | [], n => some n
 | s :: l, n => if n < takesN s then none else cnt l (n + 1 - takesN s)
def faultN (t : List Int) : Int := if t.length = 0 then 5 else if 12 < t.length then 4 else if t.all signB = true then (if cnt t 0 = some 1 then 0 else 3) else 1
theorem signB_iff {s : Int} : signB s = true ↔ 0 ≤ s ∧ s ≤ 8 := by simp [signB]
theorem takesN_range (s : Int) : 0 ≤ takesN s ∧ takesN s ≤ 2 := by unfold takesN; split <;> (try split) <;> omega
theorem takes5 (s : Int) (h : s < 5) : takesN s = 0 := by unfold takesN; rw [if_neg (by omega), if_neg (by omega)]
theorem takes2 (s : Int) (h : 5 ≤ s) (h' : s ≤ 7) : takesN s = 2 := by unfold takesN; rw [if_pos (by omega)]
theorem takes1 : takesN 8 = 1 := by decide
theorem cnt_append (a b : List Int) (n : Int) : cnt (a ++ b) n = (cnt a n).bind (cnt b) := by
 induction a generalizing n with
 | nil => rfl
 | cons s l ih =>
  simp only [List.cons_append, cnt]
  split
  ·rfl
  ·exact ih _
theorem cnt_nonneg {l : List Int} {n m : Int} (hn : 0 ≤ n) (h : cnt l n = some m) : 0 ≤ m ∧ m ≤ n + l.length := by
 induction l generalizing n with
 | nil => simp [cnt] at h; subst h; simp; omega
 | cons s l ih =>
  have := takesN_range s
  unfold cnt at h
  split at h
  ·cases h
  ·have := ih (by omega) h
   simp; omega
theorem take_succ_getD (t : List Int) {k : Nat} (h : k < t.length) : t.take (k + 1) = t.take k ++ [t.getD k 0] := by
 rw [List.take_add_one]; simp [List.getElem?_eq_getElem h]
theorem cnt_take_succ (t : List Int) {k : Nat} (h : k < t.length) {m : Int} (hm : cnt (t.take k) 0 = some m) : cnt (t.take (k + 1)) 0 = if m < takesN (t.getD k 0) then none else some (m + 1 - takesN (t.getD k 0)) := by
 rw [take_succ_getD t h, cnt_append, hm]; rfl
theorem cnt_take_none (t : List Int) (k : Nat) (h : cnt (t.take k) 0 = none) : cnt t 0 = none := by
 have : cnt (t.take k ++ t.drop k) 0 = none := by rw [cnt_append, h]; rfl
 rwa [List.take_append_drop] at this
theorem cnt_take_some (t : List Int) (k : Nat) {n : Int} (h : cnt t 0 = some n) : ∃ m, cnt (t.take k) 0 = some m := by
 cases hc : cnt (t.take k) 0 with
 | none => rw [cnt_take_none t k hc] at h; cases h
 | some m => exact ⟨m, rfl⟩
structure Wd where
 u : Int
 a : Int
 b : Int
 c : Int
def Wd.ok (w : Wd) : Bool := okB w.u w.a && okB w.u w.b && okB w.u w.c
def Wd.name (w : Wd) (s : Int) : Int := if s = 0 then w.a else if s = 1 then w.b else w.c
def Wd.made (w : Wd) (s : Int) (l : List Int) : Int := if s < 3 then w.name s else if s = 3 then 0 else if s = 4 then doN 8 w.u 0 0 else doN s w.u (l.getD 0 0) (l.getD (l.length - 1) 0)
def restN (p : List Int) (s : Int) : Nat := p.length - (takesN s).toNat
def Wd.step (w : Wd) (p : List Int) (s : Int) : List Int := p.take (restN p s) ++ [w.made s (p.drop (restN p s))]
def Wd.pile (w : Wd) (t p : List Int) : List Int := t.foldl w.step p
theorem pile_append (w : Wd) (a b p : List Int) : w.pile (a ++ b) p = w.pile b (w.pile a p) := by simp [Wd.pile, List.foldl_append]
theorem pile_succ (w : Wd) (t p : List Int) {k : Nat} (h : k < t.length) : w.pile (t.take (k + 1)) p = w.step (w.pile (t.take k) p) (t.getD k 0) := by
 rw [take_succ_getD t h, pile_append]; rfl
theorem step_length (w : Wd) (p : List Int) (s : Int) (h : takesN s ≤ p.length) : ((w.step p s).length : Int) = p.length + 1 - takesN s := by
 have := takesN_range s
 simp [Wd.step, restN]
 omega
theorem pile_length (w : Wd) (t p : List Int) {n : Int} (h : cnt t p.length = some n) : ((w.pile t p).length : Int) = n := by
 induction t generalizing p with
 | nil => simp [cnt] at h; simpa [Wd.pile] using h
 | cons s l ih =>
  unfold cnt at h
  split at h
  ·cases h
  ·rename_i hs
   have e := step_length w p s (by omega)
   exact ih (w.step p s) (by rw [e]; exact h)
theorem Wd.ok_iff {w : Wd} : w.ok = true ↔ okB w.u w.a = true ∧ okB w.u w.b = true ∧ okB w.u w.c = true := by simp [Wd.ok, and_assoc]
theorem ok_name {w : Wd} (h : w.ok = true) (s : Int) : okB w.u (w.name s) = true := by
 obtain ⟨h1, h2, h3⟩ := Wd.ok_iff.1 h
 unfold Wd.name
 split
 ·exact h1
 split
 ·exact h2
 exact h3
theorem ok_u {w : Wd} (h : w.ok = true) : 0 ≤ w.u ∧ w.u ≤ 6 := by
 obtain ⟨h1, h2, _⟩ := okB_iff.1 (Wd.ok_iff.1 h).1
 exact ⟨h1, h2⟩
theorem ok_getD {w : Wd} (h : w.ok = true) {p : List Int} (hp : ∀ x ∈ p, okB w.u x = true) (k : Nat) : okB w.u (p.getD k 0) = true := by
 rcases Nat.lt_or_ge k p.length with hk | hk
 ·rw [List.getD_eq_getElem?_getD, List.getElem?_eq_getElem hk]; exact hp _ (List.getElem_mem hk)
 ·rw [List.getD_eq_getElem?_getD, List.getElem?_eq_none hk]; exact ok_zero (ok_u h).1 (ok_u h).2
theorem ok_made {w : Wd} (h : w.ok = true) {p : List Int} (hp : ∀ x ∈ p, okB w.u x = true) (s : Int) : okB w.u (w.made s p) = true := by
 have z := ok_zero (ok_u h).1 (ok_u h).2
 unfold Wd.made
 split
 ·exact ok_name h s
 split
 ·exact z
 split
 ·exact ok_do z z
 exact ok_do (ok_getD h hp _) (ok_getD h hp _)
theorem ok_step {w : Wd} (h : w.ok = true) {p : List Int} (hp : ∀ x ∈ p, okB w.u x = true) (s : Int) : ∀ x ∈ w.step p s, okB w.u x = true := by
 intro x hx
 unfold Wd.step at hx
 rcases List.mem_append.1 hx with hx | hx
 ·exact hp x (List.mem_of_mem_take hx)
 ·rw [List.mem_singleton.1 hx]
  exact ok_made h (fun y hy => hp y (List.mem_of_mem_drop hy)) s
theorem ok_pile {w : Wd} (h : w.ok = true) (t : List Int) {p : List Int} (hp : ∀ x ∈ p, okB w.u x = true) : ∀ x ∈ w.pile t p, okB w.u x = true := by
 induction t generalizing p with
 | nil => exact hp
 | cons s l ih => exact ih (p := w.step p s) (ok_step h hp s)
def Wd.val (w : Wd) (t : List Int) : Int := (w.pile t []).getD 0 0
theorem ok_val {w : Wd} (h : w.ok = true) (t : List Int) : okB w.u (w.val t) = true := ok_getD h (ok_pile h t (p := []) (by intro x hx; cases hx)) 0
def isTm : Nat → List Int → Prop
 | 0, _ => False
 | n + 1, q => (∃ s : Int, 0 ≤ s ∧ s ≤ 4 ∧ q = [s]) ∨ (∃ t, isTm n t ∧ q = t ++ [8]) ∨ (∃ (s : Int) (a b : List Int), 5 ≤ s ∧ s ≤ 7 ∧ isTm n a ∧ isTm n b ∧ q = a ++ (b ++ [s]))
theorem isTm_mono {n : Nat} : ∀ {m : Nat} {q : List Int}, n ≤ m → isTm n q → isTm m q := by
 induction n with
 | zero => intro m q _ h; exact h.elim
 | succ n ih =>
  intro m q hm h
  obtain ⟨k, rfl⟩ : ∃ k, m = k + 1 := ⟨m - 1, by omega⟩
  rcases h with ⟨s, h0, h4, e⟩ | ⟨t, ht, e⟩ | ⟨s, a, b, h5, h7, ha, hb, e⟩
  ·exact Or.inl ⟨s, h0, h4, e⟩
  ·exact Or.inr (Or.inl ⟨t, ih (by omega) ht, e⟩)
  ·exact Or.inr (Or.inr ⟨s, a, b, h5, h7, ih (by omega) ha, ih (by omega) hb, e⟩)
theorem made_leaf (w : Wd) (s : Int) (l : List Int) (h : s ≤ 4) : w.made s l = w.made s [] := by
 unfold Wd.made
 by_cases h3 : s < 3
 ·rw [if_pos h3, if_pos h3]
 rw [if_neg h3, if_neg h3]
 by_cases h4 : s = 3
 ·rw [if_pos h4, if_pos h4]
 rw [if_neg h4, if_neg h4, if_pos (by omega), if_pos (by omega)]
theorem made_do (w : Wd) (s : Int) (l : List Int) (h : 5 ≤ s) : w.made s l = doN s w.u (l.getD 0 0) (l.getD (l.length - 1) 0) := by
 unfold Wd.made
 rw [if_neg (by omega), if_neg (by omega), if_neg (by omega)]
theorem pile_one (w : Wd) (s : Int) (hs : s ≤ 4) (p : List Int) : w.pile [s] p = p ++ [w.made s []] := by
 show w.step p s = _
 unfold Wd.step restN
 rw [takes5 s (by omega)]
 simp
theorem pile_opp (w : Wd) (t : List Int) (v : Int) (h : ∀ p, w.pile t p = p ++ [v]) (p : List Int) : w.pile (t ++ [8]) p = p ++ [doN 8 w.u v v] := by
 rw [pile_append, h]
 show w.step _ 8 = _
 unfold Wd.step restN
 rw [takes1, made_do _ _ _ (by omega)]
 simp
theorem pile_bin (w : Wd) (s : Int) (h5 : 5 ≤ s) (h7 : s ≤ 7) (a b : List Int) (x y : Int) (ha : ∀ p, w.pile a p = p ++ [x]) (hb : ∀ p, w.pile b p = p ++ [y]) (p : List Int) : w.pile (a ++ (b ++ [s])) p = p ++ [doN s w.u x y] := by
 rw [pile_append, ha, pile_append, hb]
 show w.step _ s = _
 unfold Wd.step restN
 rw [takes2 s h5 h7, made_do _ _ _ h5]
 simp
theorem val_of_pile {w : Wd} {q : List Int} {v : Int} (h : ∀ p, w.pile q p = p ++ [v]) : w.val q = v := by
 unfold Wd.val; rw [h]; rfl
theorem pile_tm (w : Wd) (n : Nat) : ∀ q, isTm n q → ∀ p, w.pile q p = p ++ [w.val q] := by
 induction n with
 | zero => intro q h; exact h.elim
 | succ n ih =>
  intro q h
  rcases h with ⟨s, h0, h4, rfl⟩ | ⟨t, ht, rfl⟩ | ⟨s, a, b, h5, h7, ha, hb, rfl⟩
  ·have := pile_one w s h4
   rw [val_of_pile this]; exact this
  ·have := pile_opp w t _ (ih t ht)
   rw [val_of_pile this]; exact this
  ·have := pile_bin w s h5 h7 a b _ _ (ih a ha) (ih b hb)
   rw [val_of_pile this]; exact this
theorem val_leaf (w : Wd) (s : Int) (h : s ≤ 4) : w.val [s] = w.made s [] := val_of_pile (pile_one w s h)
theorem val_opp (w : Wd) {n : Nat} {t : List Int} (h : isTm n t) : w.val (t ++ [8]) = doN 8 w.u (w.val t) (w.val t) := val_of_pile (pile_opp w t _ (pile_tm w n t h))
theorem val_bin (w : Wd) {n m : Nat} {s : Int} (h5 : 5 ≤ s) (h7 : s ≤ 7) {a b : List Int} (ha : isTm n a) (hb : isTm m b) : w.val (a ++ (b ++ [s])) = doN s w.u (w.val a) (w.val b) := val_of_pile (pile_bin w s h5 h7 a b _ _ (pile_tm w n a ha) (pile_tm w m b hb))
theorem trees (t : List Int) (ht : ∀ s ∈ t, 0 ≤ s ∧ s ≤ 8) (ts : List (List Int)) (hts : ∀ q ∈ ts, ∃ n, isTm n q) {n : Int} (h : cnt t ts.length = some n) :
    ∃ ts' : List (List Int), (ts'.length : Int) = n ∧ (∀ q ∈ ts', ∃ n, isTm n q) ∧ ts'.flatten = ts.flatten ++ t := by
 induction t generalizing ts with
 | nil => simp [cnt] at h; exact ⟨ts, h, hts, by simp⟩
 | cons s l ih =>
  have hs := ht s (by simp)
  have hl : ∀ x ∈ l, 0 ≤ x ∧ x ≤ 8 := fun x hx => ht x (by simp [hx])
  unfold cnt at h
  split at h
  ·cases h
  ·rename_i hn
   by_cases h5 : s < 5
   ·rw [takes5 s h5] at h
    obtain ⟨ts', h1, h2, h3⟩ := ih hl (ts ++ [[s]]) (by
     intro q hq
     rcases List.mem_append.1 hq with hq | hq
     ·exact hts q hq
     ·rw [List.mem_singleton.1 hq]; exact ⟨1, Or.inl ⟨s, hs.1, by omega, rfl⟩⟩) (by rw [← h]; simp)
    exact ⟨ts', h1, h2, by rw [h3]; simp⟩
   by_cases h8 : s = 8
   ·subst h8
    rw [takes1] at h hn
    obtain ⟨ts0, a, rfl⟩ : ∃ ts0 a, ts = ts0 ++ [a] := by
     rcases List.eq_nil_or_concat ts with rfl | ⟨x, y, rfl⟩
     ·simp at hn
     ·exact ⟨x, y, by simp⟩
    obtain ⟨ts', h1, h2, h3⟩ := ih hl (ts0 ++ [a ++ [8]]) (by
     intro q hq
     rcases List.mem_append.1 hq with hq | hq
     ·exact hts q (by simp [hq])
     ·rw [List.mem_singleton.1 hq]
      obtain ⟨k, hk⟩ := hts a (by simp)
      exact ⟨k + 1, Or.inr (Or.inl ⟨a, hk, rfl⟩)⟩) (by rw [← h]; simp)
    exact ⟨ts', h1, h2, by rw [h3]; simp⟩
   ·rw [takes2 s (by omega) (by omega)] at h hn
    obtain ⟨ts0, a, b, rfl⟩ : ∃ ts0 a b, ts = ts0 ++ [a, b] := by
     rcases List.eq_nil_or_concat ts with rfl | ⟨x, y, rfl⟩
     ·simp at hn
     ·rcases List.eq_nil_or_concat x with rfl | ⟨x', z, rfl⟩
      ·simp at hn
      ·exact ⟨x', z, y, by simp⟩
    obtain ⟨ts', h1, h2, h3⟩ := ih hl (ts0 ++ [a ++ (b ++ [s])]) (by
     intro q hq
     rcases List.mem_append.1 hq with hq | hq
     ·exact hts q (by simp [hq])
     ·rw [List.mem_singleton.1 hq]
      obtain ⟨k, hk⟩ := hts a (by simp)
      obtain ⟨j, hj⟩ := hts b (by simp)
      exact ⟨k + j + 1, Or.inr (Or.inr ⟨s, a, b, by omega, by omega, isTm_mono (by omega) hk, isTm_mono (by omega) hj, rfl⟩)⟩) (by rw [← h]; simp; congr 1; omega)
    exact ⟨ts', h1, h2, by rw [h3]; simp⟩
theorem tree (t : List Int) (hs : t.all signB = true) (h : cnt t 0 = some 1) : ∃ n, isTm n t := by
 obtain ⟨ts, h1, h2, h3⟩ := trees t (fun s hm => signB_iff.1 (List.all_eq_true.1 hs s hm)) [] (by intro q hq; cases hq) h
 match ts, h1 with
 | [q], _ =>
  have e : q = t := by simpa using h3
  rw [← e]; exact h2 q (by simp)
 | [], h1 => simp at h1
 | _ :: _ :: _, h1 => simp at h1; omega
theorem fault_zero {t : List Int} : faultN t = 0 ↔ t.length ≠ 0 ∧ t.length ≤ 12 ∧ t.all signB = true ∧ cnt t 0 = some 1 := by
 unfold faultN
 by_cases h1 : t.length = 0
 ·rw [if_pos h1]; exact ⟨fun h => by omega, fun h => absurd h1 h.1⟩
 rw [if_neg h1]
 by_cases h2 : 12 < t.length
 ·rw [if_pos h2]; exact ⟨fun h => by omega, fun h => by omega⟩
 rw [if_neg h2]
 by_cases h3 : t.all signB = true
 ·rw [if_pos h3]
  by_cases h4 : cnt t 0 = some 1
  ·rw [if_pos h4]; exact ⟨fun _ => ⟨h1, by omega, h3, h4⟩, fun _ => rfl⟩
  ·rw [if_neg h4]; exact ⟨fun h => by omega, fun h => absurd h.2.2.2 h4⟩
 ·rw [if_neg h3]; exact ⟨fun h => by omega, fun h => absurd h.2.2.1 h3⟩
end Go.Proofs.YtjmeakkmfeoigaaGreatDoor
namespace Go.Proofs.YtjmeakkmfeoigaaGreatDoor
open Go.RowKit
theorem has_do {what u a b : Int} (hl : 5 ≤ what) (hm : what ≤ 8) (ha : okB u a = true) (hb : okB u b = true) (i : Nat) (hi : (i : Int) < u) : hasB (doN what u a b) i = inB what (hasB a i) (hasB b i) := by
 have hd : what = 5 ∨ what = 6 ∨ what = 7 ∨ what = 8 := by omega
 have hj : i < u.toNat := by omega
 rcases hd with rfl | rfl | rfl | rfl
 ·exact uptoSets (P := fun u a b => ∀ i < u.toNat, hasB (doN 5 u a b) i = inB 5 (hasB a i) (hasB b i)) (by decide +kernel) u a b ha hb i hj
 ·exact uptoSets (P := fun u a b => ∀ i < u.toNat, hasB (doN 6 u a b) i = inB 6 (hasB a i) (hasB b i)) (by decide +kernel) u a b ha hb i hj
 ·exact uptoSets (P := fun u a b => ∀ i < u.toNat, hasB (doN 7 u a b) i = inB 7 (hasB a i) (hasB b i)) (by decide +kernel) u a b ha hb i hj
 ·exact uptoSets (P := fun u a b => ∀ i < u.toNat, hasB (doN 8 u a b) i = inB 8 (hasB a i) (hasB b i)) (by decide +kernel) u a b ha hb i hj
theorem has_none (i : Nat) : hasB 0 i = false := by simp [hasB]
theorem has_opp {w : Wd} (h : w.ok = true) {n : Nat} {t : List Int} (ht : isTm n t) (i : Nat) (hi : (i : Int) < w.u) : hasB (w.val (t ++ [8])) i = !hasB (w.val t) i := by
 rw [val_opp w ht]
 exact has_do (by omega) (by omega) (ok_val h t) (ok_val h t) i hi
theorem has_two {w : Wd} (h : w.ok = true) {s : Int} (h5 : 5 ≤ s) (h7 : s ≤ 7) {n m : Nat} {a b : List Int} (ha : isTm n a) (hb : isTm m b) (i : Nat) (hi : (i : Int) < w.u) : hasB (w.val (a ++ (b ++ [s]))) i = inB s (hasB (w.val a) i) (hasB (w.val b) i) := by
 rw [val_bin w h5 h7 ha hb]
 exact has_do (by omega) (by omega) (ok_val h a) (ok_val h b) i hi
theorem has_leaf {w : Wd} (h : w.ok = true) (s : Int) (h0 : 0 ≤ s) (h4 : s ≤ 4) (i : Nat) (hi : (i : Int) < w.u) : hasB (w.val [s]) i = if s < 3 then hasB (w.name s) i else s == 4 := by
 have z := ok_zero (ok_u h).1 (ok_u h).2
 rw [val_leaf w s h4]
 unfold Wd.made
 by_cases h3 : s < 3
 ·rw [if_pos h3, if_pos h3]
 rw [if_neg h3, if_neg h3]
 by_cases h3' : s = 3
 ·subst h3'; rw [if_pos rfl]; exact has_none i
 obtain rfl : s = 4 := by omega
 rw [if_neg h3', if_pos rfl, has_do (by omega) (by omega) z z i hi, has_none]; rfl
def sumTo (v : Int) : Nat → Int
 | 0 => 0
 | k + 1 => sumTo v k + if hasB v k = true then pw k else 0
def letterL : List UInt8 := [65, 66, 67, 48, 49, 43, 42, 45, 126]
def letterB : ByteArray := ⟨#[65, 66, 67, 48, 49, 43, 42, 45, 126]⟩
def signOf (b : UInt8) : Int := if b = 65 then 0 else if b = 66 then 1 else if b = 67 then 2 else if b = 48 then 3 else if b = 49 then 4 else if b = 43 then 5 else if b = 42 then 6 else if b = 45 then 7 else if b = 126 then 8 else -1
def byteOf (s : Int) : UInt8 := if s = 0 then 65 else if s = 1 then 66 else if s = 2 then 67 else if s = 3 then 48 else if s = 4 then 49 else if s = 5 then 43 else if s = 6 then 42 else if s = 7 then 45 else 126
theorem nine {s : Int} (h : signB s = true) : s = 0 ∨ s = 1 ∨ s = 2 ∨ s = 3 ∨ s = 4 ∨ s = 5 ∨ s = 6 ∨ s = 7 ∨ s = 8 := by
 have := signB_iff.1 h; omega
theorem sign_byte {s : Int} (h : signB s = true) : signOf (byteOf s) = s := by
 rcases nine h with rfl | rfl | rfl | rfl | rfl | rfl | rfl | rfl | rfl <;> decide
theorem byte_all : ∀ b : UInt8, (signOf b = -1 ∨ (signB (signOf b) = true ∧ byteOf (signOf b) = b)) := by
 intro b
 have h : ∀ n : Fin 256, (signOf ⟨⟨n⟩⟩ = -1 ∨ (signB (signOf ⟨⟨n⟩⟩) = true ∧ byteOf (signOf ⟨⟨n⟩⟩) = ⟨⟨n⟩⟩)) := by decide +kernel
 exact h b.toBitVec.toFin
theorem byte_sign {b : UInt8} (h : signOf b ≠ -1) : signB (signOf b) = true ∧ byteOf (signOf b) = b := (byte_all b).resolve_left h
def textN (t : List Int) : List UInt8 := t.map byteOf
def readN (l : List UInt8) : List Int := l.map signOf
def lettersB (l : List UInt8) : Bool := l.all fun b => signOf b != -1
def textFault (l : List UInt8) : Int := if lettersB l = true then faultN (readN l) else 2
theorem read_text {t : List Int} (h : t.all signB = true) : readN (textN t) = t := by
 induction t with
 | nil => rfl
 | cons s l ih =>
  simp only [List.all_cons, Bool.and_eq_true] at h
  simp only [textN, readN, List.map_cons, sign_byte h.1]
  exact congrArg _ (ih h.2)
theorem letters_text {t : List Int} (h : t.all signB = true) : lettersB (textN t) = true := by
 induction t with
 | nil => rfl
 | cons s l ih =>
  simp only [List.all_cons, Bool.and_eq_true] at h
  have := signB_iff.1 h.1
  simp only [lettersB, textN, List.map_cons, List.all_cons, sign_byte h.1, Bool.and_eq_true, bne_iff_ne, ne_eq]
  exact ⟨by omega, ih h.2⟩
end Go.Proofs.YtjmeakkmfeoigaaGreatDoor
namespace Go.Proofs.YtjmeakkmfeoigaaGreatDoor
open Go.RowKit
def oneB (x : Bool) : Int := if x = true then 1 else 0
def bitB (f k : Nat) : Bool := decide (f / 2 ^ k % 2 = 1)
def Wd.field (w : Wd) (i : Nat) : Nat := (hasB w.a i).toNat + 2 * (hasB w.b i).toNat + 4 * (hasB w.c i).toNat
theorem field_lt (w : Wd) (i : Nat) : w.field i < 8 := by
 unfold Wd.field
 cases hasB w.a i <;> cases hasB w.b i <;> cases hasB w.c i <;> decide
theorem eight {f : Nat} (h : f < 8) : f = 0 ∨ f = 1 ∨ f = 2 ∨ f = 3 ∨ f = 4 ∨ f = 5 ∨ f = 6 ∨ f = 7 := by omega
theorem field_bit (w : Wd) (i : Nat) : bitB (w.field i) 0 = hasB w.a i ∧ bitB (w.field i) 1 = hasB w.b i ∧ bitB (w.field i) 2 = hasB w.c i := by
 unfold Wd.field
 cases hasB w.a i <;> cases hasB w.b i <;> cases hasB w.c i <;> decide
theorem bit_field {f : Nat} (h : f < 8) : (bitB f 0).toNat + 2 * (bitB f 1).toNat + 4 * (bitB f 2).toNat = f := by
 rcases eight h with rfl | rfl | rfl | rfl | rfl | rfl | rfl | rfl <;> decide
def Wd.fc (w : Wd) : Nat → Nat → Int
 | 0, _ => 0
 | k + 1, f => w.fc k f + if w.field k = f then 1 else 0
theorem fc_le (w : Wd) (k f : Nat) : 0 ≤ w.fc k f ∧ w.fc k f ≤ k := by
 induction k with
 | zero => exact ⟨Int.le_refl _, Int.le_refl _⟩
 | succ k ih => unfold Wd.fc; split <;> omega
def sumN (N : Nat → Int) : Nat → Int
 | 0 => 0
 | k + 1 => sumN N k + N k
def sumIn (L : Nat → Bool) (N : Nat → Int) : Nat → Int
 | 0 => 0
 | k + 1 => sumIn L N k + if L k = true then N k else 0
def eachB (N : Nat → Int) : Nat → Bool
 | 0 => true
 | k + 1 => eachB N k && decide (0 ≤ N k ∧ N k ≤ 6)
def countsFault (N : Nat → Int) : Int := if eachB N 8 = true then (if sumN N 8 ≤ 6 then 0 else 4) else 1
theorem eachB_iff {N : Nat → Int} {k : Nat} : eachB N k = true ↔ ∀ f, f < k → 0 ≤ N f ∧ N f ≤ 6 := by
 induction k with
 | zero => exact ⟨fun _ f hf => by omega, fun _ => rfl⟩
 | succ k ih =>
  unfold eachB
  rw [Bool.and_eq_true, ih, decide_eq_true_iff]
  refine ⟨fun h f hf => ?_, fun h => ⟨fun f hf => h f (by omega), h k (by omega)⟩⟩
  rcases Nat.lt_or_ge f k with h' | h'
  ·exact h.1 f h'
  ·obtain rfl : f = k := by omega
   exact h.2
theorem eachB_no {N : Nat → Int} {k : Nat} (hk : k < 8) (h : ¬ (0 ≤ N k ∧ N k ≤ 6)) : eachB N 8 = false := by
 rcases (Bool.eq_false_or_eq_true (eachB N 8)).symm with e | e
 ·exact e
 ·exact absurd (eachB_iff.1 e k hk) h
theorem sumN_le {N : Nat → Int} {k : Nat} (h : ∀ f, f < k → 0 ≤ N f ∧ N f ≤ 6) : 0 ≤ sumN N k ∧ sumN N k ≤ 6 * k := by
 induction k with
 | zero => exact ⟨Int.le_refl _, Int.le_refl _⟩
 | succ k ih =>
  have := ih fun f hf => h f (by omega)
  have := h k (by omega)
  unfold sumN; omega
theorem sumN_mono {N : Nat → Int} {k l : Nat} (hkl : k ≤ l) (h : ∀ f, f < l → 0 ≤ N f ∧ N f ≤ 6) : sumN N k ≤ sumN N l := by
 induction l with
 | zero => obtain rfl : k = 0 := by omega
           exact Int.le_refl _
 | succ l ih =>
  rcases Nat.lt_or_ge l k with h' | h'
  ·obtain rfl : k = l + 1 := by omega
   exact Int.le_refl _
  ·have := ih h' fun f hf => h f (by omega)
   have := h l (by omega)
   have e : sumN N (l + 1) = sumN N l + N l := rfl
   rw [e]; omega
theorem counts_zero {N : Nat → Int} : countsFault N = 0 ↔ (∀ f, f < 8 → 0 ≤ N f ∧ N f ≤ 6) ∧ sumN N 8 ≤ 6 := by
 unfold countsFault
 by_cases h : eachB N 8 = true
 ·rw [if_pos h]
  by_cases h' : sumN N 8 ≤ 6
  ·rw [if_pos h']; exact ⟨fun _ => ⟨eachB_iff.1 h, h'⟩, fun _ => rfl⟩
  ·rw [if_neg h']; exact ⟨fun e => (by cases e), fun e => absurd e.2 h'⟩
 ·rw [if_neg h]; exact ⟨fun e => (by cases e), fun e => absurd (eachB_iff.2 e.1) h⟩
def Wd.more (w : Wd) (f : Nat) : Wd := ⟨w.u + 1, w.a + oneB (bitB f 0) * pw w.u.toNat, w.b + oneB (bitB f 1) * pw w.u.toNat, w.c + oneB (bitB f 2) * pw w.u.toNat⟩
def Wd.mores (w : Wd) (f : Nat) : Nat → Wd
 | 0 => w
 | j + 1 => (w.mores f j).more f
def madeN (N : Nat → Int) : Nat → Wd
 | 0 => ⟨0, 0, 0, 0⟩
 | k + 1 => (madeN N k).mores k (N k).toNat
theorem ok_more1 {u a : Int} (h : okB u a = true) (h5 : u ≤ 5) (x : Bool) : okB (u + 1) (a + oneB x * pw u.toNat) = true := by
 have e : ∀ x, okB u a = true → u ≤ 5 → okB (u + 1) (a + oneB x * pw u.toNat) = true := fun x h h5 =>
  uptoSets (P := fun u a _ => u ≤ 5 → ∀ x, okB (u + 1) (a + oneB x * pw u.toNat) = true) (by decide +kernel) u a a h h h5 x
 exact e x h h5
theorem has_more1 {u a : Int} (h : okB u a = true) (h5 : u ≤ 5) (x : Bool) : (∀ i : Nat, i < u.toNat → hasB (a + oneB x * pw u.toNat) i = hasB a i) ∧ hasB (a + oneB x * pw u.toNat) u.toNat = x :=
 uptoSets (P := fun u a _ => u ≤ 5 → ∀ x, (∀ i : Nat, i < u.toNat → hasB (a + oneB x * pw u.toNat) i = hasB a i) ∧ hasB (a + oneB x * pw u.toNat) u.toNat = x) (by decide +kernel) u a a h h h5 x
theorem more_u (w : Wd) (f : Nat) : (w.more f).u = w.u + 1 := rfl
theorem more_ok {w : Wd} (h : w.ok = true) (h5 : w.u ≤ 5) (f : Nat) : (w.more f).ok = true := by
 obtain ⟨h1, h2, h3⟩ := Wd.ok_iff.1 h
 exact Wd.ok_iff.2 ⟨ok_more1 h1 h5 _, ok_more1 h2 h5 _, ok_more1 h3 h5 _⟩
theorem field_more {w : Wd} (h : w.ok = true) (h5 : w.u ≤ 5) {f : Nat} (hf : f < 8) : (∀ i : Nat, i < w.u.toNat → (w.more f).field i = w.field i) ∧ (w.more f).field w.u.toNat = f := by
 obtain ⟨h1, h2, h3⟩ := Wd.ok_iff.1 h
 refine ⟨fun i hi => ?_, ?_⟩
 ·unfold Wd.field Wd.more
  simp only
  rw [(has_more1 h1 h5 _).1 i hi, (has_more1 h2 h5 _).1 i hi, (has_more1 h3 h5 _).1 i hi]
 ·unfold Wd.field Wd.more
  simp only
  rw [(has_more1 h1 h5 _).2, (has_more1 h2 h5 _).2, (has_more1 h3 h5 _).2]
  exact bit_field hf
theorem fc_same {w w' : Wd} {k : Nat} (h : ∀ i, i < k → w'.field i = w.field i) (g : Nat) : w'.fc k g = w.fc k g := by
 induction k with
 | zero => rfl
 | succ k ih =>
  unfold Wd.fc
  rw [ih fun i hi => h i (by omega), h k (by omega)]
theorem fc_more {w : Wd} (h : w.ok = true) (h5 : w.u ≤ 5) {f : Nat} (hf : f < 8) (g : Nat) : (w.more f).fc (w.u.toNat + 1) g = w.fc w.u.toNat g + if f = g then 1 else 0 := by
 obtain ⟨e1, e2⟩ := field_more h h5 hf
 show (w.more f).fc w.u.toNat g + _ = _
 rw [fc_same e1, e2]
theorem mores_u (w : Wd) (f : Nat) (j : Nat) : (w.mores f j).u = w.u + j := by
 induction j with
 | zero => simp [Wd.mores]
 | succ j ih => unfold Wd.mores; rw [more_u, ih]; push_cast; omega
theorem mores_ok {w : Wd} (h : w.ok = true) (f : Nat) {j : Nat} (hj : w.u + j ≤ 6) : (w.mores f j).ok = true := by
 induction j with
 | zero => exact h
 | succ j ih =>
  have := mores_u w f j
  exact more_ok (ih (by push_cast at hj; omega)) (by push_cast at hj; omega) f
theorem fc_mores {w : Wd} (h : w.ok = true) {f : Nat} (hf : f < 8) {j : Nat} (hj : w.u + j ≤ 6) (g : Nat) : (w.mores f j).fc (w.u.toNat + j) g = w.fc w.u.toNat g + if f = g then (j : Int) else 0 := by
 induction j with
 | zero => show w.fc _ g = _; split <;> simp
 | succ j ih =>
  have hu := (ok_u h).1
  have e := mores_u w f j
  push_cast at hj
  have e' : (w.mores f j).u.toNat = w.u.toNat + j := by omega
  have := fc_more (mores_ok h f (j := j) (by omega)) (by omega) hf g
  rw [e', ih (by omega)] at this
  rw [show w.u.toNat + (j + 1) = w.u.toNat + j + 1 by omega]
  show ((w.mores f j).more f).fc _ g = _
  rw [this]
  split
  ·push_cast; omega
  ·omega
theorem made_all {N : Nat → Int} (h : ∀ f, f < 8 → 0 ≤ N f ∧ N f ≤ 6) (hs : sumN N 8 ≤ 6) {k : Nat} (hk : k ≤ 8) :
    (madeN N k).ok = true ∧ (madeN N k).u = sumN N k ∧ ∀ g, (madeN N k).fc (sumN N k).toNat g = if g < k then N g else 0 := by
 induction k with
 | zero => exact ⟨show (⟨0, 0, 0, 0⟩ : Wd).ok = true by decide, rfl, fun g => by simp [sumN, Wd.fc]⟩
 | succ k ih =>
  obtain ⟨i1, i2, i3⟩ := ih (by omega)
  have hN := h k (by omega)
  have hm := sumN_mono (N := N) hk h
  have h0 := (sumN_le (N := N) (k := k) fun f hf => h f (by omega)).1
  have es : sumN N (k + 1) = sumN N k + N k := rfl
  have ht : ((N k).toNat : Int) = N k := by omega
  refine ⟨mores_ok i1 k (by rw [i2]; omega), ?_, fun g => ?_⟩
  ·show ((madeN N k).mores k (N k).toNat).u = _
   rw [mores_u, i2, es, ht]
  ·have := fc_mores i1 (f := k) (by omega) (j := (N k).toNat) (by rw [i2]; omega) g
   rw [i2, i3, ht] at this
   rw [es, show (sumN N k + N k).toNat = (sumN N k).toNat + (N k).toNat by omega]
   show ((madeN N k).mores k (N k).toNat).fc _ g = _
   rw [this]
   by_cases e : k = g
   ·subst e; rw [if_neg (by omega), if_pos rfl, if_pos (by omega)]; omega
   ·rw [if_neg e]
    by_cases e' : g < k
    ·rw [if_pos e', if_pos (by omega)]; omega
    ·rw [if_neg e', if_neg (by omega)]; omega
theorem made_ok {N : Nat → Int} (h : countsFault N = 0) : (madeN N 8).ok = true := (made_all (counts_zero.1 h).1 (counts_zero.1 h).2 (Nat.le_refl _)).1
theorem made_u {N : Nat → Int} (h : countsFault N = 0) : (madeN N 8).u = sumN N 8 := (made_all (counts_zero.1 h).1 (counts_zero.1 h).2 (Nat.le_refl _)).2.1
theorem made_fc {N : Nat → Int} (h : countsFault N = 0) {g : Nat} (hg : g < 8) : (madeN N 8).fc (madeN N 8).u.toNat g = N g := by
 obtain ⟨_, e, f⟩ := made_all (counts_zero.1 h).1 (counts_zero.1 h).2 (Nat.le_refl _)
 rw [e, f g, if_pos hg]
theorem sumN_same {N M : Nat → Int} {k : Nat} (h : ∀ f, f < k → N f = M f) : sumN N k = sumN M k := by
 induction k with
 | zero => rfl
 | succ k ih => unfold sumN; rw [ih fun f hf => h f (by omega), h k (by omega)]
theorem sumIn_same {L : Nat → Bool} {N M : Nat → Int} {k : Nat} (h : ∀ f, f < k → N f = M f) : sumIn L N k = sumIn L M k := by
 induction k with
 | zero => rfl
 | succ k ih => unfold sumIn; rw [ih fun f hf => h f (by omega), h k (by omega)]
theorem sumIn_one (L : Nat → Bool) (N : Nat → Int) (g k : Nat) : sumIn L (fun f => N f + if g = f then 1 else 0) k = sumIn L N k + if g < k ∧ L g = true then 1 else 0 := by
 induction k with
 | zero => simp [sumIn]
 | succ k ih =>
  unfold sumIn
  rw [ih]
  rcases (Bool.eq_false_or_eq_true (L k)).symm with l | l
  ·have l' : ¬ L k = true := by rw [l]; decide
   have e : (g < k ∧ L g = true) ↔ (g < k + 1 ∧ L g = true) := by
    refine ⟨fun h => ⟨by omega, h.2⟩, fun h => ⟨?_, h.2⟩⟩
    rcases Nat.lt_or_ge g k with h' | h'
    ·exact h'
    ·obtain rfl : g = k := by omega
     rw [l] at h; exact absurd h.2 (by decide)
   simp only [e, if_neg l', Int.add_zero]
  ·rw [if_pos l, if_pos l]
   by_cases e : g = k
   ·subst e
    have e1 : ¬ (g < g ∧ L g = true) := by omega
    have e2 : g < g + 1 ∧ L g = true := ⟨by omega, l⟩
    rw [if_neg e1, if_pos e2, if_pos rfl]; omega
   ·have e1 : (g < k ∧ L g = true) ↔ (g < k + 1 ∧ L g = true) := ⟨fun h => ⟨by omega, h.2⟩, fun h => ⟨by omega, h.2⟩⟩
    rw [if_neg e]
    simp only [e1]
    omega
theorem sumN_all (N : Nat → Int) (k : Nat) : sumIn (fun _ => true) N k = sumN N k := by
 induction k with
 | zero => rfl
 | succ k ih => unfold sumIn sumN; rw [ih, if_pos rfl]
theorem sumIn_fc (w : Wd) (L : Nat → Bool) (k : Nat) : sumIn L (w.fc (k + 1)) 8 = sumIn L (w.fc k) 8 + if L (w.field k) = true then 1 else 0 := by
 have := sumIn_one L (w.fc k) (w.field k) 8
 have e : (w.fc (k + 1)) = fun f => w.fc k f + if w.field k = f then 1 else 0 := rfl
 rw [e, this]
 have hf := field_lt w k
 by_cases l : L (w.field k) = true
 ·rw [if_pos l, if_pos ⟨hf, l⟩]
 ·rw [if_neg l, if_neg fun h => l h.2]
theorem sumIn_zero (w : Wd) (L : Nat → Bool) (k : Nat) : sumIn L (w.fc 0) k = 0 := by
 induction k with
 | zero => rfl
 | succ k ih => unfold sumIn; rw [ih]; simp [Wd.fc]
theorem sum_fc (w : Wd) (k : Nat) : sumN (w.fc k) 8 = k := by
 rw [← sumN_all]
 induction k with
 | zero => exact sumIn_zero w _ 8
 | succ k ih => rw [sumIn_fc, ih, if_pos rfl]; push_cast; rfl
theorem counts_fc {w : Wd} (h : w.ok = true) : countsFault (w.fc w.u.toNat) = 0 := by
 have hu := ok_u h
 refine counts_zero.2 ⟨fun f _ => ?_, ?_⟩
 ·have := fc_le w w.u.toNat f; omega
 ·rw [sum_fc]; omega
def oneW (f : Nat) : Wd := (⟨0, 0, 0, 0⟩ : Wd).more f
theorem oneW_ok (f : Nat) : (oneW f).ok = true := more_ok (by decide) (by decide) f
theorem oneW_u (f : Nat) : (oneW f).u = 1 := rfl
def liesB (t : List Int) (f : Nat) : Bool := hasB ((oneW f).val t) ((0 : Nat) : Int)
theorem oneW_has {f : Nat} : hasB (oneW f).a ((0 : Nat) : Int) = bitB f 0 ∧ hasB (oneW f).b ((0 : Nat) : Int) = bitB f 1 ∧ hasB (oneW f).c ((0 : Nat) : Int) = bitB f 2 := by
 unfold oneW Wd.more
 simp only
 cases bitB f 0 <;> cases bitB f 1 <;> cases bitB f 2 <;> decide
theorem oneW_val (f : Nat) (t : List Int) : (oneW f).val t = oneB (liesB t f) := by
 have h := ok_val (oneW_ok f) t
 unfold liesB
 rw [oneW_u] at h
 obtain ⟨_, _, h0, h1⟩ := okB_iff.1 h
 have h1' : (oneW f).val t ≤ 1 := h1
 have hd : (oneW f).val t = 0 ∨ (oneW f).val t = 1 := by omega
 rcases hd with e | e <;> rw [e] <;> decide
theorem has_field {w : Wd} (h : w.ok = true) (i : Nat) (hi : (i : Int) < w.u) (n : Nat) : ∀ t, isTm n t → hasB (w.val t) i = liesB t (w.field i) := by
 obtain ⟨b0, b1, b2⟩ := field_bit w i
 obtain ⟨o0, o1, o2⟩ := oneW_has (f := w.field i)
 have h1 : ((0 : Nat) : Int) < (oneW (w.field i)).u := by rw [oneW_u]; decide
 have ho := oneW_ok (w.field i)
 induction n with
 | zero => intro t ht; exact ht.elim
 | succ n ih =>
  intro t ht
  rcases ht with ⟨s, h0, h4, rfl⟩ | ⟨t, ht, rfl⟩ | ⟨s, x, y, h5, h7, hx, hy, rfl⟩
  ·unfold liesB
   rw [has_leaf h s h0 h4 i hi, has_leaf ho s h0 h4 0 h1]
   by_cases h3 : s < 3
   ·rw [if_pos h3, if_pos h3]
    unfold Wd.name
    by_cases s0 : s = 0
    ·rw [if_pos s0, if_pos s0, o0, b0]
    ·rw [if_neg s0, if_neg s0]
     by_cases s1 : s = 1
     ·rw [if_pos s1, if_pos s1, o1, b1]
     ·rw [if_neg s1, if_neg s1, o2, b2]
   ·rw [if_neg h3, if_neg h3]
  ·have e := ih t ht
   unfold liesB at e ⊢
   rw [has_opp h ht i hi, has_opp ho ht 0 h1, e]
  ·have ex := ih x hx
   have ey := ih y hy
   unfold liesB at ex ey ⊢
   rw [has_two h h5 h7 hx hy i hi, has_two ho h5 h7 hx hy 0 h1, ex, ey]
theorem pcTo_u {u v : Int} (h : okB u v = true) : pcTo v u.toNat = pcN v :=
 uptoSets (P := fun u v _ => pcTo v u.toNat = pcN v) (by decide +kernel) u v v h h
theorem size_fields {w : Wd} (h : w.ok = true) {n : Nat} {t : List Int} (ht : isTm n t) : pcN (w.val t) = sumIn (liesB t) (w.fc w.u.toNat) 8 := by
 have e : ∀ k : Nat, k ≤ w.u.toNat → pcTo (w.val t) k = sumIn (liesB t) (w.fc k) 8 := by
  intro k
  induction k with
  | zero => intro _; rw [sumIn_zero]; rfl
  | succ k ih =>
   intro hk
   rw [sumIn_fc, ← ih (by omega), ← has_field h k (by omega) n t ht]
   rfl
 rw [← pcTo_u (ok_val h t)]
 exact e _ (Nat.le_refl _)
theorem size_same {w w' : Wd} (h : w.ok = true) (h' : w'.ok = true) (he : ∀ f, f < 8 → w'.fc w'.u.toNat f = w.fc w.u.toNat f) {n : Nat} {t : List Int} (ht : isTm n t) : pcN (w'.val t) = pcN (w.val t) := by
 rw [size_fields h ht, size_fields h' ht]
 exact sumIn_same he
def maskTo (L : Nat → Bool) : Nat → Int
 | 0 => 0
 | k + 1 => maskTo L k + oneB (L k) * pw k
theorem maskTo_le (L : Nat → Bool) (k : Nat) : 0 ≤ maskTo L k ∧ maskTo L k < pw k := by
 induction k with
 | zero => exact ⟨Int.le_refl _, show (0 : Int) < pw 0 by decide⟩
 | succ k ih =>
  have := pw_pos k
  unfold maskTo
  rw [pw_succ]
  unfold oneB
  split <;> omega
theorem has_mask1 : ∀ k : Nat, k < 8 → ∀ m : Nat, m < 2 ^ k → ∀ x, (∀ i : Nat, i < k → hasB ((m : Int) + oneB x * pw k) i = hasB m i) ∧ hasB ((m : Int) + oneB x * pw k) k = x := by decide +kernel
theorem has_mask (L : Nat → Bool) {k : Nat} (hk : k ≤ 8) {f : Nat} (hf : f < k) : hasB (maskTo L k) f = L f := by
 induction k with
 | zero => omega
 | succ k ih =>
  obtain ⟨m0, m1⟩ := maskTo_le L k
  obtain ⟨m, hm⟩ := Int.eq_ofNat_of_zero_le m0
  have hp : pw k = ((2 ^ k : Nat) : Int) := by unfold pw; simp
  have h := has_mask1 k (by omega) m (by rw [hm, hp] at m1; omega) (L k)
  unfold maskTo
  rw [hm]
  rcases Nat.lt_or_ge f k with h' | h'
  ·rw [h.1 f h', ← hm]; exact ih (by omega) h'
  ·obtain rfl : f = k := by omega
   exact h.2
end Go.Proofs.YtjmeakkmfeoigaaGreatDoor
namespace Go.Proofs.YtjmeakkmfeoigaaGreatDoor
open Go.RowKit
def secondB (k : Int) : Bool := decide (k = 1 ∨ k = 2 ∨ k = 5)
def numberB (k : Int) : Bool := decide (k = 3 ∨ k = 4 ∨ k = 5)
def secondFault (k : Int) (t : List Int) : Int := if secondB k = true then faultN t else if 0 < t.length then 3 else 0
def mostN (k : Int) : Int := if numberB k = true then 20 else 0
def atomFault (k : Int) (s t : List Int) (n : Int) : Int :=
 if 1 ≤ k ∧ k ≤ 5 then (if faultN s = 0 then (if secondFault k t = 0 then (if - mostN k ≤ n ∧ n ≤ mostN k then 0 else 1) else secondFault k t) else faultN s) else 1
def saysB (k n x y : Int) : Bool :=
 if k = 1 then decide (lessN x y = 0) else if k = 2 then decide (x = y) else if k = 3 then decide (n ≤ pcN x) else if k = 4 then decide (pcN x ≤ n) else decide (pcN x ≤ pcN y + n)
def Wd.snd (w : Wd) (k : Int) (t : List Int) : Int := if secondB k = true then w.val t else 0
def Wd.holds (w : Wd) (k : Int) (s t : List Int) (n : Int) : Bool := saysB k n (w.val s) (w.snd k t)
def Wd.holdsFault (w : Wd) (k : Int) (s t : List Int) (n : Int) : Int := if atomFault k s t n = 0 then (if w.ok = true then 0 else 1) else atomFault k s t n
def Wd.holdsIs (w : Wd) (k : Int) (s t : List Int) (n : Int) : Bool := if w.holdsFault k s t n = 0 then w.holds k s t n else false
theorem five {k : Int} (h0 : 1 ≤ k) (h1 : k ≤ 5) : k = 1 ∨ k = 2 ∨ k = 3 ∨ k = 4 ∨ k = 5 := by omega
theorem atomFault_kind {k : Int} (h : ¬ (1 ≤ k ∧ k ≤ 5)) (s t : List Int) (n : Int) : atomFault k s t n = 1 := by unfold atomFault; rw [if_neg h]
theorem atomFault_first {k : Int} (h : 1 ≤ k ∧ k ≤ 5) {s : List Int} (hs : ¬ faultN s = 0) (t : List Int) (n : Int) : atomFault k s t n = faultN s := by unfold atomFault; rw [if_pos h, if_neg hs]
theorem atomFault_second {k : Int} (h : 1 ≤ k ∧ k ≤ 5) {s : List Int} (hs : faultN s = 0) {t : List Int} (ht : ¬ secondFault k t = 0) (n : Int) : atomFault k s t n = secondFault k t := by unfold atomFault; rw [if_pos h, if_pos hs, if_neg ht]
theorem atomFault_third {k : Int} (h : 1 ≤ k ∧ k ≤ 5) {s : List Int} (hs : faultN s = 0) {t : List Int} (ht : secondFault k t = 0) (n : Int) : atomFault k s t n = if - mostN k ≤ n ∧ n ≤ mostN k then 0 else 1 := by unfold atomFault; rw [if_pos h, if_pos hs, if_pos ht]
theorem atomFault_zero {k : Int} {s t : List Int} {n : Int} : atomFault k s t n = 0 ↔ (1 ≤ k ∧ k ≤ 5) ∧ faultN s = 0 ∧ secondFault k t = 0 ∧ - mostN k ≤ n ∧ n ≤ mostN k := by
 by_cases h : 1 ≤ k ∧ k ≤ 5
 ·by_cases hs : faultN s = 0
  ·by_cases ht : secondFault k t = 0
   ·rw [atomFault_third h hs ht]
    by_cases hn : - mostN k ≤ n ∧ n ≤ mostN k
    ·rw [if_pos hn]; exact ⟨fun _ => ⟨h, hs, ht, hn⟩, fun _ => rfl⟩
    ·rw [if_neg hn]; exact ⟨fun h => (by cases h), fun h' => absurd h'.2.2.2 hn⟩
   ·rw [atomFault_second h hs ht]; exact ⟨fun h' => absurd h' ht, fun h' => absurd h'.2.2.1 ht⟩
  ·rw [atomFault_first h hs]; exact ⟨fun h' => absurd h' hs, fun h' => absurd h'.2.1 hs⟩
 ·rw [atomFault_kind h]; exact ⟨fun h' => (by cases h'), fun h' => absurd h'.1 h⟩
theorem second_reads {k : Int} {t : List Int} (ht : secondFault k t = 0) : secondB k = true → faultN t = 0 := by
 intro h'
 unfold secondFault at ht
 rw [if_pos h'] at ht
 exact ht
end Go.Proofs.YtjmeakkmfeoigaaGreatDoor
namespace Go.Proofs.YtjmeakkmfeoigaaGreatDoor
open Go.RowKit
def takesF (s : Int) : Int := if s = 10 ∨ s = 11 ∨ s = 13 then 2 else if s = 12 then 1 else 0
def signF (m : Nat) (s : Int) : Bool := !(decide (takesF s = 0) && (decide (s < 0) || decide ((m : Int) ≤ s)))
def cntF : List Int → Int → Option Int
 | [], n => some n
 | s :: l, n => if n < takesF s then none else cntF l (n + 1 - takesF s)
structure At where
 k : Int
 s : List Int
 t : List Int
 n : Int
def At.fault (a : At) : Int := atomFault a.k a.s a.t a.n
def firstFault : List At → Int
 | [] => 0
 | a :: l => if a.fault = 0 then firstFault l else a.fault
def formFault (ats : List At) (c : List Int) : Int :=
 if ats.length = 0 ∨ c.length = 0 then 5 else if 6 < ats.length ∨ 20 < c.length then 4 else if firstFault ats = 0 then (if c.all (signF ats.length) = true then (if cntF c 0 = some 1 then 0 else 3) else 1) else firstFault ats
theorem takesF_range (s : Int) : 0 ≤ takesF s ∧ takesF s ≤ 2 := by unfold takesF; split <;> (try split) <;> omega
theorem takesF_leaf {s : Int} (h : takesF s = 0) : s ≠ 10 ∧ s ≠ 11 ∧ s ≠ 12 ∧ s ≠ 13 := by
 unfold takesF at h
 split at h
 ·omega
 ·split at h <;> omega
theorem takesF_low {s : Int} (h : s < 10) : takesF s = 0 := by unfold takesF; rw [if_neg (by omega), if_neg (by omega)]
theorem signF_iff {m : Nat} {s : Int} : signF m s = true ↔ (takesF s ≠ 0 ∨ (0 ≤ s ∧ s < m)) := by
 unfold signF
 by_cases h : takesF s = 0
 ·simp [h]
 ·simp [h]
theorem firstFault_zero {ats : List At} : firstFault ats = 0 ↔ ∀ a ∈ ats, a.fault = 0 := by
 induction ats with
 | nil => simp [firstFault]
 | cons a l ih =>
  unfold firstFault
  by_cases h : a.fault = 0
  ·rw [if_pos h, ih]; simp [h]
  ·rw [if_neg h]; simp [h]
theorem formFault_zero {ats : List At} {c : List Int} : formFault ats c = 0 ↔ (1 ≤ ats.length ∧ ats.length ≤ 6) ∧ (1 ≤ c.length ∧ c.length ≤ 20) ∧ (∀ a ∈ ats, a.fault = 0) ∧ c.all (signF ats.length) = true ∧ cntF c 0 = some 1 := by
 unfold formFault
 by_cases h1 : ats.length = 0 ∨ c.length = 0
 ·rw [if_pos h1]; exact ⟨fun h => (by cases h), fun h => by omega⟩
 rw [if_neg h1]
 by_cases h2 : 6 < ats.length ∨ 20 < c.length
 ·rw [if_pos h2]; exact ⟨fun h => (by cases h), fun h => by omega⟩
 rw [if_neg h2]
 by_cases h3 : firstFault ats = 0
 ·rw [if_pos h3]
  by_cases h4 : c.all (signF ats.length) = true
  ·rw [if_pos h4]
   by_cases h5 : cntF c 0 = some 1
   ·rw [if_pos h5]; exact ⟨fun _ => ⟨by omega, by omega, firstFault_zero.1 h3, h4, h5⟩, fun _ => rfl⟩
   ·rw [if_neg h5]; exact ⟨fun h => (by cases h), fun h => absurd h.2.2.2.2 h5⟩
  ·rw [if_neg h4]; exact ⟨fun h => (by cases h), fun h => absurd h.2.2.2.1 h4⟩
 ·rw [if_neg h3]; exact ⟨fun h => absurd h h3, fun h => absurd (firstFault_zero.2 h.2.2.1) h3⟩
theorem cntF_append (a b : List Int) (n : Int) : cntF (a ++ b) n = (cntF a n).bind (cntF b) := by
 induction a generalizing n with
 | nil => rfl
 | cons s l ih =>
  simp only [List.cons_append, cntF]
  split
  ·rfl
  ·exact ih _
theorem cntF_nonneg {l : List Int} {n m : Int} (hn : 0 ≤ n) (h : cntF l n = some m) : 0 ≤ m ∧ m ≤ n + l.length := by
 induction l generalizing n with
 | nil => simp [cntF] at h; subst h; simp; omega
 | cons s l ih =>
  have := takesF_range s
  unfold cntF at h
  split at h
  ·cases h
  ·have := ih (by omega) h
   simp; omega
theorem takeF_succ (t : List Int) {k : Nat} (h : k < t.length) : t.take (k + 1) = t.take k ++ [t.getD k 0] := by
 rw [List.take_add_one]; simp [List.getElem?_eq_getElem h]
theorem cntF_take_succ (t : List Int) {k : Nat} (h : k < t.length) {m : Int} (hm : cntF (t.take k) 0 = some m) : cntF (t.take (k + 1)) 0 = if m < takesF (t.getD k 0) then none else some (m + 1 - takesF (t.getD k 0)) := by
 rw [takeF_succ t h, cntF_append, hm]; rfl
theorem cntF_take_none (t : List Int) (k : Nat) (h : cntF (t.take k) 0 = none) : cntF t 0 = none := by
 have : cntF (t.take k ++ t.drop k) 0 = none := by rw [cntF_append, h]; rfl
 rwa [List.take_append_drop] at this
theorem cntF_take_some (t : List Int) (k : Nat) {n : Int} (h : cntF t 0 = some n) : ∃ m, cntF (t.take k) 0 = some m := by
 cases hc : cntF (t.take k) 0 with
 | none => rw [cntF_take_none t k hc] at h; cases h
 | some m => exact ⟨m, rfl⟩
theorem cntF_more (r : List Int) (n m : Int) (h : cntF r n = some m) : cntF r (n + 1) = some (m + 1) := by
 induction r generalizing n with
 | nil => simp [cntF] at h ⊢; exact h
 | cons s l ih =>
  unfold cntF at h ⊢
  split at h
  ·cases h
  ·rw [if_neg (by omega), show n + 1 + 1 - takesF s = n + 1 - takesF s + 1 by omega]
   exact ih _ h
def madeF (held : List Bool) (s : Int) (l : List Bool) : Bool :=
 if s = 10 then l.getD 0 false && l.getD 1 false else if s = 11 then l.getD 0 false || l.getD 1 false else if s = 13 then !l.getD 0 false || l.getD 1 false else if s = 12 then !l.getD 0 false else held.getD s.toNat false
def restF (p : List Bool) (s : Int) : Nat := p.length - (takesF s).toNat
def stepF (held : List Bool) (p : List Bool) (s : Int) : List Bool := p.take (restF p s) ++ [madeF held s (p.drop (restF p s))]
def pileF (held : List Bool) (c : List Int) (p : List Bool) : List Bool := c.foldl (stepF held) p
def valF (held : List Bool) (c : List Int) : Bool := (pileF held c []).getD 0 false
theorem pileF_append (held : List Bool) (a b : List Int) (p : List Bool) : pileF held (a ++ b) p = pileF held b (pileF held a p) := by simp [pileF, List.foldl_append]
theorem pileF_succ (held : List Bool) (t : List Int) (p : List Bool) {k : Nat} (h : k < t.length) : pileF held (t.take (k + 1)) p = stepF held (pileF held (t.take k) p) (t.getD k 0) := by
 rw [takeF_succ t h, pileF_append]; rfl
theorem stepF_length (held : List Bool) (p : List Bool) (s : Int) (h : takesF s ≤ p.length) : ((stepF held p s).length : Int) = p.length + 1 - takesF s := by
 have := takesF_range s
 simp [stepF, restF]
 omega
theorem pileF_length (held : List Bool) (t : List Int) (p : List Bool) {n : Int} (h : cntF t p.length = some n) : ((pileF held t p).length : Int) = n := by
 induction t generalizing p with
 | nil => simp [cntF] at h; simpa [pileF] using h
 | cons s l ih =>
  unfold cntF at h
  split at h
  ·cases h
  ·rename_i hs
   have e := stepF_length held p s (by omega)
   exact ih (stepF held p s) (by rw [e]; exact h)
theorem stepF_under (held q p : List Bool) (s : Int) (h : takesF s ≤ p.length) : stepF held (q ++ p) s = q ++ stepF held p s := by
 have hr := takesF_range s
 have e : restF (q ++ p) s = q.length + restF p s := by unfold restF; simp; omega
 unfold stepF
 rw [e, List.take_length_add_append, List.drop_length_add_append, List.append_assoc]
theorem pileF_under (held : List Bool) (t : List Int) (q p : List Bool) {n : Int} (h : cntF t p.length = some n) : pileF held t (q ++ p) = q ++ pileF held t p := by
 induction t generalizing p with
 | nil => rfl
 | cons s l ih =>
  unfold cntF at h
  split at h
  ·cases h
  ·rename_i hs
   have e := stepF_length held p s (by omega)
   have := ih (stepF held p s) (by rw [e]; exact h)
   show pileF held l (stepF held (q ++ p) s) = q ++ pileF held l (stepF held p s)
   rw [stepF_under held q p s (by omega)]; exact this
theorem pileF_one (held : List Bool) {t : List Int} (h : cntF t 0 = some 1) (q : List Bool) : pileF held t q = q ++ [valF held t] := by
 have h1 := pileF_under held t q [] h
 rw [List.append_nil] at h1
 rw [h1]
 have h2 := pileF_length held t [] h
 match e : pileF held t [], h2 with
 | [x], _ => simp [valF, e]
 | [], h2 => simp at h2
 | _ :: _ :: _, h2 => simp at h2; omega
theorem pileF_alike {h1 h2 : List Bool} {t1 t2 : List Int} (ht : t1.length = t2.length) (hs : ∀ k, k < t1.length → takesF (t1.getD k 0) = takesF (t2.getD k 0) ∧ ∀ l, madeF h1 (t1.getD k 0) l = madeF h2 (t2.getD k 0) l) (p : List Bool) : pileF h1 t1 p = pileF h2 t2 p := by
 induction t1 generalizing t2 p with
 | nil =>
  cases t2 with
  | nil => rfl
  | cons => simp at ht
 | cons s l ih =>
  cases t2 with
  | nil => simp at ht
  | cons s2 l2 =>
   have e0 := hs 0 (by simp)
   simp only [List.getD_cons_zero] at e0
   have e1 : stepF h1 p s = stepF h2 p s2 := by unfold stepF restF; rw [e0.1, e0.2]
   show pileF h1 l (stepF h1 p s) = pileF h2 l2 (stepF h2 p s2)
   rw [e1]
   refine ih (by simpa using ht) (fun k hk => ?_) _
   have := hs (k + 1) (by simp; omega)
   simpa only [List.getD_cons_succ] using this
theorem good_no {ats : List At} {c : List Int} (h : formFault ats c = 0) (hl : c.length ≤ 19) : formFault ats (c ++ [12]) = 0 := by
 obtain ⟨h1, h2, h3, h4, h5⟩ := formFault_zero.1 h
 refine formFault_zero.2 ⟨h1, by simp; omega, h3, ?_, ?_⟩
 ·rw [List.all_append, h4]; simp [signF, takesF]
 ·rw [cntF_append, h5]; rfl
def movedF (m : Nat) (s : Int) : Int := if takesF s = 0 then s + m else s
theorem good_both {ats bs : List At} {c d : List Int} (h : formFault ats c = 0) (h' : formFault bs d = 0) (hl : ats.length + bs.length ≤ 6) (hc : c.length + d.length ≤ 19) : formFault (ats ++ bs) (c ++ (d.map (movedF ats.length) ++ [10])) = 0 := by
 obtain ⟨h1, h2, h3, h4, h5⟩ := formFault_zero.1 h
 obtain ⟨g1, g2, g3, g4, g5⟩ := formFault_zero.1 h'
 have hm : ∀ s ∈ d, takesF (movedF ats.length s) = takesF s ∧ signF (ats ++ bs).length (movedF ats.length s) = true := by
  intro s hs
  have := signF_iff.1 (List.all_eq_true.1 g4 s hs)
  unfold movedF
  by_cases h0 : takesF s = 0
  ·rw [if_pos h0]
   have h6 : 0 ≤ s ∧ s < bs.length := this.resolve_left (by simp [h0])
   exact ⟨by rw [h0]; exact takesF_low (by omega), signF_iff.2 (Or.inr (by simp; omega))⟩
  ·rw [if_neg h0]
   exact ⟨rfl, signF_iff.2 (Or.inl h0)⟩
 have hcnt : ∀ n, cntF (d.map (movedF ats.length)) n = cntF d n := by
  have : ∀ (l : List Int), (∀ s ∈ l, takesF (movedF ats.length s) = takesF s) → ∀ n, cntF (l.map (movedF ats.length)) n = cntF l n := by
   intro l
   induction l with
   | nil => intro _ n; rfl
   | cons s l ih =>
    intro hh n
    have e := hh s (by simp)
    simp only [List.map_cons, cntF, e]
    rw [ih (fun x hx => hh x (by simp [hx]))]
  exact this d (fun s hs => (hm s hs).1)
 refine formFault_zero.2 ⟨by simp; omega, by simp; omega, ?_, ?_, ?_⟩
 ·intro a ha
  rcases List.mem_append.1 ha with ha | ha
  ·exact h3 a ha
  ·exact g3 a ha
 ·rw [List.all_append, List.all_append]
  have e1 : c.all (signF (ats ++ bs).length) = true := by
   rw [List.all_eq_true]
   intro s hs
   rcases signF_iff.1 (List.all_eq_true.1 h4 s hs) with h | h
   ·exact signF_iff.2 (Or.inl h)
   ·exact signF_iff.2 (Or.inr (by simp; omega))
  have e2 : (d.map (movedF ats.length)).all (signF (ats ++ bs).length) = true := by
   rw [List.all_map, List.all_eq_true]
   intro s hs
   exact (hm s hs).2
  rw [e1, e2]; simp [signF, takesF]
 ·rw [cntF_append, h5]
  show cntF (d.map (movedF ats.length) ++ [10]) 1 = _
  rw [cntF_append, hcnt, show cntF d 1 = some 2 from cntF_more d 0 1 g5]; rfl
theorem madeF_leaf (held : List Bool) {s : Int} (h : takesF s = 0) (l : List Bool) : madeF held s l = held.getD s.toNat false := by
 have := takesF_leaf h
 unfold madeF
 rw [if_neg this.1, if_neg this.2.1, if_neg this.2.2.2, if_neg this.2.2.1]
theorem madeF_op (h1 h2 : List Bool) {s : Int} (h : takesF s ≠ 0) (l : List Bool) : madeF h1 s l = madeF h2 s l := by
 have : s = 10 ∨ s = 11 ∨ s = 13 ∨ s = 12 := by
  unfold takesF at h
  split at h
  ·omega
  ·split at h <;> omega
 rcases this with rfl | rfl | rfl | rfl <;> rfl
theorem val_both {ats bs : List At} {c d : List Int} (ha hb : List Bool) (la : ha.length = ats.length) (h : formFault ats c = 0) (h' : formFault bs d = 0) (hl : ats.length + bs.length ≤ 6) : valF (ha ++ hb) (c ++ (d.map (movedF ats.length) ++ [10])) = (valF ha c && valF hb d) := by
 obtain ⟨h1, h2, h3, h4, h5⟩ := formFault_zero.1 h
 obtain ⟨g1, g2, g3, g4, g5⟩ := formFault_zero.1 h'
 have e1 : ∀ p, pileF (ha ++ hb) c p = pileF ha c p := fun p => by
  refine pileF_alike rfl (fun k hk => ⟨rfl, fun l => ?_⟩) p
  have hm : c.getD k 0 ∈ c := by rw [List.getD_eq_getElem?_getD, List.getElem?_eq_getElem hk]; exact List.getElem_mem hk
  rcases signF_iff.1 (List.all_eq_true.1 h4 _ hm) with h0 | h0
  ·exact madeF_op _ _ h0 l
  ·have t0 : takesF (c.getD k 0) = 0 := takesF_low (by omega)
   rw [madeF_leaf _ t0, madeF_leaf _ t0, List.getD_eq_getElem?_getD, List.getElem?_append_left (by omega), ← List.getD_eq_getElem?_getD]
 have e2 : ∀ p, pileF (ha ++ hb) (d.map (movedF ats.length)) p = pileF hb d p := fun p => by
  refine pileF_alike (by simp) (fun k hk => ?_) p
  have hk' : k < d.length := by simpa using hk
  have eg : (d.map (movedF ats.length)).getD k 0 = movedF ats.length (d.getD k 0) := by
   simp [List.getElem?_eq_getElem hk']
  rw [eg]
  have hm : d.getD k 0 ∈ d := by rw [List.getD_eq_getElem?_getD, List.getElem?_eq_getElem hk']; exact List.getElem_mem hk'
  generalize d.getD k 0 = s at hm
  unfold movedF
  rcases signF_iff.1 (List.all_eq_true.1 g4 s hm) with h0 | h0
  ·rw [if_neg h0]; exact ⟨rfl, fun l => madeF_op _ _ h0 l⟩
  ·have t0 : takesF s = 0 := takesF_low (by omega)
   have t1 : takesF (s + ats.length) = 0 := takesF_low (by omega)
   rw [if_pos t0]
   refine ⟨by rw [t0, t1], fun l => ?_⟩
   rw [madeF_leaf _ t0, madeF_leaf _ t1, show (s + (ats.length : Int)).toNat = ha.length + s.toNat by omega]
   rw [List.getD_eq_getElem?_getD, List.getElem?_append_right (by omega), Nat.add_sub_cancel_left, ← List.getD_eq_getElem?_getD]
 have hp : pileF (ha ++ hb) (c ++ (d.map (movedF ats.length) ++ [10])) [] = [valF ha c && valF hb d] := by
  rw [pileF_append, pileF_append, e1, e2, pileF_one ha h5, pileF_one hb g5]; rfl
 rw [valF, hp]; rfl
def Wd.heldL (w : Wd) (ats : List At) : List Bool := ats.map fun a => w.holds a.k a.s a.t a.n
def Wd.formFault (w : Wd) (ats : List At) (c : List Int) : Int := if YtjmeakkmfeoigaaGreatDoor.formFault ats c = 0 then (if w.ok = true then 0 else 1) else YtjmeakkmfeoigaaGreatDoor.formFault ats c
def Wd.formIs (w : Wd) (ats : List At) (c : List Int) : Bool := if w.formFault ats c = 0 then valF (w.heldL ats) c else false
theorem wdForm_zero {w : Wd} {ats : List At} {c : List Int} : w.formFault ats c = 0 ↔ YtjmeakkmfeoigaaGreatDoor.formFault ats c = 0 ∧ w.ok = true := by
 unfold Wd.formFault
 by_cases h : YtjmeakkmfeoigaaGreatDoor.formFault ats c = 0
 ·rw [if_pos h]
  by_cases h' : w.ok = true
  ·rw [if_pos h']; exact ⟨fun _ => ⟨h, h'⟩, fun _ => rfl⟩
  ·rw [if_neg h']; exact ⟨fun h => (by cases h), fun h => absurd h.2 h'⟩
 ·rw [if_neg h]; exact ⟨fun h' => absurd h' h, fun h' => absurd h'.1 h⟩
def negFault (ats : List At) (c : List Int) : Int := if formFault ats c = 0 then (if 19 < c.length then 4 else 0) else formFault ats c
end Go.Proofs.YtjmeakkmfeoigaaGreatDoor
namespace Go.Proofs.YtjmeakkmfeoigaaGreatDoor
open Go.RowKit
theorem none_of_size {u x : Int} (h : okB u x = true) : (x = 0 ↔ pcN x = 0) :=
 uptoSets (P := fun _ x _ => x = 0 ↔ pcN x = 0) (by decide +kernel) u x x h h
theorem same_of_less {u x y : Int} (hx : okB u x = true) (hy : okB u y = true) : (x = y ↔ lessN x y = 0 ∧ lessN y x = 0) :=
 uptoSets (P := fun _ x y => x = y ↔ lessN x y = 0 ∧ lessN y x = 0) (by decide +kernel) u x y hx hy
structure Alike (w w' : Wd) : Prop where
 ok : w.ok = true
 ok' : w'.ok = true
 fc : ∀ f, f < 8 → w'.fc w'.u.toNat f = w.fc w.u.toNat f
theorem Alike.size {w w' : Wd} (h : Alike w w') {n : Nat} {t : List Int} (ht : isTm n t) : pcN (w'.val t) = pcN (w.val t) := size_same h.ok h.ok' h.fc ht
theorem Alike.less {w w' : Wd} (h : Alike w w') {n m : Nat} {s t : List Int} (hs : isTm n s) (ht : isTm m t) : (lessN (w'.val s) (w'.val t) = 0 ↔ lessN (w.val s) (w.val t) = 0) := by
 have e : ∀ v : Wd, v.val (s ++ (t ++ [7])) = lessN (v.val s) (v.val t) := fun v => by rw [val_bin v (by omega) (by omega) hs ht, doN7]
 have hn : isTm (n + m + 1) (s ++ (t ++ [7])) := Or.inr (Or.inr ⟨7, s, t, by omega, by omega, isTm_mono (by omega) hs, isTm_mono (by omega) ht, rfl⟩)
 rw [← e, ← e, none_of_size (ok_val h.ok' _), none_of_size (ok_val h.ok _), h.size hn]
theorem one_term {t : List Int} (h : faultN t = 0) : ∃ n, isTm n t := tree t (fault_zero.1 h).2.2.1 (fault_zero.1 h).2.2.2
theorem Alike.holds {w w' : Wd} (h : Alike w w') {k : Int} {s t : List Int} {n : Int} (hf : atomFault k s t n = 0) : w'.holds k s t n = w.holds k s t n := by
 obtain ⟨hk, hs, ht, _⟩ := atomFault_zero.1 hf
 obtain ⟨i, hi⟩ := one_term hs
 unfold Wd.holds Wd.snd saysB
 rcases five hk.1 hk.2 with rfl | rfl | rfl | rfl | rfl
 ·obtain ⟨j, hj⟩ := one_term (second_reads ht (by decide))
  rw [if_pos (show secondB 1 = true by decide), if_pos rfl, if_pos (show secondB 1 = true by decide), if_pos rfl]
  exact decide_eq_decide.2 (h.less hi hj)
 ·obtain ⟨j, hj⟩ := one_term (second_reads ht (by decide))
  rw [if_pos (show secondB 2 = true by decide), if_pos (show secondB 2 = true by decide), if_neg (by decide), if_pos rfl, if_neg (by decide), if_pos rfl]
  refine decide_eq_decide.2 ?_
  rw [same_of_less (ok_val h.ok' s) (ok_val h.ok' t), same_of_less (ok_val h.ok s) (ok_val h.ok t), h.less hi hj, h.less hj hi]
 ·rw [if_neg (by decide), if_neg (by decide), if_pos rfl, if_neg (by decide), if_neg (by decide), if_pos rfl, h.size hi]
 ·rw [if_neg (by decide), if_neg (by decide), if_neg (by decide), if_pos rfl, if_neg (by decide), if_neg (by decide), if_neg (by decide), if_pos rfl, h.size hi]
 ·obtain ⟨j, hj⟩ := one_term (second_reads ht (by decide))
  rw [if_pos (show secondB 5 = true by decide), if_pos (show secondB 5 = true by decide), if_neg (by decide), if_neg (by decide), if_neg (by decide), if_neg (by decide), if_neg (by decide), if_neg (by decide), if_neg (by decide), if_neg (by decide), h.size hi, h.size hj]
theorem Alike.fault {w w' : Wd} (h : Alike w w') (ats : List At) (c : List Int) : w'.formFault ats c = w.formFault ats c := by
 unfold Wd.formFault; rw [h.ok, h.ok']
theorem Alike.form {w w' : Wd} (h : Alike w w') (ats : List At) (c : List Int) : w'.formIs ats c = w.formIs ats c := by
 unfold Wd.formIs
 rw [h.fault]
 by_cases hf : w.formFault ats c = 0
 ·rw [if_pos hf, if_pos hf]
  obtain ⟨_, _, hall, _⟩ := formFault_zero.1 (wdForm_zero.1 hf).1
  have e : w'.heldL ats = w.heldL ats := by
   unfold Wd.heldL
   exact List.map_congr_left fun a ha => h.holds (hall a ha)
  rw [e]
 ·rw [if_neg hf, if_neg hf]
theorem alike_made {w : Wd} (h : w.ok = true) : Alike w (madeN (w.fc w.u.toNat) 8) :=
 ⟨h, made_ok (counts_fc h), fun _ hf => made_fc (counts_fc h) hf⟩
end Go.Proofs.YtjmeakkmfeoigaaGreatDoor