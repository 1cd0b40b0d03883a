/-
  Plain facts on terms as rows of signs (chapter 2): how many terms a row makes, its fault, the pile of sets that it works out, terms as trees. No program is read here.
-/
import Derived.Test.YtjaedfjfcghgcabGreatDoorLibT1
import Derived.Test.YtjaedfjfcghgcabGreatDoorLibT2
namespace Go.Proofs.YtjaedfjfcghgcabGreatDoor
open Go.RowKit

/-- how many terms a sign takes. -/
def takesN (s : Int) : Int := if s = 5 ∨ s = 6 ∨ s = 7 then 2 else if s = 8 then 1 else 0
/-- is it a sign? -/
def signB (s : Int) : Bool := decide (0 ≤ s ∧ s ≤ 8)
/-- how many terms there are behind a row of signs; none: a sign takes more than there are. -/
def cnt : List Int → Int → Option Int
  | [], n => some n
  | s :: l, n => if n < takesN s then none else cnt l (n + 1 - takesN s)
/-- what is wrong with a row of signs: the number of the error, or 0. -/
def faultN (t : List Int) : Int := if t.length = 0 then 5 else if 12 < t.length then 4 else if t.all signB = true then (if cnt t 0 = some 1 then 0 else 3) else 1

theorem signB_iff {s : Int} : signB s = true ↔ 0 ≤ s ∧ s ≤ 8 := by simp [signB]
theorem takesN_range (s : Int) : 0 ≤ takesN s ∧ takesN s ≤ 2 := by unfold takesN; split <;> (try split) <;> omega
theorem takes5 (s : Int) (h : s < 5) : takesN s = 0 := by unfold takesN; rw [if_neg (by omega), if_neg (by omega)]
theorem takes2 (s : Int) (h : 5 ≤ s) (h' : s ≤ 7) : takesN s = 2 := by unfold takesN; rw [if_pos (by omega)]
theorem takes1 : takesN 8 = 1 := by decide

theorem cnt_append (a b : List Int) (n : Int) : cnt (a ++ b) n = (cnt a n).bind (cnt b) := by
  induction a generalizing n with
  | nil => rfl
  | cons s l ih =>
    simp only [List.cons_append, cnt]
    split
    · rfl
    · exact ih _
theorem cnt_nonneg {l : List Int} {n m : Int} (hn : 0 ≤ n) (h : cnt l n = some m) : 0 ≤ m ∧ m ≤ n + l.length := by
  induction l generalizing n with
  | nil => simp [cnt] at h; subst h; simp; omega
  | cons s l ih =>
    have := takesN_range s
    unfold cnt at h
    split at h
    · cases h
    · have := ih (by omega) h
      simp; omega

/-- one sign more. -/
theorem take_succ_getD (t : List Int) {k : Nat} (h : k < t.length) : t.take (k + 1) = t.take k ++ [t.getD k 0] := by
  rw [List.take_add_one]; simp [List.getElem?_eq_getElem h]
theorem cnt_take_succ (t : List Int) {k : Nat} (h : k < t.length) {m : Int} (hm : cnt (t.take k) 0 = some m) : cnt (t.take (k + 1)) 0 = if m < takesN (t.getD k 0) then none else some (m + 1 - takesN (t.getD k 0)) := by
  rw [take_succ_getD t h, cnt_append, hm]; rfl
theorem cnt_take_none (t : List Int) (k : Nat) (h : cnt (t.take k) 0 = none) : cnt t 0 = none := by
  have : cnt (t.take k ++ t.drop k) 0 = none := by rw [cnt_append, h]; rfl
  rwa [List.take_append_drop] at this
theorem cnt_take_some (t : List Int) (k : Nat) {n : Int} (h : cnt t 0 = some n) : ∃ m, cnt (t.take k) 0 = some m := by
  cases hc : cnt (t.take k) 0 with
  | none => rw [cnt_take_none t k hc] at h; cases h
  | some m => exact ⟨m, rfl⟩

/-! ### a world, and the pile -/
structure Wd where
  u : Int
  a : Int
  b : Int
  c : Int
def Wd.ok (w : Wd) : Bool := okB w.u w.a && okB w.u w.b && okB w.u w.c
def Wd.name (w : Wd) (s : Int) : Int := if s = 0 then w.a else if s = 1 then w.b else w.c
/-- the set that a sign makes of those it takes. -/
def Wd.made (w : Wd) (s : Int) (l : List Int) : Int := if s < 3 then w.name s else if s = 3 then 0 else if s = 4 then doN 8 w.u 0 0 else doN s w.u (l.getD 0 0) (l.getD (l.length - 1) 0)
/-- where what a sign takes begins. -/
def restN (p : List Int) (s : Int) : Nat := p.length - (takesN s).toNat
def Wd.step (w : Wd) (p : List Int) (s : Int) : List Int := p.take (restN p s) ++ [w.made s (p.drop (restN p s))]
def Wd.pile (w : Wd) (t p : List Int) : List Int := t.foldl w.step p

theorem pile_append (w : Wd) (a b p : List Int) : w.pile (a ++ b) p = w.pile b (w.pile a p) := by simp [Wd.pile, List.foldl_append]
theorem pile_succ (w : Wd) (t p : List Int) {k : Nat} (h : k < t.length) : w.pile (t.take (k + 1)) p = w.step (w.pile (t.take k) p) (t.getD k 0) := by
  rw [take_succ_getD t h, pile_append]; rfl
theorem step_length (w : Wd) (p : List Int) (s : Int) (h : takesN s ≤ p.length) : ((w.step p s).length : Int) = p.length + 1 - takesN s := by
  have := takesN_range s
  simp [Wd.step, restN]
  omega
theorem pile_length (w : Wd) (t p : List Int) {n : Int} (h : cnt t p.length = some n) : ((w.pile t p).length : Int) = n := by
  induction t generalizing p with
  | nil => simp [cnt] at h; simpa [Wd.pile] using h
  | cons s l ih =>
    unfold cnt at h
    split at h
    · cases h
    · rename_i hs
      have e := step_length w p s (by omega)
      exact ih (w.step p s) (by rw [e]; exact h)

theorem Wd.ok_iff {w : Wd} : w.ok = true ↔ okB w.u w.a = true ∧ okB w.u w.b = true ∧ okB w.u w.c = true := by simp [Wd.ok, and_assoc]
theorem ok_name {w : Wd} (h : w.ok = true) (s : Int) : okB w.u (w.name s) = true := by
  obtain ⟨h1, h2, h3⟩ := Wd.ok_iff.1 h
  unfold Wd.name
  split
  · exact h1
  split
  · exact h2
  exact h3
theorem ok_u {w : Wd} (h : w.ok = true) : 0 ≤ w.u ∧ w.u ≤ 6 := by
  obtain ⟨h1, h2, _⟩ := okB_iff.1 (Wd.ok_iff.1 h).1
  exact ⟨h1, h2⟩
theorem ok_getD {w : Wd} (h : w.ok = true) {p : List Int} (hp : ∀ x ∈ p, okB w.u x = true) (k : Nat) : okB w.u (p.getD k 0) = true := by
  rcases Nat.lt_or_ge k p.length with hk | hk
  · rw [List.getD_eq_getElem?_getD, List.getElem?_eq_getElem hk]; exact hp _ (List.getElem_mem hk)
  · rw [List.getD_eq_getElem?_getD, List.getElem?_eq_none hk]; exact ok_zero (ok_u h).1 (ok_u h).2
theorem ok_made {w : Wd} (h : w.ok = true) {p : List Int} (hp : ∀ x ∈ p, okB w.u x = true) (s : Int) : okB w.u (w.made s p) = true := by
  have z := ok_zero (ok_u h).1 (ok_u h).2
  unfold Wd.made
  split
  · exact ok_name h s
  split
  · exact z
  split
  · exact ok_do z z
  exact ok_do (ok_getD h hp _) (ok_getD h hp _)
theorem ok_step {w : Wd} (h : w.ok = true) {p : List Int} (hp : ∀ x ∈ p, okB w.u x = true) (s : Int) : ∀ x ∈ w.step p s, okB w.u x = true := by
  intro x hx
  unfold Wd.step at hx
  rcases List.mem_append.1 hx with hx | hx
  · exact hp x (List.mem_of_mem_take hx)
  · rw [List.mem_singleton.1 hx]
    exact ok_made h (fun y hy => hp y (List.mem_of_mem_drop hy)) s
theorem ok_pile {w : Wd} (h : w.ok = true) (t : List Int) {p : List Int} (hp : ∀ x ∈ p, okB w.u x = true) : ∀ x ∈ w.pile t p, okB w.u x = true := by
  induction t generalizing p with
  | nil => exact hp
  | cons s l ih => exact ih (p := w.step p s) (ok_step h hp s)

/-- the set of a term. -/
def Wd.val (w : Wd) (t : List Int) : Int := (w.pile t []).getD 0 0
theorem ok_val {w : Wd} (h : w.ok = true) (t : List Int) : okB w.u (w.val t) = true := ok_getD h (ok_pile h t (p := []) (by intro x hx; cases hx)) 0

/-! ### one term, by how deep it is -/
/-- a row of signs that is one term, of depth at most n. -/
def isTm : Nat → List Int → Prop
  | 0, _ => False
  | n + 1, q => (∃ s : Int, 0 ≤ s ∧ s ≤ 4 ∧ q = [s]) ∨ (∃ t, isTm n t ∧ q = t ++ [8]) ∨ (∃ (s : Int) (a b : List Int), 5 ≤ s ∧ s ≤ 7 ∧ isTm n a ∧ isTm n b ∧ q = a ++ (b ++ [s]))
theorem isTm_mono {n : Nat} : ∀ {m : Nat} {q : List Int}, n ≤ m → isTm n q → isTm m q := by
  induction n with
  | zero => intro m q _ h; exact h.elim
  | succ n ih =>
    intro m q hm h
    obtain ⟨k, rfl⟩ : ∃ k, m = k + 1 := ⟨m - 1, by omega⟩
    rcases h with ⟨s, h0, h4, e⟩ | ⟨t, ht, e⟩ | ⟨s, a, b, h5, h7, ha, hb, e⟩
    · exact Or.inl ⟨s, h0, h4, e⟩
    · exact Or.inr (Or.inl ⟨t, ih (by omega) ht, e⟩)
    · exact Or.inr (Or.inr ⟨s, a, b, h5, h7, ih (by omega) ha, ih (by omega) hb, e⟩)

theorem made_leaf (w : Wd) (s : Int) (l : List Int) (h : s ≤ 4) : w.made s l = w.made s [] := by
  unfold Wd.made
  by_cases h3 : s < 3
  · rw [if_pos h3, if_pos h3]
  rw [if_neg h3, if_neg h3]
  by_cases h4 : s = 3
  · rw [if_pos h4, if_pos h4]
  rw [if_neg h4, if_neg h4, if_pos (by omega), if_pos (by omega)]
theorem made_do (w : Wd) (s : Int) (l : List Int) (h : 5 ≤ s) : w.made s l = doN s w.u (l.getD 0 0) (l.getD (l.length - 1) 0) := by
  unfold Wd.made
  rw [if_neg (by omega), if_neg (by omega), if_neg (by omega)]

theorem pile_one (w : Wd) (s : Int) (hs : s ≤ 4) (p : List Int) : w.pile [s] p = p ++ [w.made s []] := by
  show w.step p s = _
  unfold Wd.step restN
  rw [takes5 s (by omega)]
  simp
theorem pile_opp (w : Wd) (t : List Int) (v : Int) (h : ∀ p, w.pile t p = p ++ [v]) (p : List Int) : w.pile (t ++ [8]) p = p ++ [doN 8 w.u v v] := by
  rw [pile_append, h]
  show w.step _ 8 = _
  unfold Wd.step restN
  rw [takes1, made_do _ _ _ (by omega)]
  simp
theorem pile_bin (w : Wd) (s : Int) (h5 : 5 ≤ s) (h7 : s ≤ 7) (a b : List Int) (x y : Int) (ha : ∀ p, w.pile a p = p ++ [x]) (hb : ∀ p, w.pile b p = p ++ [y]) (p : List Int) : w.pile (a ++ (b ++ [s])) p = p ++ [doN s w.u x y] := by
  rw [pile_append, ha, pile_append, hb]
  show w.step _ s = _
  unfold Wd.step restN
  rw [takes2 s h5 h7, made_do _ _ _ h5]
  simp
theorem val_of_pile {w : Wd} {q : List Int} {v : Int} (h : ∀ p, w.pile q p = p ++ [v]) : w.val q = v := by
  unfold Wd.val; rw [h]; rfl
/-- a term lays its set on the pile. -/
theorem pile_tm (w : Wd) (n : Nat) : ∀ q, isTm n q → ∀ p, w.pile q p = p ++ [w.val q] := by
  induction n with
  | zero => intro q h; exact h.elim
  | succ n ih =>
    intro q h
    rcases h with ⟨s, h0, h4, rfl⟩ | ⟨t, ht, rfl⟩ | ⟨s, a, b, h5, h7, ha, hb, rfl⟩
    · have := pile_one w s h4
      rw [val_of_pile this]; exact this
    · have := pile_opp w t _ (ih t ht)
      rw [val_of_pile this]; exact this
    · have := pile_bin w s h5 h7 a b _ _ (ih a ha) (ih b hb)
      rw [val_of_pile this]; exact this
theorem val_leaf (w : Wd) (s : Int) (h : s ≤ 4) : w.val [s] = w.made s [] := val_of_pile (pile_one w s h)
theorem val_opp (w : Wd) {n : Nat} {t : List Int} (h : isTm n t) : w.val (t ++ [8]) = doN 8 w.u (w.val t) (w.val t) := val_of_pile (pile_opp w t _ (pile_tm w n t h))
theorem val_bin (w : Wd) {n m : Nat} {s : Int} (h5 : 5 ≤ s) (h7 : s ≤ 7) {a b : List Int} (ha : isTm n a) (hb : isTm m b) : w.val (a ++ (b ++ [s])) = doN s w.u (w.val a) (w.val b) := val_of_pile (pile_bin w s h5 h7 a b _ _ (pile_tm w n a ha) (pile_tm w m b hb))

/-- a row of right signs is as many terms as it makes. -/
theorem trees (t : List Int) (ht : ∀ s ∈ t, 0 ≤ s ∧ s ≤ 8) (ts : List (List Int)) (hts : ∀ q ∈ ts, ∃ n, isTm n q) {n : Int} (h : cnt t ts.length = some n) :
    ∃ ts' : List (List Int), (ts'.length : Int) = n ∧ (∀ q ∈ ts', ∃ n, isTm n q) ∧ ts'.flatten = ts.flatten ++ t := by
  induction t generalizing ts with
  | nil => simp [cnt] at h; exact ⟨ts, h, hts, by simp⟩
  | cons s l ih =>
    have hs := ht s (by simp)
    have hl : ∀ x ∈ l, 0 ≤ x ∧ x ≤ 8 := fun x hx => ht x (by simp [hx])
    unfold cnt at h
    split at h
    · cases h
    · rename_i hn
      by_cases h5 : s < 5
      · rw [takes5 s h5] at h
        obtain ⟨ts', h1, h2, h3⟩ := ih hl (ts ++ [[s]]) (by
          intro q hq
          rcases List.mem_append.1 hq with hq | hq
          · exact hts q hq
          · rw [List.mem_singleton.1 hq]; exact ⟨1, Or.inl ⟨s, hs.1, by omega, rfl⟩⟩) (by rw [← h]; simp)
        exact ⟨ts', h1, h2, by rw [h3]; simp⟩
      by_cases h8 : s = 8
      · subst h8
        rw [takes1] at h hn
        obtain ⟨ts0, a, rfl⟩ : ∃ ts0 a, ts = ts0 ++ [a] := by
          rcases List.eq_nil_or_concat ts with rfl | ⟨x, y, rfl⟩
          · simp at hn
          · exact ⟨x, y, by simp⟩
        obtain ⟨ts', h1, h2, h3⟩ := ih hl (ts0 ++ [a ++ [8]]) (by
          intro q hq
          rcases List.mem_append.1 hq with hq | hq
          · exact hts q (by simp [hq])
          · rw [List.mem_singleton.1 hq]
            obtain ⟨k, hk⟩ := hts a (by simp)
            exact ⟨k + 1, Or.inr (Or.inl ⟨a, hk, rfl⟩)⟩) (by rw [← h]; simp)
        exact ⟨ts', h1, h2, by rw [h3]; simp⟩
      · rw [takes2 s (by omega) (by omega)] at h hn
        obtain ⟨ts0, a, b, rfl⟩ : ∃ ts0 a b, ts = ts0 ++ [a, b] := by
          rcases List.eq_nil_or_concat ts with rfl | ⟨x, y, rfl⟩
          · simp at hn
          · rcases List.eq_nil_or_concat x with rfl | ⟨x', z, rfl⟩
            · simp at hn
            · exact ⟨x', z, y, by simp⟩
        obtain ⟨ts', h1, h2, h3⟩ := ih hl (ts0 ++ [a ++ (b ++ [s])]) (by
          intro q hq
          rcases List.mem_append.1 hq with hq | hq
          · exact hts q (by simp [hq])
          · rw [List.mem_singleton.1 hq]
            obtain ⟨k, hk⟩ := hts a (by simp)
            obtain ⟨j, hj⟩ := hts b (by simp)
            exact ⟨k + j + 1, Or.inr (Or.inr ⟨s, a, b, by omega, by omega, isTm_mono (by omega) hk, isTm_mono (by omega) hj, rfl⟩)⟩) (by rw [← h]; simp; congr 1; omega)
        exact ⟨ts', h1, h2, by rw [h3]; simp⟩

/-- a right term is one. -/
theorem tree (t : List Int) (hs : t.all signB = true) (h : cnt t 0 = some 1) : ∃ n, isTm n t := by
  obtain ⟨ts, h1, h2, h3⟩ := trees t (fun s hm => signB_iff.1 (List.all_eq_true.1 hs s hm)) [] (by intro q hq; cases hq) h
  match ts, h1 with
  | [q], _ =>
    have e : q = t := by simpa using h3
    rw [← e]; exact h2 q (by simp)
  | [], h1 => simp at h1
  | _ :: _ :: _, h1 => simp at h1; omega

theorem fault_zero {t : List Int} : faultN t = 0 ↔ t.length ≠ 0 ∧ t.length ≤ 12 ∧ t.all signB = true ∧ cnt t 0 = some 1 := by
  unfold faultN
  by_cases h1 : t.length = 0
  · rw [if_pos h1]; exact ⟨fun h => by omega, fun h => absurd h1 h.1⟩
  rw [if_neg h1]
  by_cases h2 : 12 < t.length
  · rw [if_pos h2]; exact ⟨fun h => by omega, fun h => by omega⟩
  rw [if_neg h2]
  by_cases h3 : t.all signB = true
  · rw [if_pos h3]
    by_cases h4 : cnt t 0 = some 1
    · rw [if_pos h4]; exact ⟨fun _ => ⟨h1, by omega, h3, h4⟩, fun _ => rfl⟩
    · rw [if_neg h4]; exact ⟨fun h => by omega, fun h => absurd h.2.2.2 h4⟩
  · rw [if_neg h3]; exact ⟨fun h => by omega, fun h => absurd h.2.2.1 h3⟩

end Go.Proofs.YtjaedfjfcghgcabGreatDoor

