/-
  Plain facts on terms as rows of signs (chapter 2): how many terms a row makes, its fault, the pile of sets that it works out, terms as trees. No program is read here.
-/
import Derived.Test.YtdjfcdoafabgiaaDoorSetsMath
import Derived.Test.YtdjfcdoafabgiaaDoorRefMath
namespace Go.Proofs.YtdjfcdoafabgiaaDoor
open Go.RowKit

/-- how many terms a sign takes. -/
def takesN (s : Int) : Int := if s = 5 ∨ s = 6 ∨ s = 7 then 2 else if s = 8 then 1 else 0
/-- is it a sign? -/
def signB (s : Int) : Bool := decide (0 ≤ s ∧ s ≤ 8)
/-- how many terms there are behind a row of signs; none: a sign takes more than there are. -/
def cnt : List Int → Int → Option Int
  | [], n => some n
  | s :: l, n => if n < takesN s then none else cnt l (n + 1 - takesN s)
/-- what is wrong with a row of signs: the number of the error, or 0. -/
def faultN (t : List Int) : Int := if t.length = 0 then 5 else if 12 < t.length then 4 else if t.all signB = true then (if cnt t 0 = some 1 then 0 else 3) else 1

theorem signB_iff {s : Int} : signB s = true ↔ 0 ≤ s ∧ s ≤ 8 := by simp [signB]
theorem takesN_range (s : Int) : 0 ≤ takesN s ∧ takesN s ≤ 2 := by unfold takesN; split <;> (try split) <;> omega
theorem takes5 (s : Int) (h : s < 5) : takesN s = 0 := by unfold takesN; rw [if_neg (by omega), if_neg (by omega)]
theorem takes2 (s : Int) (h : 5 ≤ s) (h' : s ≤ 7) : takesN s = 2 := by unfold takesN; rw [if_pos (by omega)]
theorem takes1 : takesN 8 = 1 := by decide

theorem cnt_append (a b : List Int) (n : Int) : cnt (a ++ b) n = (cnt a n).bind (cnt b) := by
  induction a generalizing n with
  | nil => rfl
  | cons s l ih =>
    simp only [List.cons_append, cnt]
    split
    · rfl
    · exact ih _
theorem cnt_nonneg {l : List Int} {n m : Int} (hn : 0 ≤ n) (h : cnt l n = some m) : 0 ≤ m ∧ m ≤ n + l.length := by
  induction l generalizing n with
  | nil => simp [cnt] at h; subst h; simp; omega
  | cons s l ih =>
    have := takesN_range s
    unfold cnt at h
    split at h
    · cases h
    · have := ih (by omega) h
      simp; omega

/-- one sign more. -/
theorem take_succ_getD (t : List Int) {k : Nat} (h : k < t.length) : t.take (k + 1) = t.take k ++ [t.getD k 0] := by
  rw [List.take_add_one]; simp [List.getElem?_eq_getElem h]
theorem cnt_take_succ (t : List Int) {k : Nat} (h : k < t.length) {m : Int} (hm : cnt (t.take k) 0 = some m) : cnt (t.take (k + 1)) 0 = if m < takesN (t.getD k 0) then none else some (m + 1 - takesN (t.getD k 0)) := by
  rw [take_succ_getD t h, cnt_append, hm]; rfl
theorem cnt_take_none (t : List Int) (k : Nat) (h : cnt (t.take k) 0 = none) : cnt t 0 = none := by
  have : cnt (t.take k ++ t.drop k) 0 = none := by rw [cnt_append, h]; rfl
  rwa [List.take_append_drop] at this
theorem cnt_take_some (t : List Int) (k : Nat) {n : Int} (h : cnt t 0 = some n) : ∃ m, cnt (t.take k) 0 = some m := by
  cases hc : cnt (t.take k) 0 with
  | none => rw [cnt_take_none t k hc] at h; cases h
  | some m => exact ⟨m, rfl⟩

/-! ### a world, and the pile -/
structure Wd where
  u : Int
  a : Int
  b : Int
  c : Int
def Wd.ok (w : Wd) : Bool := okB w.u w.a && okB w.u w.b && okB w.u w.c
def Wd.name (w : Wd) (s : Int) : Int := if s = 0 then w.a else if s = 1 then w.b else w.c
/-- the set that a sign makes of those it takes. -/
def Wd.made (w : Wd) (s : Int) (l : List Int) : Int := if s < 3 then w.name s else if s = 3 then 0 else if s = 4 then doN 8 w.u 0 0 else doN s w.u (l.getD 0 0) (l.getD (l.length - 1) 0)
/-- where what a sign takes begins. -/
def restN (p : List Int) (s : Int) : Nat := p.length - (takesN s).toNat
def Wd.step (w : Wd) (p : List Int) (s : Int) : List Int := p.take (restN p s) ++ [w.made s (p.drop (restN p s))]
def Wd.pile (w : Wd) (t p : List Int) : List Int := t.foldl w.step p

theorem pile_append (w : Wd) (a b p : List Int) : w.pile (a ++ b) p = w.pile b (w.pile a p) := by simp [Wd.pile, List.foldl_append]
theorem pile_succ (w : Wd) (t p : List Int) {k : Nat} (h : k < t.length) : w.pile (t.take (k + 1)) p = w.step (w.pile (t.take k) p) (t.getD k 0) := by
  rw [take_succ_getD t h, pile_append]; rfl
theorem step_length (w : Wd) (p : List Int) (s : Int) (h : takesN s ≤ p.length) : ((w.step p s).length : Int) = p.length + 1 - takesN s := by
  have := takesN_range s
  simp [Wd.step, restN]
  omega
theorem pile_length (w : Wd) (t p : List Int) {n : Int} (h : cnt t p.length = some n) : ((w.pile t p).length : Int) = n := by
  induction t generalizing p with
  | nil => simp [cnt] at h; simpa [Wd.pile] using h
  | cons s l ih =>
    unfold cnt at h
    split at h
    · cases h
    · rename_i hs
      have e := step_length w p s (by omega)
      exact ih (w.step p s) (by rw [e]; exact h)

theorem Wd.ok_iff {w : Wd} : w.ok = true ↔ okB w.u w.a = true ∧ okB w.u w.b = true ∧ okB w.u w.c = true := by simp [Wd.ok, and_assoc]
theorem ok_name {w : Wd} (h : w.ok = true) (s : Int) : okB w.u (w.name s) = true := by
  obtain ⟨h1, h2, h3⟩ := Wd.ok_iff.1 h
  unfold Wd.name
  split
  · exact h1
  split
  · exact h2
  exact h3
theorem ok_u {w : Wd} (h : w.ok = true) : 0 ≤ w.u ∧ w.u ≤ 6 := by
  obtain ⟨h1, h2, _⟩ := okB_iff.1 (Wd.ok_iff.1 h).1
  exact ⟨h1, h2⟩
theorem ok_getD {w : Wd} (h : w.ok = true) {p : List Int} (hp : ∀ x ∈ p, okB w.u x = true) (k : Nat) : okB w.u (p.getD k 0) = true := by
  rcases Nat.lt_or_ge k p.length with hk | hk
  · rw [List.getD_eq_getElem?_getD, List.getElem?_eq_getElem hk]; exact hp _ (List.getElem_mem hk)
  · rw [List.getD_eq_getElem?_getD, List.getElem?_eq_none hk]; exact ok_zero (ok_u h).1 (ok_u h).2
theorem ok_made {w : Wd} (h : w.ok = true) {p : List Int} (hp : ∀ x ∈ p, okB w.u x = true) (s : Int) : okB w.u (w.made s p) = true := by
  have z := ok_zero (ok_u h).1 (ok_u h).2
  unfold Wd.made
  split
  · exact ok_name h s
  split
  · exact z
  split
  · exact ok_do z z
  exact ok_do (ok_getD h hp _) (ok_getD h hp _)
theorem ok_step {w : Wd} (h : w.ok = true) {p : List Int} (hp : ∀ x ∈ p, okB w.u x = true) (s : Int) : ∀ x ∈ w.step p s, okB w.u x = true := by
  intro x hx
  unfold Wd.step at hx
  rcases List.mem_append.1 hx with hx | hx
  · exact hp x (List.mem_of_mem_take hx)
  · rw [List.mem_singleton.1 hx]
    exact ok_made h (fun y hy => hp y (List.mem_of_mem_drop hy)) s
theorem ok_pile {w : Wd} (h : w.ok = true) (t : List Int) {p : List Int} (hp : ∀ x ∈ p, okB w.u x = true) : ∀ x ∈ w.pile t p, okB w.u x = true := by
  induction t generalizing p with
  | nil => exact hp
  | cons s l ih => exact ih (p := w.step p s) (ok_step h hp s)

/-- the set of a term. -/
def Wd.val (w : Wd) (t : List Int) : Int := (w.pile t []).getD 0 0
theorem ok_val {w : Wd} (h : w.ok = true) (t : List Int) : okB w.u (w.val t) = true := ok_getD h (ok_pile h t (p := []) (by intro x hx; cases hx)) 0

/-! ### terms as trees -/
inductive Tm where
  | leaf (s : Int)
  | opp (t : Tm)
  | two (s : Int) (a b : Tm)
def Tm.flat : Tm → List Int
  | .leaf s => [s]
  | .opp t => t.flat ++ [8]
  | .two s a b => a.flat ++ (b.flat ++ [s])
def Tm.good : Tm → Prop
  | .leaf s => 0 ≤ s ∧ s ≤ 4
  | .opp t => t.good
  | .two s a b => 5 ≤ s ∧ s ≤ 7 ∧ a.good ∧ b.good
def Tm.val (w : Wd) : Tm → Int
  | .leaf s => w.made s []
  | .opp t => doN 8 w.u (t.val w) (t.val w)
  | .two s a b => doN s w.u (a.val w) (b.val w)

theorem made_leaf (w : Wd) (s : Int) (l : List Int) (h : s ≤ 4) : w.made s l = w.made s [] := by
  unfold Wd.made
  by_cases h3 : s < 3
  · rw [if_pos h3, if_pos h3]
  rw [if_neg h3, if_neg h3]
  by_cases h4 : s = 3
  · rw [if_pos h4, if_pos h4]
  rw [if_neg h4, if_neg h4, if_pos (by omega), if_pos (by omega)]
theorem made_do (w : Wd) (s : Int) (l : List Int) (h : 5 ≤ s) : w.made s l = doN s w.u (l.getD 0 0) (l.getD (l.length - 1) 0) := by
  unfold Wd.made
  rw [if_neg (by omega), if_neg (by omega), if_neg (by omega)]

theorem pile_flat (w : Wd) (T : Tm) (hT : T.good) (p : List Int) : w.pile T.flat p = p ++ [T.val w] := by
  induction T generalizing p with
  | leaf s =>
    have hs : s ≤ 4 := hT.2
    show w.step p s = _
    unfold Wd.step restN
    rw [takes5 s (by omega)]
    simp [Tm.val]
  | opp t ih =>
    show w.pile (t.flat ++ [8]) p = _
    rw [pile_append, ih hT]
    show w.step _ 8 = _
    unfold Wd.step restN
    rw [takes1, made_do _ _ _ (by omega)]
    simp [Tm.val]
  | two s a b iha ihb =>
    obtain ⟨h5, h7, ga, gb⟩ := hT
    show w.pile (a.flat ++ (b.flat ++ [s])) p = _
    rw [pile_append, iha ga, pile_append, ihb gb]
    show w.step _ s = _
    unfold Wd.step restN
    rw [takes2 s h5 h7, made_do _ _ _ h5]
    simp [Tm.val]

/-- a row of right signs makes as many trees as it makes terms. -/
theorem trees (t : List Int) (ht : ∀ s ∈ t, 0 ≤ s ∧ s ≤ 8) (ts : List Tm) (hts : ∀ T ∈ ts, T.good) {n : Int} (h : cnt t ts.length = some n) :
    ∃ ts' : List Tm, (ts'.length : Int) = n ∧ (∀ T ∈ ts', T.good) ∧ (ts'.map Tm.flat).flatten = (ts.map Tm.flat).flatten ++ t := by
  induction t generalizing ts with
  | nil => simp [cnt] at h; exact ⟨ts, h, hts, by simp⟩
  | cons s l ih =>
    have hs := ht s (by simp)
    have hl : ∀ x ∈ l, 0 ≤ x ∧ x ≤ 8 := fun x hx => ht x (by simp [hx])
    unfold cnt at h
    split at h
    · cases h
    · rename_i hn
      by_cases h5 : s < 5
      · rw [takes5 s h5] at h
        obtain ⟨ts', h1, h2, h3⟩ := ih hl (ts ++ [.leaf s]) (by
          intro T hT
          rcases List.mem_append.1 hT with hT | hT
          · exact hts T hT
          · rw [List.mem_singleton.1 hT]; exact ⟨hs.1, by omega⟩) (by rw [← h]; simp)
        exact ⟨ts', h1, h2, by rw [h3]; simp [Tm.flat]⟩
      by_cases h8 : s = 8
      · subst h8
        rw [takes1] at h hn
        obtain ⟨ts0, a, rfl⟩ : ∃ ts0 a, ts = ts0 ++ [a] := by
          rcases List.eq_nil_or_concat ts with rfl | ⟨x, y, rfl⟩
          · simp at hn
          · exact ⟨x, y, by simp⟩
        obtain ⟨ts', h1, h2, h3⟩ := ih hl (ts0 ++ [.opp a]) (by
          intro T hT
          rcases List.mem_append.1 hT with hT | hT
          · exact hts T (by simp [hT])
          · rw [List.mem_singleton.1 hT]; exact hts a (by simp)) (by rw [← h]; simp)
        exact ⟨ts', h1, h2, by rw [h3]; simp [Tm.flat]⟩
      · rw [takes2 s (by omega) (by omega)] at h hn
        obtain ⟨ts0, a, b, rfl⟩ : ∃ ts0 a b, ts = ts0 ++ [a, b] := by
          rcases List.eq_nil_or_concat ts with rfl | ⟨x, y, rfl⟩
          · simp at hn
          · rcases List.eq_nil_or_concat x with rfl | ⟨x', z, rfl⟩
            · simp at hn
            · exact ⟨x', z, y, by simp⟩
        obtain ⟨ts', h1, h2, h3⟩ := ih hl (ts0 ++ [.two s a b]) (by
          intro T hT
          rcases List.mem_append.1 hT with hT | hT
          · exact hts T (by simp [hT])
          · rw [List.mem_singleton.1 hT]; exact ⟨by omega, by omega, hts a (by simp), hts b (by simp)⟩) (by rw [← h]; simp; congr 1; omega)
        exact ⟨ts', h1, h2, by rw [h3]; simp [Tm.flat]⟩

/-- a right term is one tree. -/
theorem tree (t : List Int) (hs : t.all signB = true) (h : cnt t 0 = some 1) : ∃ T : Tm, T.good ∧ T.flat = t := by
  obtain ⟨ts, h1, h2, h3⟩ := trees t (fun s hm => signB_iff.1 (List.all_eq_true.1 hs s hm)) [] (by intro T hT; cases hT) h
  match ts, h1 with
  | [T], _ => exact ⟨T, h2 T (by simp), by simpa using h3⟩
  | [], h1 => simp at h1
  | _ :: _ :: _, h1 => simp at h1; omega
theorem val_flat (w : Wd) (T : Tm) (hT : T.good) : w.val T.flat = T.val w := by
  unfold Wd.val; rw [pile_flat w T hT]; rfl

theorem fault_zero {t : List Int} : faultN t = 0 ↔ t.length ≠ 0 ∧ t.length ≤ 12 ∧ t.all signB = true ∧ cnt t 0 = some 1 := by
  unfold faultN
  by_cases h1 : t.length = 0
  · rw [if_pos h1]; exact ⟨fun h => by omega, fun h => absurd h1 h.1⟩
  rw [if_neg h1]
  by_cases h2 : 12 < t.length
  · rw [if_pos h2]; exact ⟨fun h => by omega, fun h => by omega⟩
  rw [if_neg h2]
  by_cases h3 : t.all signB = true
  · rw [if_pos h3]
    by_cases h4 : cnt t 0 = some 1
    · rw [if_pos h4]; exact ⟨fun _ => ⟨h1, by omega, h3, h4⟩, fun _ => rfl⟩
    · rw [if_neg h4]; exact ⟨fun h => by omega, fun h => absurd h.2.2.2 h4⟩
  · rw [if_neg h3]; exact ⟨fun h => by omega, fun h => absurd h.2.2.1 h3⟩

/-- behind a right term others, and what is done to both. -/
theorem good_two {t r : List Int} (ht : faultN t = 0) (hr : faultN r = 0) (hl : t.length + r.length ≤ 11) {s : Int} (h5 : 5 ≤ s) (h7 : s ≤ 7) : faultN (t ++ (r ++ [s])) = 0 := by
  obtain ⟨a1, a2, a3, a4⟩ := fault_zero.1 ht
  obtain ⟨b1, b2, b3, b4⟩ := fault_zero.1 hr
  refine fault_zero.2 ⟨by simp, by simp; omega, ?_, ?_⟩
  · simp only [List.all_append, a3, b3, Bool.true_and, List.all_cons, List.all_nil, Bool.and_true]
    exact signB_iff.2 ⟨by omega, by omega⟩
  · obtain ⟨T, gT, rfl⟩ := tree t a3 a4
    obtain ⟨R, gR, rfl⟩ := tree r b3 b4
    rw [cnt_append, a4]
    show cnt (R.flat ++ [s]) 1 = _
    have e : cnt R.flat 1 = some 2 := cnt_shift b4
    rw [cnt_append, e]
    show cnt [s] 2 = _
    simp [cnt, takes2 s h5 h7]
where
  cnt_shift {r : List Int} (h : cnt r 0 = some 1) : cnt r 1 = some 2 := cnt_more r 0 1 h
  cnt_more (r : List Int) (n m : Int) (h : cnt r n = some m) : cnt r (n + 1) = some (m + 1) := by
    induction r generalizing n with
    | nil => simp [cnt] at h ⊢; exact h
    | cons s l ih =>
      unfold cnt at h ⊢
      split at h
      · cases h
      · rw [if_neg (by omega), show n + 1 + 1 - takesN s = n + 1 - takesN s + 1 by omega]
        exact ih _ h
theorem val_two (w : Wd) {t r : List Int} (ht : faultN t = 0) (hr : faultN r = 0) {s : Int} (h5 : 5 ≤ s) (h7 : s ≤ 7) : w.val (t ++ (r ++ [s])) = doN s w.u (w.val t) (w.val r) := by
  obtain ⟨a1, a2, a3, a4⟩ := fault_zero.1 ht
  obtain ⟨b1, b2, b3, b4⟩ := fault_zero.1 hr
  obtain ⟨T, gT, rfl⟩ := tree t a3 a4
  obtain ⟨R, gR, rfl⟩ := tree r b3 b4
  rw [show T.flat ++ (R.flat ++ [s]) = (Tm.two s T R).flat from rfl, val_flat w _ (show (Tm.two s T R).good from ⟨h5, h7, gT, gR⟩), val_flat w T gT, val_flat w R gR]
  rfl

/-- not twice is not at all. -/
theorem good_twice {t : List Int} (ht : faultN t = 0) (hl : t.length ≤ 10) : faultN (t ++ [8, 8]) = 0 := by
  obtain ⟨a1, a2, a3, a4⟩ := fault_zero.1 ht
  refine fault_zero.2 ⟨by simp, by simp; omega, ?_, ?_⟩
  · simp only [List.all_append, a3, Bool.true_and]; decide
  · rw [cnt_append, a4]; decide
theorem val_twice {w : Wd} (hw : w.ok = true) {t : List Int} (ht : faultN t = 0) : w.val (t ++ [8, 8]) = w.val t := by
  obtain ⟨a1, a2, a3, a4⟩ := fault_zero.1 ht
  obtain ⟨T, gT, rfl⟩ := tree t a3 a4
  have hv := ok_val hw T.flat
  rw [val_flat w T gT] at hv ⊢
  rw [show T.flat ++ [8, 8] = (Tm.opp (Tm.opp T)).flat by simp [Tm.flat], val_flat w _ (show (Tm.opp (Tm.opp T)).good from gT)]
  exact turn3 hv
end Go.Proofs.YtdjfcdoafabgiaaDoor
