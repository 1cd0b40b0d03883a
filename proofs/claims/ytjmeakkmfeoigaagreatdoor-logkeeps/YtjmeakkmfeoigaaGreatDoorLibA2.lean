/-
  Facts and contracts that the statement leans on.
-/
import Derived.Test.YtjmeakkmfeoigaaGreatDoorLibA1
namespace Go.Proofs.YtjmeakkmfeoigaaGreatDoor
open Go.RowKit
def takesF (s : Int) : Int := if s = 10 ∨ s = 11 ∨ s = 13 then 2 else if s = 12 then 1 else 0
def signF (m : Nat) (s : Int) : Bool := !(decide (takesF s = 0) && (decide (s < 0) || decide ((m : Int) ≤ s)))
def cntF : List Int → Int → Option Int
 | [], n => some n
 | s :: l, n => if n < takesF s then none else cntF l (n + 1 - takesF s)
structure At where
 k : Int
 s : List Int
 t : List Int
 n : Int
def At.fault (a : At) : Int := atomFault a.k a.s a.t a.n
def firstFault : List At → Int
 | [] => 0
 | a :: l => if a.fault = 0 then firstFault l else a.fault
def formFault (ats : List At) (c : List Int) : Int :=
 if ats.length = 0 ∨ c.length = 0 then 5 else if 6 < ats.length ∨ 20 < c.length then 4 else if firstFault ats = 0 then (if c.all (signF ats.length) = true then (if cntF c 0 = some 1 then 0 else 3) else 1) else firstFault ats
theorem takesF_range (s : Int) : 0 ≤ takesF s ∧ takesF s ≤ 2 := by unfold takesF; split <;> (try split) <;> omega
theorem takesF_leaf {s : Int} (h : takesF s = 0) : s ≠ 10 ∧ s ≠ 11 ∧ s ≠ 12 ∧ s ≠ 13 := by
 unfold takesF at h
 split at h
 ·omega
 ·split at h <;> omega
theorem takesF_low {s : Int} (h : s < 10) : takesF s = 0 := by unfold takesF; rw [if_neg (by omega), if_neg (by omega)]
theorem signF_iff {m : Nat} {s : Int} : signF m s = true ↔ (takesF s ≠ 0 ∨ (0 ≤ s ∧ s < m)) := by
 unfold signF
 by_cases h : takesF s = 0
 ·simp [h]
 ·simp [h]
theorem firstFault_zero {ats : List At} : firstFault ats = 0 ↔ ∀ a ∈ ats, a.fault = 0 := by
 induction ats with
 | nil => simp [firstFault]
 | cons a l ih =>
  unfold firstFault
  by_cases h : a.fault = 0
  ·rw [if_pos h, ih]; simp [h]
  ·rw [if_neg h]; simp [h]
theorem formFault_zero {ats : List At} {c : List Int} : formFault ats c = 0 ↔ (1 ≤ ats.length ∧ ats.length ≤ 6) ∧ (1 ≤ c.length ∧ c.length ≤ 20) ∧ (∀ a ∈ ats, a.fault = 0) ∧ c.all (signF ats.length) = true ∧ cntF c 0 = some 1 := by
 unfold formFault
 by_cases h1 : ats.length = 0 ∨ c.length = 0
 ·rw [if_pos h1]; exact ⟨fun h => (by cases h), fun h => by omega⟩
 rw [if_neg h1]
 by_cases h2 : 6 < ats.length ∨ 20 < c.length
 ·rw [if_pos h2]; exact ⟨fun h => (by cases h), fun h => by omega⟩
 rw [if_neg h2]
 by_cases h3 : firstFault ats = 0
 ·rw [if_pos h3]
  by_cases h4 : c.all (signF ats.length) = true
  ·rw [if_pos h4]
   by_cases h5 : cntF c 0 = some 1
   ·rw [if_pos h5]; exact ⟨fun _ => ⟨by omega, by omega, firstFault_zero.1 h3, h4, h5⟩, fun _ => rfl⟩
   ·rw [if_neg h5]; exact ⟨fun h => (by cases h), fun h => absurd h.2.2.2.2 h5⟩
  ·rw [if_neg h4]; exact ⟨fun h => (by cases h), fun h => absurd h.2.2.2.1 h4⟩
 ·rw [if_neg h3]; exact ⟨fun h => absurd h h3, fun h => absurd (firstFault_zero.2 h.2.2.1) h3⟩
theorem cntF_append (a b : List Int) (n : Int) : cntF (a ++ b) n = (cntF a n).bind (cntF b) := by
 induction a generalizing n with
 | nil => rfl
 | cons s l ih =>
  simp only [List.cons_append, cntF]
  split
  ·rfl
  ·exact ih _
theorem cntF_nonneg {l : List Int} {n m : Int} (hn : 0 ≤ n) (h : cntF l n = some m) : 0 ≤ m ∧ m ≤ n + l.length := by
 induction l generalizing n with
 | nil => simp [cntF] at h; subst h; simp; omega
 | cons s l ih =>
  have := takesF_range s
  unfold cntF at h
  split at h
  ·cases h
  ·have := ih (by omega) h
   simp; omega
theorem takeF_succ (t : List Int) {k : Nat} (h : k < t.length) : t.take (k + 1) = t.take k ++ [t.getD k 0] := by
 rw [List.take_add_one]; simp [List.getElem?_eq_getElem h]
theorem cntF_take_succ (t : List Int) {k : Nat} (h : k < t.length) {m : Int} (hm : cntF (t.take k) 0 = some m) : cntF (t.take (k + 1)) 0 = if m < takesF (t.getD k 0) then none else some (m + 1 - takesF (t.getD k 0)) := by
 rw [takeF_succ t h, cntF_append, hm]; rfl
theorem cntF_take_none (t : List Int) (k : Nat) (h : cntF (t.take k) 0 = none) : cntF t 0 = none := by
 have : cntF (t.take k ++ t.drop k) 0 = none := by rw [cntF_append, h]; rfl
 rwa [List.take_append_drop] at this
theorem cntF_take_some (t : List Int) (k : Nat) {n : Int} (h : cntF t 0 = some n) : ∃ m, cntF (t.take k) 0 = some m := by
 cases hc : cntF (t.take k) 0 with
 | none => rw [cntF_take_none t k hc] at h; cases h
 | some m => exact ⟨m, rfl⟩
theorem cntF_more (r : List Int) (n m : Int) (h : cntF r n = some m) : cntF r (n + 1) = some (m + 1) := by
 induction r generalizing n with
 | nil => simp [cntF] at h ⊢; exact h
 | cons s l ih =>
  unfold cntF at h ⊢
  split at h
  ·cases h
  ·rw [if_neg (by omega), show n + 1 + 1 - takesF s = n + 1 - takesF s + 1 by omega]
   exact ih _ h
def madeF (held : List Bool) (s : Int) (l : List Bool) : Bool :=
 if s = 10 then l.getD 0 false && l.getD 1 false else if s = 11 then l.getD 0 false || l.getD 1 false else if s = 13 then !l.getD 0 false || l.getD 1 false else if s = 12 then !l.getD 0 false else held.getD s.toNat false
def restF (p : List Bool) (s : Int) : Nat := p.length - (takesF s).toNat
def stepF (held : List Bool) (p : List Bool) (s : Int) : List Bool := p.take (restF p s) ++ [madeF held s (p.drop (restF p s))]
def pileF (held : List Bool) (c : List Int) (p : List Bool) : List Bool := c.foldl (stepF held) p
def valF (held : List Bool) (c : List Int) : Bool := (pileF held c []).getD 0 false
theorem pileF_append (held : List Bool) (a b : List Int) (p : List Bool) : pileF held (a ++ b) p = pileF held b (pileF held a p) := by simp [pileF, List.foldl_append]
theorem pileF_succ (held : List Bool) (t : List Int) (p : List Bool) {k : Nat} (h : k < t.length) : pileF held (t.take (k + 1)) p = stepF held (pileF held (t.take k) p) (t.getD k 0) := by
 rw [takeF_succ t h, pileF_append]; rfl
theorem stepF_length (held : List Bool) (p : List Bool) (s : Int) (h : takesF s ≤ p.length) : ((stepF held p s).length : Int) = p.length + 1 - takesF s := by
 have := takesF_range s
 simp [stepF, restF]
 omega
theorem pileF_length (held : List Bool) (t : List Int) (p : List Bool) {n : Int} (h : cntF t p.length = some n) : ((pileF held t p).length : Int) = n := by
 induction t generalizing p with
 | nil => simp [cntF] at h; simpa [pileF] using h
 | cons s l ih =>
  unfold cntF at h
  split at h
  ·cases h
  ·rename_i hs
   have e := stepF_length held p s (by omega)
   exact ih (stepF held p s) (by rw [e]; exact h)
theorem stepF_under (held q p : List Bool) (s : Int) (h : takesF s ≤ p.length) : stepF held (q ++ p) s = q ++ stepF held p s := by
 have hr := takesF_range s
 have e : restF (q ++ p) s = q.length + restF p s := by unfold restF; simp; omega
 unfold stepF
 rw [e, List.take_length_add_append, List.drop_length_add_append, List.append_assoc]
theorem pileF_under (held : List Bool) (t : List Int) (q p : List Bool) {n : Int} (h : cntF t p.length = some n) : pileF held t (q ++ p) = q ++ pileF held t p := by
 induction t generalizing p with
 | nil => rfl
 | cons s l ih =>
  unfold cntF at h
  split at h
  ·cases h
  ·rename_i hs
   have e := stepF_length held p s (by omega)
   have := ih (stepF held p s) (by rw [e]; exact h)
   show pileF held l (stepF held (q ++ p) s) = q ++ pileF held l (stepF held p s)
   rw [stepF_under held q p s (by omega)]; exact this
theorem pileF_one (held : List Bool) {t : List Int} (h : cntF t 0 = some 1) (q : List Bool) : pileF held t q = q ++ [valF held t] := by
 have h1 := pileF_under held t q [] h
 rw [List.append_nil] at h1
 rw [h1]
 have h2 := pileF_length held t [] h
 match e : pileF held t [], h2 with
 | [x], _ => simp [valF, e]
 | [], h2 => simp at h2
 | _ :: _ :: _, h2 => simp at h2; omega
theorem pileF_alike {h1 h2 : List Bool} {t1 t2 : List Int} (ht : t1.length = t2.length) (hs : ∀ k, k < t1.length → takesF (t1.getD k 0) = takesF (t2.getD k 0) ∧ ∀ l, madeF h1 (t1.getD k 0) l = madeF h2 (t2.getD k 0) l) (p : List Bool) : pileF h1 t1 p = pileF h2 t2 p := by
 induction t1 generalizing t2 p with
 | nil =>
  cases t2 with
  | nil => rfl
  | cons => simp at ht
 | cons s l ih =>
  cases t2 with
  | nil => simp at ht
  | cons s2 l2 =>
   have e0 := hs 0 (by simp)
   simp only [List.getD_cons_zero] at e0
   have e1 : stepF h1 p s = stepF h2 p s2 := by unfold stepF restF; rw [e0.1, e0.2]
   show pileF h1 l (stepF h1 p s) = pileF h2 l2 (stepF h2 p s2)
   rw [e1]
   refine ih (by simpa using ht) (fun k hk => ?_) _
   have := hs (k + 1) (by simp; omega)
   simpa only [List.getD_cons_succ] using this
theorem good_no {ats : List At} {c : List Int} (h : formFault ats c = 0) (hl : c.length ≤ 19) : formFault ats (c ++ [12]) = 0 := by
 obtain ⟨h1, h2, h3, h4, h5⟩ := formFault_zero.1 h
 refine formFault_zero.2 ⟨h1, by simp; omega, h3, ?_, ?_⟩
 ·rw [List.all_append, h4]; simp [signF, takesF]
 ·rw [cntF_append, h5]; rfl
theorem val_no (held : List Bool) {c : List Int} (h : cntF c 0 = some 1) : valF held (c ++ [12]) = !valF held c := by
 have : pileF held (c ++ [12]) [] = [!valF held c] := by
  rw [pileF_append, pileF_one held h]; rfl
 rw [valF, this]; rfl
theorem cnt_no {c : List Int} (h : cntF c 0 = some 1) : cntF (c ++ [12]) 0 = some 1 := by rw [cntF_append, h]; rfl
theorem val_no_no (held : List Bool) {c : List Int} (h : cntF c 0 = some 1) : valF held ((c ++ [12]) ++ [12]) = valF held c := by
 rw [val_no held (cnt_no h), val_no held h, Bool.not_not]
theorem good_then {ats : List At} {c : List Int} (h : formFault ats c = 0) (hl : c.length ≤ 9) : formFault ats (c ++ (c ++ [13])) = 0 := by
 obtain ⟨h1, h2, h3, h4, h5⟩ := formFault_zero.1 h
 refine formFault_zero.2 ⟨h1, by simp; omega, h3, ?_, ?_⟩
 ·rw [List.all_append, List.all_append, h4]; simp [signF, takesF]
 ·rw [cntF_append, h5]
  show cntF (c ++ [13]) 1 = _
  rw [cntF_append, show cntF c 1 = some 2 from cntF_more c 0 1 h5]; rfl
theorem val_then (held : List Bool) {c : List Int} (h : cntF c 0 = some 1) : valF held (c ++ (c ++ [13])) = true := by
 have : pileF held (c ++ (c ++ [13])) [] = [!valF held c || valF held c] := by
  rw [pileF_append, pileF_one held h, pileF_append, pileF_one held h]; rfl
 rw [valF, this]
 cases valF held c <;> rfl
def movedF (m : Nat) (s : Int) : Int := if takesF s = 0 then s + m else s
theorem good_both {ats bs : List At} {c d : List Int} (h : formFault ats c = 0) (h' : formFault bs d = 0) (hl : ats.length + bs.length ≤ 6) (hc : c.length + d.length ≤ 19) : formFault (ats ++ bs) (c ++ (d.map (movedF ats.length) ++ [10])) = 0 := by
 obtain ⟨h1, h2, h3, h4, h5⟩ := formFault_zero.1 h
 obtain ⟨g1, g2, g3, g4, g5⟩ := formFault_zero.1 h'
 have hm : ∀ s ∈ d, takesF (movedF ats.length s) = takesF s ∧ signF (ats ++ bs).length (movedF ats.length s) = true := by
  intro s hs
  have := signF_iff.1 (List.all_eq_true.1 g4 s hs)
  unfold movedF
  by_cases h0 : takesF s = 0
  ·rw [if_pos h0]
   have h6 : 0 ≤ s ∧ s < bs.length := this.resolve_left (by simp [h0])
   exact ⟨by rw [h0]; exact takesF_low (by omega), signF_iff.2 (Or.inr (by simp; omega))⟩
  ·rw [if_neg h0]
   exact ⟨rfl, signF_iff.2 (Or.inl h0)⟩
 have hcnt : ∀ n, cntF (d.map (movedF ats.length)) n = cntF d n := by
  have : ∀ (l : List Int), (∀ s ∈ l, takesF (movedF ats.length s) = takesF s) → ∀ n, cntF (l.map (movedF ats.length)) n = cntF l n := by
   intro l
   induction l with
   | nil => intro _ n; rfl
   | cons s l ih =>
    intro hh n
    have e := hh s (by simp)
    simp only [List.map_cons, cntF, e]
    rw [ih (fun x hx => hh x (by simp [hx]))]
  exact this d (fun s hs => (hm s hs).1)
 refine formFault_zero.2 ⟨by simp; omega, by simp; omega, ?_, ?_, ?_⟩
 ·intro a ha
  rcases List.mem_append.1 ha with ha | ha
  ·exact h3 a ha
  ·exact g3 a ha
 ·rw [List.all_append, List.all_append]
  have e1 : c.all (signF (ats ++ bs).length) = true := by
   rw [List.all_eq_true]
   intro s hs
   rcases signF_iff.1 (List.all_eq_true.1 h4 s hs) with h | h
   ·exact signF_iff.2 (Or.inl h)
   ·exact signF_iff.2 (Or.inr (by simp; omega))
  have e2 : (d.map (movedF ats.length)).all (signF (ats ++ bs).length) = true := by
   rw [List.all_map, List.all_eq_true]
   intro s hs
   exact (hm s hs).2
  rw [e1, e2]; simp [signF, takesF]
 ·rw [cntF_append, h5]
  show cntF (d.map (movedF ats.length) ++ [10]) 1 = _
  rw [cntF_append, hcnt, show cntF d 1 = some 2 from cntF_more d 0 1 g5]; rfl
theorem madeF_leaf (held : List Bool) {s : Int} (h : takesF s = 0) (l : List Bool) : madeF held s l = held.getD s.toNat false := by
 have := takesF_leaf h
 unfold madeF
 rw [if_neg this.1, if_neg this.2.1, if_neg this.2.2.2, if_neg this.2.2.1]
theorem madeF_op (h1 h2 : List Bool) {s : Int} (h : takesF s ≠ 0) (l : List Bool) : madeF h1 s l = madeF h2 s l := by
 have : s = 10 ∨ s = 11 ∨ s = 13 ∨ s = 12 := by
  unfold takesF at h
  split at h
  ·omega
  ·split at h <;> omega
 rcases this with rfl | rfl | rfl | rfl <;> rfl
theorem val_both {ats bs : List At} {c d : List Int} (ha hb : List Bool) (la : ha.length = ats.length) (h : formFault ats c = 0) (h' : formFault bs d = 0) (hl : ats.length + bs.length ≤ 6) : valF (ha ++ hb) (c ++ (d.map (movedF ats.length) ++ [10])) = (valF ha c && valF hb d) := by
 obtain ⟨h1, h2, h3, h4, h5⟩ := formFault_zero.1 h
 obtain ⟨g1, g2, g3, g4, g5⟩ := formFault_zero.1 h'
 have e1 : ∀ p, pileF (ha ++ hb) c p = pileF ha c p := fun p => by
  refine pileF_alike rfl (fun k hk => ⟨rfl, fun l => ?_⟩) p
  have hm : c.getD k 0 ∈ c := by rw [List.getD_eq_getElem?_getD, List.getElem?_eq_getElem hk]; exact List.getElem_mem hk
  rcases signF_iff.1 (List.all_eq_true.1 h4 _ hm) with h0 | h0
  ·exact madeF_op _ _ h0 l
  ·have t0 : takesF (c.getD k 0) = 0 := takesF_low (by omega)
   rw [madeF_leaf _ t0, madeF_leaf _ t0, List.getD_eq_getElem?_getD, List.getElem?_append_left (by omega), ← List.getD_eq_getElem?_getD]
 have e2 : ∀ p, pileF (ha ++ hb) (d.map (movedF ats.length)) p = pileF hb d p := fun p => by
  refine pileF_alike (by simp) (fun k hk => ?_) p
  have hk' : k < d.length := by simpa using hk
  have eg : (d.map (movedF ats.length)).getD k 0 = movedF ats.length (d.getD k 0) := by
   simp [List.getElem?_eq_getElem hk']
  rw [eg]
  have hm : d.getD k 0 ∈ d := by rw [List.getD_eq_getElem?_getD, List.getElem?_eq_getElem hk']; exact List.getElem_mem hk'
  generalize d.getD k 0 = s at hm
  unfold movedF
  rcases signF_iff.1 (List.all_eq_true.1 g4 s hm) with h0 | h0
  ·rw [if_neg h0]; exact ⟨rfl, fun l => madeF_op _ _ h0 l⟩
  ·have t0 : takesF s = 0 := takesF_low (by omega)
   have t1 : takesF (s + ats.length) = 0 := takesF_low (by omega)
   rw [if_pos t0]
   refine ⟨by rw [t0, t1], fun l => ?_⟩
   rw [madeF_leaf _ t0, madeF_leaf _ t1, show (s + (ats.length : Int)).toNat = ha.length + s.toNat by omega]
   rw [List.getD_eq_getElem?_getD, List.getElem?_append_right (by omega), Nat.add_sub_cancel_left, ← List.getD_eq_getElem?_getD]
 have hp : pileF (ha ++ hb) (c ++ (d.map (movedF ats.length) ++ [10])) [] = [valF ha c && valF hb d] := by
  rw [pileF_append, pileF_append, e1, e2, pileF_one ha h5, pileF_one hb g5]; rfl
 rw [valF, hp]; rfl
def Wd.heldL (w : Wd) (ats : List At) : List Bool := ats.map fun a => w.holds a.k a.s a.t a.n
def Wd.formFault (w : Wd) (ats : List At) (c : List Int) : Int := if YtjmeakkmfeoigaaGreatDoor.formFault ats c = 0 then (if w.ok = true then 0 else 1) else YtjmeakkmfeoigaaGreatDoor.formFault ats c
def Wd.formIs (w : Wd) (ats : List At) (c : List Int) : Bool := if w.formFault ats c = 0 then valF (w.heldL ats) c else false
theorem wdForm_zero {w : Wd} {ats : List At} {c : List Int} : w.formFault ats c = 0 ↔ YtjmeakkmfeoigaaGreatDoor.formFault ats c = 0 ∧ w.ok = true := by
 unfold Wd.formFault
 by_cases h : YtjmeakkmfeoigaaGreatDoor.formFault ats c = 0
 ·rw [if_pos h]
  by_cases h' : w.ok = true
  ·rw [if_pos h']; exact ⟨fun _ => ⟨h, h'⟩, fun _ => rfl⟩
  ·rw [if_neg h']; exact ⟨fun h => (by cases h), fun h => absurd h.2 h'⟩
 ·rw [if_neg h]; exact ⟨fun h' => absurd h' h, fun h' => absurd h'.1 h⟩
def negFault (ats : List At) (c : List Int) : Int := if formFault ats c = 0 then (if 19 < c.length then 4 else 0) else formFault ats c
end Go.Proofs.YtjmeakkmfeoigaaGreatDoor
namespace Go.Proofs.YtjmeakkmfeoigaaGreatDoor
open Go.RowKit
theorem none_of_size {u x : Int} (h : okB u x = true) : (x = 0 ↔ pcN x = 0) :=
 uptoSets (P := fun _ x _ => x = 0 ↔ pcN x = 0) (by decide +kernel) u x x h h
theorem same_of_less {u x y : Int} (hx : okB u x = true) (hy : okB u y = true) : (x = y ↔ lessN x y = 0 ∧ lessN y x = 0) :=
 uptoSets (P := fun _ x y => x = y ↔ lessN x y = 0 ∧ lessN y x = 0) (by decide +kernel) u x y hx hy
structure Alike (w w' : Wd) : Prop where
 ok : w.ok = true
 ok' : w'.ok = true
 fc : ∀ f, f < 8 → w'.fc w'.u.toNat f = w.fc w.u.toNat f
theorem Alike.size {w w' : Wd} (h : Alike w w') {n : Nat} {t : List Int} (ht : isTm n t) : pcN (w'.val t) = pcN (w.val t) := size_same h.ok h.ok' h.fc ht
theorem Alike.less {w w' : Wd} (h : Alike w w') {n m : Nat} {s t : List Int} (hs : isTm n s) (ht : isTm m t) : (lessN (w'.val s) (w'.val t) = 0 ↔ lessN (w.val s) (w.val t) = 0) := by
 have e : ∀ v : Wd, v.val (s ++ (t ++ [7])) = lessN (v.val s) (v.val t) := fun v => by rw [val_bin v (by omega) (by omega) hs ht, doN7]
 have hn : isTm (n + m + 1) (s ++ (t ++ [7])) := Or.inr (Or.inr ⟨7, s, t, by omega, by omega, isTm_mono (by omega) hs, isTm_mono (by omega) ht, rfl⟩)
 rw [← e, ← e, none_of_size (ok_val h.ok' _), none_of_size (ok_val h.ok _), h.size hn]
theorem one_term {t : List Int} (h : faultN t = 0) : ∃ n, isTm n t := tree t (fault_zero.1 h).2.2.1 (fault_zero.1 h).2.2.2
theorem Alike.holds {w w' : Wd} (h : Alike w w') {k : Int} {s t : List Int} {n : Int} (hf : atomFault k s t n = 0) : w'.holds k s t n = w.holds k s t n := by
 obtain ⟨hk, hs, ht, _⟩ := atomFault_zero.1 hf
 obtain ⟨i, hi⟩ := one_term hs
 unfold Wd.holds Wd.snd saysB
 rcases five hk.1 hk.2 with rfl | rfl | rfl | rfl | rfl
 ·obtain ⟨j, hj⟩ := one_term (second_reads ht (by decide))
  rw [if_pos (show secondB 1 = true by decide), if_pos rfl, if_pos (show secondB 1 = true by decide), if_pos rfl]
  exact decide_eq_decide.2 (h.less hi hj)
 ·obtain ⟨j, hj⟩ := one_term (second_reads ht (by decide))
  rw [if_pos (show secondB 2 = true by decide), if_pos (show secondB 2 = true by decide), if_neg (by decide), if_pos rfl, if_neg (by decide), if_pos rfl]
  refine decide_eq_decide.2 ?_
  rw [same_of_less (ok_val h.ok' s) (ok_val h.ok' t), same_of_less (ok_val h.ok s) (ok_val h.ok t), h.less hi hj, h.less hj hi]
 ·rw [if_neg (by decide), if_neg (by decide), if_pos rfl, if_neg (by decide), if_neg (by decide), if_pos rfl, h.size hi]
 ·rw [if_neg (by decide), if_neg (by decide), if_neg (by decide), if_pos rfl, if_neg (by decide), if_neg (by decide), if_neg (by decide), if_pos rfl, h.size hi]
 ·obtain ⟨j, hj⟩ := one_term (second_reads ht (by decide))
  rw [if_pos (show secondB 5 = true by decide), if_pos (show secondB 5 = true by decide), if_neg (by decide), if_neg (by decide), if_neg (by decide), if_neg (by decide), if_neg (by decide), if_neg (by decide), if_neg (by decide), if_neg (by decide), h.size hi, h.size hj]
theorem Alike.fault {w w' : Wd} (h : Alike w w') (ats : List At) (c : List Int) : w'.formFault ats c = w.formFault ats c := by
 unfold Wd.formFault; rw [h.ok, h.ok']
theorem Alike.form {w w' : Wd} (h : Alike w w') (ats : List At) (c : List Int) : w'.formIs ats c = w.formIs ats c := by
 unfold Wd.formIs
 rw [h.fault]
 by_cases hf : w.formFault ats c = 0
 ·rw [if_pos hf, if_pos hf]
  obtain ⟨_, _, hall, _⟩ := formFault_zero.1 (wdForm_zero.1 hf).1
  have e : w'.heldL ats = w.heldL ats := by
   unfold Wd.heldL
   exact List.map_congr_left fun a ha => h.holds (hall a ha)
  rw [e]
 ·rw [if_neg hf, if_neg hf]
theorem alike_made {w : Wd} (h : w.ok = true) : Alike w (madeN (w.fc w.u.toNat) 8) :=
 ⟨h, made_ok (counts_fc h), fun _ hf => made_fc (counts_fc h) hf⟩
theorem made_things {w : Wd} (h : w.ok = true) : (madeN (w.fc w.u.toNat) 8).u = w.u := by
 rw [made_u (counts_fc h), sum_fc]
 have := (ok_u h).1
 omega
end Go.Proofs.YtjmeakkmfeoigaaGreatDoor
namespace Go.Proofs.YtjmeakkmfeoigaaGreatDoor
open Go.RowKit
def timesK (k : Int) (x y : Bool) : Int :=
 if k = 1 then oneB (x && !y) else if k = 2 then oneB (x && !y) + oneB (y && !x) else if k = 3 then - oneB (x && !y) else if k = 4 then oneB (x && !y) else oneB x - oneB y
def mostK (k n : Int) : Int := if k = 3 then -n else n
def baseT (k : Int) (s t : List Int) (f : Nat) : Int := timesK k (liesB s f) (liesB t f)
def rowT (k : Int) (s t : List Int) (h : Bool) (f : Nat) : Int := if h = true then baseT k s t f else - baseT k s t f
def rowM (k n : Int) (h : Bool) : Int := if h = true then mostK k n else -(mostK k n + 1)
theorem timesK_le (k : Int) (x y : Bool) : -1 ≤ timesK k x y ∧ timesK k x y ≤ 1 := by
 unfold timesK
 split
 ·cases x <;> cases y <;> decide
 split
 ·cases x <;> cases y <;> decide
 split
 ·cases x <;> cases y <;> decide
 split
 ·cases x <;> cases y <;> decide
 ·cases x <;> cases y <;> decide
theorem rowT_le (k : Int) (s t : List Int) (h : Bool) (f : Nat) : -1 ≤ rowT k s t h f ∧ rowT k s t h f ≤ 1 := by
 have := timesK_le k (liesB s f) (liesB t f)
 unfold rowT baseT; split <;> omega
theorem mostN_le (k : Int) : 0 ≤ mostN k ∧ mostN k ≤ 20 := by unfold mostN; split <;> omega
theorem rowM_le {k : Int} {s t : List Int} {n : Int} (hf : atomFault k s t n = 0) (h : Bool) : -21 ≤ rowM k n h ∧ rowM k n h ≤ 20 := by
 obtain ⟨_, _, _, h1, h2⟩ := atomFault_zero.1 hf
 have := mostN_le k
 unfold rowM mostK
 split <;> split <;> omega
structure Rw where
 t : Nat → Int
 m : Int
def sumT (T N : Nat → Int) : Nat → Int
 | 0 => 0
 | k + 1 => sumT T N k + T k * N k
def okT (T : Nat → Int) : Nat → Bool
 | 0 => true
 | k + 1 => okT T k && decide (-2 ≤ T k ∧ T k ≤ 2)
def Rw.wrong (r : Rw) : Bool := !(okT r.t 8 && decide (-100 ≤ r.m ∧ r.m ≤ 100))
def Rw.so (r : Rw) (N : Nat → Int) : Bool := decide (sumT r.t N 8 ≤ r.m)
def rowsFault (l : List Rw) : Int := if 12 < l.length then 4 else if l.any Rw.wrong = true then 1 else 0
def fitsFault (l : List Rw) (N : Nat → Int) : Int := if rowsFault l = 0 then countsFault N else rowsFault l
def fitsIs (l : List Rw) (N : Nat → Int) : Bool := if fitsFault l N = 0 then l.all (fun r => r.so N) else false
theorem okT_iff {T : Nat → Int} {k : Nat} : okT T k = true ↔ ∀ f, f < k → -2 ≤ T f ∧ T f ≤ 2 := by
 induction k with
 | zero => exact ⟨fun _ f hf => by omega, fun _ => rfl⟩
 | succ k ih =>
  unfold okT
  rw [Bool.and_eq_true, ih, decide_eq_true_iff]
  refine ⟨fun h f hf => ?_, fun h => ⟨fun f hf => h f (by omega), h k (by omega)⟩⟩
  rcases Nat.lt_or_ge f k with h' | h'
  ·exact h.1 f h'
  ·obtain rfl : f = k := by omega
   exact h.2
theorem right_iff {r : Rw} : r.wrong = false ↔ (∀ f, f < 8 → -2 ≤ r.t f ∧ r.t f ≤ 2) ∧ -100 ≤ r.m ∧ r.m ≤ 100 := by
 unfold Rw.wrong
 rw [Bool.not_eq_false', Bool.and_eq_true, okT_iff, decide_eq_true_iff]
theorem wrong_time {r : Rw} {f : Nat} (hf : f < 8) (h : ¬ (-2 ≤ r.t f ∧ r.t f ≤ 2)) : r.wrong = true := by
 rcases (Bool.eq_false_or_eq_true r.wrong).symm with e | e
 ·exact absurd ((right_iff.1 e).1 f hf) h
 ·exact e
theorem wrong_most {r : Rw} (h : ¬ (-100 ≤ r.m ∧ r.m ≤ 100)) : r.wrong = true := by
 rcases (Bool.eq_false_or_eq_true r.wrong).symm with e | e
 ·exact absurd (right_iff.1 e).2 h
 ·exact e
theorem mul_le {x y : Int} (hx : -2 ≤ x ∧ x ≤ 2) (hy : 0 ≤ y ∧ y ≤ 6) : -12 ≤ x * y ∧ x * y ≤ 12 := by
 obtain ⟨x0, x1⟩ := hx
 have d : x = -2 ∨ x = -1 ∨ x = 0 ∨ x = 1 ∨ x = 2 := by omega
 rcases d with rfl | rfl | rfl | rfl | rfl <;> omega
theorem sumT_le {T N : Nat → Int} {k : Nat} (hT : ∀ f, f < k → -2 ≤ T f ∧ T f ≤ 2) (hN : ∀ f, f < k → 0 ≤ N f ∧ N f ≤ 6) : -12 * (k : Int) ≤ sumT T N k ∧ sumT T N k ≤ 12 * k := by
 induction k with
 | zero => exact ⟨Int.le_refl _, Int.le_refl _⟩
 | succ k ih =>
  have := ih (fun f hf => hT f (by omega)) fun f hf => hN f (by omega)
  have := mul_le (hT k (by omega)) (hN k (by omega))
  unfold sumT; push_cast; omega
theorem sumT_same {T S N M : Nat → Int} {k : Nat} (h : ∀ f, f < k → T f = S f) (h' : ∀ f, f < k → N f = M f) : sumT T N k = sumT S M k := by
 induction k with
 | zero => rfl
 | succ k ih => unfold sumT; rw [ih (fun f hf => h f (by omega)) fun f hf => h' f (by omega), h k (by omega), h' k (by omega)]
theorem sumT_one (L : Nat → Bool) (N : Nat → Int) (k : Nat) : sumT (fun f => oneB (L f)) N k = sumIn L N k := by
 induction k with
 | zero => rfl
 | succ k ih =>
  unfold sumT sumIn
  rw [ih]
  unfold oneB
  split <;> omega
theorem sumT_neg (T N : Nat → Int) (k : Nat) : sumT (fun f => - T f) N k = - sumT T N k := by
 induction k with
 | zero => rfl
 | succ k ih => unfold sumT; rw [ih, Int.neg_mul]; omega
theorem sumT_add (T S N : Nat → Int) (k : Nat) : sumT (fun f => T f + S f) N k = sumT T N k + sumT S N k := by
 induction k with
 | zero => rfl
 | succ k ih => unfold sumT; rw [ih, Int.add_mul]; omega
theorem sumT_sub (T S N : Nat → Int) (k : Nat) : sumT (fun f => T f - S f) N k = sumT T N k - sumT S N k := by
 induction k with
 | zero => rfl
 | succ k ih => unfold sumT; rw [ih, Int.sub_mul]; omega
theorem lies_none (f : Nat) : liesB [] f = false := by
 show hasB 0 ((0 : Nat) : Int) = false
 decide
theorem lies_less {n m : Nat} {s t : List Int} (hs : isTm n s) (ht : isTm m t) (f : Nat) : liesB (s ++ (t ++ [7])) f = (liesB s f && !liesB t f) := by
 unfold liesB
 rw [has_two (oneW_ok f) (by omega) (by omega) hs ht 0 (by rw [oneW_u]; decide)]
 rfl
theorem size_less {w : Wd} (h : w.ok = true) {n m : Nat} {s t : List Int} (hs : isTm n s) (ht : isTm m t) : pcN (lessN (w.val s) (w.val t)) = sumT (fun f => oneB (liesB s f && !liesB t f)) (w.fc w.u.toNat) 8 := by
 have e : w.val (s ++ (t ++ [7])) = lessN (w.val s) (w.val t) := by rw [val_bin w (by omega) (by omega) hs ht, doN7]
 have hn : isTm (n + m + 1) (s ++ (t ++ [7])) := Or.inr (Or.inr ⟨7, s, t, by omega, by omega, isTm_mono (by omega) hs, isTm_mono (by omega) ht, rfl⟩)
 rw [← e, size_fields h hn, ← sumT_one]
 exact sumT_same (fun f _ => by rw [lies_less hs ht]) fun _ _ => rfl
theorem size_one {w : Wd} (h : w.ok = true) {n : Nat} {s : List Int} (hs : isTm n s) : pcN (w.val s) = sumT (fun f => oneB (liesB s f)) (w.fc w.u.toNat) 8 := by
 rw [size_fields h hs, sumT_one]
theorem less_ok {w : Wd} (h : w.ok = true) (s t : List Int) : okB w.u (lessN (w.val s) (w.val t)) = true := by
 have := ok_do (what := 7) (ok_val h s) (ok_val h t)
 rw [doN7] at this
 exact this
theorem second_none {k : Int} {t : List Int} (ht : secondFault k t = 0) (hk : secondB k = false) : t = [] := by
 unfold secondFault at ht
 rw [hk] at ht
 cases t with
 | nil => rfl
 | cons a t => simp at ht
theorem row_says {w : Wd} (h : w.ok = true) {k : Int} {s t : List Int} {n : Int} (hf : atomFault k s t n = 0) : (sumT (baseT k s t) (w.fc w.u.toNat) 8 ≤ mostK k n ↔ w.holds k s t n = true) := by
 obtain ⟨hk, hs, ht, n0, n1⟩ := atomFault_zero.1 hf
 obtain ⟨i, hi⟩ := one_term hs
 unfold Wd.holds Wd.snd saysB
 rcases five hk.1 hk.2 with rfl | rfl | rfl | rfl | rfl
 ·obtain ⟨j, hj⟩ := one_term (second_reads ht (by decide))
  have e : baseT 1 s t = fun f => oneB (liesB s f && !liesB t f) := by funext f; rfl
  have en : n = 0 := by have : mostN 1 = 0 := by decide
                        omega
  rw [if_pos (show secondB 1 = true by decide), if_pos rfl, decide_eq_true_iff, e, ← size_less h hi hj, none_of_size (less_ok h s t), en]
  have := pcN_le (lessN (w.val s) (w.val t))
  show _ ≤ (0 : Int) ↔ _
  omega
 ·obtain ⟨j, hj⟩ := one_term (second_reads ht (by decide))
  have e : baseT 2 s t = fun f => oneB (liesB s f && !liesB t f) + oneB (liesB t f && !liesB s f) := by funext f; rfl
  have en : n = 0 := by have : mostN 2 = 0 := by decide
                        omega
  rw [if_pos (show secondB 2 = true by decide), if_neg (by decide), if_pos rfl, decide_eq_true_iff, e, sumT_add, ← size_less h hi hj, ← size_less h hj hi, same_of_less (ok_val h s) (ok_val h t), none_of_size (less_ok h s t), none_of_size (less_ok h t s), en]
  have := pcN_le (lessN (w.val s) (w.val t))
  have := pcN_le (lessN (w.val t) (w.val s))
  show _ ≤ (0 : Int) ↔ _
  omega
 ·obtain rfl := second_none ht (by decide)
  have e : baseT 3 s [] = fun f => - oneB (liesB s f) := by
   funext f
   show - oneB (liesB s f && !liesB [] f) = _
   rw [lies_none]; simp
  rw [if_neg (by decide), if_neg (by decide), if_pos rfl, decide_eq_true_iff, e, sumT_neg, ← size_one h hi]
  show _ ≤ -n ↔ _
  omega
 ·obtain rfl := second_none ht (by decide)
  have e : baseT 4 s [] = fun f => oneB (liesB s f) := by
   funext f
   show oneB (liesB s f && !liesB [] f) = _
   rw [lies_none]; simp
  rw [if_neg (by decide), if_neg (by decide), if_neg (by decide), if_pos rfl, decide_eq_true_iff, e, ← size_one h hi]
  show _ ≤ n ↔ _
  omega
 ·obtain ⟨j, hj⟩ := one_term (second_reads ht (by decide))
  have e : baseT 5 s t = fun f => oneB (liesB s f) - oneB (liesB t f) := by funext f; rfl
  rw [if_pos (show secondB 5 = true by decide), if_neg (by decide), if_neg (by decide), if_neg (by decide), if_neg (by decide), decide_eq_true_iff, e, sumT_sub, ← size_one h hi, ← size_one h hj]
  show _ ≤ n ↔ _
  omega
theorem rows_say {w : Wd} (h : w.ok = true) {k : Int} {s t : List Int} {n : Int} (hf : atomFault k s t n = 0) (hh : Bool) : (Rw.mk (rowT k s t hh) (rowM k n hh)).so (w.fc w.u.toNat) = (if hh = true then w.holds k s t n else !w.holds k s t n) := by
 have e := row_says h hf
 unfold Rw.so
 cases hh
 ·have e' : rowT k s t false = fun f => - baseT k s t f := by funext f; rfl
  have em : rowM k n false = -(mostK k n + 1) := rfl
  rw [e', sumT_neg, em, if_neg (by decide)]
  rcases (Bool.eq_false_or_eq_true (w.holds k s t n)).symm with q | q
  ·rw [q] at e ⊢
   simp only [Bool.not_false, decide_eq_true_eq]
   have := mt e.1 (by decide)
   omega
  ·rw [q] at e ⊢
   simp only [Bool.not_true, decide_eq_false_iff_not]
   have := e.2 rfl
   omega
 ·have e' : rowT k s t true = baseT k s t := by funext f; rfl
  have em : rowM k n true = mostK k n := rfl
  rw [e', em, if_pos rfl, Bool.eq_iff_iff, decide_eq_true_iff, e]
theorem row_right {k : Int} {s t : List Int} {n : Int} (hf : atomFault k s t n = 0) (hh : Bool) : (Rw.mk (rowT k s t hh) (rowM k n hh)).wrong = false := by
 refine right_iff.2 ⟨fun f _ => ?_, ?_⟩
 ·have := rowT_le k s t hh f
  show -2 ≤ rowT k s t hh f ∧ rowT k s t hh f ≤ 2
  omega
 ·have := rowM_le hf hh
  show -100 ≤ rowM k n hh ∧ rowM k n hh ≤ 100
  omega
end Go.Proofs.YtjmeakkmfeoigaaGreatDoor
namespace Go.Proofs.YtjmeakkmfeoigaaGreatDoor
open Go.RowKit
def putN (N : Nat → Int) (f : Nat) (x : Int) : Nat → Int := fun g => if g = f then x else N g
theorem putN_same (N : Nat → Int) (f : Nat) (x : Int) : putN N f x f = x := by unfold putN; rw [if_pos rfl]
theorem putN_other (N : Nat → Int) {f g : Nat} (h : g ≠ f) (x : Int) : putN N f x g = N g := by unfold putN; rw [if_neg h]
theorem putN_twice (N : Nat → Int) (f : Nat) (x y : Int) : putN (putN N f x) f y = putN N f y := by
 funext g; unfold putN; split <;> rfl
def allF : Nat → Nat → (Nat → Int) → List (Nat → Int)
 | 0, u, N => [putN N 7 u]
 | r + 1, u, N => (List.range (u + 1)).flatMap fun k => allF r (u - k) (putN N (6 - r) k)
def everyC (u : Nat) : List (Nat → Int) := allF 7 u fun _ => 0
def allTo (r u : Nat) (N : Nat → Int) (k : Nat) : List (Nat → Int) := (List.range k).flatMap fun j => allF r (u - j) (putN N (6 - r) j)
theorem allTo_zero (r u : Nat) (N : Nat → Int) : allTo r u N 0 = [] := rfl
theorem allTo_succ (r u : Nat) (N : Nat → Int) (k : Nat) : allTo r u N (k + 1) = allTo r u N k ++ allF r (u - k) (putN N (6 - r) k) := by
 unfold allTo; rw [List.range_succ, List.flatMap_append]; simp
theorem allTo_all (r u : Nat) (N : Nat → Int) : allTo r u N (u + 1) = allF (r + 1) u N := rfl
def waysN : Nat → Nat → Nat
 | 0, _ => 1
 | r + 1, u => ((List.range (u + 1)).map fun k => waysN r (u - k)).sum
theorem length_allF (r : Nat) : ∀ (u : Nat) (N : Nat → Int), (allF r u N).length = waysN r u := by
 induction r with
 | zero => intro u N; rfl
 | succ r ih =>
  intro u N
  unfold allF waysN
  rw [List.length_flatMap]
  congr 1
  apply List.map_congr_left
  intro k _
  exact ih _ _
theorem ways_le : ∀ r, r ≤ 7 → ∀ u, u ≤ 6 → waysN r u ≤ 1716 := by decide +kernel
theorem length_everyC {u : Nat} (h : u ≤ 6) : (everyC u).length ≤ 1716 := by
 unfold everyC; rw [length_allF]; exact ways_le 7 (by omega) u h
theorem len_allTo_le (r u : Nat) (N : Nat → Int) {k : Nat} (hk : k ≤ u + 1) : (allTo r u N k).length ≤ (allF (r + 1) u N).length := by
 rw [← allTo_all]
 unfold allTo
 rw [List.length_flatMap, List.length_flatMap]
 have e : List.range (u + 1) = List.range k ++ (List.range (u + 1 - k)).map (k + ·) := by
  rw [← List.range_add]; congr 1; omega
 rw [e, List.map_append, List.sum_append]
 omega
theorem allF_sum (r : Nat) (hr : r ≤ 7) : ∀ (u : Nat) (N : Nat → Int), ∀ M ∈ allF r u N, (∀ g, g < 7 - r → M g = N g) ∧ (∀ g, 7 - r ≤ g → g < 8 → 0 ≤ M g ∧ M g ≤ u) ∧ sumN M 8 = sumN N (7 - r) + u := by
 induction r with
 | zero =>
  intro u N M hM
  obtain rfl : M = putN N 7 u := by simpa [allF] using hM
  refine ⟨fun g hg => putN_other N (by omega) _, fun g h1 h2 => ?_, ?_⟩
  ·obtain rfl : g = 7 := by omega
   rw [putN_same]; omega
  ·show sumN (putN N 7 u) 7 + putN N 7 u 7 = _
   rw [putN_same, sumN_same (M := N) fun f hf => putN_other N (by omega) _]
 | succ r ih =>
  intro u N M hM
  unfold allF at hM
  rw [List.mem_flatMap] at hM
  obtain ⟨k, hk, hM⟩ := hM
  have hk' : k < u + 1 := List.mem_range.1 hk
  obtain ⟨i1, i2, i3⟩ := ih (by omega) (u - k) _ M hM
  have e7 : 7 - r = 7 - (r + 1) + 1 := by omega
  have e6 : 6 - r = 7 - (r + 1) := by omega
  rw [e6] at i1 i3
  refine ⟨fun g hg => ?_, fun g h1 h2 => ?_, ?_⟩
  ·rw [i1 g (by omega)]; exact putN_other N (by omega) _
  ·by_cases e : g = 7 - (r + 1)
   ·rw [i1 g (by omega), e, putN_same]; omega
   ·have := i2 g (by omega) h2
    omega
  ·rw [i3, e7]
   show sumN _ (7 - (r + 1)) + putN N (7 - (r + 1)) k (7 - (r + 1)) + _ = _
   rw [putN_same, sumN_same (M := N) fun f hf => putN_other N (by omega) _]
   omega
theorem everyC_sum {u : Nat} {M : Nat → Int} (h : M ∈ everyC u) : (∀ g, g < 8 → 0 ≤ M g ∧ M g ≤ u) ∧ sumN M 8 = u := by
 obtain ⟨_, h2, h3⟩ := allF_sum 7 (by omega) u (fun _ => 0) M h
 refine ⟨fun g hg => h2 g (by omega) hg, ?_⟩
 rw [h3]; show (0 : Int) + u = u; omega
theorem everyC_right {u : Nat} (hu : u ≤ 6) {M : Nat → Int} (h : M ∈ everyC u) : countsFault M = 0 := by
 obtain ⟨h1, h2⟩ := everyC_sum h
 exact counts_zero.2 ⟨fun f hf => by have := h1 f hf; omega, by omega⟩
end Go.Proofs.YtjmeakkmfeoigaaGreatDoor
namespace Go.Proofs.YtjmeakkmfeoigaaGreatDoor
open Go.RowKit
def aheadC (N M : Nat → Int) : Prop := ∃ f, f < 8 ∧ (∀ g, g < f → N g = M g) ∧ N f < M f
theorem allF_front {r : Nat} (hr : r ≤ 7) {u : Nat} {N M : Nat → Int} (h : M ∈ allF r u N) {g : Nat} (hg : g < 7 - r) : M g = N g := (allF_sum r hr u N M h).1 g hg
theorem allF_sorted (r : Nat) (hr : r ≤ 7) : ∀ (u : Nat) (N : Nat → Int), (allF r u N).Pairwise aheadC := by
 induction r with
 | zero => intro u N; exact List.pairwise_singleton _ _
 | succ r ih =>
  intro u N
  unfold allF
  rw [List.pairwise_flatMap]
  refine ⟨fun k _ => ih (by omega) _ _, ?_⟩
  refine List.Pairwise.imp ?_ List.pairwise_lt_range
  intro j k hjk A hA B hB
  have e : 6 - r = 7 - (r + 1) := by omega
  refine ⟨6 - r, by omega, fun g hg => ?_, ?_⟩
  ·rw [allF_front (by omega) hA (by omega), allF_front (by omega) hB (by omega), putN_other N (by omega), putN_other N (by omega)]
  ·rw [allF_front (by omega) hA (by omega), allF_front (by omega) hB (by omega), putN_same, putN_same]
   omega
theorem sumN_up {N : Nat → Int} {k l : Nat} (hkl : k ≤ l) (h : ∀ g, k ≤ g → g < l → 0 ≤ N g) : sumN N k ≤ sumN N l := by
 induction l with
 | zero => obtain rfl : k = 0 := by omega
           exact Int.le_refl _
 | succ l ih =>
  rcases Nat.lt_or_ge l k with h' | h'
  ·obtain rfl : k = l + 1 := by omega
   exact Int.le_refl _
  ·have := ih h' fun g h1 h2 => h g h1 (by omega)
   have := h l h' (by omega)
   have e : sumN N (l + 1) = sumN N l + N l := rfl
   rw [e]; omega
theorem allF_all (r : Nat) (hr : r ≤ 7) : ∀ (u : Nat) (N M : Nat → Int), (∀ g, g < 7 - r → M g = N g) → (∀ g, 7 - r ≤ g → g < 8 → 0 ≤ M g) → sumN M 8 = sumN N (7 - r) + u → ∃ A ∈ allF r u N, ∀ g, g < 8 → A g = M g := by
 induction r with
 | zero =>
  intro u N M h1 h2 h3
  refine ⟨putN N 7 u, by simp [allF], fun g hg => ?_⟩
  by_cases e : g = 7
  ·subst e
   rw [putN_same]
   have e8 : sumN M 8 = sumN M 7 + M 7 := rfl
   have e7 : sumN M 7 = sumN N 7 := sumN_same fun f hf => h1 f (by omega)
   have : sumN N (7 - 0) = sumN N 7 := rfl
   omega
  ·rw [putN_other N e, h1 g (by omega)]
 | succ r ih =>
  intro u N M h1 h2 h3
  obtain ⟨f, hf⟩ := nm (7 - (r + 1))
  have e6 : 6 - r = f := by omega
  have e7 : 7 - r = f + 1 := by omega
  rw [← hf] at h1 h2 h3
  have m0 := h2 f (Nat.le_refl _) (by omega)
  obtain ⟨k, hk⟩ := Int.eq_ofNat_of_zero_le m0
  have ef : sumN M (f + 1) = sumN N f + k := by
   show sumN M f + M f = _
   rw [sumN_same (M := N) fun g hg => h1 g hg, hk]
  have hup := sumN_up (N := M) (k := f + 1) (l := 8) (by omega) fun g a b => h2 g (by omega) b
  have hku : k ≤ u := by omega
  obtain ⟨A, hA, hAM⟩ := ih (by omega) (u - k) (putN N f k) M (fun g hg => by
   by_cases e : g = f
   ·rw [e, putN_same, hk]
   ·rw [putN_other N e, h1 g (by omega)]) (fun g a b => h2 g (by omega) b) (by
   rw [e7]
   show _ = sumN (putN N f k) f + putN N f k f + _
   rw [putN_same, sumN_same (M := N) fun g hg => putN_other N (by omega) _]
   omega)
  refine ⟨A, ?_, hAM⟩
  unfold allF
  rw [List.mem_flatMap]
  exact ⟨k, List.mem_range.2 (by omega), by rw [e6]; exact hA⟩
theorem everyC_all {u : Nat} {M : Nat → Int} (h0 : ∀ g, g < 8 → 0 ≤ M g) (hs : sumN M 8 = u) : ∃ A ∈ everyC u, ∀ g, g < 8 → A g = M g :=
 allF_all 7 (by omega) u _ M (fun g hg => by omega) (fun g _ hg => h0 g hg) (by rw [hs]; show _ = (0 : Int) + u; omega)
theorem everyC_sorted (u : Nat) : (everyC u).Pairwise aheadC := allF_sorted 7 (by omega) u _
theorem aheadC_irrefl {N M : Nat → Int} (h : aheadC N M) : ¬ ∀ g, g < 8 → N g = M g := by
 obtain ⟨f, hf, _, hlt⟩ := h
 intro e
 have := e f hf
 omega
theorem aheadC_asymm {N M : Nat → Int} (h : aheadC N M) : ¬ aheadC M N := by
 obtain ⟨f, hf, he, hlt⟩ := h
 rintro ⟨g, hg, he', hlt'⟩
 rcases Nat.lt_trichotomy f g with h' | h' | h'
 ·have := he' f h'; omega
 ·subst h'; omega
 ·have := he g h'; omega
theorem everyC_once {u i j : Nat} {A B : Nat → Int} (hi : (everyC u)[i]? = some A) (hj : (everyC u)[j]? = some B) (h : ∀ g, g < 8 → A g = B g) : i = j := by
 have hs := List.pairwise_iff_getElem.1 (everyC_sorted u)
 obtain ⟨hi', rfl⟩ := List.getElem?_eq_some_iff.1 hi
 obtain ⟨hj', rfl⟩ := List.getElem?_eq_some_iff.1 hj
 rcases Nat.lt_trichotomy i j with h' | h' | h'
 ·exact absurd h (aheadC_irrefl (hs i j hi' hj' h'))
 ·exact h'
 ·exact absurd (fun g hg => (h g hg).symm) (aheadC_irrefl (hs j i hj' hi' h'))
theorem everyC_two : (everyC 2).length = 36 := by unfold everyC; rw [length_allF]; decide +kernel
end Go.Proofs.YtjmeakkmfeoigaaGreatDoor
namespace Go.Proofs.YtjmeakkmfeoigaaGreatDoor
open Go.RowKit
def fitB (l : List Rw) (N : Nat → Int) : Bool := l.all fun r => r.so N
def zeroC : Nat → Int := fun _ => 0
def manyD (A : List (Nat → Int)) (p : (Nat → Int) → Bool) (j : Nat) : Nat := ((A.drop j).filter p).length
def leastD (A : List (Nat → Int)) (p : (Nat → Int) → Bool) (j : Nat) : Nat → Int := ((A.drop j).find? p).getD zeroC
theorem manyD_end (A : List (Nat → Int)) (p : (Nat → Int) → Bool) : manyD A p A.length = 0 := by unfold manyD; simp
theorem leastD_end (A : List (Nat → Int)) (p : (Nat → Int) → Bool) : leastD A p A.length = zeroC := by unfold leastD; simp
theorem manyD_step {A : List (Nat → Int)} {p : (Nat → Int) → Bool} {j : Nat} {M : Nat → Int} (h : A[j]? = some M) : manyD A p j = manyD A p (j + 1) + (if p M = true then 1 else 0) := by
 obtain ⟨hj, rfl⟩ := List.getElem?_eq_some_iff.1 h
 unfold manyD
 rw [List.drop_eq_getElem_cons hj, List.filter_cons]
 split
 ·rw [List.length_cons]
 ·rfl
theorem leastD_step {A : List (Nat → Int)} {p : (Nat → Int) → Bool} {j : Nat} {M : Nat → Int} (h : A[j]? = some M) : leastD A p j = if p M = true then M else leastD A p (j + 1) := by
 obtain ⟨hj, rfl⟩ := List.getElem?_eq_some_iff.1 h
 unfold leastD
 rw [List.drop_eq_getElem_cons hj, List.find?_cons]
 split
 ·rename_i hp; rw [if_pos hp]; rfl
 ·rename_i hp; rw [if_neg (by rw [hp]; decide)]
theorem manyD_le (A : List (Nat → Int)) (p : (Nat → Int) → Bool) (j : Nat) : manyD A p j ≤ A.length := by
 unfold manyD
 have := List.length_filter_le p (A.drop j)
 rw [List.length_drop] at this
 omega
theorem manyD_none {A : List (Nat → Int)} {p : (Nat → Int) → Bool} {j : Nat} (h : manyD A p j = 0) : leastD A p j = zeroC := by
 unfold manyD at h
 have hn := List.eq_nil_of_length_eq_zero h
 have : (A.drop j).find? p = none := by
  rw [List.find?_eq_none]
  intro x hx hp
  have : x ∈ (A.drop j).filter p := List.mem_filter.2 ⟨hx, hp⟩
  rw [hn] at this
  cases this
 unfold leastD
 rw [this]
 rfl
def nextTo (A : List (Nat → Int)) (q : (Nat → Int) → Bool) : Nat → Option (Nat → Int)
 | 0 => none
 | i + 1 => if q (A.getD i zeroC) = true then some (A.getD (i + 1) zeroC) else nextTo A q i
def fitFault (u : Int) (l : List Rw) : Int := if 0 ≤ u ∧ u ≤ 6 then rowsFault l else 1
def fitManyN (u : Int) (l : List Rw) : Int := if fitFault u l = 0 then (manyD (everyC u.toNat) (fitB l) 0 : Int) else 0
def leastFault (u : Int) (l : List Rw) : Int := if fitFault u l = 0 then (if fitManyN u l = 0 then 5 else 0) else fitFault u l
def leastN (u : Int) (l : List Rw) : Nat → Int := if fitFault u l = 0 then leastD (everyC u.toNat) (fitB l) 0 else zeroC
def nextO (u : Int) (N : Nat → Int) : Option (Nat → Int) := nextTo (everyC u.toNat) (fun M => (List.range 8).all fun f => M f == N f) ((everyC u.toNat).length - 1)
def nextFault (u : Int) (N : Nat → Int) : Int :=
 if 0 ≤ u ∧ u ≤ 6 then (if countsFault N = 0 then (if sumN N 8 = u then (if (nextO u N).isSome = true then 0 else 5) else 3) else countsFault N) else 1
def nextN (u : Int) (N : Nat → Int) : Nat → Int := if nextFault u N = 0 then (nextO u N).getD zeroC else zeroC
end Go.Proofs.YtjmeakkmfeoigaaGreatDoor
namespace Go.Proofs.YtjmeakkmfeoigaaGreatDoor
open Go.RowKit
theorem allF_ne (r : Nat) : ∀ (u : Nat) (N : Nat → Int), allF r u N ≠ [] := by
 induction r with
 | zero => intro u N h; cases h
 | succ r ih =>
  intro u N h
  unfold allF at h
  rw [List.flatMap_eq_nil_iff] at h
  exact ih _ _ (h 0 (List.mem_range.2 (by omega)))
theorem allF_head (r : Nat) : ∀ (u : Nat) (N : Nat → Int), ∃ M, (allF r u N)[0]? = some M ∧ M 7 = (u : Int) := by
 induction r with
 | zero => intro u N; exact ⟨putN N 7 u, rfl, putN_same _ _ _⟩
 | succ r ih =>
  intro u N
  obtain ⟨M, h1, h2⟩ := ih u (putN N (6 - r) (0 : Nat))
  refine ⟨M, ?_, h2⟩
  unfold allF
  rw [List.range_succ_eq_map, List.flatMap_cons, List.getElem?_append_left (by have := (List.getElem?_eq_some_iff.1 h1).1; exact this)]
  exact h1
theorem allF_last (r : Nat) (hr : r ≤ 7) : ∀ (u : Nat) (N : Nat → Int), ∃ M, (allF r u N)[(allF r u N).length - 1]? = some M ∧ ∀ g, g < 8 → M g = if g = 7 - r then (u : Int) else if 7 - r < g then 0 else N g := by
 induction r with
 | zero =>
  intro u N
  refine ⟨putN N 7 u, rfl, fun g hg => ?_⟩
  by_cases e : g = 7
  ·subst e; rw [putN_same, if_pos rfl]
  ·rw [putN_other N e, if_neg (by omega), if_neg (by omega)]
 | succ r ih =>
  intro u N
  obtain ⟨M, h1, h2⟩ := ih (by omega) 0 (putN N (6 - r) u)
  have e : allF (r + 1) u N = allTo r u N u ++ allF r 0 (putN N (6 - r) u) := by
   rw [← allTo_all, allTo_succ, Nat.sub_self]
  have hp : 0 < (allF r 0 (putN N (6 - r) u)).length := List.length_pos_iff.2 (allF_ne r 0 _)
  refine ⟨M, ?_, fun g hg => ?_⟩
  ·rw [e, List.length_append, List.getElem?_append_right (by omega)]
   rw [show (allTo r u N u).length + (allF r 0 (putN N (6 - r) u)).length - 1 - (allTo r u N u).length = (allF r 0 (putN N (6 - r) u)).length - 1 by omega]
   exact h1
  ·rw [h2 g hg]
   by_cases e1 : g = 7 - (r + 1)
   ·rw [if_neg (by omega), if_neg (by omega), if_pos e1, show 6 - r = g by omega, putN_same]
   ·rw [if_neg e1]
    by_cases e2 : g = 7 - r
    ·rw [if_pos e2, if_pos (by omega)]; rfl
    ·rw [if_neg e2]
     by_cases e3 : 7 - r < g
     ·rw [if_pos e3, if_pos (by omega)]
     ·rw [if_neg e3, if_neg (by omega), putN_other N (by omega)]
theorem nextTo_none {A : List (Nat → Int)} {q : (Nat → Int) → Bool} {n : Nat} (h : ∀ i, i < n → q (A.getD i zeroC) = false) : nextTo A q n = none := by
 induction n with
 | zero => rfl
 | succ n ih =>
  unfold nextTo
  rw [if_neg (by rw [h n (by omega)]; decide)]
  exact ih fun i hi => h i (by omega)
theorem getD_of {A : List (Nat → Int)} {i : Nat} (h : i < A.length) : A[i]? = some (A.getD i zeroC) := by
 rw [List.getD_eq_getElem?_getD, List.getElem?_eq_getElem h]; rfl
theorem all8_iff {N M : Nat → Int} : ((List.range 8).all fun f => M f == N f) = true ↔ ∀ f, f < 8 → M f = N f := by
 rw [List.all_eq_true]
 exact ⟨fun h f hf => by simpa using h f (List.mem_range.2 hf), fun h f hf => by simpa using h f (List.mem_range.1 hf)⟩
theorem next_last (u : Nat) (N : Nat → Int) (h0 : N 0 = u) (h : ∀ g, 0 < g → g < 8 → N g = 0) : nextO (u : Int) N = none := by
 unfold nextO
 rw [Int.toNat_natCast]
 obtain ⟨M, h1, h2⟩ := allF_last 7 (by omega) u fun _ => 0
 refine nextTo_none fun i hi => ?_
 rcases (Bool.eq_false_or_eq_true ((List.range 8).all fun f => (everyC u).getD i zeroC f == N f)).symm with e | e
 ·exact e
 ·have e' := all8_iff.1 e
  have := everyC_once (u := u) (getD_of (show i < (everyC u).length by omega)) h1 (fun g hg => by
   rw [e' g hg, h2 g hg]
   by_cases eg : g = 0
   ·subst eg; rw [h0]; rfl
   ·rw [h g (by omega) hg, if_neg (by omega), if_pos (by omega)])
  have hl : (allF 7 u fun _ => 0) = everyC u := rfl
  rw [hl] at this
  omega
theorem fitB_nil (N : Nat → Int) : fitB [] N = true := rfl
theorem many_nil {u : Nat} (hu : u ≤ 6) : fitManyN (u : Int) [] = ((everyC u).length : Int) := by
 have e : fitFault (u : Int) [] = 0 := by unfold fitFault; rw [if_pos (by omega)]; rfl
 unfold fitManyN manyD
 rw [if_pos e, Int.toNat_natCast, List.drop_zero, List.filter_eq_self.2 fun M _ => fitB_nil M]
theorem least_nil {u : Nat} (hu : u ≤ 6) : leastFault (u : Int) [] = 0 ∧ leastN (u : Int) [] 7 = u := by
 have e : fitFault (u : Int) [] = 0 := by unfold fitFault; rw [if_pos (by omega)]; rfl
 obtain ⟨M, h1, h2⟩ := allF_head 7 u fun _ => 0
 have hl : (allF 7 u fun _ => 0) = everyC u := rfl
 rw [hl] at h1
 constructor
 ·unfold leastFault
  have hp : 0 < (everyC u).length := (List.getElem?_eq_some_iff.1 h1).1
  rw [if_pos e, if_neg (by rw [many_nil hu]; omega)]
 ·unfold leastN leastD
  rw [if_pos e, Int.toNat_natCast, List.drop_zero]
  cases hA : everyC u with
  | nil => rw [hA] at h1; simp at h1
  | cons B A =>
   rw [hA] at h1
   obtain rfl : B = M := by simpa using h1
   rw [List.find?_cons_of_pos (fitB_nil B)]
   exact h2
theorem fitB_same {l : List Rw} {N M : Nat → Int} (h : ∀ g, g < 8 → N g = M g) : fitB l N = fitB l M := by
 unfold fitB
 have : ∀ r : Rw, r.so N = r.so M := fun r => by unfold Rw.so; rw [sumT_same (fun _ _ => rfl) h]
 simp only [this]
theorem fitB_append (l m : List Rw) (N : Nat → Int) : fitB (l ++ m) N = (fitB l N && fitB m N) := by unfold fitB; rw [List.all_append]
theorem manyD_append (A : List (Nat → Int)) (l m : List Rw) (j : Nat) : manyD A (fitB (l ++ m)) j ≤ manyD A (fitB l) j := by
 unfold manyD
 have e : (A.drop j).filter (fitB (l ++ m)) = ((A.drop j).filter (fitB l)).filter (fitB m) := by
  rw [List.filter_filter]
  apply List.filter_congr
  intro N _
  rw [fitB_append, Bool.and_comm]
 rw [e]
 exact List.length_filter_le _ _
theorem manyD_all (A : List (Nat → Int)) (p : (Nat → Int) → Bool) : manyD A p 0 ≤ A.length := manyD_le A p 0
theorem none_fits {u : Nat} {l : List Rw} (h : manyD (everyC u) (fitB l) 0 = 0) {N : Nat → Int} (h0 : ∀ g, g < 8 → 0 ≤ N g) (hs : sumN N 8 = u) : fitB l N = false := by
 obtain ⟨A, hA, hAN⟩ := everyC_all h0 hs
 rw [← fitB_same (l := l) hAN]
 rcases (Bool.eq_false_or_eq_true (fitB l A)).symm with e | e
 ·exact e
 ·unfold manyD at h
  rw [List.drop_zero] at h
  have hn := List.eq_nil_of_length_eq_zero h
  have : A ∈ (everyC u).filter (fitB l) := List.mem_filter.2 ⟨hA, e⟩
  rw [hn] at this
  cases this
theorem least_fits {u : Nat} {l : List Rw} (h : ¬ manyD (everyC u) (fitB l) 0 = 0) : leastD (everyC u) (fitB l) 0 ∈ everyC u ∧ fitB l (leastD (everyC u) (fitB l) 0) = true := by
 unfold leastD
 rw [List.drop_zero]
 cases e : (everyC u).find? (fitB l) with
 | none =>
  refine absurd ?_ h
  unfold manyD
  rw [List.drop_zero, List.filter_eq_nil_iff.2 fun M hM => by simpa using List.find?_eq_none.1 e M hM]
  rfl
 | some M => exact ⟨List.mem_of_find?_eq_some e, List.find?_some e⟩
theorem least_first {u : Nat} {l : List Rw} {N : Nat → Int} (h0 : ∀ g, g < 8 → 0 ≤ N g) (hs : sumN N 8 = u) (hf : fitB l N = true) {f : Nat} (hfl : f < 8) (he : ∀ g, g < f → N g = leastD (everyC u) (fitB l) 0 g) (hne : N f ≠ leastD (everyC u) (fitB l) 0 f) : leastD (everyC u) (fitB l) 0 f < N f := by
 obtain ⟨A, hA, hAN⟩ := everyC_all h0 hs
 have hfA : fitB l A = true := by rw [fitB_same hAN]; exact hf
 have hsrt := everyC_sorted u
 obtain ⟨X, hX⟩ := nm (leastD (everyC u) (fitB l) 0)
 rw [← hX] at he hne ⊢
 have key : aheadC X A ∨ ∀ g, g < 8 → X g = A g := by
  unfold leastD at hX
  rw [List.drop_zero] at hX
  cases e : (everyC u).find? (fitB l) with
  | none => exact absurd hfA (by simpa using List.find?_eq_none.1 e A hA)
  | some M =>
   rw [e] at hX
   have hXM : X = M := hX
   obtain ⟨hM, ats, bs, hab, has⟩ := List.find?_eq_some_iff_append.1 e
   rw [hab] at hA hsrt
   rcases List.mem_append.1 hA with h | h
   ·have := has A h
    rw [hfA] at this
    simp at this
   ·rcases List.mem_cons.1 h with h | h
    ·right; intro g _; rw [hXM, h]
    ·left
     rw [hXM]
     exact (List.pairwise_cons.1 (List.pairwise_append.1 hsrt).2.1).1 A h
 rcases key with ⟨d, hd, hde, hdl⟩ | h
 ·have hAd := hAN
  rcases Nat.lt_trichotomy d f with h' | h' | h'
  ·have := he d h'
   have := hAd d hd
   omega
  ·subst h'
   rw [← hAN d hd]; exact hdl
  ·have := hde f h'
   have := hAd f hfl
   omega
 ·exact absurd ((hAN f hfl).symm.trans (h f hfl).symm) hne
end Go.Proofs.YtjmeakkmfeoigaaGreatDoor
namespace Go.Proofs.YtjmeakkmfeoigaaGreatDoor
open Go.RowKit
def lastTo (N : Nat → Int) : Nat → Nat
 | 0 => 0
 | k + 1 => if 0 < N k then k else lastTo N k
theorem lastTo_lt (N : Nat → Int) (k : Nat) (h : lastTo N k ≠ 0) : lastTo N k < k := by
 induction k with
 | zero => exact absurd rfl h
 | succ k ih =>
  unfold lastTo at h ⊢
  split
  ·omega
  ·rename_i hn
   rw [if_neg hn] at h
   have := ih h
   omega
theorem lastTo_same {N M : Nat → Int} {k : Nat} (h : ∀ g, g < k → N g = M g) : lastTo N k = lastTo M k := by
 induction k with
 | zero => rfl
 | succ k ih => unfold lastTo; rw [h k (by omega), ih fun g hg => h g (by omega)]
theorem lastTo_has {N : Nat → Int} {k : Nat} (h : lastTo N k ≠ 0) : 0 < N (lastTo N k) := by
 induction k with
 | zero => exact absurd rfl h
 | succ k ih =>
  unfold lastTo at h ⊢
  split
  ·rename_i hp; exact hp
  ·rename_i hn
   rw [if_neg hn] at h
   exact ih h
def afterL (N : Nat → Int) (L : Nat) : Nat → Int := putN (putN (putN N L 0) (L - 1) (N (L - 1) + 1)) 7 (N L - 1)
def afterN (N : Nat → Int) : Nat → Int := afterL N (lastTo N 8)
def afterO (N : Nat → Int) : Nat → Int := if lastTo N 8 = 0 then zeroC else afterN N
theorem afterN_same {N M : Nat → Int} (h : ∀ g, g < 8 → N g = M g) (hl : lastTo N 8 ≠ 0) : ∀ g, g < 8 → afterN N g = afterN M g := by
 intro g hg
 have hlt := lastTo_lt N 8 hl
 unfold afterN afterL
 rw [← lastTo_same h, h _ hlt, h (lastTo N 8 - 1) (by omega)]
 unfold putN
 rw [h g hg]
def stepsB : List (Nat → Int) → Bool
 | [] => true
 | M :: L => (match L with
  | [] => lastTo M 8 == 0
  | M' :: _ => lastTo M 8 != 0 && (List.range 8).all fun f => afterN M f == M' f) && stepsB L
theorem steps_all : ∀ u, u ≤ 6 → stepsB (everyC u) = true := by decide +kernel
theorem steps_at {A : List (Nat → Int)} (h : stepsB A = true) : ∀ {i : Nat} {M : Nat → Int}, A[i]? = some M →
    (lastTo M 8 ≠ 0 ∧ ∃ M', A[i + 1]? = some M' ∧ ∀ f, f < 8 → afterN M f = M' f) ∨ (lastTo M 8 = 0 ∧ i + 1 = A.length) := by
 induction A with
 | nil => intro i M hi; simp at hi
 | cons X L ih =>
  intro i M hi
  unfold stepsB at h
  rw [Bool.and_eq_true] at h
  cases i with
  | zero =>
   obtain rfl : X = M := by simpa using hi
   cases L with
   | nil =>
    have h1 := h.1
    simp only [beq_iff_eq] at h1
    exact Or.inr ⟨h1, rfl⟩
   | cons M' L =>
    have h1 := h.1
    simp only [Bool.and_eq_true, bne_iff_ne, ne_eq, List.all_eq_true, beq_iff_eq, List.mem_range] at h1
    exact Or.inl ⟨h1.1, M', rfl, h1.2⟩
  | succ i =>
   rcases ih h.2 (i := i) (M := M) (by simpa using hi) with ⟨a, M', b, c⟩ | ⟨a, b⟩
   ·exact Or.inl ⟨a, M', by simpa using b, c⟩
   ·exact Or.inr ⟨a, by simp [b]⟩
theorem every_steps {u : Nat} (hu : u ≤ 6) {i : Nat} {M : Nat → Int} (hi : (everyC u)[i]? = some M) :
    (lastTo M 8 ≠ 0 ∧ ∃ M', (everyC u)[i + 1]? = some M' ∧ ∀ f, f < 8 → afterN M f = M' f) ∨ (lastTo M 8 = 0 ∧ i + 1 = (everyC u).length) := steps_at (steps_all u hu) hi
theorem nextTo_one {A : List (Nat → Int)} {q : (Nat → Int) → Bool} {n j : Nat} (hj : j < n) (hq : q (A.getD j zeroC) = true) (h : ∀ i, i < n → q (A.getD i zeroC) = true → i = j) : nextTo A q n = some (A.getD (j + 1) zeroC) := by
 induction n with
 | zero => omega
 | succ n ih =>
  unfold nextTo
  by_cases e : n = j
  ·subst e; rw [if_pos hq]
  ·have : ¬ q (A.getD n zeroC) = true := fun hn => e (h n (by omega) hn)
   rw [if_neg this]
   exact ih (by omega) fun i hi hqi => h i (by omega) hqi
theorem next_after {u : Nat} (hu : u ≤ 6) {N : Nat → Int} (hf : countsFault N = 0) (hs : sumN N 8 = u) :
    nextFault (u : Int) N = (if lastTo N 8 = 0 then 5 else 0) ∧ ∀ g, g < 8 → nextN (u : Int) N g = afterO N g := by
 obtain ⟨A, hA, hAN⟩ := everyC_all (u := u) (fun g hg => ((counts_zero.1 hf).1 g hg).1) hs
 obtain ⟨i, hi⟩ := List.mem_iff_getElem?.1 hA
 have hil := (List.getElem?_eq_some_iff.1 hi).1
 have hl := lastTo_same (k := 8) hAN
 have huu : (0 : Int) ≤ (u : Int) ∧ (u : Int) ≤ 6 := by omega
 have hgi : (everyC u).getD i zeroC = A := by rw [List.getD_eq_getElem?_getD, hi]; rfl
 have honly : ∀ j, j < (everyC u).length → ((List.range 8).all fun f => (everyC u).getD j zeroC f == N f) = true → j = i := fun j hj hq =>
  everyC_once (u := u) (getD_of hj) hi fun g hg => ((all8_iff.1 hq) g hg).trans (hAN g hg).symm
 rcases every_steps hu hi with ⟨h0, M', hM', he⟩ | ⟨h0, he⟩
 ·have hil2 := (List.getElem?_eq_some_iff.1 hM').1
  have hgM : (everyC u).getD (i + 1) zeroC = M' := by rw [List.getD_eq_getElem?_getD, hM']; rfl
  have ho : nextO (u : Int) N = some M' := by
   unfold nextO
   rw [Int.toNat_natCast, ← hgM]
   exact nextTo_one (by omega) (by rw [hgi]; exact all8_iff.2 hAN) fun j hj hq => honly j (by omega) hq
  have hnf : nextFault (u : Int) N = 0 := by unfold nextFault; rw [if_pos huu, if_pos hf, if_pos hs, ho]; rfl
  rw [hl] at h0
  refine ⟨by rw [if_neg h0]; exact hnf, fun g hg => ?_⟩
  unfold nextN afterO
  rw [if_pos hnf, if_neg h0, ho]
  show M' g = _
  rw [← he g hg]
  exact afterN_same hAN (by rw [hl]; exact h0) g hg
 ·have ho : nextO (u : Int) N = none := by
   unfold nextO
   rw [Int.toNat_natCast]
   refine nextTo_none fun j hj => ?_
   rcases (Bool.eq_false_or_eq_true ((List.range 8).all fun f => (everyC u).getD j zeroC f == N f)).symm with e | e
   ·exact e
   ·have := honly j (by omega) e
    omega
  have hnf : nextFault (u : Int) N = 5 := by unfold nextFault; rw [if_pos huu, if_pos hf, if_pos hs, ho]; rfl
  rw [hl] at h0
  refine ⟨by rw [if_pos h0]; exact hnf, fun g _ => ?_⟩
  unfold nextN afterO
  rw [if_neg (by rw [hnf]; decide), if_pos h0]
end Go.Proofs.YtjmeakkmfeoigaaGreatDoor