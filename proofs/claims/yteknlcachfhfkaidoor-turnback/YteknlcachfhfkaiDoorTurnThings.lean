/-
  Plain facts on other things: a world with things changed has as many in each field (chapter 16). No program is read here.
-/
import Derived.Test.YteknlcachfhfkaiDoorTurnMath
namespace Go.Proofs.YteknlcachfhfkaiDoor
open Go.RowKit

/-- the set of the new places of a set's first k things. -/
def movedN (q : List Int) (x : Int) : Nat → Int
  | 0 => 0
  | i + 1 => movedN q x i + if hasB x i = true then pw (q.getD i 0).toNat else 0
def thingsW (q : List Int) (w : Wd) : Wd := ⟨w.u, movedN q w.a w.u.toNat, movedN q w.b w.u.toNat, movedN q w.c w.u.toNat⟩
def thingsFault (w : Wd) (q : List Int) : Int := if w.ok = true then (if (q.length : Int) = w.u then (if onceB q = true then 0 else 1) else 3) else 1

def turnA (p : Nat → Int) (w : Wd) : Wd := if turnFault p w = 0 then turnW p w else ⟨0, 0, 0, 0⟩
def thingsA (w : Wd) (q : List Int) : Wd := if thingsFault w q = 0 then thingsW q w else ⟨0, 0, 0, 0⟩
theorem turn_zero {p : Nat → Int} {w : Wd} : turnFault p w = 0 ↔ onceB (listP p) = true ∧ w.ok = true := by
  unfold turnFault
  by_cases h : onceB (listP p) = true
  · rw [if_pos h]
    by_cases g : w.ok = true
    · rw [if_pos g]; exact ⟨fun _ => ⟨h, g⟩, fun _ => rfl⟩
    · rw [if_neg g]; exact ⟨fun x => absurd x (by decide), fun x => absurd x.2 g⟩
  · rw [if_neg h]; exact ⟨fun x => absurd x (by decide), fun x => absurd x.1 h⟩
theorem things_zero {q : List Int} {w : Wd} : thingsFault w q = 0 ↔ w.ok = true ∧ (q.length : Int) = w.u ∧ onceB q = true := by
  unfold thingsFault
  by_cases h : w.ok = true
  · rw [if_pos h]
    by_cases g : (q.length : Int) = w.u
    · rw [if_pos g]
      by_cases k : onceB q = true
      · rw [if_pos k]; exact ⟨fun _ => ⟨h, g, k⟩, fun _ => rfl⟩
      · rw [if_neg k]; exact ⟨fun x => absurd x (by decide), fun x => absurd x.2.2 k⟩
    · rw [if_neg g]; exact ⟨fun x => absurd x (by decide), fun x => absurd x.2.1 g⟩
  · rw [if_neg h]; exact ⟨fun x => absurd x (by decide), fun x => absurd x.1 h⟩
theorem names_zero {p : Nat → Int} {ats : List At} {c : List Int} : namesFault ats c p = 0 ↔ formFault ats c = 0 ∧ onceB (listP p) = true := by
  unfold namesFault
  by_cases h : formFault ats c = 0
  · rw [if_pos h]
    by_cases g : onceB (listP p) = true
    · rw [if_pos g]; exact ⟨fun _ => ⟨h, g⟩, fun _ => rfl⟩
    · rw [if_neg g]; exact ⟨fun x => absurd x (by decide), fun x => absurd x.2 g⟩
  · rw [if_neg h]; exact ⟨fun x => absurd x h, fun x => absurd x.1 h⟩

/-- how many of a list are below u, from 0 on. -/
theorem count_sum (u : Nat) : ∀ l : List Int, (((List.range u).map fun i : Nat => l.count (i : Int)).sum) = (l.filter fun x => decide (0 ≤ x ∧ x < (u : Int))).length := by
  have one : ∀ (a : Int) (n : Nat), ((List.range n).map fun i : Nat => if a = (i : Int) then 1 else 0).sum = if 0 ≤ a ∧ a < (n : Int) then 1 else 0 := by
    intro a n
    induction n with
    | zero => simp
    | succ n ih =>
      rw [List.range_succ, List.map_append, List.sum_append, ih]
      simp only [List.map_cons, List.map_nil, List.sum_cons, List.sum_nil]
      by_cases h1 : a = (n : Int)
      · rw [if_pos h1, if_neg (by omega), if_pos (by omega)]; rfl
      · rw [if_neg h1]
        by_cases h2 : 0 ≤ a ∧ a < (n : Int)
        · rw [if_pos h2, if_pos (by omega)]; rfl
        · rw [if_neg h2, if_neg (by omega)]; rfl
  have add : ∀ (f g : Nat → Nat) (n : Nat), ((List.range n).map fun i : Nat => f i + g i).sum = ((List.range n).map f).sum + ((List.range n).map g).sum := by
    intro f g n
    induction n with
    | zero => rfl
    | succ n ih => rw [List.range_succ, List.map_append, List.map_append, List.map_append, List.sum_append, List.sum_append, List.sum_append, ih]; simp; omega
  intro l
  induction l with
  | nil =>
    have : ∀ n, ((List.range n).map fun i : Nat => ([] : List Int).count (i : Int)).sum = 0 := by
      intro n
      induction n with
      | zero => rfl
      | succ n ih => rw [List.range_succ, List.map_append, List.sum_append, ih]; simp
    rw [this]; rfl
  | cons a l ih =>
    have e : (fun i : Nat => (a :: l).count (i : Int)) = fun i : Nat => l.count (i : Int) + if a = (i : Int) then 1 else 0 := by
      funext i
      rw [List.count_cons]
      by_cases h : a = (i : Int)
      · simp [h]
      · simp [h]
    rw [e, add, ih, one, List.filter_cons]
    by_cases h : 0 ≤ a ∧ a < (u : Int)
    · rw [if_pos h, if_pos (decide_eq_true h)]; simp
    · rw [if_neg h, if_neg (by simpa using h)]; simp
theorem once_in {q : List Int} (h : onceB q = true) : (∀ i, i < q.length → q.count (i : Int) = 1) ∧ ∀ x ∈ q, 0 ≤ x ∧ x < (q.length : Int) := by
  have h1 : ∀ i, i < q.length → q.count (i : Int) = 1 := fun i hi => of_decide_eq_true (List.all_eq_true.1 h i (List.mem_range.2 hi))
  have hs := count_sum q.length q
  have e : ((List.range q.length).map fun i : Nat => q.count (i : Int)) = (List.range q.length).map fun _ : Nat => 1 := List.map_congr_left fun i hi => h1 i (List.mem_range.1 hi)
  rw [e] at hs
  have hlen : ∀ n, ((List.range n).map fun _ : Nat => 1).sum = n := by
    intro n
    induction n with
    | zero => rfl
    | succ n ih => rw [List.range_succ, List.map_append, List.sum_append, ih]; simp
  rw [hlen] at hs
  refine ⟨h1, fun x hx => ?_⟩
  have := (List.length_filter_eq_length_iff (p := fun x : Int => decide (0 ≤ x ∧ x < (q.length : Int)))).1 hs.symm x hx
  exact of_decide_eq_true this
theorem once_perm {q : List Int} (h : onceB q = true) : q.Perm ((List.range q.length).map fun i : Nat => (i : Int)) := by
  obtain ⟨h1, hall⟩ := once_in h
  rw [List.perm_iff_count]
  intro a
  by_cases ha : 0 ≤ a ∧ a < (q.length : Int)
  · obtain ⟨n, rfl⟩ := Int.eq_ofNat_of_zero_le ha.1
    have hn : n < q.length := by omega
    rw [h1 n hn]
    have : ∀ m, n < m → ((List.range m).map fun i : Nat => (i : Int)).count (n : Int) = 1 := by
      intro m
      induction m with
      | zero => intro h; omega
      | succ m ih =>
        intro hm
        rw [List.range_succ, List.map_append, List.count_append]
        by_cases h2 : n < m
        · rw [ih h2]
          have : ¬ (m : Int) = (n : Int) := by omega
          simp [this]
        · obtain rfl : n = m := by omega
          have : ((List.range n).map fun i : Nat => (i : Int)).count (n : Int) = 0 := by
            rw [List.count_eq_zero]
            intro hx
            obtain ⟨j, hj, e⟩ := List.mem_map.1 hx
            have := List.mem_range.1 hj
            omega
          rw [this]
          simp
    exact (this q.length hn).symm
  · have h0 : q.count a = 0 := by
      rw [List.count_eq_zero]
      exact fun hx => ha (hall a hx)
    rw [h0]
    symm
    rw [List.count_eq_zero]
    intro hx
    obtain ⟨j, hj, rfl⟩ := List.mem_map.1 hx
    have := List.mem_range.1 hj
    exact ha ⟨by omega, by omega⟩
/-- a sum over a list does not hang on its order. -/
theorem perm_sum {α : Type} {l l' : List α} (h : l.Perm l') (f : α → Int) : (l.map f).sum = (l'.map f).sum := by
  induction h with
  | nil => rfl
  | cons a _ ih => simp only [List.map_cons, List.sum_cons]; rw [ih]
  | swap a b l => simp only [List.map_cons, List.sum_cons]; omega
  | trans _ _ ih1 ih2 => rw [ih1, ih2]
/-- a sum over the first n places of a list. -/
theorem map_range {q : List Int} (g : Int → Int) : (q.map g).sum = ((List.range q.length).map fun i : Nat => g (q.getD i 0)).sum := by
  have e : (List.range q.length).map (fun i : Nat => g (q.getD i 0)) = q.map g := by
    apply List.ext_getElem
    · simp
    · intro i h1 h2
      simp at h1 h2 ⊢
      rw [List.getElem?_eq_getElem h2]
      rfl
  rw [e]
theorem once_sum {q : List Int} (h : onceB q = true) (g : Int → Int) : ((List.range q.length).map fun i : Nat => g (q.getD i 0)).sum = ((List.range q.length).map fun j : Nat => g (j : Int)).sum := by
  rw [← map_range, perm_sum (once_perm h) g, List.map_map]
  rfl
/-- where a number lies in a list. -/
def placeN (q : List Int) (j : Int) : Nat := q.findIdx fun x => x == j
theorem once_place {q : List Int} (h : onceB q = true) {i : Nat} (hi : i < q.length) : placeN q (q.getD i 0) = i ∧ 0 ≤ q.getD i 0 ∧ q.getD i 0 < (q.length : Int) := by
  have hp := once_perm h
  have hm : q[i] ∈ q := List.getElem_mem _
  have hr := (hp.mem_iff (a := q[i])).1 hm
  obtain ⟨j, hj, ej⟩ := List.mem_map.1 hr
  have hjl := List.mem_range.1 hj
  have eg : q.getD i 0 = q[i] := by rw [List.getD_eq_getElem?_getD, List.getElem?_eq_getElem hi]; rfl
  have hnd : q.Nodup := by
    rw [List.nodup_iff_count]
    intro a
    obtain ⟨h1, hall⟩ := once_in h
    by_cases ha : a ∈ q
    · obtain ⟨n, rfl⟩ := Int.eq_ofNat_of_zero_le (hall a ha).1
      have := (hall _ ha).2
      rw [h1 n (by omega)]
      exact Nat.le_refl _
    · rw [List.count_eq_zero.2 ha]
      exact Nat.zero_le _
  rw [eg]
  refine ⟨?_, by omega, by omega⟩
  unfold placeN
  have hlt : q.findIdx (fun x => x == q[i]) < q.length := List.findIdx_lt_length_of_exists ⟨q[i], hm, by simp⟩
  have hf : q[q.findIdx (fun x => x == q[i])] = q[i] := by
    have := List.findIdx_getElem (w := hlt)
    simpa using this
  obtain ⟨m, hme⟩ : ∃ m, m = q.findIdx (fun x => x == q[i]) := ⟨_, rfl⟩
  have hlt' : m < q.length := by rw [hme]; exact hlt
  have hf' : q[m] = q[i] := by
    have : ∀ (k : Nat) (hk : k < q.length), k = q.findIdx (fun x => x == q[i]) → q[k] = q[i] := fun k hk e => by subst e; exact hf
    exact this m hlt' hme
  rw [← hme]
  have hpw := List.pairwise_iff_getElem.1 hnd
  rcases Nat.lt_trichotomy m i with hc | hc | hc
  · exact absurd hf' (hpw m i hlt' hi hc)
  · exact hc
  · exact absurd hf'.symm (hpw i m hi hlt' hc)

theorem moved_sum (q : List Int) (x : Int) : ∀ n, movedN q x n = ((List.range n).map fun i : Nat => if hasB x i = true then pw (q.getD i 0).toNat else 0).sum := by
  intro n
  induction n with
  | zero => rfl
  | succ n ih =>
    rw [List.range_succ, List.map_append, List.sum_append, ← ih]
    simp [movedN]
theorem mask_sum (L : Nat → Bool) : ∀ n, maskTo L n = ((List.range n).map fun j : Nat => if L j = true then pw j else 0).sum := by
  intro n
  induction n with
  | zero => rfl
  | succ n ih =>
    rw [List.range_succ, List.map_append, List.sum_append, ← ih]
    show maskTo L n + oneB (L n) * pw n = _
    cases h : L n
    · simp [oneB, h]
    · simp [oneB, h]
/-- the set of the new places has a thing just if the old one had the one that is there now. -/
theorem moved_mask {q : List Int} (h : onceB q = true) (x : Int) : movedN q x q.length = maskTo (fun j => hasB x (placeN q (j : Int))) q.length := by
  rw [moved_sum, mask_sum]
  have e := once_sum h fun y => if hasB x (placeN q y) = true then pw y.toNat else 0
  have e1 : ((List.range q.length).map fun i : Nat => if hasB x i = true then pw (q.getD i 0).toNat else 0) = (List.range q.length).map fun i : Nat => if hasB x (placeN q (q.getD i 0)) = true then pw (q.getD i 0).toNat else 0 := by
    refine List.map_congr_left fun i hi => ?_
    rw [(once_place h (List.mem_range.1 hi)).1]
  rw [e1]
  refine e.trans ?_
  congr 1
theorem moved_has {q : List Int} (h : onceB q = true) (h8 : q.length ≤ 8) (x : Int) {i : Nat} (hi : i < q.length) : hasB (movedN q x q.length) ((q.getD i 0).toNat : Nat) = hasB x i := by
  obtain ⟨h1, h2, h3⟩ := once_place h hi
  rw [moved_mask h, has_mask _ h8 (by omega)]
  have : (((q.getD i 0).toNat : Nat) : Int) = q.getD i 0 := by omega
  rw [this, h1]
theorem moved_ok {q : List Int} (h : onceB q = true) (h6 : q.length ≤ 6) (x : Int) : okB (q.length : Int) (movedN q x q.length) = true := by
  rw [moved_mask h]
  have := maskTo_le (fun j => hasB x (placeN q (j : Int))) q.length
  refine okB_iff.2 ⟨by omega, by omega, this.1, ?_⟩
  unfold allN
  rw [Int.toNat_natCast]
  have e : pw q.length = 2 ^ q.length := rfl
  omega
theorem fc_sum (w : Wd) (f : Nat) : ∀ n, w.fc n f = ((List.range n).map fun i : Nat => if w.field i = f then (1 : Int) else 0).sum := by
  intro n
  induction n with
  | zero => rfl
  | succ n ih =>
    rw [List.range_succ, List.map_append, List.sum_append, ← ih]
    simp [Wd.fc]
/-- a world of other things has as many in each field. -/
theorem things_alike {q : List Int} {w : Wd} (hw : w.ok = true) (hl : (q.length : Int) = w.u) (h : onceB q = true) : Alike w (thingsW q w) := by
  have hu := ok_u hw
  have hn : w.u.toNat = q.length := by omega
  have hok : (thingsW q w).ok = true := by
    unfold thingsW
    rw [hn]
    refine Wd.ok_iff.2 ⟨?_, ?_, ?_⟩ <;> (show okB w.u _ = true; rw [← hl]; exact moved_ok h (by omega) _)
  refine ⟨hw, hok, fun f hf => ?_⟩
  show (thingsW q w).fc w.u.toNat f = w.fc w.u.toNat f
  rw [fc_sum, fc_sum, hn]
  have e := once_sum h fun y => if (thingsW q w).field y.toNat = f then (1 : Int) else 0
  have e2 : ((List.range q.length).map fun j : Nat => if (thingsW q w).field ((j : Int)).toNat = f then (1 : Int) else 0) = (List.range q.length).map fun j : Nat => if (thingsW q w).field j = f then (1 : Int) else 0 := List.map_congr_left fun j _ => by rw [Int.toNat_natCast]
  rw [e2] at e
  rw [← e]
  congr 1
  refine List.map_congr_left fun i hi => ?_
  have hi := List.mem_range.1 hi
  have : (thingsW q w).field (q.getD i 0).toNat = w.field i := by
    unfold Wd.field thingsW
    rw [hn]
    simp only
    rw [moved_has h (by omega) w.a hi, moved_has h (by omega) w.b hi, moved_has h (by omega) w.c hi]
  rw [this]
end Go.Proofs.YteknlcachfhfkaiDoor
