/-
  Rows of rows of numbers in memory, and which blocks they lie in: what they read as stays where these blocks stay (facts that the contracts on cubes lean on).
  Plain facts on atoms (chapter 3): the fault of one, and whether it holds. No program is read here.
  Plain facts on formulas as atoms and rows of signs (chapter 4): how many formulas a row makes, its fault, the pile that it works out, its opposite, and two together. No program is read here.
  Plain facts on a row of signs as one formula, by how deep it is: a right formula is one, and what it holds is made of what its parts hold. No program is read here.
-/
import Derived.Test.YtgkgbpbohgklhafGreatDoorLibPB1
import Derived.OwnWalk
import Derived.Laws.OwnMore
import Derived.Laws.AppendOwn
namespace Go.Proofs.YtgkgbpbohgklhafGreatDoor
open Go.ChangeShapes Go.WideShapes Go.ChangeAt Go.RowKit
set_option maxRecDepth 100000

/-- blocks of S stay as they were. -/
def Kept (S : Nat → Prop) (w w' : World) : Prop := w.heap.size ≤ w'.heap.size ∧ ∀ b, S b → b < w.heap.size → w'.heap[b]? = w.heap[b]?
theorem Kept.of_below {S : Nat → Prop} {w w' : World} (h : Below w.heap.size w w') : Kept S w w' := ⟨h.size, fun b _ hb => h.block b hb⟩
theorem Kept.of_belowK {S : Nat → Prop} {w w' : World} {K : Nat} (h : Below K w w') (hS : ∀ b, S b → b < w.heap.size → b < K) : Kept S w w' := ⟨h.size, fun b h1 h2 => h.block b (hS b h1 h2)⟩
theorem Kept.of_grown {S : Nat → Prop} {w w' : World} {r : Option Nat} (h : w.grownBy w' r) (hS : ∀ b, S b → some b ≠ r) : Kept S w w' := ⟨h.size, fun b h1 h2 => h.block b h2 (hS b h1)⟩
/-- the slice v reads, in the world w, as the numbers t, and lies in a block of S. -/
def RS (S : Nat → Prop) (w : World) (v : Value) (t : List Int) : Prop :=
  (∃ ao cap, v = .slice ao 0 cap ∧ t = []) ∨ (∃ b off cap, v = .slice (some ⟨b, off, none⟩) t.length cap ∧ (S b ∧ b < w.heap.size) ∧ 0 < t.length ∧ (t.length ≤ 9223372036854775807 ∧ t.length ≤ cap) ∧ ∀ k, k < t.length → w.cell? ⟨b, off + k, none⟩ = some (.int .i64 (t.getD k 0)))
theorem RS.reads {S : Nat → Prop} {w : World} {v : Value} {t : List Int} (h : RS S w v t) : Reads w v t := by
  rcases h with h | ⟨b, off, cap, h1, h2, h3, h4, h5⟩
  · exact Or.inl h
  · exact Or.inr ⟨b, off, cap, h1, h2.2, h3, h4, h5⟩
theorem Reads.rs {S : Nat → Prop} {w : World} {v : Value} {t : List Int} (h : Reads w v t) (hS : ∀ b, b < w.heap.size → S b) : RS S w v t := by
  rcases h with h | ⟨b, off, cap, h1, h2, h3, h4, h5⟩
  · exact Or.inl h
  · exact Or.inr ⟨b, off, cap, h1, ⟨hS b h2, h2⟩, h3, h4, h5⟩
theorem RS.mono {S T : Nat → Prop} {w : World} {v : Value} {t : List Int} (h : RS S w v t) (hS : ∀ b, b < w.heap.size → S b → T b) : RS T w v t := by
  rcases h with h | ⟨b, off, cap, h1, h2, h3, h4, h5⟩
  · exact Or.inl h
  · exact Or.inr ⟨b, off, cap, h1, ⟨hS b h2.2 h2.1, h2.2⟩, h3, h4, h5⟩
theorem RS.kept {S : Nat → Prop} {w w' : World} {v : Value} {t : List Int} (h : RS S w v t) (hk : Kept S w w') : RS S w' v t := by
  rcases h with h | ⟨b, off, cap, h1, h2, h3, h4, h5⟩
  · exact Or.inl h
  · exact Or.inr ⟨b, off, cap, h1, ⟨h2.1, Nat.lt_of_lt_of_le h2.2 hk.1⟩, h3, h4, fun k hk' => by rw [World.cell?_of_block (w := w) (hk.2 b h2.1 h2.2)]; exact h5 k hk'⟩
theorem RS.slice {S : Nat → Prop} {w : World} {v : Value} {t : List Int} (h : RS S w v t) : ∃ ao cap, v = .slice ao t.length cap ∧ t.length ≤ 9223372036854775807 := by
  rcases h with ⟨ao, cap, rfl, rfl⟩ | ⟨b, off, cap, rfl, _, _, h, _⟩
  · exact ⟨ao, cap, rfl, by decide⟩
  · exact ⟨_, cap, rfl, h.1⟩
theorem RS.one {S : Nat → Prop} {w : World} {v : Value} {t : List Int} (h : RS S w v t) : v.oneCell' = true := by
  obtain ⟨_, _, rfl, _⟩ := h.slice; rfl
/-- the slice v reads as these rows of numbers; it and they lie in blocks of S. -/
def RS2 (S : Nat → Prop) (w : World) (v : Value) (L : List (List Int)) : Prop :=
  (∃ ao cap, v = .slice ao 0 cap ∧ L = []) ∨ (∃ b off cap, v = .slice (some ⟨b, off, none⟩) L.length cap ∧ (S b ∧ b < w.heap.size) ∧ 0 < L.length ∧ (L.length ≤ 9223372036854775807 ∧ L.length ≤ cap) ∧ ∀ k t, L[k]? = some t → ∃ u, w.cell? ⟨b, off + k, none⟩ = some u ∧ RS S w u t)
theorem RS2.mono {S T : Nat → Prop} {w : World} {v : Value} {L : List (List Int)} (h : RS2 S w v L) (hS : ∀ b, b < w.heap.size → S b → T b) : RS2 T w v L := by
  rcases h with h | ⟨b, off, cap, h1, h2, h3, h4, h5⟩
  · exact Or.inl h
  · refine Or.inr ⟨b, off, cap, h1, ⟨hS b h2.2 h2.1, h2.2⟩, h3, h4, fun k t hk => ?_⟩
    obtain ⟨u, hu, hr⟩ := h5 k t hk
    exact ⟨u, hu, hr.mono hS⟩
theorem RS2.kept {S : Nat → Prop} {w w' : World} {v : Value} {L : List (List Int)} (h : RS2 S w v L) (hk : Kept S w w') : RS2 S w' v L := by
  rcases h with h | ⟨b, off, cap, h1, h2, h3, h4, h5⟩
  · exact Or.inl h
  · refine Or.inr ⟨b, off, cap, h1, ⟨h2.1, Nat.lt_of_lt_of_le h2.2 hk.1⟩, h3, h4, fun k t hkt => ?_⟩
    obtain ⟨u, hu, hr⟩ := h5 k t hkt
    exact ⟨u, by rw [World.cell?_of_block (w := w) (hk.2 b h2.1 h2.2)]; exact hu, hr.kept hk⟩
theorem RS2.slice {S : Nat → Prop} {w : World} {v : Value} {L : List (List Int)} (h : RS2 S w v L) : ∃ ao cap, v = .slice ao L.length cap ∧ L.length ≤ 9223372036854775807 := by
  rcases h with ⟨ao, cap, rfl, rfl⟩ | ⟨b, off, cap, rfl, _, _, h, _⟩
  · exact ⟨ao, cap, rfl, by decide⟩
  · exact ⟨_, cap, rfl, h.1⟩
theorem RS2.one {S : Nat → Prop} {w : World} {v : Value} {L : List (List Int)} (h : RS2 S w v L) : v.oneCell' = true := by
  obtain ⟨_, _, rfl, _⟩ := h.slice; rfl
/-- a row of rows that is the call's own, behind K; its rows lie elsewhere. -/
def Own2 (S : Nat → Prop) (K : Nat) (w : World) (v : Value) (L : List (List Int)) : Prop :=
  ∃ xs : List Value, w.ownsRow K 27 1 v L.length xs ∧ ∀ (k : Nat) t, L[k]? = some t → ∃ u, xs[k]? = some u ∧ RS (fun b => (S b ∨ K ≤ b) ∧ some b ≠ v.ownBlock) w u t
theorem Own2.nil (S : Nat → Prop) (K : Nat) (w : World) : Own2 S K w (.slice none 0 0) [] := ⟨[], World.ownsRow_nil _ _ _ _, fun k t h => (by simp at h)⟩
theorem ownsRow_same {w w' : World} {base : Nat} {e : TypeId} {size : Nat} {v : Value} {n : Nat} {xs : List Value} (h : w.ownsRow base e size v n xs) (hb : ∀ b, b < w.heap.size → w'.heap[b]? = w.heap[b]?) : w'.ownsRow base e size v n xs := by
  refine ⟨h.1, ?_⟩
  rcases h.2 with hn | ⟨g, cap, cur, rfl, hg, hh, rest⟩
  · exact .inl hn
  · exact .inr ⟨g, cap, cur, rfl, hg, by rw [hb g (Array.getElem?_eq_some_iff.1 hh).1]; exact hh, rest⟩
theorem Own2.below {S : Nat → Prop} {K : Nat} {w w' : World} {v : Value} {L : List (List Int)} (h : Own2 S K w v L) (hb : Below w.heap.size w w') : Own2 S K w' v L := by
  obtain ⟨xs, h1, h2⟩ := h
  refine ⟨xs, ownsRow_same h1 hb.block, fun k t hk => ?_⟩
  obtain ⟨u, hu, hr⟩ := h2 k t hk
  exact ⟨u, hu, hr.kept (Kept.of_below hb)⟩
theorem Own2.push {S : Nat → Prop} {K : Nat} {w w' : World} {v u : Value} {L : List (List Int)} {t : List Int} {xs : List Value} {g cap : Nat} (hw : w.ownsRow K 27 1 v L.length xs)
    (hx : ∀ (k : Nat) t, L[k]? = some t → ∃ u, xs[k]? = some u ∧ RS (fun b => (S b ∨ K ≤ b) ∧ some b ≠ v.ownBlock) w u t) (hu : RS (fun b => (S b ∨ K ≤ b) ∧ some b ≠ v.ownBlock) w u t)
    (hown : w'.ownsRow K 27 1 (.slice (some ⟨g, 0, none⟩) (L.length + 1) cap) (L.length + 1) (xs ++ [u])) (hg : w.grownBy w' v.ownBlock) (hat : v.ownBlock = some g ∨ g = w.heap.size) :
    Own2 S K w' (.slice (some ⟨g, 0, none⟩) (L.length + 1) cap) (L ++ [t]) := by
  have hl : xs.length = L.length := by have := hw.1; simpa using this
  have key : ∀ x s, RS (fun b => (S b ∨ K ≤ b) ∧ some b ≠ v.ownBlock) w x s → RS (fun b => (S b ∨ K ≤ b) ∧ some b ≠ (Value.slice (some ⟨g, 0, none⟩) (L.length + 1) cap).ownBlock) w' x s := by
    intro x s hxs
    have h1 : RS (fun b => ((S b ∨ K ≤ b) ∧ some b ≠ v.ownBlock) ∧ some b ≠ (Value.slice (some ⟨g, 0, none⟩) (L.length + 1) cap).ownBlock) w x s := hxs.mono fun b hb h => ⟨h, by
      show some b ≠ some g
      rcases hat with e | e
      · rw [← e]; exact h.2
      · intro e2; rw [Option.some.inj e2, e] at hb; omega⟩
    have h2 := h1.kept (Kept.of_grown hg fun b hb => hb.1.2)
    exact h2.mono fun b _ hb => ⟨hb.1.1, hb.2⟩
  refine ⟨xs ++ [u], by rw [List.length_append]; exact hown, fun k s hk => ?_⟩
  by_cases hlt : k < L.length
  · rw [List.getElem?_append_left hlt] at hk
    obtain ⟨x, hx1, hx2⟩ := hx k s hk
    exact ⟨x, by rw [List.getElem?_append_left (by omega)]; exact hx1, key _ _ hx2⟩
  · rw [List.getElem?_append_right (by omega)] at hk
    have e : k - L.length = 0 := by
      have := (List.getElem?_eq_some_iff.1 hk).1; simp at this; omega
    rw [e] at hk
    simp at hk; subst hk
    exact ⟨u, by rw [List.getElem?_append_right (by omega), hl, e]; rfl, key _ _ hu⟩
/-- what a call's own row of rows reads as. -/
theorem Own2.reads {S : Nat → Prop} {K : Nat} {w : World} {v : Value} {L : List (List Int)} (h : Own2 S K w v L) (hm : L.length ≤ 9223372036854775807) : RS2 (fun b => S b ∨ K ≤ b) w v L := by
  obtain ⟨xs, h1, h2⟩ := h
  rcases h1.2 with ⟨rfl, h0⟩ | ⟨g, cap, cur, rfl, hg, hh, hc, _⟩
  · exact Or.inl ⟨_, _, rfl, List.eq_nil_of_length_eq_zero (by omega)⟩
  · rcases Nat.eq_zero_or_pos L.length with h0 | h0
    · exact Or.inl ⟨_, cap, by rw [h0], List.eq_nil_of_length_eq_zero (by omega)⟩
    · refine Or.inr ⟨g, 0, cap, rfl, ⟨Or.inr hg, (Array.getElem?_eq_some_iff.1 hh).1⟩, h0, ⟨hm, hc⟩, fun k t hk => ?_⟩
      have hi := (List.getElem?_eq_some_iff.1 hk).1
      obtain ⟨u, hu, hr⟩ := h2 k t hk
      exact ⟨u, by rw [Nat.zero_add, h1.cellAt _ (by omega)]; exact hu, hr.mono fun b _ hb => hb.1⟩
theorem Own2.lt {S : Nat → Prop} {K : Nat} {w : World} {v : Value} {L : List (List Int)} (h : Own2 S K w v L) : ∀ k, v.ownBlock = some k → K ≤ k ∧ k < w.heap.size := by
  obtain ⟨xs, h1, _⟩ := h; exact h1.lt
end Go.Proofs.YtgkgbpbohgklhafGreatDoor

namespace Go.Proofs.YtgkgbpbohgklhafGreatDoor
open Go.RowKit

/-- has a kind a second term? a number? -/
def secondB (k : Int) : Bool := decide (k = 1 ∨ k = 2 ∨ k = 5)
def numberB (k : Int) : Bool := decide (k = 3 ∨ k = 4 ∨ k = 5)
/-- what is wrong with the second term. -/
def secondFault (k : Int) (t : List Int) : Int := if secondB k = true then faultN t else if 0 < t.length then 3 else 0
/-- how great a number may be. -/
def mostN (k : Int) : Int := if numberB k = true then 20 else 0
/-- what is wrong with an atom. -/
def atomFault (k : Int) (s t : List Int) (n : Int) : Int :=
  if 1 ≤ k ∧ k ≤ 5 then (if faultN s = 0 then (if secondFault k t = 0 then (if - mostN k ≤ n ∧ n ≤ mostN k then 0 else 1) else secondFault k t) else faultN s) else 1
/-- what an atom says of two sets. -/
def saysB (k n x y : Int) : Bool :=
  if k = 1 then decide (lessN x y = 0) else if k = 2 then decide (x = y) else if k = 3 then decide (n ≤ pcN x) else if k = 4 then decide (pcN x ≤ n) else decide (pcN x ≤ pcN y + n)
/-- the set of the second term, where there is one. -/
def Wd.snd (w : Wd) (k : Int) (t : List Int) : Int := if secondB k = true then w.val t else 0
/-- does it hold? -/
def Wd.holds (w : Wd) (k : Int) (s t : List Int) (n : Int) : Bool := saysB k n (w.val s) (w.snd k t)
/-- what Holds tells: the number of the error, and the answer. -/
def Wd.holdsFault (w : Wd) (k : Int) (s t : List Int) (n : Int) : Int := if atomFault k s t n = 0 then (if w.ok = true then 0 else 1) else atomFault k s t n
def Wd.holdsIs (w : Wd) (k : Int) (s t : List Int) (n : Int) : Bool := if w.holdsFault k s t n = 0 then w.holds k s t n else false

theorem five {k : Int} (h0 : 1 ≤ k) (h1 : k ≤ 5) : k = 1 ∨ k = 2 ∨ k = 3 ∨ k = 4 ∨ k = 5 := by omega
theorem atomFault_kind {k : Int} (h : ¬ (1 ≤ k ∧ k ≤ 5)) (s t : List Int) (n : Int) : atomFault k s t n = 1 := by unfold atomFault; rw [if_neg h]
theorem atomFault_first {k : Int} (h : 1 ≤ k ∧ k ≤ 5) {s : List Int} (hs : ¬ faultN s = 0) (t : List Int) (n : Int) : atomFault k s t n = faultN s := by unfold atomFault; rw [if_pos h, if_neg hs]
theorem atomFault_second {k : Int} (h : 1 ≤ k ∧ k ≤ 5) {s : List Int} (hs : faultN s = 0) {t : List Int} (ht : ¬ secondFault k t = 0) (n : Int) : atomFault k s t n = secondFault k t := by unfold atomFault; rw [if_pos h, if_pos hs, if_neg ht]
theorem atomFault_third {k : Int} (h : 1 ≤ k ∧ k ≤ 5) {s : List Int} (hs : faultN s = 0) {t : List Int} (ht : secondFault k t = 0) (n : Int) : atomFault k s t n = if - mostN k ≤ n ∧ n ≤ mostN k then 0 else 1 := by unfold atomFault; rw [if_pos h, if_pos hs, if_pos ht]
theorem atomFault_zero {k : Int} {s t : List Int} {n : Int} : atomFault k s t n = 0 ↔ (1 ≤ k ∧ k ≤ 5) ∧ faultN s = 0 ∧ secondFault k t = 0 ∧ - mostN k ≤ n ∧ n ≤ mostN k := by
  by_cases h : 1 ≤ k ∧ k ≤ 5
  · by_cases hs : faultN s = 0
    · by_cases ht : secondFault k t = 0
      · rw [atomFault_third h hs ht]
        by_cases hn : - mostN k ≤ n ∧ n ≤ mostN k
        · rw [if_pos hn]; exact ⟨fun _ => ⟨h, hs, ht, hn⟩, fun _ => rfl⟩
        · rw [if_neg hn]; exact ⟨fun h => (by cases h), fun h' => absurd h'.2.2.2 hn⟩
      · rw [atomFault_second h hs ht]; exact ⟨fun h' => absurd h' ht, fun h' => absurd h'.2.2.1 ht⟩
    · rw [atomFault_first h hs]; exact ⟨fun h' => absurd h' hs, fun h' => absurd h'.2.1 hs⟩
  · rw [atomFault_kind h]; exact ⟨fun h' => (by cases h'), fun h' => absurd h'.1 h⟩
theorem second_reads {k : Int} {t : List Int} (ht : secondFault k t = 0) : secondB k = true → faultN t = 0 := by
  intro h'
  unfold secondFault at ht
  rw [if_pos h'] at ht
  exact ht

/-! ### none has fewer than none, nor more than all -/
theorem none_all {w : Wd} (hw : w.ok = true) (s : List Int) : lessN (w.val s) (allN w.u) = 0 := by
  have h := ok_val hw s
  exact uptoSets (P := fun u a _ => lessN a (allN u) = 0) (by decide +kernel) w.u (w.val s) (w.val s) h h
theorem none_size {w : Wd} (hw : w.ok = true) (s : List Int) : pcN (w.val s) ≤ w.u := by
  have h := ok_val hw s
  exact uptoSets (P := fun u a _ => pcN a ≤ u) (by decide +kernel) w.u (w.val s) (w.val s) h h
end Go.Proofs.YtgkgbpbohgklhafGreatDoor

namespace Go.Proofs.YtgkgbpbohgklhafGreatDoor
open Go.RowKit

/-- how many formulas a sign takes. -/
def takesF (s : Int) : Int := if s = 10 ∨ s = 11 ∨ s = 13 then 2 else if s = 12 then 1 else 0
/-- is it a sign, where there are so many atoms? -/
def signF (m : Nat) (s : Int) : Bool := !(decide (takesF s = 0) && (decide (s < 0) || decide ((m : Int) ≤ s)))
/-- how many formulas there are behind a row of signs; none: a sign takes more than there are. -/
def cntF : List Int → Int → Option Int
  | [], n => some n
  | s :: l, n => if n < takesF s then none else cntF l (n + 1 - takesF s)
/-- an atom. -/
structure At where
  k : Int
  s : List Int
  t : List Int
  n : Int
def At.fault (a : At) : Int := atomFault a.k a.s a.t a.n
/-- what is wrong with the first atom that is none. -/
def firstFault : List At → Int
  | [] => 0
  | a :: l => if a.fault = 0 then firstFault l else a.fault
/-- what is wrong with a formula: the number of the error, or 0. -/
def formFault (ats : List At) (c : List Int) : Int :=
  if ats.length = 0 ∨ c.length = 0 then 5 else if 6 < ats.length ∨ 20 < c.length then 4 else if firstFault ats = 0 then (if c.all (signF ats.length) = true then (if cntF c 0 = some 1 then 0 else 3) else 1) else firstFault ats

theorem takesF_range (s : Int) : 0 ≤ takesF s ∧ takesF s ≤ 2 := by unfold takesF; split <;> (try split) <;> omega
theorem takesF_leaf {s : Int} (h : takesF s = 0) : s ≠ 10 ∧ s ≠ 11 ∧ s ≠ 12 ∧ s ≠ 13 := by
  unfold takesF at h
  split at h
  · omega
  · split at h <;> omega
theorem takesF_low {s : Int} (h : s < 10) : takesF s = 0 := by unfold takesF; rw [if_neg (by omega), if_neg (by omega)]
theorem signF_iff {m : Nat} {s : Int} : signF m s = true ↔ (takesF s ≠ 0 ∨ (0 ≤ s ∧ s < m)) := by
  unfold signF
  by_cases h : takesF s = 0
  · simp [h]
  · simp [h]
theorem firstFault_zero {ats : List At} : firstFault ats = 0 ↔ ∀ a ∈ ats, a.fault = 0 := by
  induction ats with
  | nil => simp [firstFault]
  | cons a l ih =>
    unfold firstFault
    by_cases h : a.fault = 0
    · rw [if_pos h, ih]; simp [h]
    · rw [if_neg h]; simp [h]
theorem formFault_zero {ats : List At} {c : List Int} : formFault ats c = 0 ↔ (1 ≤ ats.length ∧ ats.length ≤ 6) ∧ (1 ≤ c.length ∧ c.length ≤ 20) ∧ (∀ a ∈ ats, a.fault = 0) ∧ c.all (signF ats.length) = true ∧ cntF c 0 = some 1 := by
  unfold formFault
  by_cases h1 : ats.length = 0 ∨ c.length = 0
  · rw [if_pos h1]; exact ⟨fun h => (by cases h), fun h => by omega⟩
  rw [if_neg h1]
  by_cases h2 : 6 < ats.length ∨ 20 < c.length
  · rw [if_pos h2]; exact ⟨fun h => (by cases h), fun h => by omega⟩
  rw [if_neg h2]
  by_cases h3 : firstFault ats = 0
  · rw [if_pos h3]
    by_cases h4 : c.all (signF ats.length) = true
    · rw [if_pos h4]
      by_cases h5 : cntF c 0 = some 1
      · rw [if_pos h5]; exact ⟨fun _ => ⟨by omega, by omega, firstFault_zero.1 h3, h4, h5⟩, fun _ => rfl⟩
      · rw [if_neg h5]; exact ⟨fun h => (by cases h), fun h => absurd h.2.2.2.2 h5⟩
    · rw [if_neg h4]; exact ⟨fun h => (by cases h), fun h => absurd h.2.2.2.1 h4⟩
  · rw [if_neg h3]; exact ⟨fun h => absurd h h3, fun h => absurd (firstFault_zero.2 h.2.2.1) h3⟩

theorem cntF_append (a b : List Int) (n : Int) : cntF (a ++ b) n = (cntF a n).bind (cntF b) := by
  induction a generalizing n with
  | nil => rfl
  | cons s l ih =>
    simp only [List.cons_append, cntF]
    split
    · rfl
    · exact ih _
theorem cntF_nonneg {l : List Int} {n m : Int} (hn : 0 ≤ n) (h : cntF l n = some m) : 0 ≤ m ∧ m ≤ n + l.length := by
  induction l generalizing n with
  | nil => simp [cntF] at h; subst h; simp; omega
  | cons s l ih =>
    have := takesF_range s
    unfold cntF at h
    split at h
    · cases h
    · have := ih (by omega) h
      simp; omega
theorem takeF_succ (t : List Int) {k : Nat} (h : k < t.length) : t.take (k + 1) = t.take k ++ [t.getD k 0] := by
  rw [List.take_add_one]; simp [List.getElem?_eq_getElem h]
theorem cntF_take_succ (t : List Int) {k : Nat} (h : k < t.length) {m : Int} (hm : cntF (t.take k) 0 = some m) : cntF (t.take (k + 1)) 0 = if m < takesF (t.getD k 0) then none else some (m + 1 - takesF (t.getD k 0)) := by
  rw [takeF_succ t h, cntF_append, hm]; rfl
theorem cntF_take_none (t : List Int) (k : Nat) (h : cntF (t.take k) 0 = none) : cntF t 0 = none := by
  have : cntF (t.take k ++ t.drop k) 0 = none := by rw [cntF_append, h]; rfl
  rwa [List.take_append_drop] at this
theorem cntF_take_some (t : List Int) (k : Nat) {n : Int} (h : cntF t 0 = some n) : ∃ m, cntF (t.take k) 0 = some m := by
  cases hc : cntF (t.take k) 0 with
  | none => rw [cntF_take_none t k hc] at h; cases h
  | some m => exact ⟨m, rfl⟩
theorem cntF_more (r : List Int) (n m : Int) (h : cntF r n = some m) : cntF r (n + 1) = some (m + 1) := by
  induction r generalizing n with
  | nil => simp [cntF] at h ⊢; exact h
  | cons s l ih =>
    unfold cntF at h ⊢
    split at h
    · cases h
    · rw [if_neg (by omega), show n + 1 + 1 - takesF s = n + 1 - takesF s + 1 by omega]
      exact ih _ h

/-! ### the pile -/
/-- whether what a sign makes of those it takes holds. -/
def madeF (held : List Bool) (s : Int) (l : List Bool) : Bool :=
  if s = 10 then l.getD 0 false && l.getD 1 false else if s = 11 then l.getD 0 false || l.getD 1 false else if s = 13 then !l.getD 0 false || l.getD 1 false else if s = 12 then !l.getD 0 false else held.getD s.toNat false
def restF (p : List Bool) (s : Int) : Nat := p.length - (takesF s).toNat
def stepF (held : List Bool) (p : List Bool) (s : Int) : List Bool := p.take (restF p s) ++ [madeF held s (p.drop (restF p s))]
def pileF (held : List Bool) (c : List Int) (p : List Bool) : List Bool := c.foldl (stepF held) p
/-- does a row of signs hold, where these atoms do? -/
def valF (held : List Bool) (c : List Int) : Bool := (pileF held c []).getD 0 false

theorem pileF_append (held : List Bool) (a b : List Int) (p : List Bool) : pileF held (a ++ b) p = pileF held b (pileF held a p) := by simp [pileF, List.foldl_append]
theorem pileF_succ (held : List Bool) (t : List Int) (p : List Bool) {k : Nat} (h : k < t.length) : pileF held (t.take (k + 1)) p = stepF held (pileF held (t.take k) p) (t.getD k 0) := by
  rw [takeF_succ t h, pileF_append]; rfl
theorem stepF_length (held : List Bool) (p : List Bool) (s : Int) (h : takesF s ≤ p.length) : ((stepF held p s).length : Int) = p.length + 1 - takesF s := by
  have := takesF_range s
  simp [stepF, restF]
  omega
theorem pileF_length (held : List Bool) (t : List Int) (p : List Bool) {n : Int} (h : cntF t p.length = some n) : ((pileF held t p).length : Int) = n := by
  induction t generalizing p with
  | nil => simp [cntF] at h; simpa [pileF] using h
  | cons s l ih =>
    unfold cntF at h
    split at h
    · cases h
    · rename_i hs
      have e := stepF_length held p s (by omega)
      exact ih (stepF held p s) (by rw [e]; exact h)
/-- a row of signs does not see what lies beneath what it takes. -/
theorem stepF_under (held q p : List Bool) (s : Int) (h : takesF s ≤ p.length) : stepF held (q ++ p) s = q ++ stepF held p s := by
  have hr := takesF_range s
  have e : restF (q ++ p) s = q.length + restF p s := by unfold restF; simp; omega
  unfold stepF
  rw [e, List.take_length_add_append, List.drop_length_add_append, List.append_assoc]
theorem pileF_under (held : List Bool) (t : List Int) (q p : List Bool) {n : Int} (h : cntF t p.length = some n) : pileF held t (q ++ p) = q ++ pileF held t p := by
  induction t generalizing p with
  | nil => rfl
  | cons s l ih =>
    unfold cntF at h
    split at h
    · cases h
    · rename_i hs
      have e := stepF_length held p s (by omega)
      have := ih (stepF held p s) (by rw [e]; exact h)
      show pileF held l (stepF held (q ++ p) s) = q ++ pileF held l (stepF held p s)
      rw [stepF_under held q p s (by omega)]; exact this
/-- one formula lays its answer on the pile. -/
theorem pileF_one (held : List Bool) {t : List Int} (h : cntF t 0 = some 1) (q : List Bool) : pileF held t q = q ++ [valF held t] := by
  have h1 := pileF_under held t q [] h
  rw [List.append_nil] at h1
  rw [h1]
  have h2 := pileF_length held t [] h
  match e : pileF held t [], h2 with
  | [x], _ => simp [valF, e]
  | [], h2 => simp at h2
  | _ :: _ :: _, h2 => simp at h2; omega
/-- where atoms hold alike, a formula does. -/
theorem pileF_alike {h1 h2 : List Bool} {t1 t2 : List Int} (ht : t1.length = t2.length) (hs : ∀ k, k < t1.length → takesF (t1.getD k 0) = takesF (t2.getD k 0) ∧ ∀ l, madeF h1 (t1.getD k 0) l = madeF h2 (t2.getD k 0) l) (p : List Bool) : pileF h1 t1 p = pileF h2 t2 p := by
  induction t1 generalizing t2 p with
  | nil =>
    cases t2 with
    | nil => rfl
    | cons => simp at ht
  | cons s l ih =>
    cases t2 with
    | nil => simp at ht
    | cons s2 l2 =>
      have e0 := hs 0 (by simp)
      simp only [List.getD_cons_zero] at e0
      have e1 : stepF h1 p s = stepF h2 p s2 := by unfold stepF restF; rw [e0.1, e0.2]
      show pileF h1 l (stepF h1 p s) = pileF h2 l2 (stepF h2 p s2)
      rw [e1]
      refine ih (by simpa using ht) (fun k hk => ?_) _
      have := hs (k + 1) (by simp; omega)
      simpa only [List.getD_cons_succ] using this

/-! ### the opposite -/
theorem good_no {ats : List At} {c : List Int} (h : formFault ats c = 0) (hl : c.length ≤ 19) : formFault ats (c ++ [12]) = 0 := by
  obtain ⟨h1, h2, h3, h4, h5⟩ := formFault_zero.1 h
  refine formFault_zero.2 ⟨h1, by simp; omega, h3, ?_, ?_⟩
  · rw [List.all_append, h4]; simp [signF, takesF]
  · rw [cntF_append, h5]; rfl
theorem val_no (held : List Bool) {c : List Int} (h : cntF c 0 = some 1) : valF held (c ++ [12]) = !valF held c := by
  have : pileF held (c ++ [12]) [] = [!valF held c] := by
    rw [pileF_append, pileF_one held h]; rfl
  rw [valF, this]; rfl
theorem cnt_no {c : List Int} (h : cntF c 0 = some 1) : cntF (c ++ [12]) 0 = some 1 := by rw [cntF_append, h]; rfl
/-- no twice is not at all. -/
theorem val_no_no (held : List Bool) {c : List Int} (h : cntF c 0 = some 1) : valF held ((c ++ [12]) ++ [12]) = valF held c := by
  rw [val_no held (cnt_no h), val_no held h, Bool.not_not]
/-- a formula then itself. -/
theorem good_then {ats : List At} {c : List Int} (h : formFault ats c = 0) (hl : c.length ≤ 9) : formFault ats (c ++ (c ++ [13])) = 0 := by
  obtain ⟨h1, h2, h3, h4, h5⟩ := formFault_zero.1 h
  refine formFault_zero.2 ⟨h1, by simp; omega, h3, ?_, ?_⟩
  · rw [List.all_append, List.all_append, h4]; simp [signF, takesF]
  · rw [cntF_append, h5]
    show cntF (c ++ [13]) 1 = _
    rw [cntF_append, show cntF c 1 = some 2 from cntF_more c 0 1 h5]; rfl
theorem val_then (held : List Bool) {c : List Int} (h : cntF c 0 = some 1) : valF held (c ++ (c ++ [13])) = true := by
  have : pileF held (c ++ (c ++ [13])) [] = [!valF held c || valF held c] := by
    rw [pileF_append, pileF_one held h, pileF_append, pileF_one held h]; rfl
  rw [valF, this]
  cases valF held c <;> rfl

/-! ### both -/
/-- a sign whose atoms have numbers greater by so many. -/
def movedF (m : Nat) (s : Int) : Int := if takesF s = 0 then s + m else s
theorem good_both {ats bs : List At} {c d : List Int} (h : formFault ats c = 0) (h' : formFault bs d = 0) (hl : ats.length + bs.length ≤ 6) (hc : c.length + d.length ≤ 19) : formFault (ats ++ bs) (c ++ (d.map (movedF ats.length) ++ [10])) = 0 := by
  obtain ⟨h1, h2, h3, h4, h5⟩ := formFault_zero.1 h
  obtain ⟨g1, g2, g3, g4, g5⟩ := formFault_zero.1 h'
  have hm : ∀ s ∈ d, takesF (movedF ats.length s) = takesF s ∧ signF (ats ++ bs).length (movedF ats.length s) = true := by
    intro s hs
    have := signF_iff.1 (List.all_eq_true.1 g4 s hs)
    unfold movedF
    by_cases h0 : takesF s = 0
    · rw [if_pos h0]
      have h6 : 0 ≤ s ∧ s < bs.length := this.resolve_left (by simp [h0])
      exact ⟨by rw [h0]; exact takesF_low (by omega), signF_iff.2 (Or.inr (by simp; omega))⟩
    · rw [if_neg h0]
      exact ⟨rfl, signF_iff.2 (Or.inl h0)⟩
  have hcnt : ∀ n, cntF (d.map (movedF ats.length)) n = cntF d n := by
    have : ∀ (l : List Int), (∀ s ∈ l, takesF (movedF ats.length s) = takesF s) → ∀ n, cntF (l.map (movedF ats.length)) n = cntF l n := by
      intro l
      induction l with
      | nil => intro _ n; rfl
      | cons s l ih =>
        intro hh n
        have e := hh s (by simp)
        simp only [List.map_cons, cntF, e]
        rw [ih (fun x hx => hh x (by simp [hx]))]
    exact this d (fun s hs => (hm s hs).1)
  refine formFault_zero.2 ⟨by simp; omega, by simp; omega, ?_, ?_, ?_⟩
  · intro a ha
    rcases List.mem_append.1 ha with ha | ha
    · exact h3 a ha
    · exact g3 a ha
  · rw [List.all_append, List.all_append]
    have e1 : c.all (signF (ats ++ bs).length) = true := by
      rw [List.all_eq_true]
      intro s hs
      rcases signF_iff.1 (List.all_eq_true.1 h4 s hs) with h | h
      · exact signF_iff.2 (Or.inl h)
      · exact signF_iff.2 (Or.inr (by simp; omega))
    have e2 : (d.map (movedF ats.length)).all (signF (ats ++ bs).length) = true := by
      rw [List.all_map, List.all_eq_true]
      intro s hs
      exact (hm s hs).2
    rw [e1, e2]; simp [signF, takesF]
  · rw [cntF_append, h5]
    show cntF (d.map (movedF ats.length) ++ [10]) 1 = _
    rw [cntF_append, hcnt, show cntF d 1 = some 2 from cntF_more d 0 1 g5]; rfl
theorem madeF_leaf (held : List Bool) {s : Int} (h : takesF s = 0) (l : List Bool) : madeF held s l = held.getD s.toNat false := by
  have := takesF_leaf h
  unfold madeF
  rw [if_neg this.1, if_neg this.2.1, if_neg this.2.2.2, if_neg this.2.2.1]
theorem madeF_op (h1 h2 : List Bool) {s : Int} (h : takesF s ≠ 0) (l : List Bool) : madeF h1 s l = madeF h2 s l := by
  have : s = 10 ∨ s = 11 ∨ s = 13 ∨ s = 12 := by
    unfold takesF at h
    split at h
    · omega
    · split at h <;> omega
  rcases this with rfl | rfl | rfl | rfl <;> rfl
theorem val_both {ats bs : List At} {c d : List Int} (ha hb : List Bool) (la : ha.length = ats.length) (h : formFault ats c = 0) (h' : formFault bs d = 0) (hl : ats.length + bs.length ≤ 6) : valF (ha ++ hb) (c ++ (d.map (movedF ats.length) ++ [10])) = (valF ha c && valF hb d) := by
  obtain ⟨h1, h2, h3, h4, h5⟩ := formFault_zero.1 h
  obtain ⟨g1, g2, g3, g4, g5⟩ := formFault_zero.1 h'
  have e1 : ∀ p, pileF (ha ++ hb) c p = pileF ha c p := fun p => by
    refine pileF_alike rfl (fun k hk => ⟨rfl, fun l => ?_⟩) p
    have hm : c.getD k 0 ∈ c := by rw [List.getD_eq_getElem?_getD, List.getElem?_eq_getElem hk]; exact List.getElem_mem hk
    rcases signF_iff.1 (List.all_eq_true.1 h4 _ hm) with h0 | h0
    · exact madeF_op _ _ h0 l
    · have t0 : takesF (c.getD k 0) = 0 := takesF_low (by omega)
      rw [madeF_leaf _ t0, madeF_leaf _ t0, List.getD_eq_getElem?_getD, List.getElem?_append_left (by omega), ← List.getD_eq_getElem?_getD]
  have e2 : ∀ p, pileF (ha ++ hb) (d.map (movedF ats.length)) p = pileF hb d p := fun p => by
    refine pileF_alike (by simp) (fun k hk => ?_) p
    have hk' : k < d.length := by simpa using hk
    have eg : (d.map (movedF ats.length)).getD k 0 = movedF ats.length (d.getD k 0) := by
      simp [List.getElem?_eq_getElem hk']
    rw [eg]
    have hm : d.getD k 0 ∈ d := by rw [List.getD_eq_getElem?_getD, List.getElem?_eq_getElem hk']; exact List.getElem_mem hk'
    generalize d.getD k 0 = s at hm
    unfold movedF
    rcases signF_iff.1 (List.all_eq_true.1 g4 s hm) with h0 | h0
    · rw [if_neg h0]; exact ⟨rfl, fun l => madeF_op _ _ h0 l⟩
    · have t0 : takesF s = 0 := takesF_low (by omega)
      have t1 : takesF (s + ats.length) = 0 := takesF_low (by omega)
      rw [if_pos t0]
      refine ⟨by rw [t0, t1], fun l => ?_⟩
      rw [madeF_leaf _ t0, madeF_leaf _ t1, show (s + (ats.length : Int)).toNat = ha.length + s.toNat by omega]
      rw [List.getD_eq_getElem?_getD, List.getElem?_append_right (by omega), Nat.add_sub_cancel_left, ← List.getD_eq_getElem?_getD]
  have hp : pileF (ha ++ hb) (c ++ (d.map (movedF ats.length) ++ [10])) [] = [valF ha c && valF hb d] := by
    rw [pileF_append, pileF_append, e1, e2, pileF_one ha h5, pileF_one hb g5]; rfl
  rw [valF, hp]; rfl

/-! ### Holds -/
def Wd.heldL (w : Wd) (ats : List At) : List Bool := ats.map fun a => w.holds a.k a.s a.t a.n
/-- what Holds tells. -/
def Wd.formFault (w : Wd) (ats : List At) (c : List Int) : Int := if YtgkgbpbohgklhafGreatDoor.formFault ats c = 0 then (if w.ok = true then 0 else 1) else YtgkgbpbohgklhafGreatDoor.formFault ats c
def Wd.formIs (w : Wd) (ats : List At) (c : List Int) : Bool := if w.formFault ats c = 0 then valF (w.heldL ats) c else false
theorem wdForm_zero {w : Wd} {ats : List At} {c : List Int} : w.formFault ats c = 0 ↔ YtgkgbpbohgklhafGreatDoor.formFault ats c = 0 ∧ w.ok = true := by
  unfold Wd.formFault
  by_cases h : YtgkgbpbohgklhafGreatDoor.formFault ats c = 0
  · rw [if_pos h]
    by_cases h' : w.ok = true
    · rw [if_pos h']; exact ⟨fun _ => ⟨h, h'⟩, fun _ => rfl⟩
    · rw [if_neg h']; exact ⟨fun h => (by cases h), fun h => absurd h.2 h'⟩
  · rw [if_neg h]; exact ⟨fun h' => absurd h' h, fun h' => absurd h'.1 h⟩
/-- what is wrong with the opposite of a formula. -/
def negFault (ats : List At) (c : List Int) : Int := if formFault ats c = 0 then (if 19 < c.length then 4 else 0) else formFault ats c
end Go.Proofs.YtgkgbpbohgklhafGreatDoor

namespace Go.Proofs.YtgkgbpbohgklhafGreatDoor
open Go.RowKit

/-- a row of signs that is one formula over m atoms, of depth at most n. -/
def isFm (m : Nat) : Nat → List Int → Prop
  | 0, _ => False
  | n + 1, q => (∃ s : Int, 0 ≤ s ∧ s < m ∧ q = [s]) ∨ (∃ t, isFm m n t ∧ q = t ++ [12]) ∨ (∃ (s : Int) (a b : List Int), (s = 10 ∨ s = 11 ∨ s = 13) ∧ isFm m n a ∧ isFm m n b ∧ q = a ++ (b ++ [s]))
theorem isFm_mono {m n : Nat} : ∀ {k : Nat} {q : List Int}, n ≤ k → isFm m n q → isFm m k q := by
  induction n with
  | zero => intro k q _ h; exact h.elim
  | succ n ih =>
    intro k q hk h
    obtain ⟨j, rfl⟩ : ∃ j, k = j + 1 := ⟨k - 1, by omega⟩
    rcases h with ⟨s, h0, h4, e⟩ | ⟨t, ht, e⟩ | ⟨s, a, b, h5, ha, hb, e⟩
    · exact Or.inl ⟨s, h0, h4, e⟩
    · exact Or.inr (Or.inl ⟨t, ih (by omega) ht, e⟩)
    · exact Or.inr (Or.inr ⟨s, a, b, h5, ih (by omega) ha, ih (by omega) hb, e⟩)
/-- a row of right signs is as many formulas as it makes. -/
theorem treesF (m : Nat) (t : List Int) (ht : ∀ s ∈ t, signF m s = true) (ts : List (List Int)) (hts : ∀ q ∈ ts, ∃ n, isFm m n q) {n : Int} (h : cntF t ts.length = some n) :
    ∃ ts' : List (List Int), (ts'.length : Int) = n ∧ (∀ q ∈ ts', ∃ n, isFm m n q) ∧ ts'.flatten = ts.flatten ++ t := by
  induction t generalizing ts with
  | nil => simp [cntF] at h; exact ⟨ts, h, hts, by simp⟩
  | cons s l ih =>
    have hs := signF_iff.1 (ht s (by simp))
    have hl : ∀ x ∈ l, signF m x = true := fun x hx => ht x (by simp [hx])
    unfold cntF at h
    split at h
    · cases h
    · rename_i hn
      by_cases h2 : s = 10 ∨ s = 11 ∨ s = 13
      · have e : takesF s = 2 := by unfold takesF; rw [if_pos h2]
        rw [e] at h hn
        obtain ⟨ts0, a, b, rfl⟩ : ∃ ts0 a b, ts = ts0 ++ [a, b] := by
          rcases List.eq_nil_or_concat ts with rfl | ⟨x, y, rfl⟩
          · simp at hn
          · rcases List.eq_nil_or_concat x with rfl | ⟨x', z, rfl⟩
            · simp at hn
            · exact ⟨x', z, y, by simp⟩
        obtain ⟨ts', h1, h2', h3⟩ := ih hl (ts0 ++ [a ++ (b ++ [s])]) (by
          intro q hq
          rcases List.mem_append.1 hq with hq | hq
          · exact hts q (by simp [hq])
          · rw [List.mem_singleton.1 hq]
            obtain ⟨k, hk⟩ := hts a (by simp)
            obtain ⟨j, hj⟩ := hts b (by simp)
            exact ⟨k + j + 1, Or.inr (Or.inr ⟨s, a, b, h2, isFm_mono (by omega) hk, isFm_mono (by omega) hj, rfl⟩)⟩) (by rw [← h]; simp; congr 1; omega)
        exact ⟨ts', h1, h2', by rw [h3]; simp⟩
      by_cases h8 : s = 12
      · subst h8
        have e : takesF 12 = 1 := by decide
        rw [e] at h hn
        obtain ⟨ts0, a, rfl⟩ : ∃ ts0 a, ts = ts0 ++ [a] := by
          rcases List.eq_nil_or_concat ts with rfl | ⟨x, y, rfl⟩
          · simp at hn
          · exact ⟨x, y, by simp⟩
        obtain ⟨ts', h1, h2', h3⟩ := ih hl (ts0 ++ [a ++ [12]]) (by
          intro q hq
          rcases List.mem_append.1 hq with hq | hq
          · exact hts q (by simp [hq])
          · rw [List.mem_singleton.1 hq]
            obtain ⟨k, hk⟩ := hts a (by simp)
            exact ⟨k + 1, Or.inr (Or.inl ⟨a, hk, rfl⟩)⟩) (by rw [← h]; simp)
        exact ⟨ts', h1, h2', by rw [h3]; simp⟩
      · have e : takesF s = 0 := by unfold takesF; rw [if_neg h2, if_neg h8]
        rw [e] at h
        have hs' : 0 ≤ s ∧ s < m := hs.resolve_left (by simp [e])
        obtain ⟨ts', h1, h2', h3⟩ := ih hl (ts ++ [[s]]) (by
          intro q hq
          rcases List.mem_append.1 hq with hq | hq
          · exact hts q hq
          · rw [List.mem_singleton.1 hq]; exact ⟨1, Or.inl ⟨s, hs'.1, hs'.2, rfl⟩⟩) (by rw [← h]; simp)
        exact ⟨ts', h1, h2', by rw [h3]; simp⟩
/-- a right formula is one. -/
theorem treeF {m : Nat} {t : List Int} (hs : t.all (signF m) = true) (h : cntF t 0 = some 1) : ∃ n, isFm m n t := by
  obtain ⟨ts, h1, h2, h3⟩ := treesF m t (List.all_eq_true.1 hs) [] (by intro q hq; cases hq) h
  match ts, h1 with
  | [q], _ =>
    have e : q = t := by simpa using h3
    rw [← e]; exact h2 q (by simp)
  | [], h1 => simp at h1
  | _ :: _ :: _, h1 => simp at h1; omega
/-- one formula counts one. -/
theorem cnt_fm {m : Nat} (hm : m ≤ 6) (n : Nat) : ∀ q, isFm m n q → cntF q 0 = some 1 := by
  induction n with
  | zero => intro q h; exact h.elim
  | succ n ih =>
    intro q h
    rcases h with ⟨s, h0, h4, rfl⟩ | ⟨t, ht, rfl⟩ | ⟨s, a, b, h5, ha, hb, rfl⟩
    · have e : takesF s = 0 := takesF_low (by omega)
      simp [cntF, e]
    · exact cnt_no (ih t ht)
    · have e : takesF s = 2 := by unfold takesF; rw [if_pos h5]
      rw [cntF_append, ih a ha]
      show cntF (b ++ [s]) 1 = _
      rw [cntF_append, show cntF b 1 = some 2 from cntF_more b 0 1 (ih b hb)]
      simp [cntF, e]
def boolF (s : Int) (x y : Bool) : Bool := if s = 10 then x && y else if s = 11 then x || y else !x || y
theorem valF_leaf (held : List Bool) {s : Int} (h : s < 10) : valF held [s] = held.getD s.toNat false := by
  have e := takesF_low h
  have : pileF held [s] [] = [held.getD s.toNat false] := by
    show stepF held [] s = _
    unfold stepF
    rw [madeF_leaf held e]
    simp [restF]
  rw [valF, this]; rfl
theorem valF_two (held : List Bool) {s : Int} (h : s = 10 ∨ s = 11 ∨ s = 13) {a b : List Int} (ha : cntF a 0 = some 1) (hb : cntF b 0 = some 1) : valF held (a ++ (b ++ [s])) = boolF s (valF held a) (valF held b) := by
  have : pileF held (a ++ (b ++ [s])) [] = [boolF s (valF held a) (valF held b)] := by
    rw [pileF_append, pileF_one held ha, pileF_append, pileF_one held hb]
    rcases h with rfl | rfl | rfl <;> rfl
  rw [valF, this]; rfl
end Go.Proofs.YtgkgbpbohgklhafGreatDoor
