/-
  Facts and contracts that the statement leans on.
-/
import Derived.Test.YtjmeakkmfeoigaaGreatDoorLibT3
import Derived.Test.YtjmeakkmfeoigaaGreatDoorLibT5
namespace Go.Proofs.YtjmeakkmfeoigaaGreatDoor
open Go.RowKit
def isFm (m : Nat) : Nat → List Int → Prop
 | 0, _ => False
 | n + 1, q => (∃ s : Int, 0 ≤ s ∧ s < m ∧ q = [s]) ∨ (∃ t, isFm m n t ∧ q = t ++ [12]) ∨ (∃ (s : Int) (a b : List Int), (s = 10 ∨ s = 11 ∨ s = 13) ∧ isFm m n a ∧ isFm m n b ∧ q = a ++ (b ++ [s]))
def boolF (s : Int) (x y : Bool) : Bool := if s = 10 then x && y else if s = 11 then x || y else !x || y
end Go.Proofs.YtjmeakkmfeoigaaGreatDoor
namespace Go.Proofs.YtjmeakkmfeoigaaGreatDoor
open Go.RowKit
def cubeOk (M : Nat) (c : List Int) : Prop := (∀ m ∈ c, 1 ≤ m.natAbs ∧ m.natAbs ≤ M) ∧ c.Pairwise (fun a b => a.natAbs < b.natAbs)
def bothWays (c : List Int) : Bool := c.any (fun m => c.contains (-m))
def atomIn (c : List Int) (n : Int) : List Int := if c.contains n = true then [n] else if c.contains (-n) = true then [-n] else []
def joinC (c d : List Int) : List Int := [1, 2, 3, 4, 5, 6].flatMap (atomIn (c ++ d))
def putC (L : List (List Int)) (c : List Int) : List (List Int) := if L.contains c = true then L else L ++ [c]
def andS (c : List Int) (L : List (List Int)) (d : List Int) : List (List Int) := if bothWays (c ++ d) = true then L else putC L (joinC c d)
def andR (B : List (List Int)) (L : List (List Int)) (c : List Int) : List (List Int) := B.foldl (andS c) L
def andC (A B : List (List Int)) : List (List Int) := A.foldl (andR B) []
def orC (A B : List (List Int)) : List (List Int) := (A ++ B).foldl putC []
def turnC (c : List Int) : List (List Int) := c.map (fun m => [-m])
def capC (L : List (List Int)) : Option (List (List Int)) := if 40 < L.length then none else some L
def noC : List (List Int) → List (List Int) → Option (List (List Int))
 | [], out => some out
 | c :: l, out => (capC (andC out (turnC c))).bind (noC l)
def madeC (s : Int) (l : List (List (List Int))) : Option (List (List Int)) :=
 if s = 10 then capC (andC (l.getD 0 []) (l.getD 1 [])) else if s = 11 then capC (orC (l.getD 0 []) (l.getD 1 [])) else if s = 13 then (noC (l.getD 0 []) [[]]).bind (fun x => capC (orC x (l.getD 1 []))) else if s = 12 then noC (l.getD 0 []) [[]] else some [[s + 1]]
def restC (p : List (List (List Int))) (s : Int) : Nat := p.length - (takesF s).toNat
def stepC (p : List (List (List Int))) (s : Int) : Option (List (List (List Int))) := (madeC s (p.drop (restC p s))).map (fun x => p.take (restC p s) ++ [x])
def pileC : List Int → List (List (List Int)) → Option (List (List (List Int)))
 | [], p => some p
 | s :: l, p => (stepC p s).bind (pileC l)
def cubesC (c : List Int) : Option (List (List Int)) := (pileC c []).map (fun p => p.getD 0 [])
theorem bothWays_iff {c : List Int} : bothWays c = true ↔ ∃ m, m ∈ c ∧ -m ∈ c := by
 unfold bothWays; simp [List.any_eq_true]
theorem bothWays_mem {c d : List Int} (h : ∀ m, m ∈ c ↔ m ∈ d) : bothWays c = bothWays d := by
 rw [Bool.eq_iff_iff, bothWays_iff, bothWays_iff]
 simp [h]
theorem cube_noway {M : Nat} {c : List Int} (h : cubeOk M c) : bothWays c = false := by
 rw [← Bool.not_eq_true, bothWays_iff]
 rintro ⟨m, h1, h2⟩
 have hr := h.1 m h1
 have key : ∀ l : List Int, l.Pairwise (fun a b => a.natAbs < b.natAbs) → ∀ x ∈ l, ∀ y ∈ l, x.natAbs = y.natAbs → x = y := by
  intro l hl
  induction hl with
  | nil => intro x hx; cases hx
  | cons hh _ ih =>
   intro x hx y hy e
   rcases List.mem_cons.1 hx with ex | hx'
   ·rcases List.mem_cons.1 hy with ey | hy'
    ·rw [ex, ey]
    ·have := hh y hy'; rw [← ex] at this; omega
   ·rcases List.mem_cons.1 hy with ey | hy'
    ·have := hh x hx'; rw [← ey] at this; omega
    ·exact ih x hx' y hy' e
 have := key c h.2 m h1 (-m) h2 (by simp)
 omega
theorem rising_len {M : Nat} : ∀ (c : List Int) (k : Nat), (∀ m ∈ c, k < m.natAbs ∧ m.natAbs ≤ M) → c.Pairwise (fun a b => a.natAbs < b.natAbs) → c.length + k ≤ M ∨ c = [] := by
 intro c
 induction c with
 | nil => intro k _ _; exact Or.inr rfl
 | cons m l ih =>
  intro k h hp
  have hm := h m (by simp)
  rw [List.pairwise_cons] at hp
  rcases ih m.natAbs (fun x hx => ⟨hp.1 x hx, (h x (by simp [hx])).2⟩) hp.2 with h1 | rfl
  ·left; simp; omega
  ·left; simp; omega
theorem cube_len {M : Nat} {c : List Int} (h : cubeOk M c) : c.length ≤ M := by
 rcases rising_len c 0 (fun m hm => ⟨by have := (h.1 m hm).1; omega, (h.1 m hm).2⟩) h.2 with h1 | rfl
 ·omega
 ·simp
theorem rising_ext : ∀ {c d : List Int}, c.Pairwise (fun a b => a.natAbs < b.natAbs) → d.Pairwise (fun a b => a.natAbs < b.natAbs) → (∀ m, m ∈ c ↔ m ∈ d) → c = d := by
 intro c
 induction c with
 | nil =>
  intro d _ _ h
  cases d with
  | nil => rfl
  | cons x l => have := (h x).2 (by simp); cases this
 | cons a l ih =>
  intro d hc hd h
  cases d with
  | nil => have := (h a).1 (by simp); cases this
  | cons b k =>
   rw [List.pairwise_cons] at hc hd
   have hab : a = b := by
    rcases List.mem_cons.1 ((h a).1 (by simp)) with e | e
    ·exact e
    ·rcases List.mem_cons.1 ((h b).2 (by simp)) with e' | e'
     ·exact e'.symm
     ·have h1 := hd.1 a e; have h2 := hc.1 b e'; omega
   subst hab
   rw [ih hc.2 hd.2 (fun m => ?_)]
   have hm := h m
   constructor
   ·intro hml
    rcases List.mem_cons.1 (hm.1 (by simp [hml])) with rfl | e
    ·have := hc.1 m hml; omega
    ·exact e
   ·intro hmk
    rcases List.mem_cons.1 (hm.2 (by simp [hmk])) with rfl | e
    ·have := hd.1 m hmk; omega
    ·exact e
theorem mem_joinC {c d : List Int} (hr : ∀ m ∈ c ++ d, 1 ≤ m.natAbs ∧ m.natAbs ≤ 6) (hb : bothWays (c ++ d) = false) (m : Int) : m ∈ joinC c d ↔ m ∈ c ++ d := by
 rw [← Bool.not_eq_true, bothWays_iff] at hb
 unfold joinC
 rw [List.mem_flatMap]
 constructor
 ·rintro ⟨n, _, hn⟩
  unfold atomIn at hn
  split at hn
  ·rename_i h; rw [List.mem_singleton.1 hn]; simpa using h
  ·split at hn
   ·rename_i h; rw [List.mem_singleton.1 hn]; simpa using h
   ·cases hn
 ·intro hm
  have h6 := hr m hm
  refine ⟨(m.natAbs : Int), ?_, ?_⟩
  ·have : m.natAbs = 1 ∨ m.natAbs = 2 ∨ m.natAbs = 3 ∨ m.natAbs = 4 ∨ m.natAbs = 5 ∨ m.natAbs = 6 := by omega
   rcases this with e | e | e | e | e | e <;> rw [e] <;> simp
  ·unfold atomIn
   rcases Int.natAbs_eq m with e | e
   ·rw [← e, if_pos (by simpa using hm)]; simp
   ·have e2 : (m.natAbs : Int) = -m := by omega
    rw [e2, if_neg, if_pos]
    ·simp
    ·simpa using hm
    ·intro hc
     exact hb ⟨m, hm, by simpa using hc⟩
theorem join_ok {M : Nat} (hM : M ≤ 6) {c d : List Int} (hc : cubeOk M c) (hd : cubeOk M d) (hb : bothWays (c ++ d) = false) : cubeOk M (joinC c d) := by
 have hr : ∀ m ∈ c ++ d, 1 ≤ m.natAbs ∧ m.natAbs ≤ M := by
  intro m hm
  rcases List.mem_append.1 hm with h | h
  ·exact hc.1 m h
  ·exact hd.1 m h
 refine ⟨fun m hm => hr m ((mem_joinC (fun m h => by have := hr m h; omega) hb m).1 hm), ?_⟩
 unfold joinC
 have one : ∀ n x, x ∈ atomIn (c ++ d) n → x.natAbs = n.natAbs := by
  intro n x hx
  unfold atomIn at hx
  split at hx
  ·rw [List.mem_singleton.1 hx]
  ·split at hx
   ·rw [List.mem_singleton.1 hx]; simp
   ·cases hx
 rw [List.pairwise_flatMap]
 refine ⟨fun n _ => ?_, ?_⟩
 ·unfold atomIn
  split
  ·simp
  ·split <;> simp
 ·have : ([1, 2, 3, 4, 5, 6] : List Int).Pairwise (fun a b => a.natAbs < b.natAbs) := by decide
  refine this.imp ?_
  intro a b hab x hx y hy
  rw [one a x hx, one b y hy]; exact hab
def okL (M : Nat) (L : List (List Int)) : Prop := (∀ c ∈ L, cubeOk M c) ∧ L.Nodup
theorem put_ok {M : Nat} {L : List (List Int)} {c : List Int} (h : okL M L) (hc : cubeOk M c) : okL M (putC L c) := by
 unfold putC
 split
 ·exact h
 ·rename_i hn
  refine ⟨fun x hx => ?_, ?_⟩
  ·rcases List.mem_append.1 hx with hx | hx
   ·exact h.1 x hx
   ·rw [List.mem_singleton.1 hx]; exact hc
  ·rw [List.nodup_append]
   refine ⟨h.2, by simp, ?_⟩
   intro x hx y hy e
   rw [List.mem_singleton.1 hy] at e
   subst e
   exact hn (by simpa using hx)
theorem put_len (L : List (List Int)) (c : List Int) : L.length ≤ (putC L c).length ∧ (putC L c).length ≤ L.length + 1 := by
 unfold putC; split <;> simp
theorem andS_ok {M : Nat} (hM : M ≤ 6) {L : List (List Int)} {c d : List Int} (h : okL M L) (hc : cubeOk M c) (hd : cubeOk M d) : okL M (andS c L d) := by
 unfold andS
 split
 ·exact h
 ·rename_i hb
  exact put_ok h (join_ok hM hc hd (by simpa using hb))
theorem andS_len (L : List (List Int)) (c d : List Int) : L.length ≤ (andS c L d).length ∧ (andS c L d).length ≤ L.length + 1 := by
 unfold andS; split
 ·simp
 ·exact put_len _ _
theorem andR_ok {M : Nat} (hM : M ≤ 6) {B : List (List Int)} (hB : ∀ d ∈ B, cubeOk M d) : ∀ {L : List (List Int)} {c : List Int}, okL M L → cubeOk M c → okL M (andR B L c) := by
 induction B with
 | nil => intro L c h _; exact h
 | cons d l ih =>
  intro L c h hc
  exact ih (fun x hx => hB x (by simp [hx])) (andS_ok hM h hc (hB d (by simp))) hc
theorem andR_len (B : List (List Int)) : ∀ (L : List (List Int)) (c : List Int), L.length ≤ (andR B L c).length := by
 induction B with
 | nil => intro L c; exact Nat.le_refl _
 | cons d l ih => intro L c; exact Nat.le_trans (andS_len L c d).1 (ih _ c)
theorem andF_ok {M : Nat} (hM : M ≤ 6) {A B : List (List Int)} (hA : ∀ c ∈ A, cubeOk M c) (hB : ∀ d ∈ B, cubeOk M d) : ∀ {L : List (List Int)}, okL M L → okL M (A.foldl (andR B) L) := by
 induction A with
 | nil => intro L h; exact h
 | cons c l ih => intro L h; exact ih (fun x hx => hA x (by simp [hx])) (andR_ok hM hB h (hA c (by simp)))
theorem andF_len (A B : List (List Int)) : ∀ (L : List (List Int)), L.length ≤ (A.foldl (andR B) L).length := by
 induction A with
 | nil => intro L; exact Nat.le_refl _
 | cons c l ih => intro L; exact Nat.le_trans (andR_len B L c) (ih _)
theorem okL_nil (M : Nat) : okL M [] := ⟨fun c h => (by cases h), List.nodup_nil⟩
theorem and_ok {M : Nat} (hM : M ≤ 6) {A B : List (List Int)} (hA : ∀ c ∈ A, cubeOk M c) (hB : ∀ d ∈ B, cubeOk M d) : okL M (andC A B) := andF_ok hM hA hB (okL_nil M)
theorem putF_ok {M : Nat} {B : List (List Int)} (hB : ∀ d ∈ B, cubeOk M d) : ∀ {L : List (List Int)}, okL M L → okL M (B.foldl putC L) := by
 induction B with
 | nil => intro L h; exact h
 | cons c l ih => intro L h; exact ih (fun x hx => hB x (by simp [hx])) (put_ok h (hB c (by simp)))
theorem putF_len (B : List (List Int)) : ∀ (L : List (List Int)), L.length ≤ (B.foldl putC L).length ∧ (B.foldl putC L).length ≤ L.length + B.length := by
 induction B with
 | nil => intro L; simp
 | cons c l ih => intro L; have h1 := put_len L c; have h2 := ih (putC L c); simp only [List.foldl_cons, List.length_cons]; omega
theorem or_ok {M : Nat} {A B : List (List Int)} (hA : ∀ c ∈ A, cubeOk M c) (hB : ∀ d ∈ B, cubeOk M d) : okL M (orC A B) := by
 refine putF_ok (fun d hd => ?_) (okL_nil M)
 rcases List.mem_append.1 hd with h | h
 ·exact hA d h
 ·exact hB d h
theorem turn_ok {M : Nat} {c : List Int} (h : cubeOk M c) : ∀ d ∈ turnC c, cubeOk M d := by
 intro d hd
 obtain ⟨m, hm, rfl⟩ := List.mem_map.1 hd
 exact ⟨fun x hx => by rw [List.mem_singleton.1 hx]; have := h.1 m hm; simpa using this, by simp⟩
theorem cap_some {L K : List (List Int)} (h : capC L = some K) : K = L ∧ L.length ≤ 40 := by
 unfold capC at h
 split at h
 ·cases h
 ·exact ⟨(Option.some.inj h).symm, by omega⟩
theorem okL_one (M : Nat) : okL M [[]] := ⟨fun c h => by rw [List.mem_singleton.1 h]; exact ⟨fun m hm => (by cases hm), List.Pairwise.nil⟩, by simp⟩
theorem no_ok {M : Nat} (hM : M ≤ 6) : ∀ (L out K : List (List Int)), (∀ c ∈ L, cubeOk M c) → okL M out → out.length ≤ 40 → noC L out = some K → okL M K ∧ K.length ≤ 40 := by
 intro L
 induction L with
 | nil => intro out K _ ho hl h; cases h; exact ⟨ho, hl⟩
 | cons c l ih =>
  intro out K hL ho hl h
  unfold noC at h
  cases he : capC (andC out (turnC c)) with
  | none => rw [he] at h; cases h
  | some x =>
   rw [he] at h
   obtain ⟨rfl, hx⟩ := cap_some he
   exact ih _ K (fun d hd => hL d (by simp [hd])) (and_ok hM ho.1 (turn_ok (hL c (by simp)))) hx h
def litC (held : List Bool) (m : Int) : Bool := held.getD (m.natAbs - 1) false == decide (0 < m)
def allC (held : List Bool) (c : List Int) : Bool := c.all (litC held)
def anyC (held : List Bool) (L : List (List Int)) : Bool := L.any (allC held)
theorem anyC_append (held : List Bool) (L K : List (List Int)) : anyC held (L ++ K) = (anyC held L || anyC held K) := by simp [anyC]
theorem any_put (held : List Bool) (L : List (List Int)) (c : List Int) : anyC held (putC L c) = (anyC held L || allC held c) := by
 unfold putC
 split
 ·rename_i h
  have hm : c ∈ L := by simpa using h
  cases hc : allC held c with
  | false => simp
  | true =>
   simp only [Bool.or_true]
   exact List.any_eq_true.2 ⟨c, hm, hc⟩
 ·simp [anyC]
theorem lit_neg (held : List Bool) {m : Int} (h : m ≠ 0) : litC held (-m) = !litC held m := by
 unfold litC
 rw [Int.natAbs_neg]
 have : decide (0 < -m) = !decide (0 < m) := by
  by_cases h1 : 0 < m
  ·simp [h1]; omega
  ·have h2 : 0 < -m := by omega
   simp [h1]; omega
 rw [this]
 cases held.getD (m.natAbs - 1) false <;> cases decide (0 < m) <;> rfl
theorem all_append (held : List Bool) (c d : List Int) : allC held (c ++ d) = (allC held c && allC held d) := by simp [allC]
theorem all_mem (held : List Bool) {c d : List Int} (h : ∀ m, m ∈ c ↔ m ∈ d) : allC held c = allC held d := by
 rw [Bool.eq_iff_iff]
 unfold allC
 rw [List.all_eq_true, List.all_eq_true]
 simp [h]
theorem any_andS (held : List Bool) {M : Nat} (hM : M ≤ 6) (L : List (List Int)) {c d : List Int} (hc : cubeOk M c) (hd : cubeOk M d) : anyC held (andS c L d) = (anyC held L || (allC held c && allC held d)) := by
 have hr : ∀ m ∈ c ++ d, 1 ≤ m.natAbs ∧ m.natAbs ≤ 6 := by
  intro m hm
  rcases List.mem_append.1 hm with h | h
  ·have := hc.1 m h; omega
  ·have := hd.1 m h; omega
 unfold andS
 split
 ·rename_i hb
  obtain ⟨m, h1, h2⟩ := bothWays_iff.1 hb
  have : allC held (c ++ d) = false := by
   rw [← Bool.not_eq_true]
   intro hall
   have a1 := List.all_eq_true.1 hall m h1
   have a2 := List.all_eq_true.1 hall (-m) h2
   rw [lit_neg held (by have := hr m h1; omega), a1] at a2
   cases a2
  rw [← all_append, this]; simp
 ·rename_i hb
  rw [any_put, ← all_append, all_mem held (mem_joinC hr (by simpa using hb))]
theorem any_andR (held : List Bool) {M : Nat} (hM : M ≤ 6) {c : List Int} (hc : cubeOk M c) : ∀ (B L : List (List Int)), (∀ d ∈ B, cubeOk M d) → anyC held (andR B L c) = (anyC held L || (allC held c && anyC held B)) := by
 intro B
 induction B with
 | nil => intro L _; simp [andR, anyC]
 | cons d l ih =>
  intro L hB
  have e : andR (d :: l) L c = andR l (andS c L d) c := rfl
  rw [e, ih _ (fun x hx => hB x (by simp [hx])), any_andS held hM L hc (hB d (by simp))]
  have : anyC held (d :: l) = (allC held d || anyC held l) := rfl
  rw [this]
  cases anyC held L <;> cases allC held c <;> cases allC held d <;> cases anyC held l <;> rfl
theorem any_and (held : List Bool) {M : Nat} (hM : M ≤ 6) {A B : List (List Int)} (hA : ∀ c ∈ A, cubeOk M c) (hB : ∀ d ∈ B, cubeOk M d) : anyC held (andC A B) = (anyC held A && anyC held B) := by
 have key : ∀ (A L : List (List Int)), (∀ c ∈ A, cubeOk M c) → anyC held (A.foldl (andR B) L) = (anyC held L || (anyC held A && anyC held B)) := by
  intro A
  induction A with
  | nil => intro L _; simp [anyC]
  | cons c l ih =>
   intro L hA
   show anyC held (l.foldl (andR B) (andR B L c)) = _
   rw [ih _ (fun x hx => hA x (by simp [hx])), any_andR held hM (hA c (by simp)) B L hB]
   have : anyC held (c :: l) = (allC held c || anyC held l) := rfl
   rw [this]
   cases anyC held L <;> cases allC held c <;> cases anyC held B <;> cases anyC held l <;> rfl
 unfold andC
 rw [key A [] hA]
 simp [anyC]
theorem any_putF (held : List Bool) : ∀ (B L : List (List Int)), anyC held (B.foldl putC L) = (anyC held L || anyC held B) := by
 intro B
 induction B with
 | nil => intro L; simp [anyC]
 | cons c l ih =>
  intro L
  show anyC held (l.foldl putC (putC L c)) = _
  rw [ih, any_put]
  have : anyC held (c :: l) = (allC held c || anyC held l) := rfl
  rw [this, Bool.or_assoc]
theorem any_or (held : List Bool) (A B : List (List Int)) : anyC held (orC A B) = (anyC held A || anyC held B) := by
 unfold orC
 rw [any_putF, anyC_append]
 simp [anyC]
theorem any_turn (held : List Bool) {c : List Int} (h : ∀ m ∈ c, m ≠ 0) : anyC held (turnC c) = !allC held c := by
 induction c with
 | nil => rfl
 | cons m l ih =>
  have e1 : anyC held (turnC (m :: l)) = (litC held (-m) || anyC held (turnC l)) := by
   simp [anyC, turnC, allC]
  have e2 : allC held (m :: l) = (litC held m && allC held l) := rfl
  rw [e1, e2, ih (fun x hx => h x (by simp [hx])), lit_neg held (h m (by simp))]
  cases litC held m <;> simp
theorem any_no (held : List Bool) {M : Nat} (hM : M ≤ 6) : ∀ (L out K : List (List Int)), (∀ c ∈ L, cubeOk M c) → (∀ c ∈ out, cubeOk M c) → noC L out = some K → anyC held K = (anyC held out && !anyC held L) := by
 intro L
 induction L with
 | nil => intro out K _ _ h; cases h; simp [anyC]
 | cons c l ih =>
  intro out K hL ho h
  unfold noC at h
  cases he : capC (andC out (turnC c)) with
  | none => rw [he] at h; cases h
  | some x =>
   rw [he] at h
   obtain ⟨rfl, hx⟩ := cap_some he
   have hc := hL c (by simp)
   rw [ih _ K (fun d hd => hL d (by simp [hd])) (and_ok hM ho (turn_ok hc)).1 h, any_and held hM ho (turn_ok hc), any_turn held (fun m hm => by have := hc.1 m hm; omega)]
   have : anyC held (c :: l) = (allC held c || anyC held l) := rfl
   rw [this]
   cases anyC held out <;> cases allC held c <;> cases anyC held l <;> rfl
theorem pileC_append (a b : List Int) (p : List (List (List Int))) : pileC (a ++ b) p = (pileC a p).bind (pileC b) := by
 induction a generalizing p with
 | nil => rfl
 | cons s l ih =>
  show (stepC p s).bind (pileC (l ++ b)) = ((stepC p s).bind (pileC l)).bind (pileC b)
  cases stepC p s with
  | none => rfl
  | some q => exact ih q
theorem pileC_succ (t : List Int) (p : List (List (List Int))) {k : Nat} (h : k < t.length) : pileC (t.take (k + 1)) p = (pileC (t.take k) p).bind (fun q => stepC q (t.getD k 0)) := by
 rw [takeF_succ t h, pileC_append]
 congr 1
 funext q
 show (stepC q (t.getD k 0)).bind (pileC []) = _
 cases stepC q (t.getD k 0) <;> rfl
theorem pileC_none (t : List Int) (p : List (List (List Int))) (k : Nat) (h : pileC (t.take k) p = none) : pileC t p = none := by
 have : pileC (t.take k ++ t.drop k) p = none := by rw [pileC_append, h]; rfl
 rwa [List.take_append_drop] at this
def okP (M : Nat) (p : List (List (List Int))) : Prop := ∀ L ∈ p, okL M L ∧ L.length ≤ 40
theorem cubes_made_ok {M : Nat} (hM : M ≤ 6) {s : Int} (hs : takesF s ≠ 0 ∨ (0 ≤ s ∧ s < M)) {l : List (List (List Int))} (hl : okP M l) {K : List (List Int)} (h : madeC s l = some K) : okL M K ∧ K.length ≤ 40 := by
 have h0 : ∀ i, okL M (l.getD i []) ∧ (l.getD i []).length ≤ 40 := by
  intro i
  rw [List.getD_eq_getElem?_getD]
  cases hi : l[i]? with
  | none => exact ⟨okL_nil M, by simp⟩
  | some x => exact hl x (List.mem_of_getElem? hi)
 unfold madeC at h
 split at h
 ·obtain ⟨rfl, hk⟩ := cap_some h
  exact ⟨and_ok hM (h0 0).1.1 (h0 1).1.1, hk⟩
 split at h
 ·obtain ⟨rfl, hk⟩ := cap_some h
  exact ⟨or_ok (h0 0).1.1 (h0 1).1.1, hk⟩
 split at h
 ·cases he : noC (l.getD 0 []) [[]] with
  | none => rw [he] at h; cases h
  | some x =>
   rw [he] at h
   have hx := no_ok hM _ _ _ (h0 0).1.1 (okL_one M) (by simp) he
   obtain ⟨rfl, hk⟩ := cap_some h
   exact ⟨or_ok hx.1.1 (h0 1).1.1, hk⟩
 split at h
 ·exact no_ok hM _ _ _ (h0 0).1.1 (okL_one M) (by simp) h
 ·rename_i h1 h2 h3 h4
  have ht : takesF s = 0 := by unfold takesF; rw [if_neg (by omega), if_neg h4]
  have hs' := hs.resolve_left (by simp [ht])
  obtain rfl := Option.some.inj h
  refine ⟨⟨fun c hc => ?_, by simp⟩, by simp⟩
  rw [List.mem_singleton.1 hc]
  refine ⟨fun m hm => ?_, by simp⟩
  rw [List.mem_singleton.1 hm]; omega
theorem made_any (held : List Bool) {M : Nat} (hM : M ≤ 6) {s : Int} (hs : takesF s ≠ 0 ∨ (0 ≤ s ∧ s < M)) {l : List (List (List Int))} (hl : okP M l) {K : List (List Int)} (h : madeC s l = some K) : anyC held K = madeF held s (l.map (anyC held)) := by
 have h0 : ∀ i, ∀ c ∈ l.getD i [], cubeOk M c := by
  intro i
  rw [List.getD_eq_getElem?_getD]
  cases hi : l[i]? with
  | none => intro c hc; cases hc
  | some x => exact (hl x (List.mem_of_getElem? hi)).1.1
 have g : ∀ i, (l.map (anyC held)).getD i false = anyC held (l.getD i []) := by
  intro i
  rw [List.getD_eq_getElem?_getD, List.getD_eq_getElem?_getD, List.getElem?_map]
  cases l[i]? <;> rfl
 unfold madeC at h
 unfold madeF
 rw [g, g]
 split at h
 ·rename_i e; subst e
  obtain ⟨rfl, hk⟩ := cap_some h
  rw [if_pos rfl]
  exact any_and held hM (h0 0) (h0 1)
 split at h
 ·rename_i e; subst e
  obtain ⟨rfl, hk⟩ := cap_some h
  rw [if_neg (by decide), if_pos rfl]
  exact any_or held _ _
 split at h
 ·rename_i e; subst e
  rw [if_neg (by decide), if_neg (by decide), if_pos rfl]
  cases he : noC (l.getD 0 []) [[]] with
  | none => rw [he] at h; cases h
  | some x =>
   rw [he] at h
   obtain ⟨rfl, hk⟩ := cap_some h
   rw [any_or, any_no held hM _ _ _ (h0 0) (okL_one M).1 he]
   simp [anyC, allC]
 split at h
 ·rename_i e; subst e
  rw [if_neg (by decide), if_neg (by decide), if_neg (by decide), if_pos rfl]
  rw [any_no held hM _ _ _ (h0 0) (okL_one M).1 h]
  simp [anyC, allC]
 ·rename_i h1 h2 h3 h4
  have ht : takesF s = 0 := by unfold takesF; rw [if_neg (by omega), if_neg h4]
  have hs' := hs.resolve_left (by simp [ht])
  obtain rfl := Option.some.inj h
  rw [if_neg h1, if_neg h2, if_neg h3, if_neg h4]
  have e1 : (s + 1).natAbs - 1 = s.toNat := by omega
  have e2 : decide (0 < s + 1) = true := by simp; omega
  simp [anyC, allC, litC, e1, e2]
theorem step_ok (held : List Bool) {M : Nat} (hM : M ≤ 6) {s : Int} (hs : takesF s ≠ 0 ∨ (0 ≤ s ∧ s < M)) {p q : List (List (List Int))} (hp : okP M p) (h : stepC p s = some q) : okP M q ∧ q.map (anyC held) = stepF held (p.map (anyC held)) s := by
 unfold stepC at h
 cases he : madeC s (p.drop (restC p s)) with
 | none => rw [he] at h; cases h
 | some K =>
  rw [he] at h
  obtain rfl := Option.some.inj h
  have hd : okP M (p.drop (restC p s)) := fun L hL => hp L (List.mem_of_mem_drop hL)
  refine ⟨fun L hL => ?_, ?_⟩
  ·rcases List.mem_append.1 hL with hL | hL
   ·exact hp L (List.mem_of_mem_take hL)
   ·rw [List.mem_singleton.1 hL]; exact cubes_made_ok hM hs hd he
  ·unfold stepF restF
   rw [List.map_append, List.length_map, ← List.map_take, ← List.map_drop]
   show _ ++ [anyC held K] = _
   rw [made_any held hM hs hd he]; rfl
theorem pile_ok (held : List Bool) {M : Nat} (hM : M ≤ 6) : ∀ (c : List Int) (p q : List (List (List Int))), c.all (signF M) = true → okP M p → pileC c p = some q → okP M q ∧ q.map (anyC held) = pileF held c (p.map (anyC held)) := by
 intro c
 induction c with
 | nil => intro p q _ hp h; cases h; exact ⟨hp, rfl⟩
 | cons s l ih =>
  intro p q hs hp h
  rw [List.all_cons, Bool.and_eq_true] at hs
  unfold pileC at h
  cases he : stepC p s with
  | none => rw [he] at h; cases h
  | some x =>
   rw [he] at h
   obtain ⟨h1, h2⟩ := step_ok held hM (signF_iff.1 hs.1) hp he
   obtain ⟨g1, g2⟩ := ih x q hs.2 h1 h
   refine ⟨g1, ?_⟩
   rw [g2, h2]; rfl
theorem stepC_length {p q : List (List (List Int))} {s : Int} (ht : takesF s ≤ p.length) (h : stepC p s = some q) : (q.length : Int) = p.length + 1 - takesF s := by
 have := takesF_range s
 unfold stepC at h
 cases he : madeC s (p.drop (restC p s)) with
 | none => rw [he] at h; cases h
 | some K =>
  rw [he] at h
  obtain rfl := Option.some.inj h
  simp [restC]
  omega
theorem pileC_length : ∀ (t : List Int) (p q : List (List (List Int))) {n : Int}, cntF t p.length = some n → pileC t p = some q → (q.length : Int) = n := by
 intro t
 induction t with
 | nil => intro p q n h hq; cases hq; simp [cntF] at h; exact h
 | cons s l ih =>
  intro p q n h hq
  unfold cntF at h
  split at h
  ·cases h
  ·rename_i hs
   unfold pileC at hq
   cases he : stepC p s with
   | none => rw [he] at hq; cases hq
   | some x =>
    rw [he] at hq
    refine ih x q ?_ hq
    rw [stepC_length (by omega) he]; exact h
theorem cubes_say (held : List Bool) {ats : List At} {c : List Int} (hf : formFault ats c = 0) {L : List (List Int)} (h : cubesC c = some L) : okL ats.length L ∧ L.length ≤ 40 ∧ anyC held L = valF held c := by
 obtain ⟨⟨_, h6⟩, _, _, hs, hone⟩ := formFault_zero.1 hf
 unfold cubesC at h
 cases he : pileC c [] with
 | none => rw [he] at h; cases h
 | some q =>
  rw [he] at h
  obtain rfl := Option.some.inj h
  obtain ⟨h1, h2⟩ := pile_ok held h6 c [] q hs (fun L hL => by cases hL) he
  have hl := pileC_length c [] q hone he
  match q, hl with
  | [x], _ =>
   have := h1 x (by simp)
   refine ⟨this.1, this.2, ?_⟩
   show anyC held x = valF held c
   unfold valF
   have e : pileF held c [] = [anyC held x] := h2.symm
   rw [e]; rfl
  | [], h => simp at h
  | _ :: _ :: _, h => simp at h; omega
end Go.Proofs.YtjmeakkmfeoigaaGreatDoor
namespace Go.Proofs.YtjmeakkmfeoigaaGreatDoor
open Go.RowKit
def atZ : At := ⟨0, [], [], 0⟩
def rowOf (ats : List At) (m : Int) : Rw := ⟨rowT (ats.getD (m.natAbs - 1) atZ).k (ats.getD (m.natAbs - 1) atZ).s (ats.getD (m.natAbs - 1) atZ).t (decide (0 < m)), rowM (ats.getD (m.natAbs - 1) atZ).k (ats.getD (m.natAbs - 1) atZ).n (decide (0 < m))⟩
def cubeR (ats : List At) (c : List Int) : List Rw := c.map (rowOf ats)
def modelL (ats : List At) (u : Nat) : List (List Int) → Option (Nat → Int)
 | [] => none
 | c :: L => match (everyC u).find? (fitB (cubeR ats c)) with
  | some N => some N
  | none => modelL ats u L
theorem modelL_some {ats : List At} {u : Nat} {L : List (List Int)} {N : Nat → Int} (h : modelL ats u L = some N) : N ∈ everyC u ∧ ∃ c ∈ L, fitB (cubeR ats c) N = true := by
 induction L with
 | nil => simp [modelL] at h
 | cons c L ih =>
  unfold modelL at h
  cases e : (everyC u).find? (fitB (cubeR ats c)) with
  | some M =>
   rw [e] at h
   obtain rfl : M = N := by simpa using h
   exact ⟨List.mem_of_find?_eq_some e, c, List.mem_cons_self, List.find?_some e⟩
  | none =>
   rw [e] at h
   obtain ⟨h1, d, h2, h3⟩ := ih h
   exact ⟨h1, d, List.mem_cons_of_mem _ h2, h3⟩
theorem modelL_none {ats : List At} {u : Nat} {L : List (List Int)} (h : modelL ats u L = none) : ∀ c ∈ L, ∀ N ∈ everyC u, fitB (cubeR ats c) N = false := by
 induction L with
 | nil => intro c hc; cases hc
 | cons c L ih =>
  unfold modelL at h
  cases e : (everyC u).find? (fitB (cubeR ats c)) with
  | some M => rw [e] at h; simp at h
  | none =>
   rw [e] at h
   intro d hd N hN
   rcases List.mem_cons.1 hd with rfl | hd
   ·simpa using List.find?_eq_none.1 e N hN
   ·exact ih h d hd N hN
theorem at_of {ats : List At} {m : Int} (h1 : 1 ≤ m.natAbs) (h2 : m.natAbs ≤ ats.length) : ats.getD (m.natAbs - 1) atZ ∈ ats := by
 rw [List.getD_eq_getElem?_getD, List.getElem?_eq_getElem (by omega)]
 exact List.getElem_mem _
theorem held_of {w : Wd} {ats : List At} {m : Int} (h1 : 1 ≤ m.natAbs) (h2 : m.natAbs ≤ ats.length) : (w.heldL ats).getD (m.natAbs - 1) false = w.holds (ats.getD (m.natAbs - 1) atZ).k (ats.getD (m.natAbs - 1) atZ).s (ats.getD (m.natAbs - 1) atZ).t (ats.getD (m.natAbs - 1) atZ).n := by
 unfold Wd.heldL
 rw [List.getD_eq_getElem?_getD, List.getD_eq_getElem?_getD, List.getElem?_map, List.getElem?_eq_getElem (show m.natAbs - 1 < ats.length by omega)]
 rfl
theorem cube_says {w : Wd} (hw : w.ok = true) {ats : List At} (ha : ∀ a ∈ ats, a.fault = 0) {c : List Int} (hc : cubeOk ats.length c) : fitB (cubeR ats c) (w.fc w.u.toNat) = allC (w.heldL ats) c := by
 unfold fitB cubeR allC
 rw [List.all_map]
 have key : ∀ m ∈ c, ((fun r : Rw => r.so (w.fc w.u.toNat)) ∘ rowOf ats) m = litC (w.heldL ats) m := fun m hm => by
  obtain ⟨h1, h2⟩ := hc.1 m hm
  have hf : atomFault (ats.getD (m.natAbs - 1) atZ).k (ats.getD (m.natAbs - 1) atZ).s (ats.getD (m.natAbs - 1) atZ).t (ats.getD (m.natAbs - 1) atZ).n = 0 := ha _ (at_of h1 h2)
  show (rowOf ats m).so (w.fc w.u.toNat) = _
  unfold rowOf litC
  rw [rows_say hw hf, held_of h1 h2]
  by_cases hp : 0 < m
  ·rw [decide_eq_true hp, if_pos rfl]
   cases w.holds (ats.getD (m.natAbs - 1) atZ).k (ats.getD (m.natAbs - 1) atZ).s (ats.getD (m.natAbs - 1) atZ).t (ats.getD (m.natAbs - 1) atZ).n <;> rfl
  ·rw [decide_eq_false hp, if_neg (by decide)]
   cases w.holds (ats.getD (m.natAbs - 1) atZ).k (ats.getD (m.natAbs - 1) atZ).s (ats.getD (m.natAbs - 1) atZ).t (ats.getD (m.natAbs - 1) atZ).n <;> rfl
 induction c with
 | nil => rfl
 | cons m c ih =>
  rw [List.all_cons, List.all_cons, key m List.mem_cons_self, ih ⟨fun x hx => hc.1 x (List.mem_cons_of_mem _ hx), (List.pairwise_cons.1 hc.2).2⟩ fun x hx => key x (List.mem_cons_of_mem _ hx)]
theorem model_holds {ats : List At} {c : List Int} (hf : formFault ats c = 0) {L : List (List Int)} (hL : cubesC c = some L) {u : Nat} (hu : u ≤ 6) {N : Nat → Int} (h : modelL ats u L = some N) :
    countsFault N = 0 ∧ (madeN N 8).ok = true ∧ (madeN N 8).u = u ∧ (madeN N 8).formIs ats c = true := by
 obtain ⟨h1, d, h2, h3⟩ := modelL_some h
 have hc := everyC_right hu h1
 have hok := made_ok hc
 have hsum := (everyC_sum h1).2
 have hmu := made_u hc
 obtain ⟨g1, _, g3⟩ := cubes_say ((madeN N 8).heldL ats) hf hL
 have ha := (formFault_zero.1 hf).2.2.1
 have hd := cube_says hok ha (g1.1 d h2)
 rw [fitB_same (M := N) fun g hg => made_fc hc hg, h3] at hd
 refine ⟨hc, hok, by rw [hmu, hsum], ?_⟩
 unfold Wd.formIs
 rw [if_pos (wdForm_zero.2 ⟨hf, hok⟩), ← g3]
 unfold anyC
 rw [List.any_eq_true]
 exact ⟨d, h2, hd.symm⟩
theorem model_never {ats : List At} {c : List Int} (hf : formFault ats c = 0) {L : List (List Int)} (hL : cubesC c = some L) {u : Nat} (h : modelL ats u L = none) {w : Wd} (hw : w.ok = true) (hwu : w.u = u) : w.formIs ats c = false := by
 obtain ⟨g1, _, g3⟩ := cubes_say (w.heldL ats) hf hL
 have ha := (formFault_zero.1 hf).2.2.1
 unfold Wd.formIs
 rw [if_pos (wdForm_zero.2 ⟨hf, hw⟩), ← g3]
 unfold anyC
 rw [List.any_eq_false]
 intro d hd
 have hs := cube_says hw ha (g1.1 d hd)
 have hcf := counts_fc hw
 have hsum : sumN (w.fc w.u.toNat) 8 = u := by rw [sum_fc, hwu]; rfl
 obtain ⟨A, hA, hAw⟩ := everyC_all (u := u) (fun g hg => ((counts_zero.1 hcf).1 g hg).1) hsum
 have := modelL_none h d hd A hA
 rw [fitB_same hAw, hs] at this
 rw [this]
 decide
theorem cube_rows {ats : List At} (ha : ∀ a ∈ ats, a.fault = 0) (h6 : ats.length ≤ 6) {d : List Int} (hd : cubeOk ats.length d) : rowsFault (cubeR ats d) = 0 := by
 unfold rowsFault
 have hl : (cubeR ats d).length ≤ 6 := by unfold cubeR; rw [List.length_map]; have := cube_len hd; omega
 rw [if_neg (by omega)]
 have hw : (cubeR ats d).any Rw.wrong = false := by
  rw [List.any_eq_false]
  intro r hr
  unfold cubeR at hr
  obtain ⟨m, hm, rfl⟩ := List.mem_map.1 hr
  obtain ⟨h1, h2⟩ := hd.1 m hm
  have hf : atomFault (ats.getD (m.natAbs - 1) atZ).k (ats.getD (m.natAbs - 1) atZ).s (ats.getD (m.natAbs - 1) atZ).t (ats.getD (m.natAbs - 1) atZ).n = 0 := ha _ (at_of h1 h2)
  have := row_right hf (decide (0 < m))
  unfold rowOf
  rw [this]
  decide
 rw [hw]
 rfl
def modelFault (ats : List At) (c : List Int) (u : Int) : Int :=
 if formFault ats c = 0 then (match cubesC c with
  | none => 4
  | some L => if 0 ≤ u ∧ u ≤ 6 then (if (modelL ats u.toNat L).isSome = true then 0 else 5) else 1) else formFault ats c
def modelN (ats : List At) (c : List Int) (u : Int) : Nat → Int := (modelL ats u.toNat ((cubesC c).getD [])).getD zeroC
def modelW (ats : List At) (c : List Int) (u : Int) : Wd := if modelFault ats c u = 0 then madeN (modelN ats c u) 8 else ⟨0, 0, 0, 0⟩
end Go.Proofs.YtjmeakkmfeoigaaGreatDoor
namespace Go.Proofs.YtjmeakkmfeoigaaGreatDoor
open Go.RowKit
def againstFault (ats : List At) (c : List Int) (u : Int) : Int := if negFault ats c = 0 then modelFault ats (c ++ [12]) u else negFault ats c
def againstW (ats : List At) (c : List Int) (u : Int) : Wd := if negFault ats c = 0 then modelW ats (c ++ [12]) u else ⟨0, 0, 0, 0⟩
def sureB (ats : List At) (c : List Int) (u : Int) : Bool := decide (againstFault ats c u = 5 ∧ formFault ats c = 0)
def sureFault (ats : List At) (c : List Int) (u : Int) : Int := if sureB ats c u = true then 0 else againstFault ats c u
def manyA (name n : Int) : List At := [⟨3, [name], [], n⟩]
def Wd.has (w : Wd) : Nat → Int
 | 0 => w.a
 | 1 => w.b
 | _ => w.c
theorem model_zero {ats : List At} {c : List Int} {u : Int} (h : modelFault ats c u = 0) : formFault ats c = 0 ∧ (modelW ats c u).ok = true ∧ (modelW ats c u).u = u ∧ (modelW ats c u).formIs ats c = true := by
 have h0 := h
 unfold modelFault at h
 by_cases hf : formFault ats c = 0
 ·rw [if_pos hf] at h
  cases hL : cubesC c with
  | none => rw [hL] at h; have h : (4 : Int) = 0 := h; omega
  | some L =>
   rw [hL] at h
   have h : (if 0 ≤ u ∧ u ≤ 6 then (if (modelL ats u.toNat L).isSome = true then (0 : Int) else 5) else 1) = 0 := h
   by_cases hu : 0 ≤ u ∧ u ≤ 6
   ·rw [if_pos hu] at h
    cases hm : modelL ats u.toNat L with
    | none => rw [hm] at h; have h : (5 : Int) = 0 := h; omega
    | some N =>
     have e : modelW ats c u = madeN N 8 := by
      unfold modelW modelN
      rw [if_pos h0, hL]
      show madeN ((modelL ats u.toNat L).getD zeroC) 8 = _
      rw [hm]; rfl
     obtain ⟨_, g2, g3, g4⟩ := model_holds hf hL (by omega) hm
     rw [e]
     exact ⟨hf, g2, by rw [g3]; omega, g4⟩
   ·rw [if_neg hu] at h; exact absurd h (by decide)
 ·rw [if_neg hf] at h; exact absurd h hf
theorem model_five {ats : List At} {c : List Int} {u : Int} (h : modelFault ats c u = 5) (hf : formFault ats c = 0) {w : Wd} (hw : w.ok = true) (hwu : w.u = u) : w.formIs ats c = false := by
 unfold modelFault at h
 rw [if_pos hf] at h
 cases hL : cubesC c with
 | none => rw [hL] at h; have h : (4 : Int) = 5 := h; omega
 | some L =>
  rw [hL] at h
  have h : (if 0 ≤ u ∧ u ≤ 6 then (if (modelL ats u.toNat L).isSome = true then (0 : Int) else 5) else 1) = 5 := h
  by_cases hu : 0 ≤ u ∧ u ≤ 6
  ·rw [if_pos hu] at h
   cases hm : modelL ats u.toNat L with
   | none => exact model_never hf hL hm hw (by rw [hwu]; omega)
   | some N => rw [hm] at h; have h : (0 : Int) = 5 := h; omega
  ·rw [if_neg hu] at h; exact absurd h (by decide)
end Go.Proofs.YtjmeakkmfeoigaaGreatDoor
namespace Go.Proofs.YtjmeakkmfeoigaaGreatDoor
open Go.RowKit
structure Fm where
 ats : List At
 c : List Int
def fmZ : Fm := ⟨[], []⟩
def Fm.fault (f : Fm) : Int := formFault f.ats f.c
def Wd.so (w : Wd) (fs : List Fm) : Bool := fs.all fun f => w.formIs f.ats f.c
def firstForm : List Fm → Int
 | [] => 0
 | f :: l => if f.fault = 0 then firstForm l else f.fault
def formsFault (fs : List Fm) (u : Int) : Int := if fs.length = 0 then 5 else if 6 < fs.length then 4 else if firstForm fs = 0 then (if 0 ≤ u ∧ u ≤ 6 then 0 else 1) else firstForm fs
def openN (fs : List Fm) (u : Nat) : Bool := (everyC u).any fun N => (madeN N 8).so fs
def openB (fs : List Fm) (u : Int) : Bool := if formsFault fs u = 0 then openN fs u.toNat else false
theorem firstForm_zero {fs : List Fm} : firstForm fs = 0 ↔ ∀ f ∈ fs, f.fault = 0 := by
 induction fs with
 | nil => exact ⟨fun _ f hf => (by cases hf), fun _ => rfl⟩
 | cons f l ih =>
  unfold firstForm
  by_cases h : f.fault = 0
  ·rw [if_pos h, ih]
   exact ⟨fun g x hx => by
    rcases List.mem_cons.1 hx with rfl | hx
    ·exact h
    ·exact g x hx, fun g x hx => g x (List.mem_cons_of_mem _ hx)⟩
  ·rw [if_neg h]
   exact ⟨fun g => absurd g h, fun g => absurd (g f List.mem_cons_self) h⟩
theorem firstForm_at {fs : List Fm} {k : Nat} {f : Fm} (hk : fs[k]? = some f) (h : ∀ j, j < k → ∀ g, fs[j]? = some g → g.fault = 0) (hf : ¬ f.fault = 0) : firstForm fs = f.fault := by
 induction fs generalizing k with
 | nil => simp at hk
 | cons g l ih =>
  unfold firstForm
  cases k with
  | zero =>
   obtain rfl : g = f := by simpa using hk
   rw [if_neg hf]
  | succ k =>
   rw [if_pos (h 0 (by omega) g rfl)]
   exact ih (by simpa using hk) fun j hj x hx => h (j + 1) (by omega) x (by simpa using hx)
theorem forms_zero {fs : List Fm} {u : Int} : formsFault fs u = 0 ↔ (1 ≤ fs.length ∧ fs.length ≤ 6) ∧ (∀ f ∈ fs, f.fault = 0) ∧ 0 ≤ u ∧ u ≤ 6 := by
 unfold formsFault
 by_cases h0 : fs.length = 0
 ·rw [if_pos h0]; exact ⟨fun h => absurd h (by decide), fun h => by omega⟩
 ·rw [if_neg h0]
  by_cases h6 : 6 < fs.length
  ·rw [if_pos h6]; exact ⟨fun h => absurd h (by decide), fun h => by omega⟩
  ·rw [if_neg h6]
   by_cases hf : firstForm fs = 0
   ·rw [if_pos hf]
    by_cases hu : 0 ≤ u ∧ u ≤ 6
    ·rw [if_pos hu]; exact ⟨fun _ => ⟨⟨by omega, by omega⟩, firstForm_zero.1 hf, hu⟩, fun _ => rfl⟩
    ·rw [if_neg hu]; exact ⟨fun h => absurd h (by decide), fun h => absurd h.2.2 hu⟩
   ·rw [if_neg hf]; exact ⟨fun h => absurd h hf, fun h => absurd (firstForm_zero.2 h.2.1) hf⟩
theorem open_of {fs : List Fm} {w : Wd} (hw : w.ok = true) {u : Int} (hu : w.u = u) (h : w.so fs = true) : openN fs u.toNat = true := by
 have hcf := counts_fc hw
 have hsum : sumN (w.fc w.u.toNat) 8 = ((u.toNat : Nat) : Int) := by rw [sum_fc, hu]
 obtain ⟨A, hA, hAw⟩ := everyC_all (u := u.toNat) (fun g hg => ((counts_zero.1 hcf).1 g hg).1) hsum
 unfold openN
 rw [List.any_eq_true]
 refine ⟨A, hA, ?_⟩
 have e : ∀ k, k ≤ 8 → madeN A k = madeN (w.fc w.u.toNat) k := by
  intro k
  induction k with
  | zero => intro _; rfl
  | succ k ih => intro hk; unfold madeN; rw [ih (by omega), hAw k (by omega)]
 unfold Wd.so at h ⊢
 rw [List.all_eq_true] at h ⊢
 intro f hf
 rw [e 8 (Nat.le_refl _), (alike_made hw).form f.ats f.c]
 exact h f hf
theorem open_has {fs : List Fm} {u : Nat} (hu : u ≤ 6) (h : openN fs u = true) : ∃ w : Wd, w.ok = true ∧ w.u = u ∧ w.so fs = true := by
 unfold openN at h
 rw [List.any_eq_true] at h
 obtain ⟨N, hN, hs⟩ := h
 have hc := everyC_right hu hN
 exact ⟨madeN N 8, made_ok hc, by rw [made_u hc, (everyC_sum hN).2], hs⟩
theorem open_less {fs gs : List Fm} {u : Nat} (h : ∀ f ∈ gs, f ∈ fs) (ho : openN fs u = true) : openN gs u = true := by
 unfold openN at ho ⊢
 rw [List.any_eq_true] at ho ⊢
 obtain ⟨N, hN, hs⟩ := ho
 refine ⟨N, hN, ?_⟩
 unfold Wd.so at hs ⊢
 rw [List.all_eq_true] at hs ⊢
 exact fun f hf => hs f (h f hf)
theorem open_nil (u : Nat) : openN [] u = true := by
 unfold openN
 rw [List.any_eq_true]
 cases h : everyC u with
 | nil => exact absurd h (allF_ne 7 u _)
 | cons N A => exact ⟨N, List.mem_cons_self, rfl⟩
def worldsL (u : Nat) : List Wd := (everyC u).map fun N => madeN N 8
theorem worldsL_length (u : Nat) : (worldsL u).length = (everyC u).length := by unfold worldsL; rw [List.length_map]
theorem worldsL_ok {u : Nat} (hu : u ≤ 6) {D : Wd} (h : D ∈ worldsL u) : D.ok = true := by
 unfold worldsL at h
 obtain ⟨N, hN, rfl⟩ := List.mem_map.1 h
 exact made_ok (everyC_right hu hN)
theorem worldsL_like {w : Wd} (hw : w.ok = true) {u : Nat} (hu : w.u = u) : ∃ D ∈ worldsL u, Alike w D := by
 have hcf := counts_fc hw
 have hsum : sumN (w.fc w.u.toNat) 8 = (u : Int) := by rw [sum_fc, hu, Int.toNat_natCast]
 obtain ⟨A, hA, hAw⟩ := everyC_all (u := u) (fun g hg => ((counts_zero.1 hcf).1 g hg).1) hsum
 have e : ∀ k, k ≤ 8 → madeN A k = madeN (w.fc w.u.toNat) k := by
  intro k
  induction k with
  | zero => intro _; rfl
  | succ k ih => intro hk; unfold madeN; rw [ih (by omega), hAw k (by omega)]
 refine ⟨madeN A 8, List.mem_map.2 ⟨A, hA, rfl⟩, ?_⟩
 rw [e 8 (Nat.le_refl _)]
 exact alike_made hw
theorem worldsL_u {u : Nat} (hu : u ≤ 6) {D : Wd} (h : D ∈ worldsL u) : D.u = u := by
 unfold worldsL at h
 obtain ⟨N, hN, rfl⟩ := List.mem_map.1 h
 rw [made_u (everyC_right hu hN), (everyC_sum hN).2]
def putG (g : Nat → Bool) (i : Nat) (b : Bool) : Nat → Bool := fun k => if k = i then b else g k
def leftTo (fs : List Fm) (g : Nat → Bool) : Nat → List Fm
 | 0 => []
 | k + 1 => leftTo fs g k ++ (if g k = true then [] else (match fs[k]? with | some f => [f] | none => []))
def leftF (fs : List Fm) (g : Nat → Bool) : List Fm := leftTo fs g fs.length
def goneTo (fs : List Fm) (u : Nat) : Nat → (Nat → Bool)
 | 0 => fun _ => false
 | i + 1 => if openN (leftF fs (putG (goneTo fs u i) i true)) u = true then putG (goneTo fs u i) i false else putG (goneTo fs u i) i true
def coreTo (fs : List Fm) (u : Nat) : Nat → List Int
 | 0 => []
 | i + 1 => if openN (leftF fs (putG (goneTo fs u i) i true)) u = true then coreTo fs u i ++ [(i : Int)] else coreTo fs u i
def coreFault (fs : List Fm) (u : Int) : Int := if formsFault fs u = 0 then (if openB fs u = true then 8 else 0) else formsFault fs u
def coreL (fs : List Fm) (u : Int) : List Int := if coreFault fs u = 0 then coreTo fs u.toNat fs.length else []
end Go.Proofs.YtjmeakkmfeoigaaGreatDoor
namespace Go.Proofs.YtjmeakkmfeoigaaGreatDoor
open Go.RowKit
def aloneF (a : At) (h : Bool) : Fm := ⟨[a], if h = true then [0] else [0, 12]⟩
structure Lg where
 u : Int
 fs : List Fm
 ends : List Int
 bytes : Int
 safe : Int
 left : Int
 stop : Bool
def lg0 (u : Int) : Lg := ⟨u, [], [], 0, 0, -1, false⟩
def Lg.wrong (l : Lg) (a : At) (h : Bool) : Int := if l.stop = true then 6 else if a.fault = 0 then (if 6 ≤ l.fs.length then 4 else if openN (l.fs ++ [aloneF a h]) l.u.toNat = true then 0 else 7) else a.fault
def Lg.sayE (l : Lg) (a : At) (h : Bool) : Int := if l.wrong a h = 0 then (if l.left = 0 then 6 else 0) else l.wrong a h
def lessN1 (n : Int) : Int := if n < 0 then n else n - 1
def Lg.say (l : Lg) (a : At) (h : Bool) (n : Int) : Lg :=
 if l.wrong a h = 0 then (if l.left = 0 then { l with bytes := l.bytes + n / 2, stop := true } else { l with fs := l.fs ++ [aloneF a h], ends := l.ends ++ [l.bytes + n], bytes := l.bytes + n, left := lessN1 l.left }) else l
def Lg.syncE (l : Lg) : Int := if l.stop = true then 6 else if l.left = 0 then 6 else 0
def Lg.sync (l : Lg) : Lg := if l.stop = true then l else if l.left = 0 then { l with stop := true } else { l with safe := l.bytes, left := lessN1 l.left }
def failN (n : Int) : Int := if n < 0 then -1 else if n = 0 then 0 else if IntKind.i64.wrap (n - 1) < 0 then -1 else IntKind.i64.wrap (n - 1) + 1
theorem failN_small {n : Int} (h0 : 0 ≤ n) (h1 : n ≤ 9223372036854775807) : failN n = n := by
 unfold failN
 have e : IntKind.i64.wrap (n - 1) = n - 1 := by rw [IntKind.wrap_i64]; omega
 rw [e, if_neg (by omega)]
 split
 ·omega
 ·rw [if_neg (by omega)]; omega
def Lg.fail (l : Lg) (n : Int) : Lg := { l with left := failN n }
def Lg.high (l : Lg) (keep : Int) : Int := if 0 < keep then (if keep < l.bytes - l.safe then l.safe + keep else l.bytes) else l.safe
def wholeN (ends : List Int) (high : Int) : Nat := (ends.takeWhile fun e => decide (e ≤ high)).length
def endAt (ends : List Int) (k : Nat) : Int := if k = 0 then 0 else ends.getD (k - 1) 0
def Lg.crash (l : Lg) (keep : Int) : Lg :=
 { u := l.u, fs := l.fs.take (wholeN l.ends (l.high keep)), ends := l.ends.take (wholeN l.ends (l.high keep)), bytes := endAt l.ends (wholeN l.ends (l.high keep)), safe := endAt l.ends (wholeN l.ends (l.high keep)), left := -1, stop := false }
def Lg.openB (l : Lg) : Bool := openN l.fs l.u.toNat
theorem alone_right {a : At} (ha : a.fault = 0) (h : Bool) : (aloneF a h).fault = 0 := by
 have h0 : formFault [a] [0] = 0 := formFault_zero.2 ⟨⟨by simp, by simp⟩, ⟨by simp, by simp⟩, fun b hb => by
  obtain rfl : b = a := by simpa using hb
  exact ha, (by decide : [(0 : Int)].all (signF 1) = true), by decide⟩
 unfold aloneF Fm.fault
 cases h
 ·exact good_no h0 (by decide)
 ·exact h0
theorem wrong_of {l : Lg} (hs : l.stop = false) (a : At) (h : Bool) : l.wrong a h = if a.fault = 0 then (if 6 ≤ l.fs.length then 4 else if openN (l.fs ++ [aloneF a h]) l.u.toNat = true then 0 else 7) else a.fault := by
 unfold Lg.wrong
 rw [hs]
 exact if_neg (by decide)
theorem say_ok {l : Lg} (hs : l.stop = false) {a : At} {h : Bool} (ha : a.fault = 0) (h6 : l.fs.length < 6) (ho : openN (l.fs ++ [aloneF a h]) l.u.toNat = true) (hl : ¬ l.left = 0) :
    l.sayE a h = 0 ∧ ∀ n, l.say a h n = { l with fs := l.fs ++ [aloneF a h], ends := l.ends ++ [l.bytes + n], bytes := l.bytes + n, left := lessN1 l.left } := by
 have hw : l.wrong a h = 0 := by rw [wrong_of hs, if_pos ha, if_neg (by omega), if_pos ho]
 refine ⟨by unfold Lg.sayE; rw [if_pos hw, if_neg hl], fun n => ?_⟩
 unfold Lg.say
 rw [if_pos hw, if_neg hl]
theorem say_stop {l : Lg} (hs : l.stop = false) {a : At} {h : Bool} (ha : a.fault = 0) (h6 : l.fs.length < 6) (ho : openN (l.fs ++ [aloneF a h]) l.u.toNat = true) (hl : l.left = 0) :
    l.sayE a h = 6 ∧ ∀ n, l.say a h n = { l with bytes := l.bytes + n / 2, stop := true } := by
 have hw : l.wrong a h = 0 := by rw [wrong_of hs, if_pos ha, if_neg (by omega), if_pos ho]
 refine ⟨by unfold Lg.sayE; rw [if_pos hw, if_pos hl], fun n => ?_⟩
 unfold Lg.say
 rw [if_pos hw, if_pos hl]
theorem say_no {l : Lg} {a : At} {h : Bool} (hw : ¬ l.wrong a h = 0) : l.sayE a h = l.wrong a h ∧ ∀ n, l.say a h n = l := by
 refine ⟨by unfold Lg.sayE; rw [if_neg hw], fun n => ?_⟩
 unfold Lg.say
 rw [if_neg hw]
theorem say_stopped {l : Lg} (hs : l.stop = true) (a : At) (h : Bool) : l.sayE a h = 6 ∧ ∀ n, l.say a h n = l := by
 have hw : l.wrong a h = 6 := by unfold Lg.wrong; rw [if_pos hs]
 have := say_no (l := l) (a := a) (h := h) (by rw [hw]; decide)
 rw [hw] at this
 exact this
end Go.Proofs.YtjmeakkmfeoigaaGreatDoor
namespace Go.Proofs.YtjmeakkmfeoigaaGreatDoor
open Go.RowKit
def spanStep (ats : List At) (c t : List Int) (p : Int × Int) (D : Wd) : Int × Int :=
 if D.formIs ats c = true then (if pcN (D.val t) < p.1 then pcN (D.val t) else p.1, if p.2 < pcN (D.val t) then pcN (D.val t) else p.2) else p
def spanOver (ats : List At) (c t : List Int) (L : List Wd) : Int × Int := L.foldl (spanStep ats c t) (100, -1)
def spanP (ats : List At) (c t : List Int) (u : Nat) : Int × Int := spanOver ats c t (worldsL u)
def spanFault (ats : List At) (c t : List Int) (u : Int) : Int := if formFault ats c = 0 then (if faultN t = 0 then (if 0 ≤ u ∧ u ≤ 6 then (if (spanP ats c t u.toNat).2 < 0 then 5 else 0) else 1) else faultN t) else formFault ats c
def spanLo (ats : List At) (c t : List Int) (u : Int) : Int := if spanFault ats c t u = 0 then (spanP ats c t u.toNat).1 else 0
def spanHi (ats : List At) (c t : List Int) (u : Int) : Int := if spanFault ats c t u = 0 then (spanP ats c t u.toNat).2 else 0
def exactFault (ats : List At) (c t : List Int) (u : Int) : Int := if spanFault ats c t u = 0 then (if spanLo ats c t u = spanHi ats c t u then 0 else 8) else spanFault ats c t u
def exactN (ats : List At) (c t : List Int) (u : Int) : Int := if exactFault ats c t u = 0 then spanLo ats c t u else 0
theorem revInd {α : Type} {P : List α → Prop} (h0 : P []) (h1 : ∀ L a, P L → P (L ++ [a])) : ∀ L, P L := by
 intro L
 have key : ∀ n, P (L.take n) := by
  intro n
  induction n with
  | zero => exact h0
  | succ n ih =>
   rw [List.take_add_one]
   cases h : L[n]? with
   | none => simpa using ih
   | some a => exact h1 _ _ ih
 have := key L.length
 rwa [List.take_length] at this
end Go.Proofs.YtjmeakkmfeoigaaGreatDoor
namespace Go.Proofs.YtjmeakkmfeoigaaGreatDoor
open Go.RowKit
def askStep (fs : List Fm) (ats : List At) (c : List Int) (p : Int × Int) (D : Wd) : Int × Int :=
 (if (D.so fs && D.formIs ats c) = true then p.1 + 1 else p.1, if (D.so fs && !D.formIs ats c) = true then p.2 + 1 else p.2)
def askOver (fs : List Fm) (ats : List At) (c : List Int) (L : List Wd) : Int × Int := L.foldl (askStep fs ats c) (0, 0)
def askP (fs : List Fm) (ats : List At) (c : List Int) (u : Nat) : Int × Int := askOver fs ats c (worldsL u)
def answerN (p : Int × Int) : Int := if p.2 = 0 then 1 else if p.1 = 0 then -1 else 0
def askFault (fs : List Fm) (ats : List At) (c : List Int) (u : Int) : Int := if formsFault fs u = 0 then (if formFault ats c = 0 then (if (askP fs ats c u.toNat).1 + (askP fs ats c u.toNat).2 = 0 then 6 else 0) else formFault ats c) else formsFault fs u
def askN (fs : List Fm) (ats : List At) (c : List Int) (u : Int) : Int := if askFault fs ats c u = 0 then answerN (askP fs ats c u.toNat) else 0
def sumP (f : Nat → Int × Int) : Nat → Int × Int
 | 0 => (0, 0)
 | k + 1 => ((sumP f k).1 + (f k).1, (sumP f k).2 + (f k).2)
def alwaysP (fs : List Fm) (ats : List At) (c : List Int) : Int × Int := sumP (askP fs ats c) 7
def alwaysFault (fs : List Fm) (ats : List At) (c : List Int) : Int := if formsFault fs 0 = 0 then (if formFault ats c = 0 then (if (alwaysP fs ats c).1 + (alwaysP fs ats c).2 = 0 then 6 else 0) else formFault ats c) else formsFault fs 0
def alwaysN (fs : List Fm) (ats : List At) (c : List Int) : Int := if alwaysFault fs ats c = 0 then answerN (alwaysP fs ats c) else 0
theorem askOver_add (fs : List Fm) (ats : List At) (c : List Int) (L : List Wd) (D : Wd) : askOver fs ats c (L ++ [D]) = askStep fs ats c (askOver fs ats c L) D := by
 unfold askOver; rw [List.foldl_append]; rfl
theorem ask_range (fs : List Fm) (ats : List At) (c : List Int) : ∀ L : List Wd, (0 ≤ (askOver fs ats c L).1 ∧ 0 ≤ (askOver fs ats c L).2) ∧ (askOver fs ats c L).1 + (askOver fs ats c L).2 ≤ L.length := by
 refine revInd ?_ ?_
 ·exact ⟨⟨Int.le_refl _, Int.le_refl _⟩, Int.le_refl _⟩
 ·intro L E ih
  rw [askOver_add]
  unfold askStep
  rw [List.length_append]
  cases E.so fs <;> cases E.formIs ats c <;> simp <;> omega
theorem ask_yes (fs : List Fm) (ats : List At) (c : List Int) : ∀ L : List Wd, (askOver fs ats c L).1 = 0 ↔ ∀ D ∈ L, D.so fs = true → D.formIs ats c = false := by
 refine revInd ?_ ?_
 ·exact ⟨fun _ D h => (by cases h), fun _ => rfl⟩
 ·intro L E ih
  have hr := (ask_range fs ats c L).1.1
  rw [askOver_add]
  show (if (E.so fs && E.formIs ats c) = true then _ else _) = 0 ↔ _
  by_cases h : (E.so fs && E.formIs ats c) = true
  ·rw [if_pos h]
   constructor
   ·intro g; omega
   ·intro g
    rw [Bool.and_eq_true] at h
    have := g E (by simp) h.1
    rw [h.2] at this; exact absurd this (by decide)
  ·rw [if_neg h, ih]
   constructor
   ·intro g D hD hs
    rcases List.mem_append.1 hD with hD | hD
    ·exact g D hD hs
    ·obtain rfl : D = E := by simpa using hD
     rw [hs] at h
     simpa using h
   ·intro g D hD hs
    exact g D (List.mem_append_left _ hD) hs
theorem ask_no (fs : List Fm) (ats : List At) (c : List Int) : ∀ L : List Wd, (askOver fs ats c L).2 = 0 ↔ ∀ D ∈ L, D.so fs = true → D.formIs ats c = true := by
 refine revInd ?_ ?_
 ·exact ⟨fun _ D h => (by cases h), fun _ => rfl⟩
 ·intro L E ih
  have hr := (ask_range fs ats c L).1.2
  rw [askOver_add]
  show (if (E.so fs && !E.formIs ats c) = true then _ else _) = 0 ↔ _
  by_cases h : (E.so fs && !E.formIs ats c) = true
  ·rw [if_pos h]
   constructor
   ·intro g; omega
   ·intro g
    rw [Bool.and_eq_true] at h
    have := g E (by simp) h.1
    rw [this] at h; exact absurd h.2 (by decide)
  ·rw [if_neg h, ih]
   constructor
   ·intro g D hD hs
    rcases List.mem_append.1 hD with hD | hD
    ·exact g D hD hs
    ·obtain rfl : D = E := by simpa using hD
     rw [hs] at h
     simpa using h
   ·intro g D hD hs
    exact g D (List.mem_append_left _ hD) hs
theorem so_alike {w D : Wd} (h : Alike w D) (fs : List Fm) : D.so fs = w.so fs := by
 unfold Wd.so
 congr 1
 funext f
 exact h.form f.ats f.c
theorem ask_all_no {fs : List Fm} {ats : List At} {c : List Int} {u : Nat} (h : (askP fs ats c u).2 = 0) {w : Wd} (hw : w.ok = true) (hu : w.u = u) (hs : w.so fs = true) : w.formIs ats c = true := by
 obtain ⟨D, hD, hl⟩ := worldsL_like hw hu
 have := (ask_no fs ats c _).1 h D hD (by rw [so_alike hl]; exact hs)
 rw [hl.form] at this
 exact this
theorem ask_all_yes {fs : List Fm} {ats : List At} {c : List Int} {u : Nat} (h : (askP fs ats c u).1 = 0) {w : Wd} (hw : w.ok = true) (hu : w.u = u) (hs : w.so fs = true) : w.formIs ats c = false := by
 obtain ⟨D, hD, hl⟩ := worldsL_like hw hu
 have := (ask_yes fs ats c _).1 h D hD (by rw [so_alike hl]; exact hs)
 rw [hl.form] at this
 exact this
theorem ask_open {fs : List Fm} {ats : List At} {c : List Int} {u : Nat} : (askP fs ats c u).1 + (askP fs ats c u).2 = 0 ↔ openN fs u = false := by
 have hr := (ask_range fs ats c (worldsL u)).1
 have eO : openN fs u = (worldsL u).any fun D => D.so fs := by unfold openN worldsL; rw [List.any_map]; rfl
 have e1 := ask_yes fs ats c (worldsL u)
 have e2 := ask_no fs ats c (worldsL u)
 unfold askP
 constructor
 ·intro h
  rw [eO, List.any_eq_false]
  intro D hD hs
  have h1 := e1.1 (by omega) D hD hs
  have h2 := e2.1 (by omega) D hD hs
  rw [h1] at h2; exact absurd h2 (by decide)
 ·intro h
  rw [eO, List.any_eq_false] at h
  have h1 := e1.2 fun D hD hs => absurd hs (h D hD)
  have h2 := e2.2 fun D hD hs => absurd hs (h D hD)
  omega
theorem ask_zero {fs : List Fm} {ats : List At} {c : List Int} {u : Int} : askFault fs ats c u = 0 ↔ formsFault fs u = 0 ∧ formFault ats c = 0 ∧ ¬ (askP fs ats c u.toNat).1 + (askP fs ats c u.toNat).2 = 0 := by
 unfold askFault
 by_cases h1 : formsFault fs u = 0
 ·rw [if_pos h1]
  by_cases h2 : formFault ats c = 0
  ·rw [if_pos h2]
   by_cases h3 : (askP fs ats c u.toNat).1 + (askP fs ats c u.toNat).2 = 0
   ·rw [if_pos h3]; exact ⟨fun h => absurd h (by decide), fun h => absurd h3 h.2.2⟩
   ·rw [if_neg h3]; exact ⟨fun _ => ⟨h1, h2, h3⟩, fun _ => rfl⟩
  ·rw [if_neg h2]; exact ⟨fun h => absurd h h2, fun h => absurd h.2.1 h2⟩
 ·rw [if_neg h1]; exact ⟨fun h => absurd h h1, fun h => absurd h.1 h1⟩
theorem answer_one {p : Int × Int} : answerN p = 1 ↔ p.2 = 0 := by
 unfold answerN
 by_cases h2 : p.2 = 0
 ·rw [if_pos h2]; exact ⟨fun _ => h2, fun _ => rfl⟩
 ·rw [if_neg h2]
  by_cases h1 : p.1 = 0
  ·rw [if_pos h1]; exact ⟨fun h => absurd h (by decide), fun h => absurd h h2⟩
  ·rw [if_neg h1]; exact ⟨fun h => absurd h (by decide), fun h => absurd h h2⟩
end Go.Proofs.YtjmeakkmfeoigaaGreatDoor