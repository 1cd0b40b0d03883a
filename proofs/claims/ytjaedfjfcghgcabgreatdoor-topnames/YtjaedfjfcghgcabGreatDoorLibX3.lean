/-
  Facts and contracts that the statement leans on.
-/
import Derived.Test.YtjaedfjfcghgcabGreatDoorLibX2
import Derived.Test.YtjaedfjfcghgcabGreatDoorRows
import Derived.Test.YtjaedfjfcghgcabGreatDoorLibX1
import Derived.WalkKit
import Derived.ProofKit
import Derived.OpenShut
import Derived.Deep.QuietTactic
import Derived.BigQuiet
import Derived.RegionTactic
import Derived.ChangeAlike
namespace Go.Proofs.YtjaedfjfcghgcabGreatDoor
open Go.RowKit
structure Fm where
 ats : List At
 c : List Int
def fmZ : Fm := ⟨[], []⟩
def Fm.fault (f : Fm) : Int := formFault f.ats f.c
def Wd.so (w : Wd) (fs : List Fm) : Bool := fs.all fun f => w.formIs f.ats f.c
def firstForm : List Fm → Int
 | [] => 0
 | f :: l => if f.fault = 0 then firstForm l else f.fault
def formsFault (fs : List Fm) (u : Int) : Int := if fs.length = 0 then 5 else if 6 < fs.length then 4 else if firstForm fs = 0 then (if 0 ≤ u ∧ u ≤ 6 then 0 else 1) else firstForm fs
def openN (fs : List Fm) (u : Nat) : Bool := (everyC u).any fun N => (madeN N 8).so fs
def openB (fs : List Fm) (u : Int) : Bool := if formsFault fs u = 0 then openN fs u.toNat else false
theorem firstForm_zero {fs : List Fm} : firstForm fs = 0 ↔ ∀ f ∈ fs, f.fault = 0 := by
 induction fs with
 | nil => exact ⟨fun _ f hf => (by cases hf), fun _ => rfl⟩
 | cons f l ih =>
  unfold firstForm
  by_cases h : f.fault = 0
  ·rw [if_pos h, ih]
   exact ⟨fun g x hx => by
    rcases List.mem_cons.1 hx with rfl | hx
    ·exact h
    ·exact g x hx, fun g x hx => g x (List.mem_cons_of_mem _ hx)⟩
  ·rw [if_neg h]
   exact ⟨fun g => absurd g h, fun g => absurd (g f List.mem_cons_self) h⟩
theorem firstForm_at {fs : List Fm} {k : Nat} {f : Fm} (hk : fs[k]? = some f) (h : ∀ j, j < k → ∀ g, fs[j]? = some g → g.fault = 0) (hf : ¬ f.fault = 0) : firstForm fs = f.fault := by
 induction fs generalizing k with
 | nil => simp at hk
 | cons g l ih =>
  unfold firstForm
  cases k with
  | zero =>
   obtain rfl : g = f := by simpa using hk
   rw [if_neg hf]
  | succ k =>
   rw [if_pos (h 0 (by omega) g rfl)]
   exact ih (by simpa using hk) fun j hj x hx => h (j + 1) (by omega) x (by simpa using hx)
theorem forms_zero {fs : List Fm} {u : Int} : formsFault fs u = 0 ↔ (1 ≤ fs.length ∧ fs.length ≤ 6) ∧ (∀ f ∈ fs, f.fault = 0) ∧ 0 ≤ u ∧ u ≤ 6 := by
 unfold formsFault
 by_cases h0 : fs.length = 0
 ·rw [if_pos h0]; exact ⟨fun h => absurd h (by decide), fun h => by omega⟩
 ·rw [if_neg h0]
  by_cases h6 : 6 < fs.length
  ·rw [if_pos h6]; exact ⟨fun h => absurd h (by decide), fun h => by omega⟩
  ·rw [if_neg h6]
   by_cases hf : firstForm fs = 0
   ·rw [if_pos hf]
    by_cases hu : 0 ≤ u ∧ u ≤ 6
    ·rw [if_pos hu]; exact ⟨fun _ => ⟨⟨by omega, by omega⟩, firstForm_zero.1 hf, hu⟩, fun _ => rfl⟩
    ·rw [if_neg hu]; exact ⟨fun h => absurd h (by decide), fun h => absurd h.2.2 hu⟩
   ·rw [if_neg hf]; exact ⟨fun h => absurd h hf, fun h => absurd (firstForm_zero.2 h.2.1) hf⟩
theorem open_of {fs : List Fm} {w : Wd} (hw : w.ok = true) {u : Int} (hu : w.u = u) (h : w.so fs = true) : openN fs u.toNat = true := by
 have hcf := counts_fc hw
 have hsum : sumN (w.fc w.u.toNat) 8 = ((u.toNat : Nat) : Int) := by rw [sum_fc, hu]
 obtain ⟨A, hA, hAw⟩ := everyC_all (u := u.toNat) (fun g hg => ((counts_zero.1 hcf).1 g hg).1) hsum
 unfold openN
 rw [List.any_eq_true]
 refine ⟨A, hA, ?_⟩
 have e : ∀ k, k ≤ 8 → madeN A k = madeN (w.fc w.u.toNat) k := by
  intro k
  induction k with
  | zero => intro _; rfl
  | succ k ih => intro hk; unfold madeN; rw [ih (by omega), hAw k (by omega)]
 unfold Wd.so at h ⊢
 rw [List.all_eq_true] at h ⊢
 intro f hf
 rw [e 8 (Nat.le_refl _), (alike_made hw).form f.ats f.c]
 exact h f hf
def worldsL (u : Nat) : List Wd := (everyC u).map fun N => madeN N 8
theorem worldsL_length (u : Nat) : (worldsL u).length = (everyC u).length := by unfold worldsL; rw [List.length_map]
theorem worldsL_ok {u : Nat} (hu : u ≤ 6) {D : Wd} (h : D ∈ worldsL u) : D.ok = true := by
 unfold worldsL at h
 obtain ⟨N, hN, rfl⟩ := List.mem_map.1 h
 exact made_ok (everyC_right hu hN)
theorem worldsL_like {w : Wd} (hw : w.ok = true) {u : Nat} (hu : w.u = u) : ∃ D ∈ worldsL u, Alike w D := by
 have hcf := counts_fc hw
 have hsum : sumN (w.fc w.u.toNat) 8 = (u : Int) := by rw [sum_fc, hu, Int.toNat_natCast]
 obtain ⟨A, hA, hAw⟩ := everyC_all (u := u) (fun g hg => ((counts_zero.1 hcf).1 g hg).1) hsum
 have e : ∀ k, k ≤ 8 → madeN A k = madeN (w.fc w.u.toNat) k := by
  intro k
  induction k with
  | zero => intro _; rfl
  | succ k ih => intro hk; unfold madeN; rw [ih (by omega), hAw k (by omega)]
 refine ⟨madeN A 8, List.mem_map.2 ⟨A, hA, rfl⟩, ?_⟩
 rw [e 8 (Nat.le_refl _)]
 exact alike_made hw
theorem worldsL_u {u : Nat} (hu : u ≤ 6) {D : Wd} (h : D ∈ worldsL u) : D.u = u := by
 unfold worldsL at h
 obtain ⟨N, hN, rfl⟩ := List.mem_map.1 h
 rw [made_u (everyC_right hu hN), (everyC_sum hN).2]
def putG (g : Nat → Bool) (i : Nat) (b : Bool) : Nat → Bool := fun k => if k = i then b else g k
def leftTo (fs : List Fm) (g : Nat → Bool) : Nat → List Fm
 | 0 => []
 | k + 1 => leftTo fs g k ++ (if g k = true then [] else (match fs[k]? with | some f => [f] | none => []))
def leftF (fs : List Fm) (g : Nat → Bool) : List Fm := leftTo fs g fs.length
def goneTo (fs : List Fm) (u : Nat) : Nat → (Nat → Bool)
 | 0 => fun _ => false
 | i + 1 => if openN (leftF fs (putG (goneTo fs u i) i true)) u = true then putG (goneTo fs u i) i false else putG (goneTo fs u i) i true
def coreTo (fs : List Fm) (u : Nat) : Nat → List Int
 | 0 => []
 | i + 1 => if openN (leftF fs (putG (goneTo fs u i) i true)) u = true then coreTo fs u i ++ [(i : Int)] else coreTo fs u i
def coreFault (fs : List Fm) (u : Int) : Int := if formsFault fs u = 0 then (if openB fs u = true then 8 else 0) else formsFault fs u
def coreL (fs : List Fm) (u : Int) : List Int := if coreFault fs u = 0 then coreTo fs u.toNat fs.length else []
end Go.Proofs.YtjaedfjfcghgcabGreatDoor
namespace Go.Proofs.YtjaedfjfcghgcabGreatDoor
open Go.RowKit
def spanStep (ats : List At) (c t : List Int) (p : Int × Int) (D : Wd) : Int × Int :=
 if D.formIs ats c = true then (if pcN (D.val t) < p.1 then pcN (D.val t) else p.1, if p.2 < pcN (D.val t) then pcN (D.val t) else p.2) else p
def spanOver (ats : List At) (c t : List Int) (L : List Wd) : Int × Int := L.foldl (spanStep ats c t) (100, -1)
def spanP (ats : List At) (c t : List Int) (u : Nat) : Int × Int := spanOver ats c t (worldsL u)
def spanFault (ats : List At) (c t : List Int) (u : Int) : Int := if formFault ats c = 0 then (if faultN t = 0 then (if 0 ≤ u ∧ u ≤ 6 then (if (spanP ats c t u.toNat).2 < 0 then 5 else 0) else 1) else faultN t) else formFault ats c
def spanLo (ats : List At) (c t : List Int) (u : Int) : Int := if spanFault ats c t u = 0 then (spanP ats c t u.toNat).1 else 0
def spanHi (ats : List At) (c t : List Int) (u : Int) : Int := if spanFault ats c t u = 0 then (spanP ats c t u.toNat).2 else 0
def exactFault (ats : List At) (c t : List Int) (u : Int) : Int := if spanFault ats c t u = 0 then (if spanLo ats c t u = spanHi ats c t u then 0 else 8) else spanFault ats c t u
def exactN (ats : List At) (c t : List Int) (u : Int) : Int := if exactFault ats c t u = 0 then spanLo ats c t u else 0
theorem revInd {α : Type} {P : List α → Prop} (h0 : P []) (h1 : ∀ L a, P L → P (L ++ [a])) : ∀ L, P L := by
 intro L
 have key : ∀ n, P (L.take n) := by
  intro n
  induction n with
  | zero => exact h0
  | succ n ih =>
   rw [List.take_add_one]
   cases h : L[n]? with
   | none => simpa using ih
   | some a => exact h1 _ _ ih
 have := key L.length
 rwa [List.take_length] at this
theorem spanOver_add (ats : List At) (c t : List Int) (L : List Wd) (D : Wd) : spanOver ats c t (L ++ [D]) = spanStep ats c t (spanOver ats c t L) D := by
 unfold spanOver; rw [List.foldl_append]; rfl
theorem span_bound {ats : List At} {c t : List Int} : ∀ L : List Wd, ∀ D ∈ L, D.formIs ats c = true → (spanOver ats c t L).1 ≤ pcN (D.val t) ∧ pcN (D.val t) ≤ (spanOver ats c t L).2 := by
 refine revInd ?_ ?_
 ·intro D hD; cases hD
 ·intro L E ih D hD hf
  rw [spanOver_add]
  unfold spanStep
  rcases List.mem_append.1 hD with h | h
  ·obtain ⟨a, b⟩ := ih D h hf
   by_cases hE : E.formIs ats c = true
   ·rw [if_pos hE]
    constructor
    ·show (if _ then _ else _) ≤ _
     split <;> omega
    ·show _ ≤ (if _ then _ else _)
     split <;> omega
   ·rw [if_neg hE]; exact ⟨a, b⟩
  ·obtain rfl : D = E := by simpa using h
   rw [if_pos hf]
   constructor
   ·show (if _ then _ else _) ≤ _
    split <;> omega
   ·show _ ≤ (if _ then _ else _)
    split <;> omega
theorem span_hit {ats : List At} {c t : List Int} : ∀ L : List Wd, (spanOver ats c t L = (100, -1) ∧ ∀ D ∈ L, D.formIs ats c = false) ∨ ((∃ D ∈ L, D.formIs ats c = true ∧ pcN (D.val t) = (spanOver ats c t L).1) ∧ ∃ D ∈ L, D.formIs ats c = true ∧ pcN (D.val t) = (spanOver ats c t L).2) := by
 refine revInd ?_ ?_
 ·exact Or.inl ⟨rfl, fun D h => by cases h⟩
 ·intro L E ih
  rw [spanOver_add]
  have hl : ∀ D, D ∈ L → D ∈ L ++ [E] := fun D h => List.mem_append_left _ h
  have hr : E ∈ L ++ [E] := by simp
  have hp := pcN_le (E.val t)
  rcases Bool.eq_false_or_eq_true (E.formIs ats c) with hE | hE
  ·right
   rcases ih with ⟨h1, _⟩ | ⟨⟨D, hD, hf, e⟩, ⟨D', hD', hf', e'⟩⟩
   ·rw [h1]
    unfold spanStep
    rw [if_pos hE]
    refine ⟨⟨E, hr, hE, ?_⟩, ⟨E, hr, hE, ?_⟩⟩
    ·show _ = (if _ then _ else _)
     rw [if_pos (by show pcN (E.val t) < 100; omega)]
    ·show _ = (if _ then _ else _)
     rw [if_pos (by show (-1 : Int) < pcN (E.val t); omega)]
   ·unfold spanStep
    rw [if_pos hE]
    constructor
    ·by_cases h : pcN (E.val t) < (spanOver ats c t L).1
     ·exact ⟨E, hr, hE, by show _ = (if _ then _ else _); rw [if_pos h]⟩
     ·exact ⟨D, hl D hD, hf, by show _ = (if _ then _ else _); rw [if_neg h]; exact e⟩
    ·by_cases h : (spanOver ats c t L).2 < pcN (E.val t)
     ·exact ⟨E, hr, hE, by show _ = (if _ then _ else _); rw [if_pos h]⟩
     ·exact ⟨D', hl D' hD', hf', by show _ = (if _ then _ else _); rw [if_neg h]; exact e'⟩
  ·have es : spanStep ats c t (spanOver ats c t L) E = spanOver ats c t L := by unfold spanStep; rw [if_neg (by rw [hE]; decide)]
   rw [es]
   rcases ih with ⟨h1, h2⟩ | ⟨⟨D, hD, hf, e⟩, ⟨D', hD', hf', e'⟩⟩
   ·left
    refine ⟨h1, fun D hD => ?_⟩
    rcases List.mem_append.1 hD with h | h
    ·exact h2 D h
    ·obtain rfl : D = E := by simpa using h
     exact hE
   ·right
    exact ⟨⟨D, hl D hD, hf, e⟩, ⟨D', hl D' hD', hf', e'⟩⟩
theorem span_zero {ats : List At} {c t : List Int} {u : Int} : spanFault ats c t u = 0 ↔ formFault ats c = 0 ∧ faultN t = 0 ∧ (0 ≤ u ∧ u ≤ 6) ∧ ¬ (spanP ats c t u.toNat).2 < 0 := by
 unfold spanFault
 by_cases h1 : formFault ats c = 0
 ·rw [if_pos h1]
  by_cases h2 : faultN t = 0
  ·rw [if_pos h2]
   by_cases h3 : 0 ≤ u ∧ u ≤ 6
   ·rw [if_pos h3]
    by_cases h4 : (spanP ats c t u.toNat).2 < 0
    ·rw [if_pos h4]; exact ⟨fun h => absurd h (by decide), fun h => absurd h4 h.2.2.2⟩
    ·rw [if_neg h4]; exact ⟨fun _ => ⟨h1, h2, h3, h4⟩, fun _ => rfl⟩
   ·rw [if_neg h3]; exact ⟨fun h => absurd h (by decide), fun h => absurd h.2.2.1 h3⟩
  ·rw [if_neg h2]; exact ⟨fun h => absurd h h2, fun h => absurd h.2.1 h2⟩
 ·rw [if_neg h1]; exact ⟨fun h => absurd h h1, fun h => absurd h.1 h1⟩
theorem span_world {ats : List At} {c t : List Int} {u : Int} (h : spanFault ats c t u = 0) {w : Wd} (hw : w.ok = true) (hu : w.u = u) (hf : w.formIs ats c = true) : spanLo ats c t u ≤ pcN (w.val t) ∧ pcN (w.val t) ≤ spanHi ats c t u := by
 obtain ⟨_, h2, h3, _⟩ := span_zero.1 h
 unfold spanLo spanHi
 rw [if_pos h, if_pos h]
 obtain ⟨D, hD, hl⟩ := worldsL_like (u := u.toNat) hw (by omega)
 obtain ⟨n, hn⟩ := one_term h2
 have := span_bound (worldsL u.toNat) D hD (by rw [hl.form]; exact hf) (t := t)
 rw [hl.size hn] at this
 exact this
theorem span_ends {ats : List At} {c t : List Int} {u : Int} (h : spanFault ats c t u = 0) : (0 ≤ spanLo ats c t u ∧ spanLo ats c t u ≤ spanHi ats c t u ∧ spanHi ats c t u ≤ 6) ∧
    (∃ w : Wd, w.ok = true ∧ w.u = u ∧ w.formIs ats c = true ∧ pcN (w.val t) = spanLo ats c t u) ∧ ∃ w : Wd, w.ok = true ∧ w.u = u ∧ w.formIs ats c = true ∧ pcN (w.val t) = spanHi ats c t u := by
 obtain ⟨_, h2, h3, h4⟩ := span_zero.1 h
 have e1 : spanLo ats c t u = (spanP ats c t u.toNat).1 := by unfold spanLo; rw [if_pos h]
 have e2 : spanHi ats c t u = (spanP ats c t u.toNat).2 := by unfold spanHi; rw [if_pos h]
 rcases span_hit (ats := ats) (c := c) (t := t) (worldsL u.toNat) with ⟨h5, _⟩ | ⟨⟨D, hD, hf, e⟩, ⟨D', hD', hf', e'⟩⟩
 ·exact absurd (show (spanP ats c t u.toNat).2 < 0 by unfold spanP; rw [h5]; decide) h4
 ·have hb := span_bound (t := t) _ D hD hf
  have hb' := span_bound (t := t) _ D' hD' hf'
  have p1 := pcN_le (D.val t)
  have p2 := pcN_le (D'.val t)
  have q1 : (spanP ats c t u.toNat).1 = pcN (D.val t) := e.symm
  have q2 : (spanP ats c t u.toNat).2 = pcN (D'.val t) := e'.symm
  rw [e1, e2, q1, q2]
  refine ⟨⟨by omega, ?_, by omega⟩, ⟨D, worldsL_ok (by omega) hD, by rw [worldsL_u (by omega) hD]; omega, hf, rfl⟩, ⟨D', worldsL_ok (by omega) hD', by rw [worldsL_u (by omega) hD']; omega, hf', rfl⟩⟩
  have := hb.2
  rw [← e'] at this
  exact this
end Go.Proofs.YtjaedfjfcghgcabGreatDoor
namespace Go.Proofs.YtjaedfjfcghgcabGreatDoor
open Go.RowKit
theorem alone_fault {k n : Int} {t : List Int} (h : atomFault k t [] n = 0) : formFault [⟨k, t, [], n⟩] [0] = 0 := by
 refine formFault_zero.2 ⟨⟨by simp, by simp⟩, ⟨by simp, by simp⟩, fun a ha => ?_, by simp; decide, by decide⟩
 obtain rfl : a = ⟨k, t, [], n⟩ := by simpa using ha
 exact h
theorem alone_is {k n : Int} {t : List Int} (h : atomFault k t [] n = 0) {D : Wd} (hok : D.ok = true) : D.formIs [⟨k, t, [], n⟩] [0] = D.holds k t [] n := by
 have hb : ∀ b : Bool, valF [b] [0] = b := by intro b; cases b <;> rfl
 unfold Wd.formIs
 rw [if_pos (wdForm_zero.2 ⟨alone_fault h, hok⟩)]
 exact hb _
theorem many_fault {k n : Int} {t : List Int} (ht : faultN t = 0) (hk : k = 3 ∨ k = 4) (h0 : -20 ≤ n) (h1 : n ≤ 20) : atomFault k t [] n = 0 := by
 rcases hk with rfl | rfl
 ·refine atomFault_zero.2 ⟨⟨by decide, by decide⟩, ht, by decide, ?_, ?_⟩
  ·show -(20 : Int) ≤ n; omega
  ·show n ≤ (20 : Int); omega
 ·refine atomFault_zero.2 ⟨⟨by decide, by decide⟩, ht, by decide, ?_, ?_⟩
  ·show -(20 : Int) ≤ n; omega
  ·show n ≤ (20 : Int); omega
theorem least_is {n : Int} {t : List Int} (ht : faultN t = 0) (h0 : -20 ≤ n) (h1 : n ≤ 20) {D : Wd} (hok : D.ok = true) : D.formIs [⟨3, t, [], n⟩] [0] = decide (n ≤ pcN (D.val t)) := by
 rw [alone_is (many_fault ht (Or.inl rfl) h0 h1) hok]
 unfold Wd.holds saysB
 simp
end Go.Proofs.YtjaedfjfcghgcabGreatDoor
namespace Go.Proofs.YtjaedfjfcghgcabGreatDoor
open Go.RowKit
theorem size_all : ∀ u : Nat, u < 7 → pcN (allN (u : Int)) = u := by decide
theorem size_le {u x : Int} (h : okB u x = true) : pcN x ≤ u := uptoSets (P := fun u x _ => pcN x ≤ u) (by decide +kernel) u x x h h
end Go.Proofs.YtjaedfjfcghgcabGreatDoor
namespace Go.Proofs.YtjaedfjfcghgcabGreatDoor
open Go.RowKit
def askStep (fs : List Fm) (ats : List At) (c : List Int) (p : Int × Int) (D : Wd) : Int × Int :=
 (if (D.so fs && D.formIs ats c) = true then p.1 + 1 else p.1, if (D.so fs && !D.formIs ats c) = true then p.2 + 1 else p.2)
def askOver (fs : List Fm) (ats : List At) (c : List Int) (L : List Wd) : Int × Int := L.foldl (askStep fs ats c) (0, 0)
def askP (fs : List Fm) (ats : List At) (c : List Int) (u : Nat) : Int × Int := askOver fs ats c (worldsL u)
def answerN (p : Int × Int) : Int := if p.2 = 0 then 1 else if p.1 = 0 then -1 else 0
def askFault (fs : List Fm) (ats : List At) (c : List Int) (u : Int) : Int := if formsFault fs u = 0 then (if formFault ats c = 0 then (if (askP fs ats c u.toNat).1 + (askP fs ats c u.toNat).2 = 0 then 6 else 0) else formFault ats c) else formsFault fs u
def askN (fs : List Fm) (ats : List At) (c : List Int) (u : Int) : Int := if askFault fs ats c u = 0 then answerN (askP fs ats c u.toNat) else 0
def sumP (f : Nat → Int × Int) : Nat → Int × Int
 | 0 => (0, 0)
 | k + 1 => ((sumP f k).1 + (f k).1, (sumP f k).2 + (f k).2)
def alwaysP (fs : List Fm) (ats : List At) (c : List Int) : Int × Int := sumP (askP fs ats c) 7
def alwaysFault (fs : List Fm) (ats : List At) (c : List Int) : Int := if formsFault fs 0 = 0 then (if formFault ats c = 0 then (if (alwaysP fs ats c).1 + (alwaysP fs ats c).2 = 0 then 6 else 0) else formFault ats c) else formsFault fs 0
def alwaysN (fs : List Fm) (ats : List At) (c : List Int) : Int := if alwaysFault fs ats c = 0 then answerN (alwaysP fs ats c) else 0
theorem askOver_add (fs : List Fm) (ats : List At) (c : List Int) (L : List Wd) (D : Wd) : askOver fs ats c (L ++ [D]) = askStep fs ats c (askOver fs ats c L) D := by
 unfold askOver; rw [List.foldl_append]; rfl
theorem ask_range (fs : List Fm) (ats : List At) (c : List Int) : ∀ L : List Wd, (0 ≤ (askOver fs ats c L).1 ∧ 0 ≤ (askOver fs ats c L).2) ∧ (askOver fs ats c L).1 + (askOver fs ats c L).2 ≤ L.length := by
 refine revInd ?_ ?_
 ·exact ⟨⟨Int.le_refl _, Int.le_refl _⟩, Int.le_refl _⟩
 ·intro L E ih
  rw [askOver_add]
  unfold askStep
  rw [List.length_append]
  cases E.so fs <;> cases E.formIs ats c <;> simp <;> omega
theorem ask_yes (fs : List Fm) (ats : List At) (c : List Int) : ∀ L : List Wd, (askOver fs ats c L).1 = 0 ↔ ∀ D ∈ L, D.so fs = true → D.formIs ats c = false := by
 refine revInd ?_ ?_
 ·exact ⟨fun _ D h => (by cases h), fun _ => rfl⟩
 ·intro L E ih
  have hr := (ask_range fs ats c L).1.1
  rw [askOver_add]
  show (if (E.so fs && E.formIs ats c) = true then _ else _) = 0 ↔ _
  by_cases h : (E.so fs && E.formIs ats c) = true
  ·rw [if_pos h]
   constructor
   ·intro g; omega
   ·intro g
    rw [Bool.and_eq_true] at h
    have := g E (by simp) h.1
    rw [h.2] at this; exact absurd this (by decide)
  ·rw [if_neg h, ih]
   constructor
   ·intro g D hD hs
    rcases List.mem_append.1 hD with hD | hD
    ·exact g D hD hs
    ·obtain rfl : D = E := by simpa using hD
     rw [hs] at h
     simpa using h
   ·intro g D hD hs
    exact g D (List.mem_append_left _ hD) hs
theorem ask_no (fs : List Fm) (ats : List At) (c : List Int) : ∀ L : List Wd, (askOver fs ats c L).2 = 0 ↔ ∀ D ∈ L, D.so fs = true → D.formIs ats c = true := by
 refine revInd ?_ ?_
 ·exact ⟨fun _ D h => (by cases h), fun _ => rfl⟩
 ·intro L E ih
  have hr := (ask_range fs ats c L).1.2
  rw [askOver_add]
  show (if (E.so fs && !E.formIs ats c) = true then _ else _) = 0 ↔ _
  by_cases h : (E.so fs && !E.formIs ats c) = true
  ·rw [if_pos h]
   constructor
   ·intro g; omega
   ·intro g
    rw [Bool.and_eq_true] at h
    have := g E (by simp) h.1
    rw [this] at h; exact absurd h.2 (by decide)
  ·rw [if_neg h, ih]
   constructor
   ·intro g D hD hs
    rcases List.mem_append.1 hD with hD | hD
    ·exact g D hD hs
    ·obtain rfl : D = E := by simpa using hD
     rw [hs] at h
     simpa using h
   ·intro g D hD hs
    exact g D (List.mem_append_left _ hD) hs
theorem so_alike {w D : Wd} (h : Alike w D) (fs : List Fm) : D.so fs = w.so fs := by
 unfold Wd.so
 congr 1
 funext f
 exact h.form f.ats f.c
theorem ask_all_no {fs : List Fm} {ats : List At} {c : List Int} {u : Nat} (h : (askP fs ats c u).2 = 0) {w : Wd} (hw : w.ok = true) (hu : w.u = u) (hs : w.so fs = true) : w.formIs ats c = true := by
 obtain ⟨D, hD, hl⟩ := worldsL_like hw hu
 have := (ask_no fs ats c _).1 h D hD (by rw [so_alike hl]; exact hs)
 rw [hl.form] at this
 exact this
theorem ask_all_yes {fs : List Fm} {ats : List At} {c : List Int} {u : Nat} (h : (askP fs ats c u).1 = 0) {w : Wd} (hw : w.ok = true) (hu : w.u = u) (hs : w.so fs = true) : w.formIs ats c = false := by
 obtain ⟨D, hD, hl⟩ := worldsL_like hw hu
 have := (ask_yes fs ats c _).1 h D hD (by rw [so_alike hl]; exact hs)
 rw [hl.form] at this
 exact this
theorem ask_open {fs : List Fm} {ats : List At} {c : List Int} {u : Nat} : (askP fs ats c u).1 + (askP fs ats c u).2 = 0 ↔ openN fs u = false := by
 have hr := (ask_range fs ats c (worldsL u)).1
 have eO : openN fs u = (worldsL u).any fun D => D.so fs := by unfold openN worldsL; rw [List.any_map]; rfl
 have e1 := ask_yes fs ats c (worldsL u)
 have e2 := ask_no fs ats c (worldsL u)
 unfold askP
 constructor
 ·intro h
  rw [eO, List.any_eq_false]
  intro D hD hs
  have h1 := e1.1 (by omega) D hD hs
  have h2 := e2.1 (by omega) D hD hs
  rw [h1] at h2; exact absurd h2 (by decide)
 ·intro h
  rw [eO, List.any_eq_false] at h
  have h1 := e1.2 fun D hD hs => absurd hs (h D hD)
  have h2 := e2.2 fun D hD hs => absurd hs (h D hD)
  omega
theorem ask_zero {fs : List Fm} {ats : List At} {c : List Int} {u : Int} : askFault fs ats c u = 0 ↔ formsFault fs u = 0 ∧ formFault ats c = 0 ∧ ¬ (askP fs ats c u.toNat).1 + (askP fs ats c u.toNat).2 = 0 := by
 unfold askFault
 by_cases h1 : formsFault fs u = 0
 ·rw [if_pos h1]
  by_cases h2 : formFault ats c = 0
  ·rw [if_pos h2]
   by_cases h3 : (askP fs ats c u.toNat).1 + (askP fs ats c u.toNat).2 = 0
   ·rw [if_pos h3]; exact ⟨fun h => absurd h (by decide), fun h => absurd h3 h.2.2⟩
   ·rw [if_neg h3]; exact ⟨fun _ => ⟨h1, h2, h3⟩, fun _ => rfl⟩
  ·rw [if_neg h2]; exact ⟨fun h => absurd h h2, fun h => absurd h.2.1 h2⟩
 ·rw [if_neg h1]; exact ⟨fun h => absurd h h1, fun h => absurd h.1 h1⟩
theorem answer_one {p : Int × Int} : answerN p = 1 ↔ p.2 = 0 := by
 unfold answerN
 by_cases h2 : p.2 = 0
 ·rw [if_pos h2]; exact ⟨fun _ => h2, fun _ => rfl⟩
 ·rw [if_neg h2]
  by_cases h1 : p.1 = 0
  ·rw [if_pos h1]; exact ⟨fun h => absurd h (by decide), fun h => absurd h h2⟩
  ·rw [if_neg h1]; exact ⟨fun h => absurd h (by decide), fun h => absurd h h2⟩
end Go.Proofs.YtjaedfjfcghgcabGreatDoor
namespace Go.Proofs.YtjaedfjfcghgcabGreatDoor
open Go.RowKit
set_option maxRecDepth 100000
theorem three_fault {k : Nat} (hk : k < 3) : faultN [(k : Int)] = 0 := by
 rcases (by omega : k = 0 ∨ k = 1 ∨ k = 2) with rfl | rfl | rfl <;> decide
theorem three_is {k : Nat} (hk : k < 3) {n : Int} (h0 : 0 ≤ n) (h1 : n ≤ 20) {D : Wd} (hok : D.ok = true) : D.formIs (manyA (k : Int) n) [0] = decide (n ≤ pcN (D.val [(k : Int)])) := by
 unfold manyA
 exact least_is (three_fault hk) (by omega) h1 hok
theorem some_many {k : Nat} (hk : k < 3) (u n : Nat) (hu : u ≤ 6) (hn : n ≤ u) : ∃ D : Wd, D.ok = true ∧ D.u = u ∧ pcN (D.val [(k : Int)]) = n := by
 have hle : allN (n : Int) ≤ allN (u : Int) := by
  rcases (by omega : u = 0 ∨ u = 1 ∨ u = 2 ∨ u = 3 ∨ u = 4 ∨ u = 5 ∨ u = 6) with rfl | rfl | rfl | rfl | rfl | rfl | rfl <;> rcases (by omega : n = 0 ∨ n = 1 ∨ n = 2 ∨ n = 3 ∨ n = 4 ∨ n = 5 ∨ n = 6) with rfl | rfl | rfl | rfl | rfl | rfl | rfl <;> first | decide | omega
 have h : okB (u : Int) (allN (n : Int)) = true := okB_iff.2 ⟨by omega, by omega, (allN_le (by omega) (by omega)).1, hle⟩
 refine ⟨⟨u, allN (n : Int), allN (n : Int), allN (n : Int)⟩, Wd.ok_iff.2 ⟨h, h, h⟩, rfl, ?_⟩
 have e : (Wd.mk (u : Int) (allN (n : Int)) (allN (n : Int)) (allN (n : Int))).val [(k : Int)] = allN (n : Int) := by
  rcases (by omega : k = 0 ∨ k = 1 ∨ k = 2) with rfl | rfl | rfl <;> rfl
 rw [e]
 exact size_all n (by omega)
theorem many_answer {k : Nat} (hk : k < 3) {n m u : Nat} (hn : n ≤ u) (hu : u ≤ 6) (hm : m ≤ 20) :
    askFault [⟨manyA (k : Int) (n : Int), [0]⟩] (manyA (k : Int) (m : Int)) [0] (u : Int) = 0 ∧ askN [⟨manyA (k : Int) (n : Int), [0]⟩] (manyA (k : Int) (m : Int)) [0] (u : Int) = if (m : Int) ≤ (n : Int) then 1 else if (u : Int) < (m : Int) then -1 else 0 := by
 have hso : ∀ D : Wd, D.ok = true → (D.so [⟨manyA (k : Int) (n : Int), [0]⟩] = true ↔ (n : Int) ≤ pcN (D.val [(k : Int)])) := fun D hok => by
  unfold Wd.so
  simp only [List.all_cons, List.all_nil, Bool.and_true]
  rw [three_is hk (by omega) (by omega) hok, decide_eq_true_iff]
 have his : ∀ D : Wd, D.ok = true → (D.formIs (manyA (k : Int) (m : Int)) [0] = true ↔ (m : Int) ≤ pcN (D.val [(k : Int)])) := fun D hok => by
  rw [three_is hk (by omega) (by omega) hok, decide_eq_true_iff]
 have ff : ∀ x : Nat, x ≤ 20 → formFault (manyA (k : Int) (x : Int)) [0] = 0 := fun x hx => alone_fault (many_fault (three_fault hk) (Or.inl rfl) (by omega) (by omega))
 have h1 : formsFault [⟨manyA (k : Int) (n : Int), [0]⟩] (u : Int) = 0 := forms_zero.2 ⟨⟨by simp, by simp⟩, fun f hf => by
  obtain rfl : f = ⟨manyA (k : Int) (n : Int), [0]⟩ := by simpa using hf
  exact ff n (by omega), by omega, by omega⟩
 obtain ⟨D1, d1, d2, d3⟩ := some_many hk u u hu (Nat.le_refl _)
 obtain ⟨D2, e1, e2, e3⟩ := some_many hk u n hu hn
 have hs1 := (hso D1 d1).2 (by rw [d3]; omega)
 have hs2 := (hso D2 e1).2 (by rw [e3]; omega)
 have hopen : ¬ (askP [⟨manyA (k : Int) (n : Int), [0]⟩] (manyA (k : Int) (m : Int)) [0] ((u : Int)).toNat).1 + (askP [⟨manyA (k : Int) (n : Int), [0]⟩] (manyA (k : Int) (m : Int)) [0] ((u : Int)).toNat).2 = 0 := fun h => by
  have h' := ask_open.1 h
  rw [open_of d1 (u := (u : Int)) d2 hs1] at h'
  exact absurd h' (by decide)
 have h0 : askFault [⟨manyA (k : Int) (n : Int), [0]⟩] (manyA (k : Int) (m : Int)) [0] (u : Int) = 0 := ask_zero.2 ⟨h1, ff m hm, hopen⟩
 refine ⟨h0, ?_⟩
 unfold askN
 rw [if_pos h0, Int.toNat_natCast]
 by_cases c1 : (m : Int) ≤ (n : Int)
 ·rw [if_pos c1]
  refine answer_one.2 ((ask_no _ _ _ _).2 fun D hD hs => ?_)
  have hok := worldsL_ok hu hD
  exact (his D hok).2 (by have := (hso D hok).1 hs; omega)
 ·rw [if_neg c1]
  have hno : ¬ (askP [⟨manyA (k : Int) (n : Int), [0]⟩] (manyA (k : Int) (m : Int)) [0] u).2 = 0 := fun h => by
   have := (his D2 e1).1 (ask_all_no h e1 e2 hs2)
   rw [e3] at this
   omega
  unfold answerN
  rw [if_neg hno]
  by_cases c2 : (u : Int) < (m : Int)
  ·rw [if_pos c2, if_pos]
   refine (ask_yes _ _ _ _).2 fun D hD hs => ?_
   have hok := worldsL_ok hu hD
   cases hx : D.formIs (manyA (k : Int) (m : Int)) [0]
   ·rfl
   ·have h3 := (his D hok).1 hx
    have h4 := size_le (ok_val hok [(k : Int)])
    rw [worldsL_u hu hD] at h4
    omega
  ·rw [if_neg c2, if_neg]
   intro h
   have h3 := ask_all_yes h d1 d2 hs1
   rw [(his D1 d1).2 (by rw [d3]; omega)] at h3
   exact absurd h3 (by decide)
end Go.Proofs.YtjaedfjfcghgcabGreatDoor
namespace Go.Proofs.YtjaedfjfcghgcabGreatDoor
open Go.ChangeShapes Go.WideShapes Go.ChangeAt Go.RowKit
def Reads (w : World) (v : Value) (t : List Int) : Prop :=
 (∃ ao cap, v = .slice ao 0 cap ∧ t = []) ∨ (∃ b off cap, v = .slice (some ⟨b, off, none⟩) t.length cap ∧ b < w.heap.size ∧ 0 < t.length ∧ (t.length ≤ 9223372036854775807 ∧ t.length ≤ cap) ∧ ∀ k, k < t.length → w.cell? ⟨b, off + k, none⟩ = some (.int .i64 (t.getD k 0)))
theorem Reads.below {w w' : World} {v : Value} {t : List Int} (h : Reads w v t) (hb : Below w.heap.size w w') : Reads w' v t := by
 rcases h with h | ⟨b, off, cap, h1, h2, h3, h4, h5⟩
 ·exact Or.inl h
 ·exact Or.inr ⟨b, off, cap, h1, Nat.lt_of_lt_of_le h2 hb.size, h3, h4, fun k hk => by rw [hb.cell h2]; exact h5 k hk⟩
def Wd.v (w : Wd) : Value := .agg #[.int .i64 w.u, .int .i64 w.a, .int .i64 w.b, .int .i64 w.c]
def NewV (K : Nat) (v : Value) : Prop := ∃ ao n c, v = .slice ao n c ∧ ∀ p, ao = some p → K ≤ p.block
def errV (n : Int) : Value := if n = 0 then .nilIface else .iface 75 (.int .i64 n)
theorem back_b {a b : Bool} (h : a = b) : Ending.returned (.bool a) = .returned (.bool b) := by rw [h]
theorem back_i {k : IntKind} {a b : Int} (h : a = b) : Ending.returned (.int k a) = .returned (.int k b) := by rw [h]
theorem back_v {a b : Value} (h : a = b) : Ending.returned a = .returned b := by rw [h]
theorem takes_any (s : Int) (w : World) :
    Calls Tryz.prog 132 #[.int .i64 s] w (Sk w (.int .i64 (takesN s))) := by
 by_cases h5 : s = 5
 ·subst h5
  go_enter Tryz.func132, Tryz.ntmps132
  go_wp2
  go_ret
  exact ⟨rfl, rfl⟩
 by_cases h6 : s = 6
 ·subst h6
  go_enter Tryz.func132, Tryz.ntmps132
  go_wp2
  go_ret
  exact ⟨rfl, rfl⟩
 by_cases h7 : s = 7
 ·subst h7
  go_enter Tryz.func132, Tryz.ntmps132
  go_wp2
  go_ret
  exact ⟨rfl, rfl⟩
 by_cases h8 : s = 8
 ·subst h8
  go_enter Tryz.func132, Tryz.ntmps132
  go_wp2
  go_ret
  exact ⟨rfl, rfl⟩
 have e : takesN s = 0 := by unfold takesN; rw [if_neg (by omega), if_neg h8]
 rw [e]
 clear e
 have h5' : (s == 5) = false := by simpa using h5
 have h6' : (s == 6) = false := by simpa using h6
 have h7' : (s == 7) = false := by simpa using h7
 have h8' : (s == 8) = false := by simpa using h8
 clear h5 h6 h7 h8
 go_enter Tryz.func132, Tryz.ntmps132
 go_wp2
 go_ret
 exact ⟨rfl, rfl⟩
theorem noSign_any (s : Int) (w : World) :
    Calls Tryz.prog 100 #[.int .i64 s] w (Sk w (.bool (!signB s))) := by
 by_cases h0 : s < 0
 ·have e : signB s = false := by simp [signB]; omega
  rw [e]
  clear e
  go_enter Tryz.func100, Tryz.ntmps100
  go_wp2
  go_ret
  exact ⟨rfl, rfl⟩
 by_cases h8 : 8 < s
 ·have e : signB s = false := by simp [signB]; omega
  rw [e]
  clear e
  go_enter Tryz.func100, Tryz.ntmps100
  go_wp2
  go_ret
  exact ⟨rfl, rfl⟩
 have e : signB s = true := by simp [signB]; omega
 rw [e]
 clear e
 go_enter Tryz.func100, Tryz.ntmps100
 go_wp2
 go_ret
 exact ⟨rfl, rfl⟩
def firstBad : List Int → Nat → Int
 | [], _ => -1
 | s :: l, k => if signB s = true then firstBad l (k + 1) else k
theorem firstBad_lt (t : List Int) (k : Nat) : (firstBad t k < 0 ↔ t.all signB = true) ∧ -1 ≤ firstBad t k := by
 induction t generalizing k with
 | nil => exact ⟨⟨fun _ => rfl, fun _ => show (-1 : Int) < 0 by decide⟩, Int.le_refl _⟩
 | cons s l ih =>
  unfold firstBad
  by_cases h : signB s = true
  ·rw [if_pos h]; simpa [h] using ih (k + 1)
  ·rw [if_neg h]; simp only [List.all_cons, h]; simp
theorem firstBad_drop (t : List Int) {k : Nat} (hk : k < t.length) : firstBad (t.drop k) k = if signB (t.getD k 0) = true then firstBad (t.drop (k + 1)) (k + 1) else k := by
 rw [List.drop_eq_getElem_cons hk]
 simp [firstBad, List.getElem?_eq_getElem hk]
theorem indexFunc_any (b off cap : Nat) (t : List Int) (w : World) (hl : t.length ≤ 9223372036854775807) (hc : ∀ k, k < t.length → w.cell? ⟨b, off + k, none⟩ = some (.int .i64 (t.getD k 0))) :
    Calls Tryz.prog 87 #[.slice (some ⟨b, off, none⟩) t.length cap, .func (.func 100) #[] #[]] w (Sk w (.int .i64 (firstBad t 0))) := by
 have HF : Hid (∀ {k : Nat}, k < t.length → firstBad (t.drop k) k = if signB (t.getD k 0) = true then firstBad (t.drop (k + 1)) (k + 1) else k) := fun {_} h => firstBad_drop t h
 have HC := hide hc
 clear hc
 obtain ⟨n, hn⟩ := nm t.length
 rw [← hn] at hl ⊢
 have HN := hide hn
 clear hn
 go_enter Tryz.func87, Tryz.ntmps87
 go_wp2
 go_loop [8] (fun i => ∃ k : Nat, k ≤ n ∧ i = .int .i64 k ∧ firstBad (t.drop k) k = firstBad t 0) (fun i => n - (intOf i).toNat)
 case atStart => exact ⟨0, Nat.zero_le _, rfl, rfl⟩
 case round =>
  obtain ⟨k, hk, rfl, hF⟩ := hrel
  have HK := hide hF
  clear hF
  by_cases hlt : k < n
  ·obtain ⟨s, hs⟩ := nm (t.getD k 0)
   have hc := HC.out k (by rw [← HN.out]; exact hlt)
   rw [← hs] at hc
   have HS := hide hs
   clear hs
   have HD : Hid (firstBad (t.drop k) k = if signB s = true then firstBad (t.drop (k + 1)) (k + 1) else k) := by
    have := HF.out (k := k) (by rw [← HN.out]; exact hlt)
    rw [← HS.out] at this; exact this
   by_cases hb : signB s = true
   ·have HD' : Hid (firstBad (t.drop (k + 1)) (k + 1) = firstBad t 0) := by
     have h1 := HD.out
     rw [if_pos hb] at h1
     exact h1.symm.trans HK.out
    go_wp2_with (go_at_call 100; refine (noSign_any _ _).mono ?_; rintro e w' ⟨rfl, rfl⟩)
    go_round
    case rel => exact ⟨k + 1, by omega, by go_num, HD'.out⟩
    case measure => simp [intOf]; omega
   ·have HD' : Hid ((k : Int) = firstBad t 0) := by
     have h1 := HD.out
     rw [if_neg hb] at h1
     exact h1.symm.trans HK.out
    have hb' : signB s = false := by simpa using hb
    clear hb
    go_wp2_with (go_at_call 100; refine (noSign_any _ _).mono ?_; rintro e w' ⟨rfl, rfl⟩)
    go_ret
    exact ⟨back_i HD'.out, rfl⟩
  ·have HE : Hid (firstBad t 0 = -1) := by
    have h1 := HK.out
    rw [List.drop_eq_nil_of_le (by have := HN.out; omega)] at h1
    exact h1.symm
   go_wp2
   go_ret
   exact ⟨back_i HE.out.symm, rfl⟩
theorem containsFunc_any (b off cap : Nat) (t : List Int) (w : World) (hl : t.length ≤ 9223372036854775807) (hc : ∀ k, k < t.length → w.cell? ⟨b, off + k, none⟩ = some (.int .i64 (t.getD k 0))) :
    Calls Tryz.prog 45 #[.slice (some ⟨b, off, none⟩) t.length cap, .func (.func 100) #[] #[]] w (Sk w (.bool (!t.all signB))) := by
 have c := indexFunc_any b off cap t w hl hc
 clear hc
 obtain ⟨h1, h2⟩ := firstBad_lt t 0
 obtain ⟨n, hn⟩ := nm (firstBad t 0)
 rw [← hn] at c h1 h2
 clear hn
 by_cases h : t.all signB = true
 ·obtain rfl : n = -1 := by have := h1.2 h; omega
  rw [h]
  clear h1 h2 h
  go_enter Tryz.func45, Tryz.ntmps45
  go_wp2_with (go_at_call 87; refine c.mono ?_; rintro e w' ⟨rfl, rfl⟩)
  go_ret
  exact ⟨rfl, rfl⟩
 ·have h0 : 0 ≤ n := by
   rcases Int.lt_or_le n 0 with h' | h'
   ·exact absurd (h1.1 h') h
   ·exact h'
  have h' : t.all signB = false := by simpa using h
  rw [h']
  clear h1 h2 h h'
  go_enter Tryz.func45, Tryz.ntmps45
  go_wp2_with (go_at_call 87; refine c.mono ?_; rintro e w' ⟨rfl, rfl⟩)
  go_ret
  exact ⟨rfl, rfl⟩
theorem isOne_any (b off cap : Nat) (t : List Int) (w : World) (hl : t.length ≤ 12) (hc : ∀ k, k < t.length → w.cell? ⟨b, off + k, none⟩ = some (.int .i64 (t.getD k 0))) :
    Calls Tryz.prog 101 #[.slice (some ⟨b, off, none⟩) t.length cap] w (Sk w (.bool (decide (cnt t 0 = some 1)))) := by
 have HC := hide hc
 clear hc
 obtain ⟨n, hn⟩ := nm t.length
 rw [← hn] at hl ⊢
 have HN := hide hn
 clear hn
 obtain ⟨R, hR⟩ := nm (decide (cnt t 0 = some 1))
 rw [← hR]
 have HR := hide hR
 clear hR
 go_enter Tryz.func101, Tryz.ntmps101
 go_wp2
 go_loop [3, 8] (fun c i => ∃ (k : Nat) (m : Int), k ≤ n ∧ i = .int .i64 k ∧ c = .int .i64 m ∧ cnt (t.take k) 0 = some m) (fun _ i => n - (intOf i).toNat)
 case atStart => exact ⟨0, 0, Nat.zero_le _, rfl, rfl, rfl⟩
 case round =>
  obtain ⟨k, m, hk, rfl, rfl, hm⟩ := hrel
  have HM := hide hm
  have hm0 : 0 ≤ m ∧ m ≤ 12 := by
   have := cnt_nonneg (Int.le_refl 0) hm
   simp at this
   omega
  clear hm
  by_cases hlt : k < n
  ·obtain ⟨s, hs⟩ := nm (t.getD k 0)
   have hc := HC.out k (by rw [← HN.out]; exact hlt)
   rw [← hs] at hc
   have HD : Hid (cnt (t.take (k + 1)) 0 = if m < takesN s then none else some (m + 1 - takesN s)) := by
    have := cnt_take_succ t (k := k) (by rw [← HN.out]; exact hlt) HM.out
    rw [← hs] at this; exact this
   clear hs
   have ht := takesN_range s
   by_cases hb : m < takesN s
   ·have HE : Hid (R = false) := by
     have h1 := HD.out
     rw [if_pos hb] at h1
     have h2 := cnt_take_none t (k + 1) h1
     have h3 := HR.out
     rw [h2] at h3
     exact h3.trans (by decide)
    go_wp2_with (go_at_call 132; refine (takes_any _ _).mono ?_; rintro e w' ⟨rfl, rfl⟩)
    go_ret
    exact ⟨back_b HE.out.symm, rfl⟩
   ·have HE : Hid (cnt (t.take (k + 1)) 0 = some (m + (1 - takesN s))) := by
     have h1 := HD.out
     rw [if_neg hb] at h1
     rw [show m + (1 - takesN s) = m + 1 - takesN s by omega]
     exact h1
    go_wp2_with (go_at_call 132; refine (takes_any _ _).mono ?_; rintro e w' ⟨rfl, rfl⟩)
    go_round
    case rel => exact ⟨k + 1, _, by omega, by go_num, rfl, HE.out⟩
    case measure => simp [intOf]; omega
  ·have HE : Hid (R = (m == 1)) := by
    have h1 := HM.out
    rw [List.take_of_length_le (by have := HN.out; omega)] at h1
    have h3 := HR.out
    rw [h1] at h3
    rw [h3]
    by_cases h : m = 1
    ·subst h; rfl
    ·rw [decide_eq_false (by simpa using h)]; exact (beq_eq_false_iff_ne.2 h).symm
   go_wp2
   go_ret
   exact ⟨back_b HE.out.symm, rfl⟩
theorem tcheck_any (t : List Int) (v : Value) (w : World) (h : Reads w v t) :
    Calls Tryz.prog 58 #[v] w (Sk w (errV (faultN t))) := by
 rcases h with ⟨ao, cap, rfl, rfl⟩ | ⟨b, off, cap, rfl, -, h0, ⟨hl, _⟩, hc⟩
 ·go_enter Tryz.func58, Tryz.ntmps58
  go_wp2
  go_ret
  exact ⟨rfl, rfl⟩
 ·have cF := containsFunc_any b off cap t w hl hc
  by_cases h12 : 12 < t.length
  ·have e : errV (faultN t) = .iface 75 (.int .i64 4) := by unfold faultN; rw [if_neg (by omega), if_pos h12]; rfl
   rw [e]
   clear e hc cF
   obtain ⟨n, hn⟩ := nm t.length
   rw [← hn] at h0 hl h12 ⊢
   clear hn
   go_enter Tryz.func58, Tryz.ntmps58
   go_wp2
   go_ret
   exact ⟨rfl, rfl⟩
  have hl12 : t.length ≤ 12 := by omega
  have cO := isOne_any b off cap t w hl12 hc
  clear hc
  obtain ⟨F, hF⟩ := nm (faultN t)
  rw [← hF]
  have HF : Hid (F = if t.all signB = true then (if cnt t 0 = some 1 then 0 else 3) else 1) := by
   unfold Hid; rw [hF]; unfold faultN; rw [if_neg (by omega), if_neg h12]
  clear hF
  obtain ⟨n, hn⟩ := nm t.length
  rw [← hn] at h0 hl hl12 h12 cF cO ⊢
  clear hn
  obtain ⟨x, hx⟩ := nm (t.all signB)
  obtain ⟨y, hy⟩ := nm (decide (cnt t 0 = some 1))
  rw [← hx] at cF
  rw [← hy] at cO
  have HF' : Hid (F = if x = true then (if y = true then 0 else 3) else 1) := by
   unfold Hid; rw [HF.out, hx, hy]; simp only [decide_eq_true_eq]
  clear HF hx hy
  have HP := hide cF
  have HQ := hide cO
  clear cF cO
  cases x <;> cases y
  all_goals
   go_enter Tryz.func58, Tryz.ntmps58
   go_wp2_with (first | (go_at_call 45; refine HP.out.mono ?_; rintro e w' ⟨rfl, rfl⟩) | (go_at_call 101; refine HQ.out.mono ?_; rintro e w' ⟨rfl, rfl⟩))
   go_ret
   exact ⟨back_v (by rw [HF'.out]; rfl), rfl⟩
theorem below_alloc1 (w : World) (o : Obj) : Below w.heap.size w (w.alloc o) := (Below.refl _ _).alloc (Nat.le_refl _) _
theorem errV_no {n : Int} (h : ¬ n = 0) : errV n = .iface 75 (.int .i64 n) := by unfold errV; rw [if_neg h]
end Go.Proofs.YtjaedfjfcghgcabGreatDoor
namespace Go.Proofs.YtjaedfjfcghgcabGreatDoor
open Go.ChangeShapes Go.WideShapes Go.ChangeAt Go.RowKit
theorem ret_int {k : IntKind} {a b : Int} (h : a = b) : Ending.returned (.int k a) = .returned (.int k b) := by rw [h]
theorem all_any (u : Int) (h0 : 0 ≤ u) (h1 : u ≤ 6) (w : World) :
    Calls Tryz.prog 69 #[.int .i64 u] w (Sk w (.int .i64 (allN u))) := by
 rcases seven h0 h1 with rfl | rfl | rfl | rfl | rfl | rfl | rfl
 all_goals
  go_enter Tryz.func69, Tryz.ntmps69
  go_wp2
  go_ret
  exact ⟨rfl, rfl⟩
theorem check_ok (u s : Int) (h : okB u s = true) (w : World) :
    Calls Tryz.prog 24 #[.int .i64 u, .int .i64 s] w (Sk w .nilIface) := by
 obtain ⟨h0, h1, h2, h3⟩ := okB_iff.1 h
 clear h
 go_enter Tryz.func24, Tryz.ntmps24
 go_wp2_with (go_at_call 69; refine (all_any _ h0 h1 _).mono ?_; rintro e w' ⟨rfl, rfl⟩)
 go_ret
 exact ⟨rfl, rfl⟩
theorem check_no (u s : Int) (h : okB u s = false) (w : World) :
    Calls Tryz.prog 24 #[.int .i64 u, .int .i64 s] w (Sk w (.iface 75 (.int .i64 1))) := by
 have h' := okB_not.1 h
 clear h
 by_cases h0 : u < 0
 ·clear h'
  go_enter Tryz.func24, Tryz.ntmps24
  go_wp2_with fail
  go_ret
  exact ⟨rfl, rfl⟩
 by_cases h1 : 6 < u
 ·clear h'
  go_enter Tryz.func24, Tryz.ntmps24
  go_wp2_with fail
  go_ret
  exact ⟨rfl, rfl⟩
 by_cases h2 : s < 0
 ·clear h'
  go_enter Tryz.func24, Tryz.ntmps24
  go_wp2_with fail
  go_ret
  exact ⟨rfl, rfl⟩
 have h3 : allN u < s := by omega
 have h0' : 0 ≤ u := by omega
 have h1' : u ≤ 6 := by omega
 clear h'
 go_enter Tryz.func24, Tryz.ntmps24
 go_wp2_with (go_at_call 69; refine (all_any _ h0' h1' _).mono ?_; rintro e w' ⟨rfl, rfl⟩)
 go_ret
 exact ⟨rfl, rfl⟩
theorem ret_two {k : IntKind} {a b : Int} {v : Value} (h : a = b) : Ending.returned (.tuple #[.int k a, v]) = .returned (.tuple #[.int k b, v]) := by rw [h]
theorem do_ok (what u a b : Int) (hl : 5 ≤ what) (hm : what ≤ 8) (ha : okB u a = true) (hb : okB u b = true) (w : World) :
    Calls Tryz.prog 196 #[.int .i64 what, .int .i64 u, .int .i64 a, .int .i64 b] w (Sk w (.tuple #[.int .i64 (doN what u a b), .nilIface])) := by
 obtain ⟨u0, u1, a0, a1⟩ := okB_lt ha
 obtain ⟨_, _, b0, b1⟩ := okB_lt hb
 have hd : what = 5 ∨ what = 6 ∨ what = 7 ∨ what = 8 := by omega
 clear hl hm
 rcases hd with rfl | rfl | rfl | rfl
 ·go_enter Tryz.func196, Tryz.ntmps196
  go_wp2_with (go_at_call 24; refine (check_ok _ _ ?_ _).mono ?_; assumption; rintro e w' ⟨rfl, rfl⟩)
  go_ret2
  exact ⟨ret_two (or_bits a b a0 a1 b0 b1), rfl⟩
 ·go_enter Tryz.func196, Tryz.ntmps196
  go_wp2_with (go_at_call 24; refine (check_ok _ _ ?_ _).mono ?_; assumption; rintro e w' ⟨rfl, rfl⟩)
  go_ret2
  exact ⟨ret_two (and_bits a b a0 a1 b0 b1), rfl⟩
 ·go_enter Tryz.func196, Tryz.ntmps196
  go_wp2_with (go_at_call 24; refine (check_ok _ _ ?_ _).mono ?_; assumption; rintro e w' ⟨rfl, rfl⟩)
  go_ret2
  exact ⟨ret_two (less_bits a b a0 a1 b0 b1), rfl⟩
 ·go_enter Tryz.func196, Tryz.ntmps196
  go_wp2_with (first | (go_at_call 24; refine (check_ok _ _ ?_ _).mono ?_; assumption; rintro e w' ⟨rfl, rfl⟩) | (go_at_call 69; refine (all_any _ u0 u1 _).mono ?_; rintro e w' ⟨rfl, rfl⟩))
  go_ret2
  have hu := allN_le u0 u1
  exact ⟨ret_two (less_bits (allN u) a hu.1 (by omega) a0 a1), rfl⟩
end Go.Proofs.YtjaedfjfcghgcabGreatDoor
namespace Go.Proofs.YtjaedfjfcghgcabGreatDoor
open Go.ChangeShapes Go.WideShapes Go.ChangeAt Go.RowKit
theorem below_drewNs (w : World) : ∀ n, Below w.heap.size w (w.drewN n)
 | 0 => Below.refl _ _
 | n + 1 => (below_drewNs w n).drew
set_option maxHeartbeats 1000000 in
theorem made_leaf_any (u a b c s : Int) (v : Value) (w : World) (h0 : 0 ≤ s) (h4 : s ≤ 4) (hw : (Wd.mk u a b c).ok = true) :
    Calls Tryz.prog 167 #[.int .i64 s, v, .agg #[.int .i64 u, .int .i64 a, .int .i64 b, .int .i64 c]] w (Bk w (.tuple #[.int .i64 ((Wd.mk u a b c).made s []), .nilIface])) := by
 have hd : s = 0 ∨ s = 1 ∨ s = 2 ∨ s = 3 ∨ s = 4 := by omega
 have z : okB u 0 = true := ok_zero (ok_u hw).1 (ok_u hw).2
 clear h0 h4 hw
 rcases hd with rfl | rfl | rfl | rfl | rfl
 ·go_enter Tryz.func167, Tryz.ntmps167
  go_wp2
  go_ret2
  exact ⟨rfl, below_alloc1 _ _⟩
 ·go_enter Tryz.func167, Tryz.ntmps167
  go_wp2
  go_ret2
  exact ⟨rfl, below_alloc1 _ _⟩
 ·go_enter Tryz.func167, Tryz.ntmps167
  go_wp2
  go_ret2
  exact ⟨rfl, below_alloc1 _ _⟩
 ·go_enter Tryz.func167, Tryz.ntmps167
  go_wp2
  go_ret2
  exact ⟨rfl, below_alloc1 _ _⟩
 ·go_enter Tryz.func167, Tryz.ntmps167
  go_wp2_with (go_at_call 196; refine (do_ok _ _ _ _ ?_ ?_ z z _).mono ?_; decide; decide; rintro e w' ⟨rfl, rfl⟩)
  go_ret2
  exact ⟨rfl, below_alloc1 _ _⟩
set_option maxHeartbeats 1000000 in
theorem made_one_any (u a b c s x : Int) (B off cap : Nat) (w : World) (h5 : 5 ≤ s) (h8 : s ≤ 8) (hx : okB u x = true) (hB : B < w.heap.size) (c0 : w.cell? ⟨B, off, none⟩ = some (.int .i64 x)) :
    Calls Tryz.prog 167 #[.int .i64 s, .slice (some ⟨B, off, none⟩) 1 cap, .agg #[.int .i64 u, .int .i64 a, .int .i64 b, .int .i64 c]] w (Bk w (.tuple #[.int .i64 (doN s u x x), .nilIface])) := by
 have g0 : (s == 0) = false := by simp; omega
 have g1 : (s == 1) = false := by simp; omega
 have g2 : (s == 2) = false := by simp; omega
 have g3 : (s == 3) = false := by simp; omega
 have g4 : (s == 4) = false := by simp; omega
 have HD : Hid (∀ W, Calls Tryz.prog 196 #[.int .i64 s, .int .i64 u, .int .i64 x, .int .i64 x] W fun e w' => e = .returned (.tuple #[.int .i64 (doN s u x x), .nilIface]) ∧ w' = W) := fun W => (do_ok s u x x h5 h8 hx hx W).mono fun _ _ h => (And.intro h.1 h.2.symm)
 clear hx
 have d0 : (w.alloc (.cells #[.int .i64 u, .int .i64 a, .int .i64 b, .int .i64 c] 34)).cell? ⟨B, off, none⟩ = some (.int .i64 x) := by
  rw [World.cell?_alloc_lt _ _ ⟨B, off, none⟩ hB]; exact c0
 clear c0 hB
 go_enter Tryz.func167, Tryz.ntmps167
 go_wp2_with fail
 go_quiet (first | (go_at_call 196; exact Calls.quiet_of_same (HD.out _)))
 go_wp2
 go_ret2
 exact ⟨rfl, (below_alloc1 _ _).trans ((below_drewNs _ _).mono (by simp))⟩
set_option maxHeartbeats 1000000 in
theorem made_two_any (u a b c s x y : Int) (B off cap : Nat) (w : World) (h5 : 5 ≤ s) (h8 : s ≤ 8) (hx : okB u x = true) (hy : okB u y = true) (hB : B < w.heap.size)
    (c0 : w.cell? ⟨B, off, none⟩ = some (.int .i64 x)) (c1 : w.cell? ⟨B, off + 1, none⟩ = some (.int .i64 y)) :
    Calls Tryz.prog 167 #[.int .i64 s, .slice (some ⟨B, off, none⟩) 2 cap, .agg #[.int .i64 u, .int .i64 a, .int .i64 b, .int .i64 c]] w (Bk w (.tuple #[.int .i64 (doN s u x y), .nilIface])) := by
 have g0 : (s == 0) = false := by simp; omega
 have g1 : (s == 1) = false := by simp; omega
 have g2 : (s == 2) = false := by simp; omega
 have g3 : (s == 3) = false := by simp; omega
 have g4 : (s == 4) = false := by simp; omega
 have HD : Hid (∀ W, Calls Tryz.prog 196 #[.int .i64 s, .int .i64 u, .int .i64 x, .int .i64 y] W fun e w' => e = .returned (.tuple #[.int .i64 (doN s u x y), .nilIface]) ∧ w' = W) := fun W => (do_ok s u x y h5 h8 hx hy W).mono fun _ _ h => (And.intro h.1 h.2.symm)
 clear hx hy
 have d0 : (w.alloc (.cells #[.int .i64 u, .int .i64 a, .int .i64 b, .int .i64 c] 34)).cell? ⟨B, off, none⟩ = some (.int .i64 x) := by
  rw [World.cell?_alloc_lt _ _ ⟨B, off, none⟩ hB]; exact c0
 have d1 : (w.alloc (.cells #[.int .i64 u, .int .i64 a, .int .i64 b, .int .i64 c] 34)).cell? ⟨B, off + 1, none⟩ = some (.int .i64 y) := by
  rw [World.cell?_alloc_lt _ _ ⟨B, off + 1, none⟩ hB]; exact c1
 clear c0 c1 hB
 go_enter Tryz.func167, Tryz.ntmps167
 go_wp2_with fail
 go_quiet (first | (go_at_call 196; exact Calls.quiet_of_same (HD.out _)))
 go_wp2
 go_ret2
 exact ⟨rfl, (below_alloc1 _ _).trans ((below_drewNs _ _).mono (by simp))⟩
end Go.Proofs.YtjaedfjfcghgcabGreatDoor
namespace Go.Proofs.YtjaedfjfcghgcabGreatDoor
open Go.ChangeShapes Go.WideShapes Go.ChangeAt Go.RowKit
set_option maxRecDepth 100000
def AtomAt (w : World) (b off : Nat) (a : At) : Prop :=
 ∃ vs vt, w.cell? ⟨b, off, none⟩ = some (.int .i64 a.k) ∧ w.cell? ⟨b, off + 1, none⟩ = some vs ∧ w.cell? ⟨b, off + 2, none⟩ = some vt ∧ w.cell? ⟨b, off + 3, none⟩ = some (.int .i64 a.n) ∧ Reads w vs a.s ∧ Reads w vt a.t
def ReadsA (w : World) (v : Value) (ats : List At) : Prop :=
 (∃ ao cap, v = .slice ao 0 cap ∧ ats = []) ∨ (∃ b off cap, v = .slice (some ⟨b, off, none⟩) ats.length cap ∧ b < w.heap.size ∧ 0 < ats.length ∧ (ats.length ≤ 9223372036854775807 ∧ ats.length ≤ cap) ∧ ∀ i a, ats[i]? = some a → AtomAt w b (off + i * 4) a)
theorem AtomAt.below {w w' : World} {b off : Nat} {a : At} (h : AtomAt w b off a) (hB : b < w.heap.size) (hb : Below w.heap.size w w') : AtomAt w' b off a := by
 obtain ⟨vs, vt, h1, h2, h3, h4, h5, h6⟩ := h
 exact ⟨vs, vt, by rw [hb.cell hB]; exact h1, by rw [hb.cell hB]; exact h2, by rw [hb.cell hB]; exact h3, by rw [hb.cell hB]; exact h4, h5.below hb, h6.below hb⟩
theorem ReadsA.below {w w' : World} {v : Value} {ats : List At} (h : ReadsA w v ats) (hb : Below w.heap.size w w') : ReadsA w' v ats := by
 rcases h with h | ⟨b, off, cap, h1, h2, h3, h4, h5⟩
 ·exact Or.inl h
 ·exact Or.inr ⟨b, off, cap, h1, Nat.lt_of_lt_of_le h2 hb.size, h3, h4, fun i a ha => (h5 i a ha).below h2 hb⟩
theorem ReadsA.slice {w : World} {v : Value} {ats : List At} (h : ReadsA w v ats) : ∃ ao cap, v = .slice ao ats.length cap ∧ ats.length ≤ 9223372036854775807 := by
 rcases h with ⟨ao, cap, rfl, rfl⟩ | ⟨b, off, cap, rfl, _, _, h, _⟩
 ·exact ⟨ao, cap, rfl, by decide⟩
 ·exact ⟨_, cap, rfl, h.1⟩
theorem ftakes_any (s : Int) (w : World) :
    Calls Tryz.prog 22 #[.int .i64 s] w (Sk w (.int .i64 (takesF s))) := by
 by_cases h5 : s = 10
 ·subst h5
  go_enter Tryz.func22, Tryz.ntmps22
  go_wp2
  go_ret
  exact ⟨rfl, rfl⟩
 by_cases h6 : s = 11
 ·subst h6
  go_enter Tryz.func22, Tryz.ntmps22
  go_wp2
  go_ret
  exact ⟨rfl, rfl⟩
 by_cases h7 : s = 13
 ·subst h7
  go_enter Tryz.func22, Tryz.ntmps22
  go_wp2
  go_ret
  exact ⟨rfl, rfl⟩
 by_cases h8 : s = 12
 ·subst h8
  go_enter Tryz.func22, Tryz.ntmps22
  go_wp2
  go_ret
  exact ⟨rfl, rfl⟩
 have e : takesF s = 0 := by unfold takesF; rw [if_neg (by omega), if_neg h8]
 rw [e]
 clear e
 have h5' : (s == 10) = false := by simpa using h5
 have h6' : (s == 11) = false := by simpa using h6
 have h7' : (s == 13) = false := by simpa using h7
 have h8' : (s == 12) = false := by simpa using h8
 clear h5 h6 h7 h8
 go_enter Tryz.func22, Tryz.ntmps22
 go_wp2
 go_ret
 exact ⟨rfl, rfl⟩
theorem tooMany_any (a s : Int) (w : World) :
    Calls Tryz.prog 43 #[.int .i64 a, .int .i64 s] w (Sk w (.bool (decide (6 < a) || decide (20 < s)))) := by
 by_cases h1 : 6 < a
 ·go_enter Tryz.func43, Tryz.ntmps43
  go_wp2
  go_ret
  exact ⟨by simp [h1], rfl⟩
 ·by_cases h2 : 20 < s
  ·go_enter Tryz.func43, Tryz.ntmps43
   go_wp2
   go_ret
   exact ⟨by simp, rfl⟩
  ·go_enter Tryz.func43, Tryz.ntmps43
   go_wp2
   go_ret
   exact ⟨by simp [h1, h2], rfl⟩
theorem fnoSign_any (m cap P : Nat) (ao : Option Addr) (s : Int) (w : World) (hP : w.cell? ⟨P, 0, none⟩ = some (.slice ao m cap)) :
    Calls Tryz.prog 44 #[.int .i64 s, .pointer (some ⟨P, 0, none⟩)] w (Sk w (.bool (!signF m s))) := by
 have HT : Hid (∀ W, Calls Tryz.prog 22 #[.int .i64 s] W (Sk W (.int .i64 (takesF s)))) := fun W => ftakes_any s W
 by_cases h0 : takesF s = 0
 ·rw [h0] at HT
  by_cases h1 : s < 0
  ·have e : signF m s = false := by simp [signF, h0, h1]
   rw [e]
   clear e h0
   go_enter Tryz.func44, Tryz.ntmps44
   go_wp2_with (go_at_call 22; refine (HT.out _).mono ?_; rintro e w' ⟨rfl, rfl⟩)
   go_ret
   exact ⟨rfl, rfl⟩
  ·by_cases h2 : (m : Int) ≤ s
   ·have e : signF m s = false := by simp [signF, h0, h2]
    rw [e]
    clear e h0
    go_enter Tryz.func44, Tryz.ntmps44
    go_wp2_with (go_at_call 22; refine (HT.out _).mono ?_; rintro e w' ⟨rfl, rfl⟩)
    go_ret
    exact ⟨rfl, rfl⟩
   ·have e : signF m s = true := by simp [signF, h1, h2]
    rw [e]
    clear e h0
    go_enter Tryz.func44, Tryz.ntmps44
    go_wp2_with (go_at_call 22; refine (HT.out _).mono ?_; rintro e w' ⟨rfl, rfl⟩)
    go_ret
    exact ⟨back_b (by simp; omega), rfl⟩
 ·have e : signF m s = true := by simp [signF, h0]
  rw [e]
  clear e
  have h0' : (takesF s == 0) = false := by simpa using h0
  clear h0
  go_enter Tryz.func44, Tryz.ntmps44
  go_wp2_with (go_at_call 22; refine (HT.out _).mono ?_; rintro e w' ⟨rfl, rfl⟩)
  go_ret
  exact ⟨rfl, rfl⟩
def firstBadF (m : Nat) : List Int → Nat → Int
 | [], _ => -1
 | s :: l, k => if signF m s = true then firstBadF m l (k + 1) else k
theorem firstBadF_lt (m : Nat) (t : List Int) (k : Nat) : (firstBadF m t k < 0 ↔ t.all (signF m) = true) ∧ -1 ≤ firstBadF m t k := by
 induction t generalizing k with
 | nil => exact ⟨⟨fun _ => rfl, fun _ => show (-1 : Int) < 0 by decide⟩, Int.le_refl _⟩
 | cons s l ih =>
  unfold firstBadF
  by_cases h : signF m s = true
  ·rw [if_pos h]; simpa [h] using ih (k + 1)
  ·rw [if_neg h]; simp only [List.all_cons, h]; simp
theorem firstBadF_drop (m : Nat) (t : List Int) {k : Nat} (hk : k < t.length) : firstBadF m (t.drop k) k = if signF m (t.getD k 0) = true then firstBadF m (t.drop (k + 1)) (k + 1) else k := by
 rw [List.drop_eq_getElem_cons hk]
 simp [firstBadF, List.getElem?_eq_getElem hk]
theorem findexFunc_any (m mcap P : Nat) (ao : Option Addr) (b off cap : Nat) (t : List Int) (w : World) (hl : t.length ≤ 9223372036854775807) (hP : w.cell? ⟨P, 0, none⟩ = some (.slice ao m mcap)) (hc : ∀ k, k < t.length → w.cell? ⟨b, off + k, none⟩ = some (.int .i64 (t.getD k 0))) :
    Calls Tryz.prog 87 #[.slice (some ⟨b, off, none⟩) t.length cap, .func (.func 44) #[] #[.pointer (some ⟨P, 0, none⟩)]] w (Sk w (.int .i64 (firstBadF m t 0))) := by
 have HF : Hid (∀ {k : Nat}, k < t.length → firstBadF m (t.drop k) k = if signF m (t.getD k 0) = true then firstBadF m (t.drop (k + 1)) (k + 1) else k) := fun {_} h => firstBadF_drop m t h
 have HC := hide hc
 clear hc
 have HP := hide hP
 clear hP
 obtain ⟨n, hn⟩ := nm t.length
 rw [← hn] at hl ⊢
 have HN := hide hn
 clear hn
 go_enter Tryz.func87, Tryz.ntmps87
 go_wp2
 go_loop [8] (fun i => ∃ k : Nat, k ≤ n ∧ i = .int .i64 k ∧ firstBadF m (t.drop k) k = firstBadF m t 0) (fun i => n - (intOf i).toNat)
 case atStart => exact ⟨0, Nat.zero_le _, rfl, rfl⟩
 case round =>
  obtain ⟨k, hk, rfl, hF⟩ := hrel
  have HK := hide hF
  clear hF
  by_cases hlt : k < n
  ·obtain ⟨s, hs⟩ := nm (t.getD k 0)
   have hc := HC.out k (by rw [← HN.out]; exact hlt)
   rw [← hs] at hc
   have HS := hide hs
   clear hs
   have HD : Hid (firstBadF m (t.drop k) k = if signF m s = true then firstBadF m (t.drop (k + 1)) (k + 1) else k) := by
    have := HF.out (k := k) (by rw [← HN.out]; exact hlt)
    rw [← HS.out] at this; exact this
   by_cases hb : signF m s = true
   ·have HD' : Hid (firstBadF m (t.drop (k + 1)) (k + 1) = firstBadF m t 0) := by
     have h1 := HD.out
     rw [if_pos hb] at h1
     exact h1.symm.trans HK.out
    go_wp2_with (go_at_call 44; refine (fnoSign_any m mcap P ao _ _ HP.out).mono ?_; rintro e w' ⟨rfl, rfl⟩)
    go_round
    case rel => exact ⟨k + 1, by omega, by go_num, HD'.out⟩
    case measure => simp [intOf]; omega
   ·have HD' : Hid ((k : Int) = firstBadF m t 0) := by
     have h1 := HD.out
     rw [if_neg hb] at h1
     exact h1.symm.trans HK.out
    have hb' : signF m s = false := by simpa using hb
    clear hb
    go_wp2_with (go_at_call 44; refine (fnoSign_any m mcap P ao _ _ HP.out).mono ?_; rintro e w' ⟨rfl, rfl⟩)
    go_ret
    exact ⟨back_i HD'.out, rfl⟩
  ·have HE : Hid (firstBadF m t 0 = -1) := by
    have h1 := HK.out
    rw [List.drop_eq_nil_of_le (by have := HN.out; omega)] at h1
    exact h1.symm
   go_wp2
   go_ret
   exact ⟨back_i HE.out.symm, rfl⟩
theorem fcontainsFunc_any (m mcap P : Nat) (ao : Option Addr) (b off cap : Nat) (t : List Int) (w : World) (hl : t.length ≤ 9223372036854775807) (hP : w.cell? ⟨P, 0, none⟩ = some (.slice ao m mcap)) (hc : ∀ k, k < t.length → w.cell? ⟨b, off + k, none⟩ = some (.int .i64 (t.getD k 0))) :
    Calls Tryz.prog 45 #[.slice (some ⟨b, off, none⟩) t.length cap, .func (.func 44) #[] #[.pointer (some ⟨P, 0, none⟩)]] w (Sk w (.bool (!t.all (signF m)))) := by
 have c := findexFunc_any m mcap P ao b off cap t w hl hP hc
 clear hc hP
 obtain ⟨h1, h2⟩ := firstBadF_lt m t 0
 obtain ⟨n, hn⟩ := nm (firstBadF m t 0)
 rw [← hn] at c h1 h2
 clear hn
 by_cases h : t.all (signF m) = true
 ·obtain rfl : n = -1 := by have := h1.2 h; omega
  rw [h]
  clear h1 h2 h
  go_enter Tryz.func45, Tryz.ntmps45
  go_wp2_with (go_at_call 87; refine c.mono ?_; rintro e w' ⟨rfl, rfl⟩)
  go_ret
  exact ⟨rfl, rfl⟩
 ·have h0 : 0 ≤ n := by
   rcases Int.lt_or_le n 0 with h' | h'
   ·exact absurd (h1.1 h') h
   ·exact h'
  have h' : t.all (signF m) = false := by simpa using h
  rw [h']
  clear h1 h2 h h'
  go_enter Tryz.func45, Tryz.ntmps45
  go_wp2_with (go_at_call 87; refine c.mono ?_; rintro e w' ⟨rfl, rfl⟩)
  go_ret
  exact ⟨rfl, rfl⟩
theorem fisOne_any (b off cap : Nat) (t : List Int) (w : World) (hl : t.length ≤ 20) (hc : ∀ k, k < t.length → w.cell? ⟨b, off + k, none⟩ = some (.int .i64 (t.getD k 0))) :
    Calls Tryz.prog 46 #[.slice (some ⟨b, off, none⟩) t.length cap] w (Sk w (.bool (decide (cntF t 0 = some 1)))) := by
 have HC := hide hc
 clear hc
 obtain ⟨n, hn⟩ := nm t.length
 rw [← hn] at hl ⊢
 have HN := hide hn
 clear hn
 obtain ⟨R, hR⟩ := nm (decide (cntF t 0 = some 1))
 rw [← hR]
 have HR := hide hR
 clear hR
 go_enter Tryz.func46, Tryz.ntmps46
 go_wp2
 go_loop [3, 8] (fun c i => ∃ (k : Nat) (m : Int), k ≤ n ∧ i = .int .i64 k ∧ c = .int .i64 m ∧ cntF (t.take k) 0 = some m) (fun _ i => n - (intOf i).toNat)
 case atStart => exact ⟨0, 0, Nat.zero_le _, rfl, rfl, rfl⟩
 case round =>
  obtain ⟨k, m, hk, rfl, rfl, hm⟩ := hrel
  have HM := hide hm
  have hm0 : 0 ≤ m ∧ m ≤ 20 := by
   have := cntF_nonneg (Int.le_refl 0) hm
   simp at this
   omega
  clear hm
  by_cases hlt : k < n
  ·obtain ⟨s, hs⟩ := nm (t.getD k 0)
   have hc := HC.out k (by rw [← HN.out]; exact hlt)
   rw [← hs] at hc
   have HD : Hid (cntF (t.take (k + 1)) 0 = if m < takesF s then none else some (m + 1 - takesF s)) := by
    have := cntF_take_succ t (k := k) (by rw [← HN.out]; exact hlt) HM.out
    rw [← hs] at this; exact this
   clear hs
   have ht := takesF_range s
   by_cases hb : m < takesF s
   ·have HE : Hid (R = false) := by
     have h1 := HD.out
     rw [if_pos hb] at h1
     have h2 := cntF_take_none t (k + 1) h1
     have h3 := HR.out
     rw [h2] at h3
     exact h3.trans (by decide)
    go_wp2_with (go_at_call 22; refine (ftakes_any _ _).mono ?_; rintro e w' ⟨rfl, rfl⟩)
    go_ret
    exact ⟨back_b HE.out.symm, rfl⟩
   ·have HE : Hid (cntF (t.take (k + 1)) 0 = some (m + (1 - takesF s))) := by
     have h1 := HD.out
     rw [if_neg hb] at h1
     rw [show m + (1 - takesF s) = m + 1 - takesF s by omega]
     exact h1
    go_wp2_with (go_at_call 22; refine (ftakes_any _ _).mono ?_; rintro e w' ⟨rfl, rfl⟩)
    go_round
    case rel => exact ⟨k + 1, _, by omega, by go_num, rfl, HE.out⟩
    case measure => simp [intOf]; omega
  ·have HE : Hid (R = (m == 1)) := by
    have h1 := HM.out
    rw [List.take_of_length_le (by have := HN.out; omega)] at h1
    have h3 := HR.out
    rw [h1] at h3
    rw [h3]
    by_cases h : m = 1
    ·subst h; rfl
    ·rw [decide_eq_false (by simpa using h)]; exact (beq_eq_false_iff_ne.2 h).symm
   go_wp2
   go_ret
   exact ⟨back_b HE.out.symm, rfl⟩
end Go.Proofs.YtjaedfjfcghgcabGreatDoor