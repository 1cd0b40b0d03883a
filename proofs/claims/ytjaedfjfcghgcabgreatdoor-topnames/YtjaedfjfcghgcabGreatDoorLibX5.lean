/-
  Facts and contracts that the statement leans on.
-/
import Derived.Test.YtjaedfjfcghgcabGreatDoorLibX3
import Derived.Test.YtjaedfjfcghgcabGreatDoorLibX4
import Derived.Deep.CutRange
import Derived.Deep.CutBlock
import Derived.Test.YtjaedfjfcghgcabGreatDoorLibX2
import Derived.Laws.ResultCell
import Derived.ChangeKeysEq
import Derived.Laws.StructEq
namespace Go.Proofs.YtjaedfjfcghgcabGreatDoor
open Go.ChangeShapes Go.WideShapes Go.ChangeAt Go.RowKit
set_option maxRecDepth 100000
theorem alone_four (w : World) (k n s : Int) : ∃ W, W = (((w.alloc (.cells #[.int .i64 s] 3)).alloc (.cells #[.int .i64 k, .slice (some ⟨w.heap.size, 0, none⟩) 1 1, .slice none 0 0, .int .i64 n] 50)).alloc (.cells #[.int .i64 0] 3)).alloc (.cells #[.slice (some ⟨w.heap.size + 1, 0, none⟩) 1 1, .slice (some ⟨w.heap.size + 1 + 1, 0, none⟩) 1 1] 25) ∧
    Blk W (w.heap.size + 1 + 1 + 1) 25 #[.slice (some ⟨w.heap.size + 1, 0, none⟩) 1 1, .slice (some ⟨w.heap.size + 1 + 1, 0, none⟩) 1 1] ∧ ReadsA W (.slice (some ⟨w.heap.size + 1, 0, none⟩) 1 1) [⟨k, [s], [], n⟩] ∧ Reads W (.slice (some ⟨w.heap.size + 1 + 1, 0, none⟩) 1 1) [0] ∧ Below w.heap.size w W := by
 obtain ⟨w1, h1⟩ := nm (w.alloc (.cells #[.int .i64 s] 3))
 obtain ⟨w2, h2⟩ := nm (w1.alloc (.cells #[.int .i64 k, .slice (some ⟨w.heap.size, 0, none⟩) 1 1, .slice none 0 0, .int .i64 n] 50))
 obtain ⟨w3, h3⟩ := nm (w2.alloc (.cells #[.int .i64 0] 3))
 obtain ⟨w4, h4⟩ := nm (w3.alloc (.cells #[.slice (some ⟨w.heap.size + 1, 0, none⟩) 1 1, .slice (some ⟨w.heap.size + 1 + 1, 0, none⟩) 1 1] 25))
 have s1 : w1.heap.size = w.heap.size + 1 := by rw [h1]; exact World.size_alloc _ _
 have s2 : w2.heap.size = w.heap.size + 1 + 1 := by rw [h2, World.size_alloc, s1]
 have s3 : w3.heap.size = w.heap.size + 1 + 1 + 1 := by rw [h3, World.size_alloc, s2]
 have k1 : Blk w1 w.heap.size 3 #[.int .i64 s] := by rw [h1]; exact Blk.new _ _ _
 have k2 : Blk w2 (w.heap.size + 1) 50 #[.int .i64 k, .slice (some ⟨w.heap.size, 0, none⟩) 1 1, .slice none 0 0, .int .i64 n] := by rw [h2, ← s1]; exact Blk.new _ _ _
 have k3 : Blk w3 (w.heap.size + 1 + 1) 3 #[.int .i64 0] := by rw [h3, ← s2]; exact Blk.new _ _ _
 have k4 : Blk w4 (w.heap.size + 1 + 1 + 1) 25 #[.slice (some ⟨w.heap.size + 1, 0, none⟩) 1 1, .slice (some ⟨w.heap.size + 1 + 1, 0, none⟩) 1 1] := by rw [h4, ← s3]; exact Blk.new _ _ _
 have b1 : Below w.heap.size w w1 := by rw [h1]; exact below_alloc1 _ _
 have b2 : Below w1.heap.size w1 w2 := by rw [h2]; exact below_alloc1 _ _
 have b3 : Below w2.heap.size w2 w3 := by rw [h3]; exact below_alloc1 _ _
 have b4 : Below w3.heap.size w3 w4 := by rw [h4]; exact below_alloc1 _ _
 have q1 : Blk w4 w.heap.size 3 #[.int .i64 s] := ((k1.below b2).below b3).below b4
 have q2 : Blk w4 (w.heap.size + 1) 50 #[.int .i64 k, .slice (some ⟨w.heap.size, 0, none⟩) 1 1, .slice none 0 0, .int .i64 n] := (k2.below b3).below b4
 have q3 : Blk w4 (w.heap.size + 1 + 1) 3 #[.int .i64 0] := k3.below b4
 have rone : ∀ (G : Nat) (x : Int), Blk w4 G 3 #[.int .i64 x] → Reads w4 (.slice (some ⟨G, 0, none⟩) 1 1) [x] := fun G x h => by
  refine Or.inr ⟨G, 0, 1, rfl, h.lt, by simp, ⟨by simp, by simp⟩, fun j hj => ?_⟩
  obtain rfl : j = 0 := by simp at hj; exact hj
  exact h.cell 0
 refine ⟨w4, by rw [h4, h3, h2, h1], k4, Or.inr ⟨w.heap.size + 1, 0, 1, rfl, q2.lt, by simp, ⟨by simp, by simp⟩, fun i a ha => ?_⟩, rone _ 0 q3, ?_⟩
 ·cases i with
  | zero =>
   obtain rfl : (⟨k, [s], [], n⟩ : At) = a := by simpa using ha
   exact ⟨_, _, q2.cell 0, q2.cell 1, q2.cell 2, q2.cell 3, rone _ s q1, Or.inl ⟨none, 0, rfl, rfl⟩⟩
  | succ i => simp at ha
 ·have c2 : Below w.heap.size w w2 := b1.trans (b2.mono b1.size)
  have c3 : Below w.heap.size w w3 := c2.trans (b3.mono c2.size)
  exact c3.trans (b4.mono c3.size)
set_option maxHeartbeats 8000000 in
theorem topOne_any (w : World)
    (cOf : ∀ (v va vc : Value) (fs : List Fm) (ats : List At) (c : List Int) (u : Int) (W : World), Below w.heap.size w W → ReadsF W v fs → ReadsA W va ats → Reads W vc c → Calls Tryz.prog 21 #[v, .agg #[va, vc], .int .i64 u] W (Bk W (.tuple #[.int .i64 (askN fs ats c u), errV (askFault fs ats c u)]))) :
    Calls Tryz.prog 5 #[] w (Bk w (.bool true)) := by
 have HOf : Hid (∀ W v va vc, Below w.heap.size w W → ReadsF W v [⟨[⟨3, [0], [], 2⟩], [0]⟩] → ReadsA W va [⟨3, [0], [], 1⟩] → Reads W vc [0] → Calls Tryz.prog 21 #[v, .agg #[va, vc], .int .i64 2] W (Bk W (.tuple #[.int .i64 1, .nilIface]))) := fun W v va vc hW h1 h2 h3 => by
  obtain ⟨e1, e2⟩ := many_answer (k := 0) (by omega) (n := 2) (m := 1) (u := 2) (by omega) (by omega) (by omega)
  have h := cOf v va vc _ _ _ 2 W hW h1 h2 h3
  have f1 : askFault [⟨[⟨3, [0], [], 2⟩], [0]⟩] [⟨3, [0], [], 1⟩] [0] 2 = 0 := e1
  have f2 : askN [⟨[⟨3, [0], [], 2⟩], [0]⟩] [⟨3, [0], [], 1⟩] [0] 2 = 1 := e2
  rw [f1, f2] at h
  exact h
 clear cOf
 obtain ⟨w1, hw1, k1, a1, c1, b1⟩ := alone_four w 3 2 0
 obtain ⟨G1, hG1⟩ := nm (w.heap.size + 1 + 1 + 1)
 obtain ⟨P1, hP1⟩ := nm (w.heap.size + 1)
 obtain ⟨Q1, hQ1⟩ := nm (w.heap.size + 1 + 1)
 rw [← hG1] at k1
 rw [← hQ1] at k1 c1 hw1
 rw [← hP1] at k1 a1 hw1
 obtain ⟨w2, hw2, k2, a2, c2, b2⟩ := alone_four w1 3 1 0
 obtain ⟨G2, hG2⟩ := nm (w1.heap.size + 1 + 1 + 1)
 obtain ⟨P2, hP2⟩ := nm (w1.heap.size + 1)
 obtain ⟨Q2, hQ2⟩ := nm (w1.heap.size + 1 + 1)
 rw [← hG2] at k2
 rw [← hQ2] at k2 c2 hw2
 rw [← hP2] at k2 a2 hw2
 have HB1 := hide b1
 have HB2 := hide (b1.trans (b2.mono b1.size))
 have HK1 := hide (k1.below b2)
 have HA1 : Hid (ReadsA w2 (.slice (some ⟨P1, 0, none⟩) 1 1) [⟨3, [0], [], 2⟩] ∧ Reads w2 (.slice (some ⟨Q1, 0, none⟩) 1 1) [0]) := ⟨a1.below b2, c1.below b2⟩
 have HK2 : Hid (Blk w2 G2 25 #[.slice (some ⟨P2, 0, none⟩) 1 1, .slice (some ⟨Q2, 0, none⟩) 1 1]) := k2
 have HA2 : Hid (ReadsA w2 (.slice (some ⟨P2, 0, none⟩) 1 1) [⟨3, [0], [], 1⟩] ∧ Reads w2 (.slice (some ⟨Q2, 0, none⟩) 1 1) [0]) := ⟨a2, c2⟩
 clear b1 b2 k1 k2 a1 a2 c1 c2
 go_enter Tryz.func5, Tryz.ntmps5
 go_upto_region 2 with fail
 rw [← hG1, ← hQ1, ← hP1, ← hw1]
 clear hP1 hQ1 hG1 hw1
 go_upto_region 3 with fail
 rw [← hG2, ← hQ2, ← hP2, ← hw2]
 clear hP2 hQ2 hG2 hw2
 obtain ⟨w3, hw3⟩ := nm (w2.alloc (.cells #[.slice (some ⟨P1, 0, none⟩) 1 1, .slice (some ⟨Q1, 0, none⟩) 1 1] 25))
 obtain ⟨G3, hG3⟩ := nm w2.heap.size
 have b3 : Below w2.heap.size w2 w3 := by rw [hw3]; exact below_alloc1 _ _
 have HB3 := hide (HB2.out.trans (b3.mono HB2.out.size))
 have HR3 : Hid (ReadsF w3 (.slice (some ⟨G3, 0, none⟩) 1 1) [⟨[⟨3, [0], [], 2⟩], [0]⟩]) := by
  have k3 : Blk w3 G3 25 #[.slice (some ⟨P1, 0, none⟩) 1 1, .slice (some ⟨Q1, 0, none⟩) 1 1] := by rw [hw3, hG3]; exact Blk.new _ _ _
  refine Or.inr ⟨G3, 0, 1, rfl, k3.lt, by simp, ⟨by simp, by simp⟩, fun i x hx => ?_⟩
  cases i with
  | zero =>
   obtain rfl : (⟨[⟨3, [0], [], 2⟩], [0]⟩ : Fm) = x := by simpa using hx
   exact ⟨_, _, k3.cell 0, k3.cell 1, HA1.out.1.below b3, HA1.out.2.below b3⟩
  | succ i => simp at hx
 have HA3 : Hid (ReadsA w3 (.slice (some ⟨P2, 0, none⟩) 1 1) [⟨3, [0], [], 1⟩] ∧ Reads w3 (.slice (some ⟨Q2, 0, none⟩) 1 1) [0]) := ⟨HA2.out.1.below b3, HA2.out.2.below b3⟩
 have x0 : w2.cell? ⟨G1, 0, none⟩ = some (.slice (some ⟨P1, 0, none⟩) 1 1) := HK1.out.cell 0
 have x1 : w2.cell? ⟨G1, 1, none⟩ = some (.slice (some ⟨Q1, 0, none⟩) 1 1) := HK1.out.cell 1
 have y0 : (w2.alloc (.cells #[.slice (some ⟨P1, 0, none⟩) 1 1, .slice (some ⟨Q1, 0, none⟩) 1 1] 25)).cell? ⟨G2, 0, none⟩ = some (.slice (some ⟨P2, 0, none⟩) 1 1) := by rw [← hw3]; exact (HK2.out.below b3).cell 0
 have y1 : (w2.alloc (.cells #[.slice (some ⟨P1, 0, none⟩) 1 1, .slice (some ⟨Q1, 0, none⟩) 1 1] 25)).cell? ⟨G2, 1, none⟩ = some (.slice (some ⟨Q2, 0, none⟩) 1 1) := by rw [← hw3]; exact (HK2.out.below b3).cell 1
 clear b3
 go_wp2_with fail
 rw [← hw3, ← hG3]
 clear hw3 hG3 x0 x1 y0 y1
 go_at_call 21
 refine (HOf.out _ _ _ _ HB3.out HR3.out HA3.out.1 HA3.out.2).mono ?_
 rintro e w4 ⟨rfl, hb⟩
 have HB4 := hide (HB3.out.trans (hb.mono HB3.out.size))
 clear hb
 go_wp2
 go_ret
 exact ⟨rfl, HB4.out⟩
end Go.Proofs.YtjaedfjfcghgcabGreatDoor
namespace Go.Proofs.YtjaedfjfcghgcabGreatDoor
open Go.RowKit
def onceB (l : List Int) : Bool := (List.range l.length).all fun i => decide (l.count (i : Int) = 1)
def listP (p : Nat → Int) : List Int := [p 0, p 1, p 2]
def renS (p : Nat → Int) (s : Int) : Int := if s < 3 then p s.toNat else s
def renT (p : Nat → Int) (t : List Int) : List Int := t.map (renS p)
def renA (p : Nat → Int) (a : At) : At := ⟨a.k, renT p a.s, renT p a.t, a.n⟩
def renL (p : Nat → Int) (ats : List At) : List At := ats.map (renA p)
def pickN (p : Nat → Int) (w : Wd) (j : Int) : Int := if p 0 = j then w.a else if p 1 = j then w.b else w.c
def turnW (p : Nat → Int) (w : Wd) : Wd := ⟨w.u, pickN p w 0, pickN p w 1, pickN p w 2⟩
def namesFault (ats : List At) (c : List Int) (p : Nat → Int) : Int := if formFault ats c = 0 then (if onceB (listP p) = true then 0 else 1) else formFault ats c
def turnFault (p : Nat → Int) (w : Wd) : Int := if onceB (listP p) = true then (if w.ok = true then 0 else 1) else 1
theorem perm_six {p : Nat → Int} (h : onceB (listP p) = true) : (p 0 = 0 ∧ p 1 = 1 ∧ p 2 = 2) ∨ (p 0 = 0 ∧ p 1 = 2 ∧ p 2 = 1) ∨ (p 0 = 1 ∧ p 1 = 0 ∧ p 2 = 2) ∨ (p 0 = 1 ∧ p 1 = 2 ∧ p 2 = 0) ∨ (p 0 = 2 ∧ p 1 = 0 ∧ p 2 = 1) ∨ (p 0 = 2 ∧ p 1 = 1 ∧ p 2 = 0) := by
 have key : ∀ x : Int, x = 0 ∨ x = 1 ∨ x = 2 ∨ ((x == 0) = false ∧ (x == 1) = false ∧ (x == 2) = false) := fun x => by
  by_cases h0 : x = 0
  ·exact Or.inl h0
  ·by_cases h1 : x = 1
   ·exact Or.inr (Or.inl h1)
   ·by_cases h2 : x = 2
    ·exact Or.inr (Or.inr (Or.inl h2))
    ·exact Or.inr (Or.inr (Or.inr ⟨by simp [h0], by simp [h1], by simp [h2]⟩))
 unfold onceB listP at h
 generalize p 0 = a at h ⊢
 generalize p 1 = b at h ⊢
 generalize p 2 = c at h ⊢
 have c0 : [a, b, c].count 0 = 1 := of_decide_eq_true (List.all_eq_true.1 h 0 (by simp))
 have c1 : [a, b, c].count 1 = 1 := of_decide_eq_true (List.all_eq_true.1 h 1 (by simp))
 have c2 : [a, b, c].count 2 = 1 := of_decide_eq_true (List.all_eq_true.1 h 2 (by simp))
 clear h
 rcases key a with rfl | rfl | rfl | ⟨a0, a1, a2⟩ <;> rcases key b with rfl | rfl | rfl | ⟨b0, b1, b2⟩ <;> rcases key c with rfl | rfl | rfl | ⟨d0, d1, d2⟩ <;> simp_all [List.count_cons]
theorem ren_low {p : Nat → Int} (h : onceB (listP p) = true) {i : Nat} (hi : i < 3) : 0 ≤ p i ∧ p i ≤ 2 := by
 rcases (by omega : i = 0 ∨ i = 1 ∨ i = 2) with rfl | rfl | rfl <;> rcases perm_six h with ⟨a, b, c⟩ | ⟨a, b, c⟩ | ⟨a, b, c⟩ | ⟨a, b, c⟩ | ⟨a, b, c⟩ | ⟨a, b, c⟩ <;> omega
theorem ren_name {p : Nat → Int} (h : onceB (listP p) = true) (w : Wd) {i : Nat} (hi : i < 3) : (turnW p w).name (p i) = w.name (i : Int) := by
 rcases (by omega : i = 0 ∨ i = 1 ∨ i = 2) with rfl | rfl | rfl <;> rcases perm_six h with ⟨a, b, c⟩ | ⟨a, b, c⟩ | ⟨a, b, c⟩ | ⟨a, b, c⟩ | ⟨a, b, c⟩ | ⟨a, b, c⟩ <;> simp [turnW, pickN, Wd.name, a, b, c]
theorem ren_takes {p : Nat → Int} (h : onceB (listP p) = true) {s : Int} (h0 : 0 ≤ s) : takesN (renS p s) = takesN s := by
 unfold renS
 by_cases h3 : s < 3
 ·rw [if_pos h3, takes5 s (by omega), takes5 _ (by have := (ren_low h (i := s.toNat) (by omega)).2; omega)]
 ·rw [if_neg h3]
theorem ren_made {p : Nat → Int} (h : onceB (listP p) = true) (w : Wd) {s : Int} (h0 : 0 ≤ s) (l : List Int) : (turnW p w).made (renS p s) l = w.made s l := by
 unfold renS
 by_cases h3 : s < 3
 ·have hl := ren_low h (i := s.toNat) (by omega)
  rw [if_pos h3]
  unfold Wd.made
  rw [if_pos (by omega), if_pos h3, ren_name h w (by omega)]
  congr 1
  omega
 ·rw [if_neg h3]
  unfold Wd.made
  rw [if_neg h3, if_neg h3]
  rfl
theorem ren_step {p : Nat → Int} (h : onceB (listP p) = true) (w : Wd) {s : Int} (h0 : 0 ≤ s) (l : List Int) : (turnW p w).step l (renS p s) = w.step l s := by
 unfold Wd.step restN
 rw [ren_takes h h0, ren_made h w h0]
theorem ren_pile {p : Nat → Int} (h : onceB (listP p) = true) (w : Wd) : ∀ (t : List Int), (∀ s ∈ t, 0 ≤ s) → ∀ l, (turnW p w).pile (renT p t) l = w.pile t l := by
 intro t
 induction t with
 | nil => intro _ l; rfl
 | cons s t ih =>
  intro hs l
  have e1 : (turnW p w).pile (renT p (s :: t)) l = (turnW p w).pile (renT p t) ((turnW p w).step l (renS p s)) := rfl
  have e2 : w.pile (s :: t) l = w.pile t (w.step l s) := rfl
  rw [e1, e2, ren_step h w (hs s List.mem_cons_self), ih fun x hx => hs x (List.mem_cons_of_mem _ hx)]
theorem ren_val {p : Nat → Int} (h : onceB (listP p) = true) (w : Wd) {t : List Int} (hs : ∀ s ∈ t, 0 ≤ s) : (turnW p w).val (renT p t) = w.val t := by
 unfold Wd.val
 rw [ren_pile h w t hs]
theorem signs_pos {t : List Int} (h : t.all signB = true) : ∀ s ∈ t, 0 ≤ s := fun s hs => (signB_iff.1 (List.all_eq_true.1 h s hs)).1
theorem ren_cnt {p : Nat → Int} (h : onceB (listP p) = true) : ∀ (t : List Int), (∀ s ∈ t, 0 ≤ s) → ∀ n, cnt (renT p t) n = cnt t n := by
 intro t
 induction t with
 | nil => intro _ n; rfl
 | cons s t ih =>
  intro hs n
  show (if n < takesN (renS p s) then none else cnt (renT p t) (n + 1 - takesN (renS p s))) = (if n < takesN s then none else cnt t (n + 1 - takesN s))
  rw [ren_takes h (hs s List.mem_cons_self), ih fun x hx => hs x (List.mem_cons_of_mem _ hx)]
theorem ren_sign {p : Nat → Int} (h : onceB (listP p) = true) {s : Int} (hs : signB s = true) : signB (renS p s) = true := by
 obtain ⟨h0, h8⟩ := signB_iff.1 hs
 unfold renS
 by_cases h3 : s < 3
 ·have hl := ren_low h (i := s.toNat) (by omega)
  rw [if_pos h3]; exact signB_iff.2 ⟨hl.1, by omega⟩
 ·rw [if_neg h3]; exact hs
theorem ren_fault {p : Nat → Int} (h : onceB (listP p) = true) {t : List Int} (ht : faultN t = 0) : faultN (renT p t) = 0 := by
 obtain ⟨h1, h2, h3, h4⟩ := fault_zero.1 ht
 have hl : (renT p t).length = t.length := by unfold renT; simp
 refine fault_zero.2 ⟨by rw [hl]; exact h1, by rw [hl]; exact h2, ?_, by rw [ren_cnt h t (signs_pos h3)]; exact h4⟩
 rw [List.all_eq_true]
 intro x hx
 unfold renT at hx
 obtain ⟨s, hs, rfl⟩ := List.mem_map.1 hx
 exact ren_sign h (List.all_eq_true.1 h3 s hs)
theorem ren_atom {p : Nat → Int} (h : onceB (listP p) = true) {a : At} (ha : a.fault = 0) : (renA p a).fault = 0 := by
 obtain ⟨hk, hs, ht, hn⟩ := atomFault_zero.1 ha
 refine atomFault_zero.2 ⟨hk, ren_fault h hs, ?_, hn⟩
 unfold secondFault at ht ⊢
 show (if secondB a.k = true then faultN (renT p a.t) else if 0 < (renT p a.t).length then 3 else 0) = 0
 by_cases hb : secondB a.k = true
 ·rw [if_pos hb] at ht ⊢; exact ren_fault h ht
 ·rw [if_neg hb] at ht ⊢
  have hl : (renT p a.t).length = a.t.length := by unfold renT; simp
  rw [hl]; exact ht
theorem ren_form {p : Nat → Int} (h : onceB (listP p) = true) {ats : List At} {c : List Int} (hf : formFault ats c = 0) : formFault (renL p ats) c = 0 := by
 obtain ⟨h1, h2, h3, h4, h5⟩ := formFault_zero.1 hf
 have hl : (renL p ats).length = ats.length := by unfold renL; simp
 refine formFault_zero.2 ⟨by rw [hl]; exact h1, h2, fun a ha => ?_, by rw [hl]; exact h4, h5⟩
 unfold renL at ha
 obtain ⟨b, hb, rfl⟩ := List.mem_map.1 ha
 exact ren_atom h (h3 b hb)
theorem turnW_ok {p : Nat → Int} (h : onceB (listP p) = true) (w : Wd) : (turnW p w).ok = w.ok := by
 rw [Bool.eq_iff_iff, Wd.ok_iff, Wd.ok_iff]
 rcases perm_six h with ⟨a, b, c⟩ | ⟨a, b, c⟩ | ⟨a, b, c⟩ | ⟨a, b, c⟩ | ⟨a, b, c⟩ | ⟨a, b, c⟩
 ·rw [show turnW p w = ⟨w.u, w.a, w.b, w.c⟩ by unfold turnW pickN; rw [a, b]; rfl]
 ·rw [show turnW p w = ⟨w.u, w.a, w.c, w.b⟩ by unfold turnW pickN; rw [a, b]; rfl]
  exact ⟨fun ⟨x, y, z⟩ => ⟨x, z, y⟩, fun ⟨x, y, z⟩ => ⟨x, z, y⟩⟩
 ·rw [show turnW p w = ⟨w.u, w.b, w.a, w.c⟩ by unfold turnW pickN; rw [a, b]; rfl]
  exact ⟨fun ⟨x, y, z⟩ => ⟨y, x, z⟩, fun ⟨x, y, z⟩ => ⟨y, x, z⟩⟩
 ·rw [show turnW p w = ⟨w.u, w.c, w.a, w.b⟩ by unfold turnW pickN; rw [a, b]; rfl]
  exact ⟨fun ⟨x, y, z⟩ => ⟨y, z, x⟩, fun ⟨x, y, z⟩ => ⟨z, x, y⟩⟩
 ·rw [show turnW p w = ⟨w.u, w.b, w.c, w.a⟩ by unfold turnW pickN; rw [a, b]; rfl]
  exact ⟨fun ⟨x, y, z⟩ => ⟨z, x, y⟩, fun ⟨x, y, z⟩ => ⟨y, z, x⟩⟩
 ·rw [show turnW p w = ⟨w.u, w.c, w.b, w.a⟩ by unfold turnW pickN; rw [a, b]; rfl]
  exact ⟨fun ⟨x, y, z⟩ => ⟨z, y, x⟩, fun ⟨x, y, z⟩ => ⟨z, y, x⟩⟩
theorem ren_held {p : Nat → Int} (h : onceB (listP p) = true) (w : Wd) {ats : List At} {c : List Int} (hf : formFault ats c = 0) : (turnW p w).heldL (renL p ats) = w.heldL ats := by
 obtain ⟨_, _, h3, _⟩ := formFault_zero.1 hf
 unfold Wd.heldL renL
 rw [List.map_map]
 refine List.map_congr_left fun a ha => ?_
 obtain ⟨hk, hs, ht, hn⟩ := atomFault_zero.1 (h3 a ha)
 show (turnW p w).holds a.k (renT p a.s) (renT p a.t) a.n = w.holds a.k a.s a.t a.n
 unfold Wd.holds Wd.snd
 rw [ren_val h w (signs_pos (fault_zero.1 hs).2.2.1)]
 by_cases hb : secondB a.k = true
 ·rw [if_pos hb, if_pos hb]
  unfold secondFault at ht
  rw [if_pos hb] at ht
  rw [ren_val h w (signs_pos (fault_zero.1 ht).2.2.1)]
 ·rw [if_neg hb, if_neg hb]
theorem ren_is {p : Nat → Int} (h : onceB (listP p) = true) (w : Wd) {ats : List At} {c : List Int} (hf : formFault ats c = 0) : (turnW p w).formIs (renL p ats) c = w.formIs ats c := by
 unfold Wd.formIs
 by_cases hok : w.ok = true
 ·rw [if_pos (wdForm_zero.2 ⟨hf, hok⟩), if_pos (wdForm_zero.2 ⟨ren_form h hf, by rw [turnW_ok h]; exact hok⟩), ren_held h w hf]
 ·rw [if_neg (fun g => hok (wdForm_zero.1 g).2), if_neg (fun g => hok (by rw [← turnW_ok h]; exact (wdForm_zero.1 g).2))]
end Go.Proofs.YtjaedfjfcghgcabGreatDoor
namespace Go.Proofs.YtjaedfjfcghgcabGreatDoor
open Go.RowKit
def movedN (q : List Int) (x : Int) : Nat → Int
 | 0 => 0
 | i + 1 => movedN q x i + if hasB x i = true then pw (q.getD i 0).toNat else 0
def thingsW (q : List Int) (w : Wd) : Wd := ⟨w.u, movedN q w.a w.u.toNat, movedN q w.b w.u.toNat, movedN q w.c w.u.toNat⟩
def thingsFault (w : Wd) (q : List Int) : Int := if w.ok = true then (if (q.length : Int) = w.u then (if onceB q = true then 0 else 1) else 3) else 1
def turnA (p : Nat → Int) (w : Wd) : Wd := if turnFault p w = 0 then turnW p w else ⟨0, 0, 0, 0⟩
def thingsA (w : Wd) (q : List Int) : Wd := if thingsFault w q = 0 then thingsW q w else ⟨0, 0, 0, 0⟩
theorem names_zero {p : Nat → Int} {ats : List At} {c : List Int} : namesFault ats c p = 0 ↔ formFault ats c = 0 ∧ onceB (listP p) = true := by
 unfold namesFault
 by_cases h : formFault ats c = 0
 ·rw [if_pos h]
  by_cases g : onceB (listP p) = true
  ·rw [if_pos g]; exact ⟨fun _ => ⟨h, g⟩, fun _ => rfl⟩
  ·rw [if_neg g]; exact ⟨fun x => absurd x (by decide), fun x => absurd x.2 g⟩
 ·rw [if_neg h]; exact ⟨fun x => absurd x h, fun x => absurd x.1 h⟩
theorem count_sum (u : Nat) : ∀ l : List Int, (((List.range u).map fun i : Nat => l.count (i : Int)).sum) = (l.filter fun x => decide (0 ≤ x ∧ x < (u : Int))).length := by
 have one : ∀ (a : Int) (n : Nat), ((List.range n).map fun i : Nat => if a = (i : Int) then 1 else 0).sum = if 0 ≤ a ∧ a < (n : Int) then 1 else 0 := by
  intro a n
  induction n with
  | zero => simp
  | succ n ih =>
   rw [List.range_succ, List.map_append, List.sum_append, ih]
   simp only [List.map_cons, List.map_nil, List.sum_cons, List.sum_nil]
   by_cases h1 : a = (n : Int)
   ·rw [if_pos h1, if_neg (by omega), if_pos (by omega)]; rfl
   ·rw [if_neg h1]
    by_cases h2 : 0 ≤ a ∧ a < (n : Int)
    ·rw [if_pos h2, if_pos (by omega)]; rfl
    ·rw [if_neg h2, if_neg (by omega)]; rfl
 have add : ∀ (f g : Nat → Nat) (n : Nat), ((List.range n).map fun i : Nat => f i + g i).sum = ((List.range n).map f).sum + ((List.range n).map g).sum := by
  intro f g n
  induction n with
  | zero => rfl
  | succ n ih => rw [List.range_succ, List.map_append, List.map_append, List.map_append, List.sum_append, List.sum_append, List.sum_append, ih]; simp; omega
 intro l
 induction l with
 | nil =>
  have : ∀ n, ((List.range n).map fun i : Nat => ([] : List Int).count (i : Int)).sum = 0 := by
   intro n
   induction n with
   | zero => rfl
   | succ n ih => rw [List.range_succ, List.map_append, List.sum_append, ih]; simp
  rw [this]; rfl
 | cons a l ih =>
  have e : (fun i : Nat => (a :: l).count (i : Int)) = fun i : Nat => l.count (i : Int) + if a = (i : Int) then 1 else 0 := by
   funext i
   rw [List.count_cons]
   by_cases h : a = (i : Int)
   ·simp [h]
   ·simp [h]
  rw [e, add, ih, one, List.filter_cons]
  by_cases h : 0 ≤ a ∧ a < (u : Int)
  ·rw [if_pos h, if_pos (decide_eq_true h)]; simp
  ·rw [if_neg h, if_neg (by simpa using h)]; simp
theorem once_in {q : List Int} (h : onceB q = true) : (∀ i, i < q.length → q.count (i : Int) = 1) ∧ ∀ x ∈ q, 0 ≤ x ∧ x < (q.length : Int) := by
 have h1 : ∀ i, i < q.length → q.count (i : Int) = 1 := fun i hi => of_decide_eq_true (List.all_eq_true.1 h i (List.mem_range.2 hi))
 have hs := count_sum q.length q
 have e : ((List.range q.length).map fun i : Nat => q.count (i : Int)) = (List.range q.length).map fun _ : Nat => 1 := List.map_congr_left fun i hi => h1 i (List.mem_range.1 hi)
 rw [e] at hs
 have hlen : ∀ n, ((List.range n).map fun _ : Nat => 1).sum = n := by
  intro n
  induction n with
  | zero => rfl
  | succ n ih => rw [List.range_succ, List.map_append, List.sum_append, ih]; simp
 rw [hlen] at hs
 refine ⟨h1, fun x hx => ?_⟩
 have := (List.length_filter_eq_length_iff (p := fun x : Int => decide (0 ≤ x ∧ x < (q.length : Int)))).1 hs.symm x hx
 exact of_decide_eq_true this
theorem perm_sum {α : Type} {l l' : List α} (h : l.Perm l') (f : α → Int) : (l.map f).sum = (l'.map f).sum := by
 induction h with
 | nil => rfl
 | cons a _ ih => simp only [List.map_cons, List.sum_cons]; rw [ih]
 | swap a b l => simp only [List.map_cons, List.sum_cons]; omega
 | trans _ _ ih1 ih2 => rw [ih1, ih2]
def placeN (q : List Int) (j : Int) : Nat := q.findIdx fun x => x == j
theorem fc_sum (w : Wd) (f : Nat) : ∀ n, w.fc n f = ((List.range n).map fun i : Nat => if w.field i = f then (1 : Int) else 0).sum := by
 intro n
 induction n with
 | zero => rfl
 | succ n ih =>
  rw [List.range_succ, List.map_append, List.sum_append, ← ih]
  simp [Wd.fc]
end Go.Proofs.YtjaedfjfcghgcabGreatDoor
namespace Go.Proofs.YtjaedfjfcghgcabGreatDoor
open Go.RowKit
def facN : Nat → Int
 | 0 => 1
 | n + 1 => ((n : Int) + 1) * facN n
def downN (w : Int) : Nat → Int
 | 0 => w
 | 1 => w
 | k + 2 => (downN w (k + 1)).tdiv ((k : Int) + 2)
def likeTo (N : Nat → Int) : Nat → Int
 | 0 => facN (sumN N 8).toNat
 | i + 1 => downN (likeTo N i) (N i).toNat
def likeN (N : Nat → Int) : Int := likeTo N 8
def eightN : Nat → Int
 | 0 => 1
 | n + 1 => eightN n * 8
def sumL (p : (Nat → Int) → Bool) : List (Nat → Int) → Int
 | [] => 0
 | N :: A => (if p N = true then likeN N else 0) + sumL p A
theorem likeTo_same {N M : Nat → Int} (h : ∀ g, g < 8 → N g = M g) : ∀ i, i ≤ 8 → likeTo N i = likeTo M i := by
 intro i
 induction i with
 | zero =>
  intro _
  have e : ∀ k, k ≤ 8 → sumN N k = sumN M k := by
   intro k
   induction k with
   | zero => intro _; rfl
   | succ k ih => intro hk; unfold sumN; rw [ih (by omega), h k (by omega)]
  show facN _ = facN _
  rw [e 8 (by omega)]
 | succ i ih =>
  intro hi
  show downN _ _ = downN _ _
  rw [ih (by omega), h i (by omega)]
theorem likeN_same {N M : Nat → Int} (h : ∀ g, g < 8 → N g = M g) : likeN N = likeN M := likeTo_same h 8 (by omega)
theorem like_facts : ∀ u, u ≤ 6 → ((everyC u).all fun N => decide (1 ≤ likeN N)) = true ∧ sumL (fun _ => true) (everyC u) = eightN u := by decide +kernel
theorem like_pos {u : Nat} (hu : u ≤ 6) {N : Nat → Int} (h : N ∈ everyC u) : 1 ≤ likeN N := of_decide_eq_true (List.all_eq_true.1 (like_facts u hu).1 N h)
theorem eight_le : ∀ u, u ≤ 6 → eightN u ≤ 262144 := by decide
theorem sumL_take {p : (Nat → Int) → Bool} : ∀ {A : List (Nat → Int)} {k : Nat} {N : Nat → Int}, A[k]? = some N → sumL p (A.take (k + 1)) = sumL p (A.take k) + if p N = true then likeN N else 0 := by
 intro A
 induction A with
 | nil => intro k N h; simp at h
 | cons M A ih =>
  intro k N h
  cases k with
  | zero =>
   obtain rfl : M = N := by simpa using h
   simp [sumL]
  | succ k =>
   have := ih (k := k) (N := N) (by simpa using h)
   simp only [List.take_succ_cons, sumL]
   rw [this]
   omega
theorem sumL_part {A : List (Nat → Int)} (hp : ∀ N ∈ A, 0 ≤ likeN N) {p : (Nat → Int) → Bool} : ∀ k, sumL p (A.take k) ≤ sumL p A := by
 induction A with
 | nil => intro k; simp
 | cons M A ih =>
  intro k
  have h1 := hp M List.mem_cons_self
  have h2 := ih fun N hN => hp N (List.mem_cons_of_mem _ hN)
  cases k with
  | zero =>
   have h3 := h2 0
   simp only [List.take_zero, sumL] at h3 ⊢
   by_cases h : p M = true
   ·rw [if_pos h]; omega
   ·rw [if_neg h]; omega
  | succ k =>
   have := h2 k
   simp only [List.take_succ_cons, sumL]
   omega
theorem sumL_range {A : List (Nat → Int)} (hp : ∀ N ∈ A, 1 ≤ likeN N) (p : (Nat → Int) → Bool) : 0 ≤ sumL p A ∧ sumL p A ≤ sumL (fun _ => true) A := by
 induction A with
 | nil => exact ⟨Int.le_refl _, Int.le_refl _⟩
 | cons N A ih =>
  have h1 := hp N List.mem_cons_self
  have h2 := ih fun M hM => hp M (List.mem_cons_of_mem _ hM)
  simp only [sumL, if_true]
  by_cases h : p N = true
  ·rw [if_pos h]; omega
  ·rw [if_neg h]; omega
theorem sumL_has {A : List (Nat → Int)} (hp : ∀ N ∈ A, 1 ≤ likeN N) {p : (Nat → Int) → Bool} {N : Nat → Int} (hN : N ∈ A) (h : p N = true) : likeN N ≤ sumL p A := by
 induction A with
 | nil => cases hN
 | cons M A ih =>
  have h1 := hp M List.mem_cons_self
  have h2 := sumL_range (fun M hM => hp M (List.mem_cons_of_mem _ hM)) p
  simp only [sumL]
  rcases List.mem_cons.1 hN with rfl | hN
  ·rw [if_pos h]; omega
  ·have := ih (fun M hM => hp M (List.mem_cons_of_mem _ hM)) hN
   by_cases hm : p M = true
   ·rw [if_pos hm]; omega
   ·rw [if_neg hm]; omega
def allFault (u : Int) : Int := if 0 ≤ u ∧ u ≤ 6 then 0 else 1
def allW (u : Int) : Int := if 0 ≤ u ∧ u ≤ 6 then eightN u.toNat else 0
def likeW (w : Wd) : Int := if w.ok = true then likeN (w.fc w.u.toNat) else 0
def worldsFault (ats : List At) (c : List Int) (u : Int) : Int := if formFault ats c = 0 then allFault u else formFault ats c
def worldsN (ats : List At) (c : List Int) (u : Int) : Int := if worldsFault ats c u = 0 then sumL (fun N => (madeN N 8).formIs ats c) (everyC u.toNat) else 0
theorem worlds_zero {ats : List At} {c : List Int} {u : Int} (h : worldsFault ats c u = 0) : formFault ats c = 0 ∧ (0 ≤ u ∧ u ≤ 6) := by
 unfold worldsFault at h
 by_cases hf : formFault ats c = 0
 ·rw [if_pos hf] at h
  unfold allFault at h
  by_cases hu : 0 ≤ u ∧ u ≤ 6
  ·exact ⟨hf, hu⟩
  ·rw [if_neg hu] at h; exact absurd h (by decide)
 ·rw [if_neg hf] at h; exact absurd h hf
end Go.Proofs.YtjaedfjfcghgcabGreatDoor
namespace Go.Proofs.YtjaedfjfcghgcabGreatDoor
open Go.RowKit
def bitN (g k : Nat) : Nat := g / 2 ^ k % 2
def tauN (p : Nat → Nat) (g : Nat) : Nat := bitN g (p 0) + 2 * bitN g (p 1) + 4 * bitN g (p 2)
def tup (N : Nat → Int) : List Int := [N 0, N 1, N 2, N 3, N 4, N 5, N 6, N 7]
def untup (t : List Int) : Nat → Int := fun i => t.getD i 0
def tauL (p : Nat → Nat) (t : List Int) : List Int := tup fun g => untup t (tauN p g)
def sixP (i : Nat) : Nat → Nat := fun k => ([[0, 1, 2], [0, 2, 1], [1, 0, 2], [1, 2, 0], [2, 0, 1], [2, 1, 0]].getD i []).getD k 0
theorem tup_same (N : Nat → Int) {g : Nat} (hg : g < 8) : untup (tup N) g = N g := by
 rcases eight hg with rfl | rfl | rfl | rfl | rfl | rfl | rfl | rfl <;> rfl
theorem tau_facts : ∀ i, i < 6 → (∀ g, g < 8 → tauN (sixP i) g < 8) ∧ ∀ g, g < 8 → ∀ h, h < 8 → tauN (sixP i) g = tauN (sixP i) h → g = h := by decide
theorem like_turn : ∀ u, u < 5 → ∀ i, i < 6 → ((everyC u).all fun N => decide (likeN (fun g => N (tauN (sixP i) g)) = likeN N)) = true := by decide +kernel
theorem tau_perm : ∀ i, i < 6 → ((List.range 8).map (tauN (sixP i))).isPerm (List.range 8) = true := by decide
def invI (i : Nat) : Nat := [0, 1, 2, 4, 3, 5].getD i 0
theorem tau_inv : ∀ i, i < 6 → invI i < 6 ∧ ∀ g, g < 8 → tauN (sixP (invI i)) (tauN (sixP i) g) = g := by decide
theorem tup_eq {N M : Nat → Int} (h : ∀ g, g < 8 → N g = M g) : tup N = tup M := by
 unfold tup
 rw [h 0 (by omega), h 1 (by omega), h 2 (by omega), h 3 (by omega), h 4 (by omega), h 5 (by omega), h 6 (by omega), h 7 (by omega)]
theorem tup_inj {N M : Nat → Int} (h : tup N = tup M) : ∀ g, g < 8 → N g = M g := fun g hg => by rw [← tup_same N hg, ← tup_same M hg, h]
theorem tauL_tup (q : Nat → Nat) (hq : ∀ g, g < 8 → q g < 8) (N : Nat → Int) (p : Nat → Nat) (hp : tauN p = q) : tauL p (tup N) = tup fun g => N (q g) := by
 unfold tauL
 refine tup_eq fun g hg => ?_
 rw [hp]
 exact tup_same N (hq g hg)
theorem sum_range (N : Nat → Int) : sumN N 8 = ((List.range 8).map N).sum := by
 simp [sumN, List.range, List.range.loop]
 omega
theorem every_tau {u i : Nat} (hi : i < 6) {N : Nat → Int} (hN : N ∈ everyC u) : tup (fun g => N (tauN (sixP i) g)) ∈ (everyC u).map tup := by
 have h8 := (tau_facts i hi).1
 obtain ⟨h1, h2⟩ := everyC_sum hN
 have hs : sumN (fun g => N (tauN (sixP i) g)) 8 = u := by
  rw [sum_range, ← h2, sum_range, ← perm_sum (List.isPerm_iff.1 (tau_perm i hi)) N, List.map_map]
  rfl
 obtain ⟨A, hA, hAg⟩ := everyC_all (u := u) (M := fun g => N (tauN (sixP i) g)) (fun g hg => (h1 _ (h8 g hg)).1) hs
 exact List.mem_map.2 ⟨A, hA, tup_eq hAg⟩
theorem tups_nodup (u : Nat) : ((everyC u).map tup).Nodup := by
 unfold List.Nodup
 rw [List.pairwise_iff_getElem]
 intro a b ha hb hab e
 simp only [List.length_map] at ha hb
 simp only [List.getElem_map] at e
 have := everyC_once (List.getElem?_eq_getElem ha) (List.getElem?_eq_getElem hb) (tup_inj e)
 omega
theorem tau_count {u i : Nat} (hi : i < 6) : (((everyC u).map tup).map (tauL (sixP i))).Perm ((everyC u).map tup) := by
 have h8 := (tau_facts i hi).1
 have hT := fun N => tauL_tup (tauN (sixP i)) h8 N (sixP i) rfl
 obtain ⟨hj, hinv⟩ := tau_inv i hi
 have hn1 : (((everyC u).map tup).map (tauL (sixP i))).Nodup := by
  unfold List.Nodup
  rw [List.pairwise_iff_getElem]
  intro a b ha hb hab e
  simp only [List.length_map] at ha hb
  simp only [List.getElem_map] at e
  rw [hT, hT] at e
  have e' := tup_inj e
  have : ∀ g, g < 8 → (everyC u)[a] g = (everyC u)[b] g := fun g hg => by
   obtain ⟨k, hk, hkg⟩ : ∃ k, k < 8 ∧ tauN (sixP i) k = g := by
    have := (List.isPerm_iff.1 (tau_perm i hi)).mem_iff.2 (List.mem_range.2 hg)
    obtain ⟨k, hk, e⟩ := List.mem_map.1 this
    exact ⟨k, List.mem_range.1 hk, e⟩
   rw [← hkg]
   exact e' k hk
  have := everyC_once (List.getElem?_eq_getElem ha) (List.getElem?_eq_getElem hb) this
  omega
 have hmem : ∀ t, t ∈ ((everyC u).map tup).map (tauL (sixP i)) ↔ t ∈ (everyC u).map tup := fun t => by
  constructor
  ·intro h
   obtain ⟨x, hx, rfl⟩ := List.mem_map.1 h
   obtain ⟨N, hN, rfl⟩ := List.mem_map.1 hx
   rw [hT]
   exact every_tau hi hN
  ·intro h
   obtain ⟨N, hN, rfl⟩ := List.mem_map.1 h
   refine List.mem_map.2 ⟨_, every_tau hj hN, ?_⟩
   rw [hT]
   exact tup_eq fun g hg => by rw [hinv g hg]
 rw [List.perm_iff_count]
 intro a
 have c1 := List.nodup_iff_count.1 hn1 a
 have c2 := List.nodup_iff_count.1 (tups_nodup u) a
 by_cases h : a ∈ (everyC u).map tup
 ·have p1 := List.count_pos_iff.2 ((hmem a).2 h)
  have p2 := List.count_pos_iff.2 h
  omega
 ·rw [List.count_eq_zero.2 h, List.count_eq_zero.2 fun g => h ((hmem a).1 g)]
theorem six_of {p : Nat → Int} (h : onceB (listP p) = true) : ∃ i, i < 6 ∧ p 0 = (sixP i 0 : Nat) ∧ p 1 = (sixP i 1 : Nat) ∧ p 2 = (sixP i 2 : Nat) := by
 rcases perm_six h with ⟨a, b, c⟩ | ⟨a, b, c⟩ | ⟨a, b, c⟩ | ⟨a, b, c⟩ | ⟨a, b, c⟩ | ⟨a, b, c⟩
 ·exact ⟨0, by decide, a, b, c⟩
 ·exact ⟨1, by decide, a, b, c⟩
 ·exact ⟨2, by decide, a, b, c⟩
 ·exact ⟨3, by decide, a, b, c⟩
 ·exact ⟨4, by decide, a, b, c⟩
 ·exact ⟨5, by decide, a, b, c⟩
theorem tau_bits : ∀ i, i < 6 → ∀ x y z : Bool, tauN (sixP i) ((if sixP i 0 = 0 then x else if sixP i 1 = 0 then y else z).toNat + 2 * (if sixP i 0 = 1 then x else if sixP i 1 = 1 then y else z).toNat + 4 * (if sixP i 0 = 2 then x else if sixP i 1 = 2 then y else z).toNat) = x.toNat + 2 * y.toNat + 4 * z.toNat := by decide
theorem turn_field {p : Nat → Int} {i : Nat} (hi : i < 6) (h0 : p 0 = (sixP i 0 : Nat)) (h1 : p 1 = (sixP i 1 : Nat)) (w : Wd) (t : Nat) : tauN (sixP i) ((turnW p w).field t) = w.field t := by
 have hb := tau_bits i hi (hasB w.a t) (hasB w.b t) (hasB w.c t)
 have e : ∀ j : Nat, hasB (pickN p w (j : Int)) t = if sixP i 0 = j then hasB w.a t else if sixP i 1 = j then hasB w.b t else hasB w.c t := fun j => by
  unfold pickN
  rw [h0, h1]
  by_cases a : sixP i 0 = j
  ·rw [if_pos a, if_pos (by omega)]
  ·rw [if_neg a, if_neg (by omega)]
   by_cases b : sixP i 1 = j
   ·rw [if_pos b, if_pos (by omega)]
   ·rw [if_neg b, if_neg (by omega)]
 unfold Wd.field turnW
 simp only
 have e0 : hasB (pickN p w 0) t = _ := e 0
 have e1 : hasB (pickN p w 1) t = _ := e 1
 have e2 : hasB (pickN p w 2) t = _ := e 2
 rw [e0, e1, e2]
 exact hb
theorem turn_fc {p : Nat → Int} {i : Nat} (hi : i < 6) (h0 : p 0 = (sixP i 0 : Nat)) (h1 : p 1 = (sixP i 1 : Nat)) (w : Wd) (n : Nat) {g : Nat} (hg : g < 8) : (turnW p w).fc n g = w.fc n (tauN (sixP i) g) := by
 rw [fc_sum, fc_sum]
 congr 1
 refine List.map_congr_left fun t _ => ?_
 have hf := turn_field hi h0 h1 w t
 by_cases h : (turnW p w).field t = g
 ·rw [if_pos h, if_pos (by rw [← hf, h])]
 ·rw [if_neg h, if_neg fun e => h ((tau_facts i hi).2 _ (field_lt _ _) g hg (by rw [hf, e]))]
theorem counts_same {N M : Nat → Int} (h : ∀ g, g < 8 → N g = M g) : madeN N 8 = madeN M 8 := by
 have e : ∀ k, k ≤ 8 → madeN N k = madeN M k := by
  intro k
  induction k with
  | zero => intro _; rfl
  | succ k ih => intro hk; unfold madeN; rw [ih (by omega), h k (by omega)]
 exact e 8 (Nat.le_refl _)
theorem sumL_tup {q : (Nat → Int) → Bool} {P : List Int → Bool} : ∀ {A : List (Nat → Int)}, (∀ N ∈ A, q N = P (tup N)) → sumL q A = ((A.map tup).map fun t => if P t = true then likeN (untup t) else 0).sum := by
 intro A
 induction A with
 | nil => intro _; rfl
 | cons N A ih =>
  intro h
  have e1 := h N List.mem_cons_self
  have e2 : likeN (untup (tup N)) = likeN N := likeN_same fun g hg => tup_same N hg
  simp only [sumL, List.map_cons, List.sum_cons]
  rw [ih fun M hM => h M (List.mem_cons_of_mem _ hM), e1, e2]
theorem ren_count {p : Nat → Int} (h : onceB (listP p) = true) {ats : List At} {c : List Int} (hf : formFault ats c = 0) {u : Nat} (hu : u ≤ 4) : sumL (fun N => (madeN N 8).formIs (renL p ats) c) (everyC u) = sumL (fun N => (madeN N 8).formIs ats c) (everyC u) := by
 obtain ⟨i, hi, h0, h1, _⟩ := six_of h
 have hperm := tau_count (u := u) hi
 have hlike := like_turn u (by omega) i hi
 have m1 : ∀ N, madeN N 8 = madeN (untup (tup N)) 8 := fun N => counts_same fun g hg => (tup_same N hg).symm
 rw [sumL_tup (P := fun t => (madeN (untup t) 8).formIs (renL p ats) c) fun N _ => by rw [m1 N], sumL_tup (P := fun t => (madeN (untup t) 8).formIs ats c) fun N _ => by rw [m1 N]]
 rw [← perm_sum hperm, List.map_map]
 congr 1
 refine List.map_congr_left fun t ht => ?_
 obtain ⟨N, hN, rfl⟩ := List.mem_map.1 ht
 have hl : likeN (untup (tauL (sixP i) (tup N))) = likeN (untup (tup N)) := by
  have h1 : likeN (fun g => N (tauN (sixP i) g)) = likeN N := of_decide_eq_true (List.all_eq_true.1 hlike N hN)
  rw [tauL_tup (tauN (sixP i)) (tau_facts i hi).1 N (sixP i) rfl, likeN_same fun g hg => tup_same (fun g => N (tauN (sixP i) g)) hg, likeN_same fun g hg => tup_same N hg]
  exact h1
 show (if (madeN (untup (tauL (sixP i) (tup N))) 8).formIs (renL p ats) c = true then likeN (untup (tauL (sixP i) (tup N))) else 0) = _
 rw [hl]
 have hc := everyC_right (by omega) hN
 have hok := made_ok hc
 have hok' : (turnW p (madeN N 8)).ok = true := by rw [turnW_ok h]; exact hok
 have hfc : ∀ g, g < 8 → (turnW p (madeN N 8)).fc (turnW p (madeN N 8)).u.toNat g = untup (tauL (sixP i) (tup N)) g := fun g hg => by
  have ht8 := (tau_facts i hi).1 g hg
  unfold tauL
  rw [tup_same _ hg, tup_same _ ht8, turn_fc hi h0 h1 _ _ hg]
  exact made_fc hc ht8
 have e : (madeN (untup (tauL (sixP i) (tup N))) 8).formIs (renL p ats) c = (madeN (untup (tup N)) 8).formIs ats c := by
  rw [← m1 N, ← ren_is h (madeN N 8) hf, ← (alike_made hok').form (renL p ats) c]
  rw [counts_same hfc]
 rw [e]
end Go.Proofs.YtjaedfjfcghgcabGreatDoor
namespace Go.Proofs.YtjaedfjfcghgcabGreatDoor
open Go.RowKit
def cubeFault (ats : List At) (c : List Int) : Int := if formFault ats c = 0 then (if (cubesC c).isSome = true then 0 else 4) else formFault ats c
def someM (ats : List At) (c : List Int) (u : Nat) : Bool := decide (modelFault ats c (u : Int) = 0)
def leastList (ats : List At) (c : List Int) : List Bool := if cubeFault ats c = 0 then (List.range 7).map (someM ats c) else []
def firstTo (ats : List At) (c : List Int) : Nat → Int
 | 0 => -1
 | k + 1 => if firstTo ats c k < 0 then (if someM ats c k = true then (k : Int) else -1) else firstTo ats c k
def leastFaultF (ats : List At) (c : List Int) : Int := if cubeFault ats c = 0 then (if firstTo ats c 7 < 0 then 5 else 0) else cubeFault ats c
def leastOfN (ats : List At) (c : List Int) : Int := if leastFaultF ats c = 0 then firstTo ats c 7 else 0
def firmFault (ats : List At) (c : List Int) : Int := if negFault ats c = 0 then cubeFault ats (c ++ [12]) else negFault ats c
def firmTo (ats : List At) (c : List Int) (k : Nat) : Bool := (List.range k).all fun u => !someM ats (c ++ [12]) u
def firmB (ats : List At) (c : List Int) : Bool := if firmFault ats c = 0 then firmTo ats c 7 else false
def listFault (ats : List At) (c : List Int) : Int := if cubeFault ats c = 5 then 0 else cubeFault ats c
def listL (ats : List At) (c : List Int) : List Bool := if listFault ats c = 0 then (List.range 7).map (someM ats c) else []
theorem cube_zero {ats : List At} {c : List Int} (h : cubeFault ats c = 0) : formFault ats c = 0 ∧ ∃ L, cubesC c = some L := by
 unfold cubeFault at h
 by_cases hf : formFault ats c = 0
 ·rw [if_pos hf] at h
  cases hL : cubesC c with
  | none => rw [hL] at h; have h : (4 : Int) = 0 := h; omega
  | some L => exact ⟨hf, L, rfl⟩
 ·rw [if_neg hf] at h; exact absurd h hf
theorem cube_four {ats : List At} {c : List Int} (hf : formFault ats c = 0) (h : ¬ cubeFault ats c = 0) : cubeFault ats c = 4 ∧ ∀ u, modelFault ats c u = 4 := by
 unfold cubeFault at h ⊢
 rw [if_pos hf] at h ⊢
 cases hL : cubesC c with
 | none => exact ⟨rfl, fun u => by unfold modelFault; rw [if_pos hf, hL]⟩
 | some L => rw [hL] at h; exact absurd rfl h
theorem model_two {ats : List At} {c : List Int} (h : cubeFault ats c = 0) {u : Nat} (hu : u ≤ 6) : modelFault ats c (u : Int) = if someM ats c u = true then 0 else 5 := by
 obtain ⟨hf, L, hL⟩ := cube_zero h
 have e : modelFault ats c (u : Int) = if (modelL ats u L).isSome = true then 0 else 5 := by
  unfold modelFault; rw [if_pos hf, hL]; show (if _ then _ else _) = _; rw [if_pos (by omega), Int.toNat_natCast]
 unfold someM
 rw [e]
 by_cases hm : (modelL ats u L).isSome = true
 ·rw [if_pos hm, if_pos (by decide)]
 ·rw [if_neg hm, if_neg (by decide)]
theorem cube_bad {ats : List At} {c : List Int} (h : ¬ cubeFault ats c = 0) (u : Int) : modelFault ats c u = cubeFault ats c := by
 by_cases hf : formFault ats c = 0
 ·obtain ⟨h4, hm⟩ := cube_four hf h
  rw [hm u, h4]
 ·unfold modelFault cubeFault; rw [if_neg hf, if_neg hf]
theorem list_well {ats : List At} {c : List Int} (h : listFault ats c = 0) {u : Nat} (hu : u ≤ 6) : modelFault ats c (u : Int) = if someM ats c u = true then 0 else 5 := by
 by_cases h0 : cubeFault ats c = 0
 ·exact model_two h0 hu
 ·have h5 : cubeFault ats c = 5 := by
   unfold listFault at h
   by_cases h5 : cubeFault ats c = 5
   ·exact h5
   ·rw [if_neg h5] at h; exact absurd h h0
  have hm := cube_bad h0 (u : Int)
  have hs : someM ats c u = false := by unfold someM; rw [hm, h5]; rfl
  rw [hm, h5, hs]; rfl
theorem list_ill {ats : List At} {c : List Int} (h : ¬ listFault ats c = 0) : (listFault ats c = cubeFault ats c ∧ ¬ cubeFault ats c = 5) ∧ ∀ u : Nat, modelFault ats c (u : Int) = listFault ats c := by
 have h5 : ¬ cubeFault ats c = 5 := fun h5 => by unfold listFault at h; rw [if_pos h5] at h; exact h rfl
 have e : listFault ats c = cubeFault ats c := by unfold listFault; rw [if_neg h5]
 exact ⟨⟨e, h5⟩, fun u => by rw [e]; exact cube_bad (by rw [← e]; exact h) _⟩
theorem firstTo_range (ats : List At) (c : List Int) (k : Nat) : -1 ≤ firstTo ats c k ∧ firstTo ats c k < k := by
 induction k with
 | zero => exact ⟨(by decide : (-1 : Int) ≤ -1), (by decide : (-1 : Int) < ((0 : Nat) : Int))⟩
 | succ k ih =>
  unfold firstTo
  by_cases h : firstTo ats c k < 0
  ·rw [if_pos h]
   by_cases hs : someM ats c k = true
   ·rw [if_pos hs]; omega
   ·rw [if_neg hs]; omega
  ·rw [if_neg h]; omega
theorem firstTo_none {ats : List At} {c : List Int} {k : Nat} (h : firstTo ats c k < 0) : ∀ u, u < k → someM ats c u = false := by
 induction k with
 | zero => intro u hu; omega
 | succ k ih =>
  unfold firstTo at h
  by_cases h1 : firstTo ats c k < 0
  ·rw [if_pos h1] at h
   by_cases hs : someM ats c k = true
   ·rw [if_pos hs] at h; omega
   ·intro u hu
    rcases Nat.lt_or_ge u k with h2 | h2
    ·exact ih h1 u h2
    ·obtain rfl : u = k := by omega
     simpa using hs
  ·rw [if_neg h1] at h; omega
theorem firstTo_some {ats : List At} {c : List Int} {k : Nat} {n : Nat} (h : firstTo ats c k = n) : someM ats c n = true ∧ n < k ∧ ∀ u, u < n → someM ats c u = false := by
 induction k with
 | zero => have : (-1 : Int) = n := h; omega
 | succ k ih =>
  have hr := firstTo_range ats c k
  unfold firstTo at h
  by_cases h1 : firstTo ats c k < 0
  ·rw [if_pos h1] at h
   by_cases hs : someM ats c k = true
   ·rw [if_pos hs] at h
    obtain rfl : k = n := by omega
    exact ⟨hs, by omega, firstTo_none h1⟩
   ·rw [if_neg hs] at h; omega
  ·rw [if_neg h1] at h
   obtain ⟨a, b, c'⟩ := ih h
   exact ⟨a, by omega, c'⟩
end Go.Proofs.YtjaedfjfcghgcabGreatDoor
namespace Go.Proofs.YtjaedfjfcghgcabGreatDoor
open Go.RowKit
def swapP (x y : Int) : Nat → Int := fun k => if (k : Int) = y then x else if (k : Int) = x then y else (k : Int)
theorem three_names {x : Int} (h : 0 ≤ x ∧ x ≤ 2) : x = 0 ∨ x = 1 ∨ x = 2 := by omega
theorem swapP_once {x y : Int} (hx : 0 ≤ x ∧ x ≤ 2) (hy : 0 ≤ y ∧ y ≤ 2) : onceB (listP (swapP x y)) = true := by
 rcases three_names hx with rfl | rfl | rfl <;> rcases three_names hy with rfl | rfl | rfl <;> decide
theorem swapP_twice {x y : Int} (hx : 0 ≤ x ∧ x ≤ 2) (hy : 0 ≤ y ∧ y ≤ 2) (w : Wd) : turnW (swapP x y) (turnW (swapP x y) w) = w := by
 rcases three_names hx with rfl | rfl | rfl <;> rcases three_names hy with rfl | rfl | rfl <;> simp [turnW, pickN, swapP]
theorem swapP_sign {x y : Int} (hx : 0 ≤ x ∧ x ≤ 2) (hy : 0 ≤ y ∧ y ≤ 2) {s : Int} (hs : 0 ≤ s) : renS (swapP x y) s = if s = x then y else if s = y then x else s := by
 unfold renS swapP
 by_cases h3 : s < 3
 ·rw [if_pos h3]
  have e : ((s.toNat : Nat) : Int) = s := by omega
  rw [e]
  by_cases h1 : s = x
  ·by_cases h2 : s = y
   ·rw [if_pos h2, if_pos h1]; omega
   ·rw [if_neg h2, if_pos h1, if_pos h1]
  ·by_cases h2 : s = y
   ·rw [if_pos h2, if_neg h1, if_pos h2]
   ·rw [if_neg h2, if_neg h1, if_neg h1, if_neg h2]
 ·rw [if_neg h3, if_neg (by omega), if_neg (by omega)]
theorem ren_world {p : Nat → Int} (h : onceB (listP p) = true) {ats : List At} {c : List Int} (hf : formFault ats c = 0) {w : Wd} (hw : w.ok = true) (hi : w.formIs ats c = true) : (turnW p w).ok = true ∧ (turnW p w).u = w.u ∧ (turnW p w).formIs (renL p ats) c = true :=
 ⟨by rw [turnW_ok h]; exact hw, rfl, by rw [ren_is h w hf]; exact hi⟩
theorem swap_world {x y : Int} (hx : 0 ≤ x ∧ x ≤ 2) (hy : 0 ≤ y ∧ y ≤ 2) {ats : List At} {c : List Int} (hf : formFault ats c = 0) {w : Wd} (hw : w.ok = true) (hi : w.formIs (renL (swapP x y) ats) c = true) : (turnW (swapP x y) w).ok = true ∧ (turnW (swapP x y) w).u = w.u ∧ (turnW (swapP x y) w).formIs ats c = true := by
 have h := swapP_once hx hy
 refine ⟨by rw [turnW_ok h]; exact hw, rfl, ?_⟩
 rw [← ren_is h _ hf, swapP_twice hx hy]
 exact hi
theorem swap_model {x y : Int} (hx : 0 ≤ x ∧ x ≤ 2) (hy : 0 ≤ y ∧ y ≤ 2) {ats : List At} {c : List Int} (hf : formFault ats c = 0) (u : Int) : modelFault (renL (swapP x y) ats) c u = modelFault ats c u := by
 have h := swapP_once hx hy
 have hg := ren_form h hf
 have two : ∀ (bs : List At), formFault bs c = 0 → ∀ L, cubesC c = some L → 0 ≤ u ∧ u ≤ 6 → modelFault bs c u = 0 ∨ modelFault bs c u = 5 := fun bs hb L hL hu => by
  unfold modelFault
  rw [if_pos hb, hL]
  show (if 0 ≤ u ∧ u ≤ 6 then (if (modelL bs u.toNat L).isSome = true then (0 : Int) else 5) else 1) = 0 ∨ (if 0 ≤ u ∧ u ≤ 6 then (if (modelL bs u.toNat L).isSome = true then (0 : Int) else 5) else 1) = 5
  rw [if_pos hu]
  by_cases hm : (modelL bs u.toNat L).isSome = true
  ·rw [if_pos hm]; exact Or.inl rfl
  ·rw [if_neg hm]; exact Or.inr rfl
 cases hL : cubesC c with
 | none => unfold modelFault; rw [if_pos hf, if_pos hg, hL]
 | some L =>
  by_cases hu : 0 ≤ u ∧ u ≤ 6
  ·rcases two ats hf L hL hu with a | a <;> rcases two _ hg L hL hu with b | b
   ·rw [a, b]
   ·obtain ⟨_, g2, g3, g4⟩ := model_zero a
    obtain ⟨k1, k2, k3⟩ := ren_world h hf g2 g4
    rw [model_five b hg k1 (by rw [k2, g3])] at k3
    exact absurd k3 (by decide)
   ·obtain ⟨_, g2, g3, g4⟩ := model_zero b
    obtain ⟨k1, k2, k3⟩ := swap_world hx hy hf g2 g4
    rw [model_five a hf k1 (by rw [k2, g3])] at k3
    exact absurd k3 (by decide)
   ·rw [a, b]
  ·unfold modelFault
   rw [if_pos hf, if_pos hg, hL]
   show (if 0 ≤ u ∧ u ≤ 6 then _ else (1 : Int)) = (if 0 ≤ u ∧ u ≤ 6 then _ else (1 : Int))
   rw [if_neg hu, if_neg hu]
theorem swap_least {x y : Int} (hx : 0 ≤ x ∧ x ≤ 2) (hy : 0 ≤ y ∧ y ≤ 2) {ats : List At} {c : List Int} (hf : formFault ats c = 0) : leastFaultF (renL (swapP x y) ats) c = leastFaultF ats c ∧ leastOfN (renL (swapP x y) ats) c = leastOfN ats c := by
 have hg := ren_form (swapP_once hx hy) hf
 have e1 : cubeFault (renL (swapP x y) ats) c = cubeFault ats c := by unfold cubeFault; rw [if_pos hf, if_pos hg]
 have e2 : ∀ u, someM (renL (swapP x y) ats) c u = someM ats c u := fun u => by unfold someM; rw [swap_model hx hy hf]
 have e3 : ∀ k, firstTo (renL (swapP x y) ats) c k = firstTo ats c k := by
  intro k
  induction k with
  | zero => rfl
  | succ k ih => unfold firstTo; rw [ih, e2]
 have e4 : leastFaultF (renL (swapP x y) ats) c = leastFaultF ats c := by unfold leastFaultF; rw [e1, e3]
 exact ⟨e4, by unfold leastOfN; rw [e4, e3]⟩
theorem swap_worlds {x y : Int} (hx : 0 ≤ x ∧ x ≤ 2) (hy : 0 ≤ y ∧ y ≤ 2) {ats : List At} {c : List Int} (hf : formFault ats c = 0) {u : Int} (hu : u ≤ 4) : worldsFault (renL (swapP x y) ats) c u = worldsFault ats c u ∧ worldsN (renL (swapP x y) ats) c u = worldsN ats c u := by
 have h := swapP_once hx hy
 have hg := ren_form h hf
 have e : worldsFault (renL (swapP x y) ats) c u = worldsFault ats c u := by unfold worldsFault; rw [if_pos hf, if_pos hg]
 refine ⟨e, ?_⟩
 unfold worldsN
 rw [e]
 by_cases h0 : worldsFault ats c u = 0
 ·rw [if_pos h0, if_pos h0]
  exact ren_count h hf (by have := (worlds_zero h0).2; omega)
 ·rw [if_neg h0, if_neg h0]
theorem span_some {ats : List At} {c t : List Int} {u : Int} (hf : formFault ats c = 0) (ht : faultN t = 0) (hu : 0 ≤ u ∧ u ≤ 6) {w : Wd} (hw : w.ok = true) (hwu : w.u = u) (hi : w.formIs ats c = true) : spanFault ats c t u = 0 := by
 refine span_zero.2 ⟨hf, ht, hu, ?_⟩
 obtain ⟨D, hD, hl⟩ := worldsL_like (u := u.toNat) hw (by omega)
 have hb := span_bound (worldsL u.toNat) D hD (by rw [hl.form]; exact hi) (t := t)
 have hp := pcN_le (D.val t)
 unfold spanP
 omega
theorem swap_span {x y : Int} (hx : 0 ≤ x ∧ x ≤ 2) (hy : 0 ≤ y ∧ y ≤ 2) {ats : List At} {c t : List Int} (hf : formFault ats c = 0) (ht : faultN t = 0) (u : Int) :
    (spanFault (renL (swapP x y) ats) c (renT (swapP x y) t) u = 0 ↔ spanFault ats c t u = 0) ∧ spanLo (renL (swapP x y) ats) c (renT (swapP x y) t) u = spanLo ats c t u ∧ spanHi (renL (swapP x y) ats) c (renT (swapP x y) t) u = spanHi ats c t u := by
 have h := swapP_once hx hy
 have hg := ren_form h hf
 have hr := ren_fault h ht
 have hpos := signs_pos (fault_zero.1 ht).2.2.1
 have hv : ∀ w : Wd, (turnW (swapP x y) w).val (renT (swapP x y) t) = w.val t := fun w => ren_val h w hpos
 have hv' : ∀ w : Wd, (turnW (swapP x y) w).val t = w.val (renT (swapP x y) t) := fun w => by
  rw [← hv (turnW (swapP x y) w), swapP_twice hx hy]
 have iff : spanFault (renL (swapP x y) ats) c (renT (swapP x y) t) u = 0 ↔ spanFault ats c t u = 0 := by
  constructor
  ·intro h0
   obtain ⟨_, _, hu, _⟩ := span_zero.1 h0
   obtain ⟨_, ⟨w, hw, hwu, hi, _⟩, _⟩ := span_ends h0
   obtain ⟨k1, k2, k3⟩ := swap_world hx hy hf hw hi
   exact span_some hf ht hu k1 (by rw [k2, hwu]) k3
  ·intro h0
   obtain ⟨_, _, hu, _⟩ := span_zero.1 h0
   obtain ⟨_, ⟨w, hw, hwu, hi, _⟩, _⟩ := span_ends h0
   obtain ⟨k1, k2, k3⟩ := ren_world h hf hw hi
   exact span_some hg hr hu k1 (by rw [k2, hwu]) k3
 refine ⟨iff, ?_⟩
 by_cases h0 : spanFault ats c t u = 0
 ·have h1 := iff.2 h0
  obtain ⟨_, ⟨w, hw, hwu, hi, ew⟩, ⟨w', hw', hwu', hi', ew'⟩⟩ := span_ends h0
  obtain ⟨_, ⟨v, hvo, hvu, hvi, ev⟩, ⟨v', hvo', hvu', hvi', ev'⟩⟩ := span_ends h1
  obtain ⟨a1, a2, a3⟩ := ren_world h hf hw hi
  obtain ⟨b1, b2, b3⟩ := ren_world h hf hw' hi'
  obtain ⟨c1, c2, c3⟩ := swap_world hx hy hf hvo hvi
  obtain ⟨d1, d2, d3⟩ := swap_world hx hy hf hvo' hvi'
  have r1 := (span_world h1 a1 (by rw [a2, hwu]) a3).1
  have r2 := (span_world h1 b1 (by rw [b2, hwu']) b3).2
  have r3 := (span_world h0 c1 (by rw [c2, hvu]) c3).1
  have r4 := (span_world h0 d1 (by rw [d2, hvu']) d3).2
  rw [hv, ew] at r1
  rw [hv, ew'] at r2
  rw [hv', ev] at r3
  rw [hv', ev'] at r4
  exact ⟨by omega, by omega⟩
 ·have h1 : ¬ spanFault (renL (swapP x y) ats) c (renT (swapP x y) t) u = 0 := fun e => h0 (iff.1 e)
  unfold spanLo spanHi
  rw [if_neg h0, if_neg h1, if_neg h0, if_neg h1]
  exact ⟨rfl, rfl⟩
end Go.Proofs.YtjaedfjfcghgcabGreatDoor
namespace Go.Proofs.YtjaedfjfcghgcabGreatDoor
open Go.ChangeShapes Go.WideShapes Go.ChangeAt Go.RowKit
def arrP (p : Int × Int) : Array Value := #[.int .i64 p.1, .int .i64 p.2]
def putP (w : World) (R : Nat) (p : Int × Int) : World := (w.setCell ⟨R, 0, none⟩ (.int .i64 p.1)).setCell ⟨R, 1, none⟩ (.int .i64 p.2)
theorem putP_blk {w : World} {R : Nat} {T : TypeId} {q : Int × Int} (h : Blk w R T (arrP q)) (p : Int × Int) : Blk (putP w R p) R T (arrP p) := by
 have := (h.set 0 (.int .i64 p.1)).set 1 (.int .i64 p.2)
 have e : ((arrP q).setIfInBounds 0 (.int .i64 p.1)).setIfInBounds 1 (.int .i64 p.2) = arrP p := by simp [arrP]
 rw [e] at this
 exact this
theorem loadP {W : World} {R : Nat} {p : Int × Int} (h : Blk W R 64 (arrP p)) : (loadVar 64 ⟨R, 0, none⟩).run Tryz.prog W = .ok (.agg (arrP p)) W := by
 have hl := run_loadCells_list (P := Tryz.prog) W ⟨R, 0, none⟩ (arrP p).toList (fun j v hj => by
  have := h.cell j
  rw [← Array.getElem?_toList] at this
  rw [hj] at this
  have ha : (⟨R, 0, none⟩ : Addr).add j = ⟨R, j, none⟩ := by unfold Addr.add; split <;> simp_all
  rw [ha]; exact this)
 simp [loadVar, Tryz.isAgg64, Tryz.sizeOf64, Result.andThen, arrP] at hl ⊢
 simp [hl]
end Go.Proofs.YtjaedfjfcghgcabGreatDoor
namespace Go.Proofs.YtjaedfjfcghgcabGreatDoor
open Go.ChangeShapes Go.WideShapes Go.ChangeAt Go.RowKit
set_option maxRecDepth 100000
theorem stoodP : Tryz.prog.stoodInHeld 64 = false := by kernel_rfl
theorem plainP : Tryz.prog.plainKey 3 = true := by kernel_rfl
theorem equalInP (u a : Int) (d : Nat) (w : World) : (Op.equalIn (d + 3) 64 (.agg #[.int .i64 u, .int .i64 a]) (.agg #[.int .i64 u, .int .i64 a])).run Tryz.prog w = .ok true w := by
 have hs : Tryz.prog.underlying 64 = some (.struct (Tryz.prog.fieldsOf 64)) := by kernel_rfl
 rw [run_equalIn_struct w (d + 2) 64 _ _ hs stoodP]
 have p1 : (part 3 #[.int .i64 u, .int .i64 a] 0).run Tryz.prog w = .ok (.int .i64 u) w := run_part_plain w plainP rfl
 have q1 : (Op.equalIn (d + 2) 3 (.int .i64 u) (.int .i64 u)).run Tryz.prog w = .ok true w := by
  rw [run_equalIn_int w (d + 1) 3 .i64 .i64 u u Tryz.underlying3]; simp
 have p2 : (part 3 #[.int .i64 u, .int .i64 a] 1).run Tryz.prog w = .ok (.int .i64 a) w := run_part_plain w plainP rfl
 have q2 : (Op.equalIn (d + 2) 3 (.int .i64 a) (.int .i64 a)).run Tryz.prog w = .ok true w := by
  rw [run_equalIn_int w (d + 1) 3 .i64 .i64 a a Tryz.underlying3]; simp
 have ef : (Tryz.prog.fieldsOf 64).toList.map (fun f => (f.name, f.type, f.offset)) = [("Least", 3, 0), ("Most", 3, 1)] := by kernel_rfl
 generalize (Tryz.prog.fieldsOf 64).toList = fs at ef ⊢
 match fs, ef with
 | [f, g], ef =>
  simp only [List.map_cons, List.map_nil, List.cons.injEq, Prod.mk.injEq, and_true] at ef
  obtain ⟨⟨n1, t1, o1⟩, n2, t2, o2⟩ := ef
  simp [Op.eqFields, n1, n2, t1, t2, o1, o2, Sem.run_bind, p1, q1, p2, q2, Result.andThen_ok]
 | [], ef => simp at ef
 | [_], ef => simp at ef
 | _ :: _ :: _ :: _, ef => simp at ef
theorem sameP (u a : Int) (w : World) : (binOp .eql 64 (.agg #[.int .i64 u, .int .i64 a]) (.agg #[.int .i64 u, .int .i64 a])).run Tryz.prog w = .ok (.bool true) w := by
 rw [run_eql_struct]
 rw [equalInP u a 9997 w]
 simp
end Go.Proofs.YtjaedfjfcghgcabGreatDoor