/-
  Facts and contracts that the statement leans on.
-/
import Derived.Test.YtnoohlibgaeklaaGreatDoorLibA11
import Derived.Below
import Derived.Test.YtnoohlibgaeklaaGreatDoorLibA9
import Derived.Test.YtnoohlibgaeklaaGreatDoorLibA2
import Derived.Test.YtnoohlibgaeklaaGreatDoorLibA1
import Derived.Handy
import Derived.RangeFuncNested
import Derived.RangeFuncBound
import Derived.RangeFuncCalls
import Derived.Deep.Cut
import Derived.Shelf.Abstract
import Derived.WalkKit
import Derived.OwnWalkIn
import Derived.TacticsInMore
import Derived.LoopNIn
import Derived.LoopIn
import Derived.Sort.LoopGhostIn
import Derived.Stop.RegionWithIn
import Derived.Sort.CutIn
namespace Go.Proofs.YtnoohlibgaeklaaGreatDoor
open Go.ChangeShapes Go.WideShapes Go.ChangeAt Go.RowKit
set_option maxRecDepth 100000
def txtOf (l : List UInt8) : ByteArray := ⟨l.toArray⟩
theorem txtOf_size (l : List UInt8) : (txtOf l).size = l.length := by unfold txtOf; simp [ByteArray.size]
theorem ret_t {a b : ByteArray} (h : a = b) : Ending.returned (.string a) = .returned (.string b) := by rw [h]
def decF : Nat → Nat → List UInt8
 | 0, u => [UInt8.ofNat (48 + u % 10)]
 | f + 1, u => if u < 10 then [UInt8.ofNat (48 + u)] else decF f (u / 10) ++ [UInt8.ofNat (48 + u % 10)]
def decT (u : Nat) : List UInt8 := decF 8 u
theorem decF_length (f : Nat) : ∀ u, (decF f u).length ≤ f + 1 := by
 induction f with
 | zero => intro u; exact Nat.le_refl 1
 | succ f ih =>
  intro u
  unfold decF
  split
  ·simp
  ·rw [List.length_append]; have := ih (u / 10); show _ + 1 ≤ _; omega
theorem digitR_cut : ∀ u : Nat, u < 10 → (⟨#[48, 49, 50, 51, 52, 53, 54, 55, 56, 57]⟩ : ByteArray).extract u (u + 1) = txtOf [UInt8.ofNat (48 + u)] := by decide
theorem digitsR_any (f : Nat) (hf : f ≤ 8) : ∀ (u : Nat), u < 10 ^ (f + 1) → ∀ (w : World),
    Calls Tryz.prog 9 #[.int .i64 u] w (Sk w (.string (txtOf (decF f u)))) := by
 induction f with
 | zero =>
  intro u h w
  have h : u < 10 := h
  have e : decF 0 u = [UInt8.ofNat (48 + u)] := by unfold decF; rw [Nat.mod_eq_of_lt h]
  rw [e, ← digitR_cut u h]
  have h1 : (u : Int) < 10 := by omega
  have h2 : (0 : Int) ≤ (u : Int) := by omega
  have h3 : (u : Int) ≤ (u : Int) + 1 := by omega
  have h4 : (u : Int) + 1 ≤ 10 := by omega
  clear e
  go_enter Tryz.func9, Tryz.ntmps9
  go_wp2
  go_ret
  exact ⟨rfl, rfl⟩
 | succ f ih =>
  intro u h w
  by_cases h1 : u < 10
  ·have e : decF (f + 1) u = [UInt8.ofNat (48 + u)] := by unfold decF; rw [if_pos h1]
   rw [e, ← digitR_cut u h1]
   have h1' : (u : Int) < 10 := by omega
   have h2 : (0 : Int) ≤ (u : Int) := by omega
   have h3 : (u : Int) ≤ (u : Int) + 1 := by omega
   have h4 : (u : Int) + 1 ≤ 10 := by omega
   clear e ih h
   go_enter Tryz.func9, Tryz.ntmps9
   go_wp2
   go_ret
   exact ⟨rfl, rfl⟩
  ·have HD : Hid (∀ W, Calls Tryz.prog 9 #[.int .i64 ((u / 10 : Nat) : Int)] W (Sk W (.string (txtOf (decF f (u / 10)))))) := fun W => ih (by omega) (u / 10) (by rw [Nat.pow_succ] at h; omega) W
   have h63 : u ≤ 1000000000 := by
    have : 10 ^ (f + 1 + 1) ≤ 10 ^ 9 := Nat.pow_le_pow_right (by decide) (by omega)
    omega
   have hl := decF_length f (u / 10)
   obtain ⟨q, hq⟩ := nm (u / 10)
   obtain ⟨r, hr⟩ := nm (u % 10)
   have e : decF (f + 1) u = decF f q ++ [UInt8.ofNat (48 + r)] := by rw [hq, hr]; unfold decF; rw [if_neg h1]; cases f <;> rfl
   rw [← hq] at HD hl
   have HE : Hid (txtOf (decF (f + 1) u) = txtOf (decF f q) ++ (⟨#[48, 49, 50, 51, 52, 53, 54, 55, 56, 57]⟩ : ByteArray).extract r (r + 1)) := by
    unfold Hid
    rw [e, digitR_cut r (by omega)]
    apply ByteArray.ext
    simp [txtOf]
   obtain ⟨T, hT⟩ := nm (txtOf (decF (f + 1) u))
   rw [← hT] at HE ⊢
   have hm : (u : Int) % 10 = (r : Int) := by rw [hr]; omega
   have hdv : (u : Int) / 10 = (q : Int) := by rw [hq]; omega
   have h10 : ¬ ((u : Int) < 10) := by omega
   have r0 : (0 : Int) ≤ (r : Int) := by omega
   have r1 : (r : Int) ≤ (r : Int) + 1 := by omega
   have r2 : (r : Int) + 1 ≤ 10 := by omega
   obtain ⟨Y, hY⟩ := nm (txtOf (decF f q))
   have hYs : Y.size ≤ 20 := by rw [hY, txtOf_size]; omega
   rw [← hY] at HD HE
   clear e hT h1 hq hr hY ih h hl
   go_enter Tryz.func9, Tryz.ntmps9
   go_wp2_with (go_at_call 9; refine (HD.out _).mono ?_; rintro e w' ⟨rfl, rfl⟩)
   go_ret
   exact ⟨ret_t HE.out.symm, rfl⟩
theorem refDigits_any (u : Nat) (h : u < 1000000000) (w : World) :
    Calls Tryz.prog 9 #[.int .i64 u] w (Sk w (.string (txtOf (decT u)))) := digitsR_any 8 (by decide) u h w
end Go.Proofs.YtnoohlibgaeklaaGreatDoor
namespace Go.Proofs.YtnoohlibgaeklaaGreatDoor
open Go.RowKit
set_option maxRecDepth 100000
def manyW : List UInt8 := [109, 97, 110, 121]
def worldsW : List UInt8 := [119, 111, 114, 108, 100, 115]
def spanW : List UInt8 := [115, 112, 97, 110]
def sayW : List UInt8 := [115, 97, 121]
def denyW : List UInt8 := [100, 101, 110, 121]
def askW : List UInt8 := [97, 115, 107]
def badW : List UInt8 := [98, 97, 100]
def okW : List UInt8 := [111, 107]
def yesW : List UInt8 := [121, 101, 115]
def noW : List UInt8 := [110, 111]
def openW : List UInt8 := [111, 112, 101, 110]
def fullW : List UInt8 := [69, 114, 114, 70, 117, 108, 108]
def clashW : List UInt8 := [69, 114, 114, 67, 108, 97, 115, 104]
def longW : List UInt8 := [116, 111, 111, 32, 108, 111, 110, 103, 10]
def moreB (s : List UInt8) : Bool := s.any (· == 32)
def wordL (s : List UInt8) : List UInt8 := s.takeWhile (· != 32)
def restL (s : List UInt8) : List UInt8 := s.drop ((wordL s).length + 1)
def worldsSo (fs : List Fm) : Int := sumL (fun N => (madeN N 8).so fs) (everyC 4)
def spanSoStep (fs : List Fm) (t : List Int) (p : Int × Int) (D : Wd) : Int × Int :=
 (if (D.so fs && decide (pcN (D.val t) < p.1)) = true then pcN (D.val t) else p.1, if (D.so fs && decide (p.2 < pcN (D.val t))) = true then pcN (D.val t) else p.2)
def spanSoOver (fs : List Fm) (t : List Int) (L : List Wd) : Int × Int := L.foldl (spanSoStep fs t) (100, 0)
def spanSo (fs : List Fm) (t : List Int) : Int × Int := spanSoOver fs t (worldsL 4)
def answerW (n : Int) : List UInt8 := if n = 1 then yesW else if n = -1 then noW else openW
def lineT (fs : List Fm) (s : List UInt8) : List UInt8 :=
 if moreB s = false then (if s = manyW then decT fs.length else if s = worldsW then decT (worldsSo fs).toNat else badW)
 else if wordL s = spanW then (if lettersB (restL s) = true ∧ faultN (readN (restL s)) = 0 then decT (spanSo fs (readN (restL s))).1.toNat ++ (32 :: decT (spanSo fs (readN (restL s))).2.toNat) else badW)
 else if wordL s = sayW ∨ wordL s = denyW ∨ wordL s = askW then
  (if lineFault (restL s) = 0 then
   (if wordL s = askW then answerW (answerN (askP fs [atOf (restL s)] [0] 4))
   else if 6 ≤ fs.length then fullW
   else if openN (fs ++ [aloneF (atOf (restL s)) (decide (wordL s = sayW))]) 4 = true then okW else clashW)
  else badW)
 else badW
def lineS (fs : List Fm) (s : List UInt8) : List Fm :=
 if moreB s = true ∧ (wordL s = sayW ∨ wordL s = denyW) ∧ lineFault (restL s) = 0 ∧ fs.length < 6 ∧ openN (fs ++ [aloneF (atOf (restL s)) (decide (wordL s = sayW))]) 4 = true then fs ++ [aloneF (atOf (restL s)) (decide (wordL s = sayW))] else fs
def runL (t : List UInt8) : List (List UInt8) := if (cutB 10 t).getLast? = some [] then (cutB 10 t).dropLast else cutB 10 t
def runF : List Fm → List (List UInt8) → List UInt8
 | _, [] => []
 | fs, s :: r => lineT fs s ++ (10 :: runF (lineS fs s) r)
def runT (t : List UInt8) : List UInt8 := if 3000 < t.length then longW else runF [] (runL t)
structure SaidOk (fs : List Fm) : Prop where
 good : ∀ f ∈ fs, ∃ a h, f = aloneF a h ∧ a.fault = 0
 n6 : fs.length ≤ 6
 op : openN fs 4 = true
theorem said0 : SaidOk [] := ⟨fun f h => (by cases h), Nat.zero_le _, open_nil _⟩
theorem SaidOk.fault {fs : List Fm} (h : SaidOk fs) : ∀ f ∈ fs, f.fault = 0 := fun f hf => by
 obtain ⟨a, b, rfl, ha⟩ := h.good f hf
 exact alone_right ha b
theorem wq_no {l m : List UInt8} (h : ¬ l = m) : ((strOf l).toList == m) = false := by
 rw [Lib.toList_data, strOf_list]
 simpa using h
theorem wq_yes (l : List UInt8) : ((strOf l).toList == l) = true := by
 rw [Lib.toList_data, strOf_list]
 simp
end Go.Proofs.YtnoohlibgaeklaaGreatDoor
namespace Go.Proofs.YtnoohlibgaeklaaGreatDoor
open Go.RowKit
set_option maxRecDepth 100000
theorem lineT_short (fs : List Fm) (s : List UInt8) : (lineT fs s).length ≤ 19 := by
 have hd : ∀ u, (decT u).length ≤ 9 := fun u => decF_length 8 u
 unfold lineT
 split
 ·split
  ·exact Nat.le_trans (hd _) (by decide)
  ·split
   ·exact Nat.le_trans (hd _) (by decide)
   ·decide
 ·split
  ·split
   ·rw [List.length_append, List.length_cons]
    have h1 := hd (spanSo fs (readN (restL s))).1.toNat
    have h2 := hd (spanSo fs (readN (restL s))).2.toNat
    omega
   ·decide
  ·split
   ·split
    ·split
     ·unfold answerW
      split
      ·decide
      ·split <;> decide
     ·split
      ·decide
      ·split <;> decide
    ·decide
   ·decide
def saidF (fs : List Fm) (ls : List (List UInt8)) : List Fm := ls.foldl lineS fs
theorem runF_append (fs : List Fm) (a b : List (List UInt8)) : runF fs (a ++ b) = runF fs a ++ runF (saidF fs a) b := by
 induction a generalizing fs with
 | nil => rfl
 | cons s r ih =>
  show lineT fs s ++ (10 :: runF (lineS fs s) (r ++ b)) = (lineT fs s ++ (10 :: runF (lineS fs s) r)) ++ runF (saidF (lineS fs s) r) b
  rw [ih, List.append_assoc]
  rfl
theorem runF_short (fs : List Fm) (ls : List (List UInt8)) : (runF fs ls).length ≤ 20 * ls.length := by
 induction ls generalizing fs with
 | nil => exact Nat.zero_le _
 | cons s r ih =>
  show (lineT fs s ++ (10 :: runF (lineS fs s) r)).length ≤ 20 * (r.length + 1)
  rw [List.length_append, List.length_cons]
  have h1 := lineT_short fs s
  have h2 := ih (lineS fs s)
  omega
theorem runL_part (t : List UInt8) : ∃ m, m ≤ (cutB 10 t).length ∧ runL t = (cutB 10 t).take m ∧ ((m = (cutB 10 t).length ∧ ¬ (cutB 10 t).getLast? = some []) ∨ (m + 1 = (cutB 10 t).length ∧ (cutB 10 t).getLast? = some [])) := by
 have hne := cutB_ne 10 t
 have hpos : 0 < (cutB 10 t).length := List.length_pos_iff.2 hne
 unfold runL
 by_cases h : (cutB 10 t).getLast? = some []
 ·rw [if_pos h]
  exact ⟨(cutB 10 t).length - 1, by omega, by rw [List.dropLast_eq_take], Or.inr ⟨by omega, h⟩⟩
 ·rw [if_neg h]
  exact ⟨_, Nat.le_refl _, by rw [List.take_length], Or.inl ⟨rfl, h⟩⟩
theorem cutB_small (c : UInt8) : ∀ (n : Nat) (l : List UInt8), l.length ≤ n → (cutB c l).length ≤ l.length + 1 ∧ ∀ x ∈ cutB c l, x.length ≤ l.length := by
 intro n
 induction n with
 | zero =>
  intro l hl
  have : l = [] := List.length_eq_zero_iff.1 (by omega)
  subst this
  refine ⟨Nat.le_refl 1, fun x hx => ?_⟩
  have e : x = [] := by simpa [cutB] using hx
  rw [e]
  exact Nat.le_refl _
 | succ n ih =>
  intro l hl
  rcases cut_parts c l with h | ⟨x, r, rfl, h⟩
  ·rw [cutB_miss h]
   refine ⟨by simp, fun y hy => ?_⟩
   have e : y = l := by simpa using hy
   rw [e]
   exact Nat.le_refl _
  ·rw [cutB_hit h]
   have hr := ih r (by simp at hl; omega)
   refine ⟨?_, fun y hy => ?_⟩
   ·rw [List.length_cons]; simp; omega
   ·rcases List.mem_cons.1 hy with rfl | hy
    ·simp
    ·have := hr.2 y hy; simp; omega
theorem cutB_append (c : UInt8) (x r : List UInt8) : cutB c (x ++ c :: r) = cutB c x ++ cutB c r := by
 induction x with
 | nil => simp [cutB]
 | cons a x ih =>
  rw [List.cons_append, cutB_cons, cutB_cons, ih]
  by_cases h : a = c
  ·rw [if_pos h, if_pos h]; rfl
  ·rw [if_neg h, if_neg h]
   obtain ⟨y, ys, e⟩ := cutB_some c x
   rw [e]; rfl
theorem cutB_last {c : UInt8} {x : List UInt8} : cutB c (x ++ [c]) = cutB c x ++ [[]] := by
 have h := cutB_append c x []
 exact h
theorem runL_append (x r : List UInt8) : runL (x ++ 10 :: r) = runL (x ++ [10]) ++ runL r := by
 have e1 : runL (x ++ [10]) = cutB 10 x := by
  unfold runL
  rw [cutB_last, if_pos (by simp), List.dropLast_concat]
 rw [e1]
 unfold runL
 rw [cutB_append]
 obtain ⟨y, ys, e⟩ := cutB_some 10 r
 have hl : (cutB 10 x ++ cutB 10 r).getLast? = (cutB 10 r).getLast? := by
  rw [List.getLast?_append, e, List.getLast?_cons]; rfl
 rw [hl]
 by_cases h : (cutB 10 r).getLast? = some []
 ·rw [if_pos h, if_pos h, List.dropLast_append_of_ne_nil (by rw [e]; simp)]
 ·rw [if_neg h, if_neg h]
def partsAt (t : List UInt8) (k : Nat) : Prop := k = t.length ∨ k = 0 ∨ ∃ x, t.take k = x ++ [10]
theorem runT_begins {t : List UInt8} (ht : t.length ≤ 3000) {k : Nat} (hk : k ≤ t.length) (h : partsAt t k) : ∃ r, runT t = runT (t.take k) ++ r := by
 have e1 : runT t = runF [] (runL t) := by unfold runT; rw [if_neg (by omega)]
 have e2 : runT (t.take k) = runF [] (runL (t.take k)) := by unfold runT; rw [if_neg (by rw [List.length_take]; omega)]
 rw [e1, e2]
 rcases h with rfl | rfl | ⟨x, hx⟩
 ·exact ⟨[], by rw [List.take_length, List.append_nil]⟩
 ·exact ⟨runF [] (runL t), rfl⟩
 ·have e : t = x ++ 10 :: t.drop k := by
   have := List.take_append_drop k t
   rw [hx, List.append_assoc] at this
   exact this.symm
  rw [hx]
  refine ⟨runF (saidF [] (runL (x ++ [10]))) (runL (t.drop k)), ?_⟩
  rw [← runF_append, ← runL_append, ← e]
theorem runT_short (t : List UInt8) : (runT t).length ≤ 60100 := by
 unfold runT
 by_cases h : 3000 < t.length
 ·rw [if_pos h]; decide
 ·rw [if_neg h]
  obtain ⟨m, hm, e, _⟩ := runL_part t
  have h1 := runF_short [] (runL t)
  have h2 := (cutB_small 10 t.length t (Nat.le_refl _)).1
  rw [e, List.length_take] at h1
  have h3 : min m (cutB 10 t).length ≤ 3001 := by omega
  rw [← e] at h1
  omega
end Go.Proofs.YtnoohlibgaeklaaGreatDoor
namespace Go.Proofs.YtnoohlibgaeklaaGreatDoor
open Go.RowKit
set_option maxRecDepth 100000
def beginsT : List UInt8 := [119, 111, 114, 108, 100, 115, 10, 115, 97, 121, 32, 108, 101, 97, 115, 116, 32, 65, 32, 51, 10, 102, 108, 121, 10, 97, 115, 107, 32, 115, 117, 98, 32, 66, 32, 65, 10, 115, 112, 97, 110, 32, 65, 10, 100, 101, 110, 121, 32, 108, 101, 97, 115, 116, 32, 65, 32, 52, 10, 115, 112, 97, 110, 32, 65, 126, 10, 109, 97, 110, 121, 10]
def beginsA : List UInt8 := [52, 48, 57, 54, 10, 111, 107, 10, 98, 97, 100, 10, 111, 112, 101, 110, 10, 51, 32, 52, 10, 111, 107, 10, 49, 32, 49, 10, 50, 10]
theorem begins_fact : runT beginsT = beginsA := by decide +kernel
def countsT (a b : Nat) : List UInt8 := [115, 97, 121, 32, 108, 101, 97, 115, 116, 32, 65, 32] ++ decT a ++ [10, 115, 97, 121, 32, 109, 111, 115, 116, 32, 65, 32] ++ decT b ++ [10, 115, 112, 97, 110, 32, 65, 10, 97, 115, 107, 32, 108, 101, 97, 115, 116, 32, 65, 32] ++ decT a ++ [10]
def countsA (a b : Nat) : List UInt8 := if b < a then [111, 107, 10, 69, 114, 114, 67, 108, 97, 115, 104, 10] ++ decT a ++ [32, 52, 10, 121, 101, 115, 10] else [111, 107, 10, 111, 107, 10] ++ decT a ++ [32] ++ decT b ++ [10, 121, 101, 115, 10]
theorem counts_fact : ∀ a, a < 5 → ∀ b, b < 5 → runT (countsT a b) = countsA a b := by decide +kernel
theorem counts_bad : runT [115, 97, 121, 32, 108, 101, 97, 115, 116, 32, 65, 32, 50, 49, 10] = [98, 97, 100, 10] := by decide +kernel
end Go.Proofs.YtnoohlibgaeklaaGreatDoor
namespace Go.Proofs.YtnoohlibgaeklaaGreatDoor
open Go.ChangeShapes Go.WideShapes Go.ChangeAt Go.RowKit
theorem bit_at (s : Int) (i : Nat) (h0 : 0 ≤ s) (h1 : s < 256) (hi : i < 8) : bits .and .i64 (s / 2 ^ i) 1 = oneB (hasB s i) := by
 have e : ∀ n : Nat, n < 256 → ∀ i : Nat, i < 8 → bits .and .i64 ((n : Int) / 2 ^ i) 1 = oneB (hasB n i) := by decide +kernel
 obtain ⟨n, rfl⟩ := Int.eq_ofNat_of_zero_le h0
 exact e n (by omega) i hi
theorem or_more {n : Nat} {a : Int} (h : okB n a = true) (h5 : n ≤ 5) (x : Bool) : bits .or .i64 a (wrap64 (oneB x * 2 ^ n)) = a + oneB x * pw n := by
 have e := uptoSets (P := fun u a _ => u ≤ 5 → ∀ x, bits .or .i64 a (wrap64 (oneB x * 2 ^ u.toNat)) = a + oneB x * pw u.toNat) (by decide +kernel) n a a h h (by omega) x
 simpa using e
theorem and_bit : ∀ f : Nat, f < 8 → bits .and .i64 (f : Int) 1 = oneB (bitB f 0) ∧ bits .and .i64 ((f : Int) / 2) 1 = oneB (bitB f 1) ∧ bits .and .i64 ((f : Int) / 4) 1 = oneB (bitB f 2) := by decide +kernel
set_option maxRecDepth 100000 in
set_option maxHeartbeats 4000000 in
theorem with_field (n : Nat) (a b c : Int) (f : Nat) (hok : (Wd.mk n a b c).ok = true) (h5 : n ≤ 5) (hf : f < 8) (w : World) :
    Calls Tryz.prog 154 #[.agg #[.int .i64 n, .int .i64 a, .int .i64 b, .int .i64 c], .int .i64 f] w (Bk w (((Wd.mk n a b c).more f).v)) := by
 have HV : Hid (Value.agg #[.int .i64 ((n : Int) + 1), .int .i64 (bits .or .i64 a (wrap64 (bits .and .i64 (f : Int) 1 * 2 ^ n))), .int .i64 (bits .or .i64 b (wrap64 (bits .and .i64 ((f : Int) / 2) 1 * 2 ^ n))), .int .i64 (bits .or .i64 c (wrap64 (bits .and .i64 ((f : Int) / 4) 1 * 2 ^ n)))] = ((Wd.mk n a b c).more f).v) := by
  obtain ⟨h1, h2, h3⟩ := Wd.ok_iff.1 hok
  obtain ⟨e1, e2, e3⟩ := and_bit f hf
  unfold Hid
  rw [e1, e2, e3, or_more h1 h5, or_more h2 h5, or_more h3 h5]
  rfl
 clear hok
 go_enter Tryz.func154, Tryz.ntmps154
 go_wp2
 refine wp_loop_rounds 4 ?_
 rw [rounds_succ]
 go_wp2
 go_region
 go_wp2
 rw [rounds_succ]
 go_wp2
 go_region
 go_wp2
 rw [rounds_succ]
 go_wp2
 go_region
 go_wp2
 rw [rounds_succ]
 go_wp2
 go_returns
 exact ⟨back_v HV.out, by go_grown⟩
end Go.Proofs.YtnoohlibgaeklaaGreatDoor
namespace Go.Proofs.YtnoohlibgaeklaaGreatDoor
open Go.ChangeShapes Go.WideShapes Go.ChangeAt Go.RowKit
def maskN (t : List Int) : Int := if faultN t = 0 then maskTo (liesB t) 8 else 0
theorem with_one (f : Nat) (hf : f < 8) (w : World) :
    Calls Tryz.prog 154 #[.agg #[.int .i64 0, .int .i64 0, .int .i64 0, .int .i64 0], .int .i64 f] w (Bk w (.agg #[.int .i64 1, .int .i64 (oneW f).a, .int .i64 (oneW f).b, .int .i64 (oneW f).c])) :=
 with_field 0 0 0 0 f (by decide) (by omega) hf w
theorem one_value (t : List Int) (v : Value) (f : Nat) (w : World) (h : Reads w v t) :
    Calls Tryz.prog 178 #[v, .agg #[.int .i64 1, .int .i64 (oneW f).a, .int .i64 (oneW f).b, .int .i64 (oneW f).c]] w (Bk w (.tuple #[.int .i64 (if faultN t = 0 then oneB (liesB t f) else 0), errV (faultN t)])) := by
 have hv := value_any t v 1 (oneW f).a (oneW f).b (oneW f).c w h
 have e : (Wd.mk 1 (oneW f).a (oneW f).b (oneW f).c) = oneW f := rfl
 rw [e] at hv
 have e1 : (oneW f).answer t = if faultN t = 0 then oneB (liesB t f) else 0 := by unfold Wd.answer; rw [if_pos (oneW_ok f), oneW_val]
 have e2 : (oneW f).fault t = faultN t := by
  unfold Wd.fault; rw [if_pos (oneW_ok f)]
  split
  ·rename_i h0; exact h0.symm
  ·rfl
 rw [e1, e2] at hv
 exact hv
theorem or_mask1 : ∀ k : Nat, k < 8 → ∀ m : Nat, m < 2 ^ k → ∀ x, bits .or .i64 (m : Int) (wrap64 (oneB x * 2 ^ k)) = (m : Int) + oneB x * pw k := by decide +kernel
theorem or_mask (L : Nat → Bool) {k : Nat} (hk : k < 8) : bits .or .i64 (maskTo L k) (wrap64 (oneB (L k) * 2 ^ k)) = maskTo L (k + 1) := by
 obtain ⟨m0, m1⟩ := maskTo_le L k
 obtain ⟨m, hm⟩ := Int.eq_ofNat_of_zero_le m0
 have hp : pw k = ((2 ^ k : Nat) : Int) := by unfold pw; simp
 have h := or_mask1 k hk m (by rw [hm, hp] at m1; omega) (L k)
 show _ = maskTo L k + oneB (L k) * pw k
 rw [hm]; exact h
set_option maxRecDepth 100000 in
set_option maxHeartbeats 4000000 in
theorem mask_any (t : List Int) (v : Value) (w : World) (h : Reads w v t) :
    Calls Tryz.prog 147 #[v] w (Bk w (.tuple #[.int .i64 (maskN t), errV (faultN t)])) := by
 have HV : Hid (∀ f W, Below w.heap.size w W → Calls Tryz.prog 178 #[v, .agg #[.int .i64 1, .int .i64 (oneW f).a, .int .i64 (oneW f).b, .int .i64 (oneW f).c]] W (Bk W (.tuple #[.int .i64 (if faultN t = 0 then oneB (liesB t f) else 0), errV (faultN t)]))) := fun f W hb => one_value t v f W (h.below hb)
 clear h
 by_cases hf : faultN t = 0
 ·have e1 : maskN t = maskTo (liesB t) 8 := by unfold maskN; rw [if_pos hf]
  have e2 : errV (faultN t) = .nilIface := by rw [hf]; rfl
  rw [e1, e2]
  rw [e2] at HV
  simp only [if_pos hf] at HV
  clear e1 e2 hf
  obtain ⟨L, hL⟩ := nm (liesB t)
  rw [← hL] at HV ⊢
  clear hL
  go_enter Tryz.func147, Tryz.ntmps147
  go_wp2
  go_loopw [4, 8] (fun m i wr => ∃ k : Nat, k ≤ 8 ∧ i = .int .i64 k ∧ m = .int .i64 (maskTo L k) ∧ Below w.heap.size w wr) (fun _ i _ => 8 - (intOf i).toNat)
  case atStart => exact ⟨0, Nat.zero_le _, rfl, rfl, Below.refl _ _⟩
  case round =>
   obtain ⟨k, hk, rfl, rfl, hb⟩ := hrel
   have HB := hide hb
   clear hb
   by_cases hlt : k < 8
   ·have HS : Hid (bits .or .i64 (maskTo L k) (wrap64 (oneB (L k) * 2 ^ k)) = maskTo L (k + 1)) := or_mask L hlt
    go_wp2_with fail
    go_at_call 154
    refine (with_one k hlt _).mono ?_
    rintro e w2 ⟨rfl, hb2⟩
    have HB2 := hide (HB.out.trans (hb2.mono HB.out.size))
    clear hb2
    go_wp2_with fail
    go_at_call 178
    refine (HV.out k w2 HB2.out).mono ?_
    rintro e w3 ⟨rfl, hb3⟩
    have HB3 := hide (HB2.out.trans (hb3.mono HB2.out.size))
    clear hb3
    go_wp2
    go_roundw
    case rel => exact ⟨k + 1, by omega, by go_num, by rw [HS.out], HB3.out⟩
    case measure => simp [intOf]; omega
   ·obtain rfl : k = 8 := by omega
    go_wp2
    go_ret2
    exact ⟨rfl, HB.out⟩
 ·have e1 : maskN t = 0 := by unfold maskN; rw [if_neg hf]
  have e2 : errV (faultN t) = .iface 91 (.int .i64 (faultN t)) := by unfold errV; rw [if_neg hf]
  rw [e1, e2]
  rw [e2] at HV
  simp only [if_neg hf] at HV
  clear e1 e2 hf
  obtain ⟨F, hF⟩ := nm (faultN t)
  rw [← hF] at HV ⊢
  clear hF
  go_enter Tryz.func147, Tryz.ntmps147
  go_wp2
  refine wp_loop_rounds 1 ?_
  rw [rounds_succ]
  go_wp2_with fail
  go_at_call 154
  refine (with_one 0 (by omega) _).mono ?_
  rintro e w2 ⟨rfl, hb2⟩
  have HB2 := hide hb2
  clear hb2
  go_wp2_with fail
  go_at_call 178
  refine (HV.out 0 w2 HB2.out).mono ?_
  rintro e w3 ⟨rfl, hb3⟩
  have HB3 := hide (HB2.out.trans (hb3.mono HB2.out.size))
  clear hb3
  go_wp2
  go_ret2
  exact ⟨rfl, HB3.out⟩
end Go.Proofs.YtnoohlibgaeklaaGreatDoor
namespace Go.Proofs.YtnoohlibgaeklaaGreatDoor
open Go.ChangeShapes Go.WideShapes Go.ChangeAt Go.RowKit
def Blk (w : World) (G : Nat) (T : TypeId) (cs : Array Value) : Prop := w.heap[G]? = some (.cells cs T (0, 0))
theorem Blk.lt {w : World} {G : Nat} {T : TypeId} {cs : Array Value} (h : Blk w G T cs) : G < w.heap.size := (Array.getElem?_eq_some_iff.1 h).1
theorem Blk.below {w w' : World} {G : Nat} {T : TypeId} {cs : Array Value} (h : Blk w G T cs) (hb : Below w.heap.size w w') : Blk w' G T cs := by
 unfold Blk; rw [hb.block G h.lt]; exact h
theorem Blk.cell {w : World} {G : Nat} {T : TypeId} {cs : Array Value} (h : Blk w G T cs) (j : Nat) : w.cell? ⟨G, j, none⟩ = cs[j]? := cell_of_row w G j cs T (0, 0) h
theorem Blk.at {w : World} {G : Nat} {T : TypeId} {cs : Array Value} (h : Blk w G T cs) (j : Nat) {v : Value} (hv : cs[j]? = some v) : w.cell? ⟨G, j, none⟩ = some v := (h.cell j).trans hv
theorem Blk.frozen {w : World} {G : Nat} {T : TypeId} {cs : Array Value} (h : Blk w G T cs) (j : Nat) : w.frozen? ⟨G, j, none⟩ = false := frozen_of_row w G j cs T h
theorem Blk.set {w : World} {G : Nat} {T : TypeId} {cs : Array Value} (h : Blk w G T cs) (j : Nat) (u : Value) : Blk (w.setCell ⟨G, j, none⟩ u) G T (cs.setIfInBounds j u) := heap_setCell_same w G j cs T u h
theorem Blk.far {w : World} {G : Nat} {T : TypeId} {cs : Array Value} (h : Blk w G T cs) {R : Nat} (hR : G ≠ R) (j : Nat) (u : Value) : Blk (w.setCell ⟨R, j, none⟩ u) G T cs := by
 unfold Blk; rw [heap_setCell_other w ⟨R, j, none⟩ G u hR]; exact h
theorem Blk.drew {w : World} {G : Nat} {T : TypeId} {cs : Array Value} (h : Blk w G T cs) : Blk w.drew G T cs := h
theorem Blk.new (w : World) (T : TypeId) (cs : Array Value) : Blk (w.alloc (.cells cs T)) w.heap.size T cs := heap_alloc_new w _
theorem Blk.old {w : World} {G : Nat} {T : TypeId} {cs : Array Value} (h : Blk w G T cs) (o : Obj) : Blk (w.alloc o) G T cs := by
 unfold Blk; rw [heap_alloc_old w o h.lt]; exact h
def arr8 (N : Nat → Int) : Array Value := #[.int .i64 (N 0), .int .i64 (N 1), .int .i64 (N 2), .int .i64 (N 3), .int .i64 (N 4), .int .i64 (N 5), .int .i64 (N 6), .int .i64 (N 7)]
theorem arr8_get (N : Nat → Int) {f : Nat} (hf : f < 8) : (arr8 N)[f]? = some (.int .i64 (N f)) := by
 rcases eight hf with rfl | rfl | rfl | rfl | rfl | rfl | rfl | rfl <;> rfl
theorem arr8_one (N : Nat → Int) {f : Nat} (hf : f < 8) : (arr8 N).setIfInBounds f (.int .i64 (N f + 1)) = arr8 (fun g => N g + if f = g then 1 else 0) := by
 rcases eight hf with rfl | rfl | rfl | rfl | rfl | rfl | rfl | rfl <;> simp [arr8]
theorem arr8_same {N M : Nat → Int} (h : ∀ f, f < 8 → N f = M f) : arr8 N = arr8 M := by
 unfold arr8
 rw [h 0 (by omega), h 1 (by omega), h 2 (by omega), h 3 (by omega), h 4 (by omega), h 5 (by omega), h 6 (by omega), h 7 (by omega)]
theorem arr8_all (N M : Nat → Int) : ((((((((arr8 N).setIfInBounds 0 (.int .i64 (M 0))).setIfInBounds 1 (.int .i64 (M 1))).setIfInBounds 2 (.int .i64 (M 2))).setIfInBounds 3 (.int .i64 (M 3))).setIfInBounds 4 (.int .i64 (M 4))).setIfInBounds 5 (.int .i64 (M 5))).setIfInBounds 6 (.int .i64 (M 6))).setIfInBounds 7 (.int .i64 (M 7)) = arr8 M := by
 simp [arr8]
def arrW (w : Wd) : Array Value := #[.int .i64 w.u, .int .i64 w.a, .int .i64 w.b, .int .i64 w.c]
theorem load8 {W : World} {R : Nat} {N : Nat → Int} (h : Blk W R 60 (arr8 N)) : (loadVar 60 ⟨R, 0, none⟩).run Tryz.prog W = .ok (.agg (arr8 N)) W := by
 have hl := run_loadCells_list (P := Tryz.prog) W ⟨R, 0, none⟩ (arr8 N).toList (fun j v hj => by
  have := h.cell j
  rw [← Array.getElem?_toList] at this
  rw [hj] at this
  have ha : (⟨R, 0, none⟩ : Addr).add j = ⟨R, j, none⟩ := by unfold Addr.add; split <;> simp_all
  rw [ha]; exact this)
 simp [loadVar, Tryz.isAgg60, Tryz.sizeOf60, Result.andThen, arr8] at hl ⊢
 simp [hl]
theorem Blk.cells8 {w : World} {G : Nat} {T : TypeId} {N : Nat → Int} (h : Blk w G T (arr8 N)) : w.cell? ⟨G, 0, none⟩ = some (.int .i64 (N 0)) ∧ w.cell? ⟨G, 1, none⟩ = some (.int .i64 (N 1)) ∧ w.cell? ⟨G, 2, none⟩ = some (.int .i64 (N 2)) ∧ w.cell? ⟨G, 3, none⟩ = some (.int .i64 (N 3)) ∧ w.cell? ⟨G, 4, none⟩ = some (.int .i64 (N 4)) ∧ w.cell? ⟨G, 5, none⟩ = some (.int .i64 (N 5)) ∧ w.cell? ⟨G, 6, none⟩ = some (.int .i64 (N 6)) ∧ w.cell? ⟨G, 7, none⟩ = some (.int .i64 (N 7)) :=
 ⟨h.cell 0, h.cell 1, h.cell 2, h.cell 3, h.cell 4, h.cell 5, h.cell 6, h.cell 7⟩
theorem Blk.frozen8 {w : World} {G : Nat} {T : TypeId} {cs : Array Value} (h : Blk w G T cs) : w.frozen? ⟨G, 0, none⟩ = false ∧ w.frozen? ⟨G, 1, none⟩ = false ∧ w.frozen? ⟨G, 2, none⟩ = false ∧ w.frozen? ⟨G, 3, none⟩ = false ∧ w.frozen? ⟨G, 4, none⟩ = false ∧ w.frozen? ⟨G, 5, none⟩ = false ∧ w.frozen? ⟨G, 6, none⟩ = false ∧ w.frozen? ⟨G, 7, none⟩ = false :=
 ⟨h.frozen 0, h.frozen 1, h.frozen 2, h.frozen 3, h.frozen 4, h.frozen 5, h.frozen 6, h.frozen 7⟩
theorem Blk.cells4 {w : World} {G : Nat} {T : TypeId} {W : Wd} (h : Blk w G T (arrW W)) : w.cell? ⟨G, 0, none⟩ = some (.int .i64 W.u) ∧ w.cell? ⟨G, 1, none⟩ = some (.int .i64 W.a) ∧ w.cell? ⟨G, 2, none⟩ = some (.int .i64 W.b) ∧ w.cell? ⟨G, 3, none⟩ = some (.int .i64 W.c) :=
 ⟨h.cell 0, h.cell 1, h.cell 2, h.cell 3⟩
theorem Blk.frozen4 {w : World} {G : Nat} {T : TypeId} {cs : Array Value} (h : Blk w G T cs) : w.frozen? ⟨G, 0, none⟩ = false ∧ w.frozen? ⟨G, 1, none⟩ = false ∧ w.frozen? ⟨G, 2, none⟩ = false ∧ w.frozen? ⟨G, 3, none⟩ = false :=
 ⟨h.frozen 0, h.frozen 1, h.frozen 2, h.frozen 3⟩
def put8 (w : World) (R : Nat) (M : Nat → Int) : World := (((((((w.setCell ⟨R, 0, none⟩ (.int .i64 (M 0))).setCell ⟨R, 1, none⟩ (.int .i64 (M 1))).setCell ⟨R, 2, none⟩ (.int .i64 (M 2))).setCell ⟨R, 3, none⟩ (.int .i64 (M 3))).setCell ⟨R, 4, none⟩ (.int .i64 (M 4))).setCell ⟨R, 5, none⟩ (.int .i64 (M 5))).setCell ⟨R, 6, none⟩ (.int .i64 (M 6))).setCell ⟨R, 7, none⟩ (.int .i64 (M 7))
def putW (w : World) (R : Nat) (M : Wd) : World := (((w.setCell ⟨R, 0, none⟩ (.int .i64 M.u)).setCell ⟨R, 1, none⟩ (.int .i64 M.a)).setCell ⟨R, 2, none⟩ (.int .i64 M.b)).setCell ⟨R, 3, none⟩ (.int .i64 M.c)
theorem put8_blk {w : World} {R : Nat} {T : TypeId} {N : Nat → Int} (h : Blk w R T (arr8 N)) (M : Nat → Int) : Blk (put8 w R M) R T (arr8 M) := by
 have := (((((((h.set 0 (.int .i64 (M 0))).set 1 (.int .i64 (M 1))).set 2 (.int .i64 (M 2))).set 3 (.int .i64 (M 3))).set 4 (.int .i64 (M 4))).set 5 (.int .i64 (M 5))).set 6 (.int .i64 (M 6))).set 7 (.int .i64 (M 7))
 rw [arr8_all] at this
 exact this
theorem put8_far {w : World} {R : Nat} {G : Nat} {T : TypeId} {cs : Array Value} (h : Blk w G T cs) (hR : G ≠ R) (M : Nat → Int) : Blk (put8 w R M) G T cs :=
 (((((((h.far hR 0 _).far hR 1 _).far hR 2 _).far hR 3 _).far hR 4 _).far hR 5 _).far hR 6 _).far hR 7 _
theorem put8_below {B : Nat} {w w' : World} {R : Nat} (h : Below B w w') (hR : B ≤ R) (M : Nat → Int) : Below B w (put8 w' R M) :=
 (((((((h.setCell hR _).setCell hR _).setCell hR _).setCell hR _).setCell hR _).setCell hR _).setCell hR _).setCell hR _
theorem putW_blk {w : World} {R : Nat} {T : TypeId} {N : Wd} (h : Blk w R T (arrW N)) (M : Wd) : Blk (putW w R M) R T (arrW M) := by
 have := (((h.set 0 (.int .i64 M.u)).set 1 (.int .i64 M.a)).set 2 (.int .i64 M.b)).set 3 (.int .i64 M.c)
 have e : ((((arrW N).setIfInBounds 0 (.int .i64 M.u)).setIfInBounds 1 (.int .i64 M.a)).setIfInBounds 2 (.int .i64 M.b)).setIfInBounds 3 (.int .i64 M.c) = arrW M := by simp [arrW]
 rw [e] at this
 exact this
theorem putW_far {w : World} {R : Nat} {G : Nat} {T : TypeId} {cs : Array Value} (h : Blk w G T cs) (hR : G ≠ R) (M : Wd) : Blk (putW w R M) G T cs :=
 (((h.far hR 0 _).far hR 1 _).far hR 2 _).far hR 3 _
theorem putW_below {B : Nat} {w w' : World} {R : Nat} (h : Below B w w') (hR : B ≤ R) (M : Wd) : Below B w (putW w' R M) :=
 (((h.setCell hR _).setCell hR _).setCell hR _).setCell hR _
theorem loadW {W : World} {R : Nat} {M : Wd} (h : Blk W R 58 (arrW M)) : (loadVar 58 ⟨R, 0, none⟩).run Tryz.prog W = .ok (.agg (arrW M)) W := by
 have hl := run_loadCells_list (P := Tryz.prog) W ⟨R, 0, none⟩ (arrW M).toList (fun j v hj => by
  have := h.cell j
  rw [← Array.getElem?_toList] at this
  rw [hj] at this
  have ha : (⟨R, 0, none⟩ : Addr).add j = ⟨R, j, none⟩ := by unfold Addr.add; split <;> simp_all
  rw [ha]; exact this)
 simp [loadVar, Tryz.isAgg58, Tryz.sizeOf58, Result.andThen, arrW] at hl ⊢
 simp [hl]
end Go.Proofs.YtnoohlibgaeklaaGreatDoor
namespace Go.Proofs.YtnoohlibgaeklaaGreatDoor
open Go.RowKit
structure OverS (R S : Nat → Prop) (B : Nat) (W W' : World) : Prop where
 size : W.heap.size ≤ W'.heap.size
 same : ∀ b, (B ≤ b ∨ S b) → b < W.heap.size → ¬ R b → W'.heap[b]? = W.heap[b]?
theorem OverS.refl (R S : Nat → Prop) (B : Nat) (W : World) : OverS R S B W W := ⟨Nat.le_refl _, fun _ _ _ _ => rfl⟩
theorem OverS.trans {R S : Nat → Prop} {B : Nat} {X Y Z : World} (h : OverS R S B X Y) (k : OverS R S B Y Z) : OverS R S B X Z :=
 ⟨Nat.le_trans h.size k.size, fun b hb hl hr => (k.same b hb (Nat.lt_of_lt_of_le hl h.size) hr).trans (h.same b hb hl hr)⟩
theorem OverS.of_below {R S : Nat → Prop} {B : Nat} {W W' : World} (h : Below W.heap.size W W') : OverS R S B W W' := ⟨h.size, fun b _ hl _ => h.block b hl⟩
theorem OverS.setCell {R S : Nat → Prop} {B : Nat} {X W : World} (h : OverS R S B X W) {p : Addr} (hp : p.block < B) (hs : ¬ S p.block) (u : Value) : OverS R S B X (W.setCell p u) :=
 ⟨Nat.le_trans h.size (by simp [World.setCell]), fun b hb hl hr => (Below.heap_setCell _ _ _ _ (by rcases hb with h | h; omega; intro e; exact hs (e ▸ h))).trans (h.same b hb hl hr)⟩
structure KeepS (R S : Nat → Prop) (B : Nat) (W W' : World) : Prop where
 rest : Below 0 W W'
 old : ∀ b, b < B → ¬ S b → W'.heap[b]? = W.heap[b]?
 own : ∀ b, R b → b < W.heap.size → W'.heap[b]? = W.heap[b]?
theorem below_putS {B l : Nat} (W : World) (o : Obj) (h : B ≤ l) : Below B W (W.putObj l o) :=
 ⟨rfl, rfl, rfl, by simp, fun k hk => World.putObj_heap_other (by omega)⟩
theorem KeepS.putObj {R S : Nat → Prop} {B l : Nat} (W : World) (o : Obj) (h : B ≤ l) (hr : ¬ R l) : KeepS R S B W (W.putObj l o) :=
 ⟨below_putS _ _ (Nat.zero_le _), fun b hb _ => World.putObj_heap_other (by omega), fun _ hb _ => World.putObj_heap_other (fun e => hr (e ▸ hb))⟩
def SeqS {α : Type} (n : Nat) (P : Program) (g : Nat) (lb : Array Value) (encs : α → Array Value) (A : List α) (S : Nat → Prop) (W : World) : Prop :=
 ∀ (l : Nat) (J : Nat → (Nat → Prop) → World → Prop) (Jx : Nat → World → Prop),
  (∀ k R W1 W2, J k R W1 → KeepS R S W.heap.size W1 W2 → J k R W2) →
  (∀ k x R W1, A[k]? = some x → J k R W1 → YieldAt Fence.wide (n - 1) P l (encs x) W1 fun e W' =>
   (e = .returned (.bool true) ∧ ∃ R', J (k + 1) R' W' ∧ OverS R S W.heap.size W1 W' ∧ ∀ b, R' b → R b ∨ W1.heap.size ≤ b) ∨ (e = .returned (.bool false) ∧ Jx (k + 1) W')) →
  J 0 (fun _ => False) W →
  CallsIn Fence.wide n P g (#[.func (.yield l) #[] #[]] ++ lb) W fun e W' => (∃ v, e = .returned v) ∧ ((∃ R, J A.length R W') ∨ ∃ k, k < A.length ∧ Jx (k + 1) W')
def roundPostS (R S : Nat → Prop) (B : Nat) (I : Nat → (Nat → Prop) → World → Prop) (Ix : Nat → World → Prop) (k : Nat) (W : World) : Exit → Act → World → Prop
 | .normal, _, W' => OverS R S B W W' ∧ ∃ R', I (k + 1) R' W' ∧ ∀ b, R' b → R b ∨ W.heap.size ≤ b
 | .ret, _, W' => OverS R S B W W' ∧ Ix (k + 1) W'
 | _, _, _ => False
theorem wpIn_range_ownS {α : Type} {P : Program} {n : Nat} {g : Operand} {ps : Array Tmp} {assign body : Code} {Q : Exit → Act → World → Prop} {a : Act} {w : World}
    (h1 : 1 ≤ n) {gf : Nat} {lb : Array Value} (hg : a.eval g = .func (.func gf) #[] lb) (eg : ∀ args w, (callFunc gf args).run P w = .ok (.enter gf args) w)
    {encs : α → Array Value} {A : List α} {S : Nat → Prop} (hS : ∀ b, S b → b < w.heap.size) (hseq : ∀ W, Below w.heap.size w W → SeqS (n - 1) P gf lb encs A S W) (hps : ∀ x, (encs x).size = ps.size)
    (I : Nat → (Nat → Prop) → World → Prop) (Ix : Nat → World → Prop) (hI : ∀ k R W1 W2, I k R W1 → KeepS R S w.heap.size W1 W2 → I k R W2) (hIx : ∀ k W1 W2, Ix k W1 → Below w.heap.size W1 W2 → Ix k W2) (h0 : I 0 (fun _ => False) w)
    (hround : ∀ (l k : Nat) (x : α) (R : Nat → Prop) (W : World), A[k]? = some x → w.heap.size ≤ l → l < W.heap.size → ¬ R l → I k R W →
     assign.wpIn (Fence.wide.inRound l) (n - 1 - 1) P (Exit.then (fun a1 W1 => OverS (fun _ => False) S w.heap.size W W1 ∧ ∀ o, body.wpIn (Fence.wide.inRound l) (n - 1 - 1) P (roundPostS R S w.heap.size I Ix k (W1.putObj l o)) a1 (W1.putObj l o)) (fun _ _ _ => False))
      { tmps := (ps.zip (encs x)).foldl (fun t (p, v) => t.setIfInBounds p v) a.tmps, defers := [] } W)
    (hdone : ∀ (D : Nat) (R : Nat → Prop) (W : World), w.heap.size ≤ D → ¬ R D → I A.length R W → W.heap[D]? = some (.deferred (some [])) → Q .normal { a with defers := { target := .collected D, args := #[] } :: a.defers } W)
    (hstop : ∀ (D k : Nat) (W : World), w.heap.size ≤ D → k < A.length → Ix (k + 1) W → W.heap[D]? = some (.deferred (some [])) → Code.ret.wpIn Fence.wide n P Q { a with defers := { target := .collected D, args := #[] } :: a.defers } W) :
    (Code.rangeFunc g ps assign body).wpIn Fence.wide n P Q a w := by
 refine wpIn_rangeFunc ?_
 intro fn hfn
 rw [show Fence.wide.round = none from rfl]
 obtain ⟨rec, hrec⟩ : ∃ rec : LoopState → Option Code → Loop, rec = fun st pe => { state := st, pending := pe, fn, tmps := a.tmps, params := ps, assign, body, defers := w.heap.size } := ⟨_, rfl⟩
 obtain ⟨W1, hW1⟩ : ∃ W1, (w.alloc (.deferred (some []))).alloc (.loop (rec .ready none)) = W1 := ⟨_, rfl⟩
 have hs1 : W1.heap.size = w.heap.size + 1 + 1 := by rw [← hW1, World.size_alloc, World.size_alloc]
 have hL1 : W1.heap[w.heap.size + 1]? = some (.loop (rec .ready none)) := by
  rw [← hW1]; have := World.alloc_heap_new (w.alloc (.deferred (some []))) (.loop (rec .ready none)); rwa [World.size_alloc] at this
 have hK1 : W1.heap[w.heap.size]? = some (.deferred (some [])) := by
  rw [← hW1]; exact (Below.heap_alloc _ _ _ (by simp)).trans (World.alloc_heap_new w _)
 have hb1 : Below w.heap.size w W1 := by
  rw [← hW1]; exact ((Below.refl _ w).alloc (Nat.le_refl _) _).alloc (by simp) _
 have hI1 : I 0 (fun _ => False) W1 := hI _ _ _ _ h0 ⟨hb1.mono (Nat.zero_le _), fun b hb _ => hb1.block b hb, fun _ h _ => h.elim⟩
 refine ⟨w.heap.size + 1, [{ target := .collected w.heap.size, args := #[] }], W1, { target := .fn (.func gf) lb, args := #[.func (.yield (w.heap.size + 1)) #[] #[]] }, W1, gf,
  #[.func (.yield (w.heap.size + 1)) #[] #[]] ++ lb, W1, ?_, ?_, ?_, ?_, fun _ => h1, ?_⟩
 ·rw [← hW1, hrec]; exact run_enterLoop_outer _ _ _ _ _
 ·simp only [resolve, hg]
  simp [go_sem]
 ·intro f' _; exact trivial
 ·simp [invoke, go_sem, eg]
 ·refine (hseq W1 hb1 (w.heap.size + 1)
   (fun k R W => I k R W ∧ (∀ b, R b → w.heap.size + 1 + 1 ≤ b) ∧ W.heap[w.heap.size + 1]? = some (.loop (rec .ready none)) ∧ W.heap[w.heap.size]? = some (.deferred (some [])))
   (fun k W => Ix k W ∧ W.heap[w.heap.size + 1]? = some (.loop (rec .done (some .ret))) ∧ W.heap[w.heap.size]? = some (.deferred (some [])))
   (fun k R X Y hs hb => ⟨hI k R X Y hs.1 ⟨hb.rest, fun b h1 h2 => hb.old b (by omega) h2, hb.own⟩, hs.2.1, (hb.old _ (by omega) (fun h => by have := hS _ h; omega)).trans hs.2.2.1, (hb.old _ (by omega) (fun h => by have := hS _ h; omega)).trans hs.2.2.2⟩)
   ?_ ⟨hI1, fun _ h => h.elim, hL1, hK1⟩).mono ?_
  ·rintro k x R W hx ⟨hi, hR, hl, hk⟩
   have hlt : w.heap.size + 1 < W.heap.size := (Array.getElem?_eq_some_iff.1 hl).1
   have hR1 : ¬ R (w.heap.size + 1) := fun h => by have := hR _ h; omega
   have hR0 : ¬ R w.heap.size := fun h => by have := hR _ h; omega
   have hy := run_yield (P := P) (args := encs x) hl (by rw [hrec]; exact hps x)
   rw [hrec] at hy
   refine ⟨fn, _, assign, body, hy, roundIn_of_wpIn hfn (wpIn_mono (hround _ k x R W hx (by omega) hlt hR1 hi) ?_)⟩
   intro e a1 Wa hp
   cases e with
   | normal =>
    obtain ⟨ha, hb⟩ := hp
    have hla : Wa.heap[w.heap.size + 1]? = some (.loop (rec .ready none)) := (ha.same _ (Or.inl (by omega)) hlt id).trans hl
    have hka : Wa.heap[w.heap.size]? = some (.deferred (some [])) := (ha.same _ (Or.inl (by omega)) (by omega) id).trans hk
    have hlta : w.heap.size + 1 < Wa.heap.size := (Array.getElem?_eq_some_iff.1 hla).1
    refine ⟨_, run_beginRound hla (by rw [hrec]), ?_⟩
    have hl2 : (Wa.putObj (w.heap.size + 1) (.loop { rec .ready none with state := .busy })).heap[w.heap.size + 1]? = some (.loop { rec .ready none with state := .busy }) := World.putObj_heap_same hlta
    have hk2 : (Wa.putObj (w.heap.size + 1) (.loop { rec .ready none with state := .busy })).heap[w.heap.size]? = some (.deferred (some [])) := (World.putObj_heap_other (by omega)).trans hka
    refine wpIn_mono (hb _) ?_
    have fin : ∀ (jump : Option Code) (W3 : World), OverS R S w.heap.size (Wa.putObj (w.heap.size + 1) (.loop { rec .ready none with state := .busy })) W3 →
        (Instr.endRound (w.heap.size + 1) jump).run P W3 = .ok (.bool jump.isNone) (W3.putObj (w.heap.size + 1) (.loop (rec (if jump.isNone then .ready else .done) jump))) ∧
        (W3.putObj (w.heap.size + 1) (.loop (rec (if jump.isNone then .ready else .done) jump))).heap[w.heap.size + 1]? = some (.loop (rec (if jump.isNone then .ready else .done) jump)) ∧
        (W3.putObj (w.heap.size + 1) (.loop (rec (if jump.isNone then .ready else .done) jump))).heap[w.heap.size]? = some (.deferred (some [])) := fun jump W3 hk3 => by
     have hl3 := (hk3.same _ (Or.inl (by omega)) (by simpa using hlta) hR1).trans hl2
     have := run_endRound (P := P) jump hl3
     rw [hrec] at this ⊢
     exact ⟨this, World.putObj_heap_same (Array.getElem?_eq_some_iff.1 hl3).1, (World.putObj_heap_other (by omega)).trans ((hk3.same _ (Or.inl (by omega)) (by simp; omega) hR0).trans hk2)⟩
    rintro e a3 W3 hp
    cases e with
    | normal =>
     obtain ⟨hk3, R', hi3, hr3⟩ := hp
     obtain ⟨hr, hl4, hk4⟩ := fin none W3 hk3
     have hsz : W.heap.size ≤ Wa.heap.size := ha.size
     have hR' : ∀ b, R' b → w.heap.size + 1 + 1 ≤ b := fun b hb => by
      rcases hr3 b hb with h | h
      ·exact hR b h
      ·simp at h; omega
     refine ⟨_, _, hr, .inl ⟨rfl, R', ⟨hI _ _ _ _ hi3 (KeepS.putObj _ _ (by omega) fun h => by have := hR' _ h; omega), hR', hl4, hk4⟩, ?_, fun b hb => ?_⟩⟩
     ·refine ⟨?_, fun b hb1 hb2 hb3 => ?_⟩
      ·have := ha.size
       have := hk3.size
       simp at this
       simp
       omega
      ·rw [hs1] at hb1
       have hs2 := ha.size
       have hnS : b ≠ w.heap.size + 1 := by
        rcases hb1 with h | h
        ·omega
        ·have := hS _ h; omega
       have hb1' : w.heap.size ≤ b ∨ S b := by
        rcases hb1 with h | h
        ·exact Or.inl (by omega)
        ·exact Or.inr h
       refine (World.putObj_heap_other hnS).trans ((hk3.same b hb1' (by simp; omega) hb3).trans ((World.putObj_heap_other hnS).trans (ha.same b hb1' hb2 id)))
     ·rcases hr3 b hb with h | h
      ·exact Or.inl h
      ·right; simp at h; omega
    | ret =>
     obtain ⟨hk3, hi3⟩ := hp
     obtain ⟨hr, hl4, hk4⟩ := fin (some .ret) W3 hk3
     exact ⟨_, _, hr, .inr ⟨rfl, hIx _ _ _ hi3 (below_putS _ _ (by omega)), hl4, hk4⟩⟩
    | exit id => exact hp.elim
    | goto t => exact hp.elim
    | panic ch => exact hp.elim
    | outgrown => exact hp.elim
   | ret => exact hp.elim
   | exit id => exact hp.elim
   | goto t => exact hp.elim
   | panic ch => exact hp.elim
   | outgrown => exact hp.elim
  ·rintro e W2 ⟨⟨v, rfl⟩, (⟨R, hi, hR, hl, hk⟩ | ⟨k, hkl, hi, hl, hk⟩)⟩
   ·exact ⟨none, _, by have := run_endLoop (P := P) hl (by rw [hrec]; simp); rw [hrec] at this; exact this, hdone _ R _ (Nat.le_refl _) (fun h => by have := hR _ h; omega) (hI _ _ _ _ hi (KeepS.putObj _ _ (by omega) fun h => by have := hR _ h; omega)) ((World.putObj_heap_other (by omega)).trans hk)⟩
   ·exact ⟨some .ret, _, by have := run_endLoop (P := P) hl (by rw [hrec]; simp); rw [hrec] at this; exact this, hstop _ k _ (Nat.le_refl _) hkl (hIx _ _ _ hi (below_putS _ _ (by omega))) ((World.putObj_heap_other (by omega)).trans hk)⟩
end Go.Proofs.YtnoohlibgaeklaaGreatDoor
namespace Go.Proofs.YtnoohlibgaeklaaGreatDoor
open Go.ChangeShapes Go.WideShapes Go.ChangeAt Go.RowKit
set_option maxRecDepth 100000
theorem lines_step {ats : List At} {k : Nat} {a : At} (h : ats[k]? = some a) : linesOf (ats.take (k + 1)) = linesOf (ats.take k) ++ (a.text ++ [10]) := by
 obtain ⟨hk, rfl⟩ := List.getElem?_eq_some_iff.1 h
 rw [List.take_succ_eq_append_getElem hk]
 unfold linesOf
 rw [List.map_append, List.flatten_append, List.map_cons, List.map_nil, List.flatten_cons, List.flatten_nil, List.append_nil]
theorem signs_step {c : List Int} {k : Nat} (h : k < c.length) : signsOf (c.take (k + 1)) = signsOf (c.take k) ++ (32 :: signW (c.getD k 0)) := by
 have e : c.getD k 0 = c[k] := by rw [List.getD_eq_getElem?_getD, List.getElem?_eq_getElem h]; rfl
 rw [List.take_succ_eq_append_getElem h, e]
 unfold signsOf
 rw [List.map_append, List.flatten_append, List.map_cons, List.map_nil, List.flatten_cons, List.flatten_nil, List.append_nil]
theorem lines_len {ats : List At} (h : ∀ a ∈ ats, a.fault = 0) : (linesOf ats).length ≤ 101 * ats.length := by
 induction ats with
 | nil => simp [linesOf]
 | cons a ats ih =>
  have h1 := ih fun b hb => h b (List.mem_cons_of_mem _ hb)
  have h2 : a.text.length ≤ 100 := atomText_size (h a List.mem_cons_self)
  unfold linesOf at h1 ⊢
  rw [List.map_cons, List.flatten_cons, List.length_append, List.length_append, List.length_cons]
  simp only [List.length_cons, List.length_nil]
  omega
theorem signs_len {m : Nat} (hm : m ≤ 6) : ∀ {c : List Int}, c.all (signF m) = true → (signsOf c).length ≤ 5 * c.length := by
 intro c
 induction c with
 | nil => intro _; simp [signsOf]
 | cons s c ih =>
  intro h
  rw [List.all_cons, Bool.and_eq_true] at h
  have h1 := ih h.2
  have h2 := (sign_back hm h.1).2.2.2
  unfold signsOf at h1 ⊢
  rw [List.map_cons, List.flatten_cons, List.length_append, List.length_cons, List.length_cons]
  omega
theorem text_len {ats : List At} {c : List Int} (h : formFault ats c = 0) : (formText ats c).length ≤ 800 := by
 obtain ⟨ha, hc, hf, hs, _⟩ := formFault_zero.1 h
 have h1 := lines_len hf
 have h2 := signs_len (by omega : ats.length ≤ 6) hs
 unfold formText codeW
 simp only [List.length_append, List.length_cons, List.length_nil]
 omega
theorem str_app {a b : ByteArray} {l m : List UInt8} (ha : a.data.toList = l) (hb : b.data.toList = m) : (a ++ b).data.toList = l ++ m := by
 rw [← ha, ← hb]; simp [ByteArray.data_append]
theorem str_len {a : ByteArray} {l : List UInt8} (h : a.data.toList = l) : a.size = l.length := by rw [← h]; exact Array.length_toList.symm
theorem len_le {a b : Nat} (h : a ≤ b) : a ≤ b := h
def printF (ats : List At) (c : List Int) : ByteArray := if formFault ats c = 0 then strOf (formText ats c) else ⟨#[]⟩
def readA (t : List UInt8) : List At := if formTextFault t = 0 then textAts t else []
def readC (t : List UInt8) : List Int := if formTextFault t = 0 then textCode t else []
end Go.Proofs.YtnoohlibgaeklaaGreatDoor