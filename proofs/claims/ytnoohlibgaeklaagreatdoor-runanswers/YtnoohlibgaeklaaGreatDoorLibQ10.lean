/-
  Facts and contracts that the statement leans on.
-/
import Derived.Test.YtnoohlibgaeklaaGreatDoorLibQ9
import Derived.Test.YtnoohlibgaeklaaGreatDoorRows
import Derived.Test.YtnoohlibgaeklaaGreatDoorLibQ1
import Derived.WalkKit
import Derived.ProofKit
import Derived.OpenShut
import Derived.Below
import Derived.Test.YtnoohlibgaeklaaGreatDoorLibQ8
import Derived.Test.YtnoohlibgaeklaaGreatDoorLibQ2
import Derived.Handy
import Derived.Maps.AppendAt
import Derived.OwnWalk
import Derived.Laws.OwnMore
namespace Go.Proofs.YtnoohlibgaeklaaGreatDoor
open Go.RowKit
set_option maxRecDepth 100000
set_option maxHeartbeats 16000000
def facN : Nat → Int
 | 0 => 1
 | n + 1 => ((n : Int) + 1) * facN n
def downN (w : Int) : Nat → Int
 | 0 => w
 | 1 => w
 | k + 2 => (downN w (k + 1)).tdiv ((k : Int) + 2)
def likeTo (N : Nat → Int) : Nat → Int
 | 0 => facN (sumN N 8).toNat
 | i + 1 => downN (likeTo N i) (N i).toNat
def likeN (N : Nat → Int) : Int := likeTo N 8
def eightN : Nat → Int
 | 0 => 1
 | n + 1 => eightN n * 8
def sumL (p : (Nat → Int) → Bool) : List (Nat → Int) → Int
 | [] => 0
 | N :: A => (if p N = true then likeN N else 0) + sumL p A
theorem downN_range {w : Int} (h : 0 ≤ w) (k : Nat) : 0 ≤ downN w k ∧ downN w k ≤ w := by
 induction k with
 | zero => exact ⟨h, Int.le_refl _⟩
 | succ k ih =>
  cases k with
  | zero => exact ⟨h, Int.le_refl _⟩
  | succ k =>
   show 0 ≤ (downN w (k + 1)).tdiv ((k : Int) + 2) ∧ (downN w (k + 1)).tdiv ((k : Int) + 2) ≤ w
   exact ⟨Int.tdiv_nonneg ih.1 (by omega), Int.le_trans (Int.tdiv_le_self _ ih.1) ih.2⟩
theorem facN_range : ∀ n, n ≤ 6 → 1 ≤ facN n ∧ facN n ≤ 720 := by decide
theorem likeTo_range {N : Nat → Int} (h : countsFault N = 0) (i : Nat) : 0 ≤ likeTo N i ∧ likeTo N i ≤ 720 := by
 induction i with
 | zero =>
  have := facN_range (sumN N 8).toNat (by have := (counts_zero.1 h).2; omega)
  exact ⟨by show 0 ≤ facN _; omega, this.2⟩
 | succ i ih =>
  have := downN_range ih.1 (N i).toNat
  exact ⟨this.1, Int.le_trans this.2 ih.2⟩
theorem likeTo_same {N M : Nat → Int} (h : ∀ g, g < 8 → N g = M g) : ∀ i, i ≤ 8 → likeTo N i = likeTo M i := by
 intro i
 induction i with
 | zero =>
  intro _
  have e : ∀ k, k ≤ 8 → sumN N k = sumN M k := by
   intro k
   induction k with
   | zero => intro _; rfl
   | succ k ih => intro hk; unfold sumN; rw [ih (by omega), h k (by omega)]
  show facN _ = facN _
  rw [e 8 (by omega)]
 | succ i ih =>
  intro hi
  show downN _ _ = downN _ _
  rw [ih (by omega), h i (by omega)]
theorem likeN_same {N M : Nat → Int} (h : ∀ g, g < 8 → N g = M g) : likeN N = likeN M := likeTo_same h 8 (by omega)
theorem like_facts : ∀ u, u ≤ 6 → ((everyC u).all fun N => decide (1 ≤ likeN N)) = true ∧ sumL (fun _ => true) (everyC u) = eightN u := by decide +kernel
theorem like_pos {u : Nat} (hu : u ≤ 6) {N : Nat → Int} (h : N ∈ everyC u) : 1 ≤ likeN N := of_decide_eq_true (List.all_eq_true.1 (like_facts u hu).1 N h)
theorem eight_le : ∀ u, u ≤ 6 → eightN u ≤ 262144 := by decide
theorem sumL_take {p : (Nat → Int) → Bool} : ∀ {A : List (Nat → Int)} {k : Nat} {N : Nat → Int}, A[k]? = some N → sumL p (A.take (k + 1)) = sumL p (A.take k) + if p N = true then likeN N else 0 := by
 intro A
 induction A with
 | nil => intro k N h; simp at h
 | cons M A ih =>
  intro k N h
  cases k with
  | zero =>
   obtain rfl : M = N := by simpa using h
   simp [sumL]
  | succ k =>
   have := ih (k := k) (N := N) (by simpa using h)
   simp only [List.take_succ_cons, sumL]
   rw [this]
   omega
theorem sumL_part {A : List (Nat → Int)} (hp : ∀ N ∈ A, 0 ≤ likeN N) {p : (Nat → Int) → Bool} : ∀ k, sumL p (A.take k) ≤ sumL p A := by
 induction A with
 | nil => intro k; simp
 | cons M A ih =>
  intro k
  have h1 := hp M List.mem_cons_self
  have h2 := ih fun N hN => hp N (List.mem_cons_of_mem _ hN)
  cases k with
  | zero =>
   have h3 := h2 0
   simp only [List.take_zero, sumL] at h3 ⊢
   by_cases h : p M = true
   ·rw [if_pos h]; omega
   ·rw [if_neg h]; omega
  | succ k =>
   have := h2 k
   simp only [List.take_succ_cons, sumL]
   omega
theorem sumL_range {A : List (Nat → Int)} (hp : ∀ N ∈ A, 1 ≤ likeN N) (p : (Nat → Int) → Bool) : 0 ≤ sumL p A ∧ sumL p A ≤ sumL (fun _ => true) A := by
 induction A with
 | nil => exact ⟨Int.le_refl _, Int.le_refl _⟩
 | cons N A ih =>
  have h1 := hp N List.mem_cons_self
  have h2 := ih fun M hM => hp M (List.mem_cons_of_mem _ hM)
  simp only [sumL, if_true]
  by_cases h : p N = true
  ·rw [if_pos h]; omega
  ·rw [if_neg h]; omega
theorem sumL_has {A : List (Nat → Int)} (hp : ∀ N ∈ A, 1 ≤ likeN N) {p : (Nat → Int) → Bool} {N : Nat → Int} (hN : N ∈ A) (h : p N = true) : likeN N ≤ sumL p A := by
 induction A with
 | nil => cases hN
 | cons M A ih =>
  have h1 := hp M List.mem_cons_self
  have h2 := sumL_range (fun M hM => hp M (List.mem_cons_of_mem _ hM)) p
  simp only [sumL]
  rcases List.mem_cons.1 hN with rfl | hN
  ·rw [if_pos h]; omega
  ·have := ih (fun M hM => hp M (List.mem_cons_of_mem _ hM)) hN
   by_cases hm : p M = true
   ·rw [if_pos hm]; omega
   ·rw [if_neg hm]; omega
def allFault (u : Int) : Int := if 0 ≤ u ∧ u ≤ 6 then 0 else 1
def allW (u : Int) : Int := if 0 ≤ u ∧ u ≤ 6 then eightN u.toNat else 0
def likeW (w : Wd) : Int := if w.ok = true then likeN (w.fc w.u.toNat) else 0
def worldsFault (ats : List At) (c : List Int) (u : Int) : Int := if formFault ats c = 0 then allFault u else formFault ats c
def worldsN (ats : List At) (c : List Int) (u : Int) : Int := if worldsFault ats c u = 0 then sumL (fun N => (madeN N 8).formIs ats c) (everyC u.toNat) else 0
def fillN (m p : Int) : Nat → Int
 | 0 => m
 | k + 1 => (fillN m p k * (p + k + 1)).tdiv ((k : Int) + 1)
def layTo (N : Nat → Int) : Nat → Int
 | 0 => 1
 | i + 1 => fillN (layTo N i) (sumN N i) (N i).toNat
theorem lay_facts : ∀ u, u ≤ 6 → ((everyC u).all fun N => decide (layTo N 8 = likeN N) && (List.range 8).all fun i => (List.range 7).all fun k => decide (N i < (k : Int)) || decide (0 ≤ fillN (layTo N i) (sumN N i) k ∧ fillN (layTo N i) (sumN N i) k ≤ 720)) = true := by decide +kernel
theorem sum_same {N M : Nat → Int} (h : ∀ g, g < 8 → N g = M g) : ∀ k, k ≤ 8 → sumN N k = sumN M k := by
 intro k
 induction k with
 | zero => intro _; rfl
 | succ k ih => intro hk; unfold sumN; rw [ih (by omega), h k (by omega)]
theorem lay_same {N M : Nat → Int} (h : ∀ g, g < 8 → N g = M g) : ∀ k, k ≤ 8 → layTo N k = layTo M k := by
 intro k
 induction k with
 | zero => intro _; rfl
 | succ k ih => intro hk; unfold layTo; rw [ih (by omega), h k (by omega), sum_same h k (by omega)]
theorem sum_up {N : Nat → Int} (h : ∀ g, g < 8 → 0 ≤ N g) : ∀ k, k ≤ 8 → 0 ≤ sumN N k := by
 intro k
 induction k with
 | zero => intro _; exact Int.le_refl _
 | succ k ih => intro hk; have := ih (by omega); have := h k (by omega); show 0 ≤ sumN N k + N k; omega
theorem sum_more {N : Nat → Int} (h : ∀ g, g < 8 → 0 ≤ N g) : ∀ d k, k + d = 8 → sumN N k ≤ sumN N 8 := by
 intro d
 induction d with
 | zero => intro k hk; obtain rfl : k = 8 := by omega
           exact Int.le_refl _
 | succ d ih =>
  intro k hk
  have h1 := ih (k + 1) (by omega)
  have h2 := h k (by omega)
  have e : sumN N (k + 1) = sumN N k + N k := rfl
  omega
theorem lay_right {N : Nat → Int} (h : countsFault N = 0) : layTo N 8 = likeN N ∧ ∀ i, i < 8 → 0 ≤ sumN N i ∧ sumN N i + N i ≤ 6 ∧ ∀ k : Nat, (k : Int) ≤ N i → 0 ≤ fillN (layTo N i) (sumN N i) k ∧ fillN (layTo N i) (sumN N i) k ≤ 720 := by
 obtain ⟨h1, h2⟩ := counts_zero.1 h
 have hp : ∀ g, g < 8 → 0 ≤ N g := fun g hg => (h1 g hg).1
 have h0 := sum_up hp 8 (by omega)
 have hs : sumN N 8 = (((sumN N 8).toNat : Nat) : Int) := by omega
 obtain ⟨A, hA, hAN⟩ := everyC_all (u := (sumN N 8).toNat) hp hs
 have hf := List.all_eq_true.1 (lay_facts (sumN N 8).toNat (by omega)) A hA
 rw [Bool.and_eq_true] at hf
 refine ⟨?_, fun i hi => ⟨sum_up hp i (by omega), ?_, fun k hk => ?_⟩⟩
 ·rw [← lay_same hAN 8 (by omega), ← likeN_same hAN]; exact of_decide_eq_true hf.1
 ·have := sum_more hp (8 - (i + 1)) (i + 1) (by omega)
  have e : sumN N (i + 1) = sumN N i + N i := rfl
  omega
 ·have h3 := h1 i hi
  have := sum_more hp (8 - (i + 1)) (i + 1) (by omega)
  have e : sumN N (i + 1) = sumN N i + N i := rfl
  have := sum_up hp i (by omega)
  have hq := List.all_eq_true.1 (List.all_eq_true.1 hf.2 i (List.mem_range.2 hi)) k (List.mem_range.2 (by omega))
  rw [Bool.or_eq_true] at hq
  rw [← lay_same hAN i (by omega), ← sum_same hAN i (by omega)]
  rcases hq with hq | hq
  ·have := of_decide_eq_true hq
   rw [hAN i hi] at this
   omega
  ·exact of_decide_eq_true hq
theorem lay_step (N : Nat → Int) (i : Nat) : layTo N (i + 1) = fillN (layTo N i) (sumN N i) (N i).toNat := rfl
end Go.Proofs.YtnoohlibgaeklaaGreatDoor
namespace Go.Proofs.YtnoohlibgaeklaaGreatDoor
open Go.ChangeShapes Go.WideShapes Go.ChangeAt Go.RowKit
set_option maxRecDepth 100000
set_option maxHeartbeats 16000000
theorem ret_i {k : IntKind} {a b : Int} (h : a = b) : Ending.returned (.int k a) = .returned (.int k b) := by rw [h]
theorem ret_b {a b : Bool} (h : a = b) : Ending.returned (.bool a) = .returned (.bool b) := by rw [h]
theorem refPower_any (n : Nat) (hn : n ≤ 62) (w : World) :
    Calls Tryz.prog 49 #[.int .i64 n] w (Sk w (.int .i64 (pw n))) := by
 go_enter Tryz.func49, Tryz.ntmps49
 go_wp2
 go_loop [3, 4] (fun p i => ∃ k : Nat, k ≤ n ∧ i = .int .i64 k ∧ p = .int .i64 (pw k)) (fun _ i => n - (intOf i).toNat)
 case atStart => exact ⟨0, Nat.zero_le _, rfl, rfl⟩
 case round =>
  obtain ⟨k, hk, rfl, rfl⟩ := hrel
  by_cases hlt : k < n
  ·have p1 := pw_pos k
   have p2 := pw_le61 (k := k) (by omega)
   have HS : Hid (pw (k + 1) = 2 * pw k) := pw_succ k
   go_wp2
   go_round
   case rel => exact ⟨k + 1, by omega, by go_num, by rw [HS.out]⟩
   case measure => simp [intOf]; omega
  ·obtain rfl : k = n := by omega
   go_wp2
   go_ret
   exact ⟨rfl, rfl⟩
theorem refHas_any (s : Int) (i : Nat) (hs : 0 ≤ s) (hm : s ≤ 9223372036854775807) (hi : i ≤ 62) (w : World) :
    Calls Tryz.prog 48 #[.int .i64 s, .int .i64 i] w (Sk w (.bool (hasB s i))) := by
 have p1 := pw_pos i
 go_enter Tryz.func48, Tryz.ntmps48
 go_wp2_with (go_at_call 49; refine (refPower_any _ hi _).mono ?_; rintro e w' ⟨rfl, rfl⟩)
 go_ret
 exact ⟨ret_b (has_spell2 s i hs), rfl⟩
def txtOf (l : List UInt8) : ByteArray := ⟨l.toArray⟩
theorem txtOf_size (l : List UInt8) : (txtOf l).size = l.length := by unfold txtOf; simp [ByteArray.size]
theorem ret_t {a b : ByteArray} (h : a = b) : Ending.returned (.string a) = .returned (.string b) := by rw [h]
def decF : Nat → Nat → List UInt8
 | 0, u => [UInt8.ofNat (48 + u % 10)]
 | f + 1, u => if u < 10 then [UInt8.ofNat (48 + u)] else decF f (u / 10) ++ [UInt8.ofNat (48 + u % 10)]
def decT (u : Nat) : List UInt8 := decF 8 u
theorem decF_length (f : Nat) : ∀ u, (decF f u).length ≤ f + 1 := by
 induction f with
 | zero => intro u; exact Nat.le_refl 1
 | succ f ih =>
  intro u
  unfold decF
  split
  ·simp
  ·rw [List.length_append]; have := ih (u / 10); show _ + 1 ≤ _; omega
theorem digitR_cut : ∀ u : Nat, u < 10 → (⟨#[48, 49, 50, 51, 52, 53, 54, 55, 56, 57]⟩ : ByteArray).extract u (u + 1) = txtOf [UInt8.ofNat (48 + u)] := by decide
theorem digitsR_any (f : Nat) (hf : f ≤ 8) : ∀ (u : Nat), u < 10 ^ (f + 1) → ∀ (w : World),
    Calls Tryz.prog 9 #[.int .i64 u] w (Sk w (.string (txtOf (decF f u)))) := by
 induction f with
 | zero =>
  intro u h w
  have h : u < 10 := h
  have e : decF 0 u = [UInt8.ofNat (48 + u)] := by unfold decF; rw [Nat.mod_eq_of_lt h]
  rw [e, ← digitR_cut u h]
  have h1 : (u : Int) < 10 := by omega
  have h2 : (0 : Int) ≤ (u : Int) := by omega
  have h3 : (u : Int) ≤ (u : Int) + 1 := by omega
  have h4 : (u : Int) + 1 ≤ 10 := by omega
  clear e
  go_enter Tryz.func9, Tryz.ntmps9
  go_wp2
  go_ret
  exact ⟨rfl, rfl⟩
 | succ f ih =>
  intro u h w
  by_cases h1 : u < 10
  ·have e : decF (f + 1) u = [UInt8.ofNat (48 + u)] := by unfold decF; rw [if_pos h1]
   rw [e, ← digitR_cut u h1]
   have h1' : (u : Int) < 10 := by omega
   have h2 : (0 : Int) ≤ (u : Int) := by omega
   have h3 : (u : Int) ≤ (u : Int) + 1 := by omega
   have h4 : (u : Int) + 1 ≤ 10 := by omega
   clear e ih h
   go_enter Tryz.func9, Tryz.ntmps9
   go_wp2
   go_ret
   exact ⟨rfl, rfl⟩
  ·have HD : Hid (∀ W, Calls Tryz.prog 9 #[.int .i64 ((u / 10 : Nat) : Int)] W (Sk W (.string (txtOf (decF f (u / 10)))))) := fun W => ih (by omega) (u / 10) (by rw [Nat.pow_succ] at h; omega) W
   have h63 : u ≤ 1000000000 := by
    have : 10 ^ (f + 1 + 1) ≤ 10 ^ 9 := Nat.pow_le_pow_right (by decide) (by omega)
    omega
   have hl := decF_length f (u / 10)
   obtain ⟨q, hq⟩ := nm (u / 10)
   obtain ⟨r, hr⟩ := nm (u % 10)
   have e : decF (f + 1) u = decF f q ++ [UInt8.ofNat (48 + r)] := by rw [hq, hr]; unfold decF; rw [if_neg h1]; cases f <;> rfl
   rw [← hq] at HD hl
   have HE : Hid (txtOf (decF (f + 1) u) = txtOf (decF f q) ++ (⟨#[48, 49, 50, 51, 52, 53, 54, 55, 56, 57]⟩ : ByteArray).extract r (r + 1)) := by
    unfold Hid
    rw [e, digitR_cut r (by omega)]
    apply ByteArray.ext
    simp [txtOf]
   obtain ⟨T, hT⟩ := nm (txtOf (decF (f + 1) u))
   rw [← hT] at HE ⊢
   have hm : (u : Int) % 10 = (r : Int) := by rw [hr]; omega
   have hdv : (u : Int) / 10 = (q : Int) := by rw [hq]; omega
   have h10 : ¬ ((u : Int) < 10) := by omega
   have r0 : (0 : Int) ≤ (r : Int) := by omega
   have r1 : (r : Int) ≤ (r : Int) + 1 := by omega
   have r2 : (r : Int) + 1 ≤ 10 := by omega
   obtain ⟨Y, hY⟩ := nm (txtOf (decF f q))
   have hYs : Y.size ≤ 20 := by rw [hY, txtOf_size]; omega
   rw [← hY] at HD HE
   clear e hT h1 hq hr hY ih h hl
   go_enter Tryz.func9, Tryz.ntmps9
   go_wp2_with (go_at_call 9; refine (HD.out _).mono ?_; rintro e w' ⟨rfl, rfl⟩)
   go_ret
   exact ⟨ret_t HE.out.symm, rfl⟩
theorem refDigits_any (u : Nat) (h : u < 1000000000) (w : World) :
    Calls Tryz.prog 9 #[.int .i64 u] w (Sk w (.string (txtOf (decT u)))) := digitsR_any 8 (by decide) u h w
end Go.Proofs.YtnoohlibgaeklaaGreatDoor
namespace Go.Proofs.YtnoohlibgaeklaaGreatDoor
open Go.RowKit
set_option maxRecDepth 100000
set_option maxHeartbeats 16000000
def manyW : List UInt8 := [109, 97, 110, 121]
def worldsW : List UInt8 := [119, 111, 114, 108, 100, 115]
def spanW : List UInt8 := [115, 112, 97, 110]
def sayW : List UInt8 := [115, 97, 121]
def denyW : List UInt8 := [100, 101, 110, 121]
def askW : List UInt8 := [97, 115, 107]
def badW : List UInt8 := [98, 97, 100]
def okW : List UInt8 := [111, 107]
def yesW : List UInt8 := [121, 101, 115]
def noW : List UInt8 := [110, 111]
def openW : List UInt8 := [111, 112, 101, 110]
def fullW : List UInt8 := [69, 114, 114, 70, 117, 108, 108]
def clashW : List UInt8 := [69, 114, 114, 67, 108, 97, 115, 104]
def longW : List UInt8 := [116, 111, 111, 32, 108, 111, 110, 103, 10]
def moreB (s : List UInt8) : Bool := s.any (· == 32)
def wordL (s : List UInt8) : List UInt8 := s.takeWhile (· != 32)
def restL (s : List UInt8) : List UInt8 := s.drop ((wordL s).length + 1)
def worldsSo (fs : List Fm) : Int := sumL (fun N => (madeN N 8).so fs) (everyC 4)
def spanSoStep (fs : List Fm) (t : List Int) (p : Int × Int) (D : Wd) : Int × Int :=
 (if (D.so fs && decide (pcN (D.val t) < p.1)) = true then pcN (D.val t) else p.1, if (D.so fs && decide (p.2 < pcN (D.val t))) = true then pcN (D.val t) else p.2)
def spanSoOver (fs : List Fm) (t : List Int) (L : List Wd) : Int × Int := L.foldl (spanSoStep fs t) (100, 0)
def spanSo (fs : List Fm) (t : List Int) : Int × Int := spanSoOver fs t (worldsL 4)
def answerW (n : Int) : List UInt8 := if n = 1 then yesW else if n = -1 then noW else openW
def lineT (fs : List Fm) (s : List UInt8) : List UInt8 :=
 if moreB s = false then (if s = manyW then decT fs.length else if s = worldsW then decT (worldsSo fs).toNat else badW)
 else if wordL s = spanW then (if lettersB (restL s) = true ∧ faultN (readN (restL s)) = 0 then decT (spanSo fs (readN (restL s))).1.toNat ++ (32 :: decT (spanSo fs (readN (restL s))).2.toNat) else badW)
 else if wordL s = sayW ∨ wordL s = denyW ∨ wordL s = askW then
  (if lineFault (restL s) = 0 then
   (if wordL s = askW then answerW (answerN (askP fs [atOf (restL s)] [0] 4))
   else if 6 ≤ fs.length then fullW
   else if openN (fs ++ [aloneF (atOf (restL s)) (decide (wordL s = sayW))]) 4 = true then okW else clashW)
  else badW)
 else badW
def lineS (fs : List Fm) (s : List UInt8) : List Fm :=
 if moreB s = true ∧ (wordL s = sayW ∨ wordL s = denyW) ∧ lineFault (restL s) = 0 ∧ fs.length < 6 ∧ openN (fs ++ [aloneF (atOf (restL s)) (decide (wordL s = sayW))]) 4 = true then fs ++ [aloneF (atOf (restL s)) (decide (wordL s = sayW))] else fs
def runL (t : List UInt8) : List (List UInt8) := if (cutB 10 t).getLast? = some [] then (cutB 10 t).dropLast else cutB 10 t
def runF : List Fm → List (List UInt8) → List UInt8
 | _, [] => []
 | fs, s :: r => lineT fs s ++ (10 :: runF (lineS fs s) r)
def runT (t : List UInt8) : List UInt8 := if 3000 < t.length then longW else runF [] (runL t)
structure SaidOk (fs : List Fm) : Prop where
 good : ∀ f ∈ fs, ∃ a h, f = aloneF a h ∧ a.fault = 0
 n6 : fs.length ≤ 6
 op : openN fs 4 = true
theorem said0 : SaidOk [] := ⟨fun f h => (by cases h), Nat.zero_le _, open_nil _⟩
theorem SaidOk.fault {fs : List Fm} (h : SaidOk fs) : ∀ f ∈ fs, f.fault = 0 := fun f hf => by
 obtain ⟨a, b, rfl, ha⟩ := h.good f hf
 exact alone_right ha b
theorem wq_no {l m : List UInt8} (h : ¬ l = m) : ((strOf l).toList == m) = false := by
 rw [Lib.toList_data, strOf_list]
 simpa using h
theorem wq_yes (l : List UInt8) : ((strOf l).toList == l) = true := by
 rw [Lib.toList_data, strOf_list]
 simp
end Go.Proofs.YtnoohlibgaeklaaGreatDoor
namespace Go.Proofs.YtnoohlibgaeklaaGreatDoor
open Go.ChangeShapes Go.WideShapes Go.ChangeAt Go.RowKit
set_option maxRecDepth 100000
set_option maxHeartbeats 16000000
def AtomAt (w : World) (b off : Nat) (a : At) : Prop :=
 ∃ vs vt, w.cell? ⟨b, off, none⟩ = some (.int .i64 a.k) ∧ w.cell? ⟨b, off + 1, none⟩ = some vs ∧ w.cell? ⟨b, off + 2, none⟩ = some vt ∧ w.cell? ⟨b, off + 3, none⟩ = some (.int .i64 a.n) ∧ Reads w vs a.s ∧ Reads w vt a.t
def ReadsA (w : World) (v : Value) (ats : List At) : Prop :=
 (∃ ao cap, v = .slice ao 0 cap ∧ ats = []) ∨ (∃ b off cap, v = .slice (some ⟨b, off, none⟩) ats.length cap ∧ b < w.heap.size ∧ 0 < ats.length ∧ (ats.length ≤ 9223372036854775807 ∧ ats.length ≤ cap) ∧ ∀ i a, ats[i]? = some a → AtomAt w b (off + i * 4) a)
theorem AtomAt.below {w w' : World} {b off : Nat} {a : At} (h : AtomAt w b off a) (hB : b < w.heap.size) (hb : Bw w w') : AtomAt w' b off a := by
 obtain ⟨vs, vt, h1, h2, h3, h4, h5, h6⟩ := h
 exact ⟨vs, vt, by rw [hb.cell hB]; exact h1, by rw [hb.cell hB]; exact h2, by rw [hb.cell hB]; exact h3, by rw [hb.cell hB]; exact h4, h5.below hb, h6.below hb⟩
theorem ReadsA.below {w w' : World} {v : Value} {ats : List At} (h : ReadsA w v ats) (hb : Bw w w') : ReadsA w' v ats := by
 rcases h with h | ⟨b, off, cap, h1, h2, h3, h4, h5⟩
 ·exact Or.inl h
 ·exact Or.inr ⟨b, off, cap, h1, Nat.lt_of_lt_of_le h2 hb.size, h3, h4, fun i a ha => (h5 i a ha).below h2 hb⟩
theorem ReadsA.slice {w : World} {v : Value} {ats : List At} (h : ReadsA w v ats) : ∃ ao cap, v = .slice ao ats.length cap ∧ ats.length ≤ 9223372036854775807 := by
 rcases h with ⟨ao, cap, rfl, rfl⟩ | ⟨b, off, cap, rfl, _, _, h, _⟩
 ·exact ⟨ao, cap, rfl, by decide⟩
 ·exact ⟨_, cap, rfl, h.1⟩
theorem ftakes_any (s : Int) (w : World) :
    Calls Tryz.prog 115 #[.int .i64 s] w (Sk w (.int .i64 (takesF s))) := by
 by_cases h5 : s = 10
 ·subst h5
  go_enter Tryz.func115, Tryz.ntmps115
  go_wp2
  go_ret
  exact ⟨rfl, rfl⟩
 by_cases h6 : s = 11
 ·subst h6
  go_enter Tryz.func115, Tryz.ntmps115
  go_wp2
  go_ret
  exact ⟨rfl, rfl⟩
 by_cases h7 : s = 13
 ·subst h7
  go_enter Tryz.func115, Tryz.ntmps115
  go_wp2
  go_ret
  exact ⟨rfl, rfl⟩
 by_cases h8 : s = 12
 ·subst h8
  go_enter Tryz.func115, Tryz.ntmps115
  go_wp2
  go_ret
  exact ⟨rfl, rfl⟩
 have e : takesF s = 0 := by unfold takesF; rw [if_neg (by omega), if_neg h8]
 rw [e]
 clear e
 have h5' : (s == 10) = false := by simpa using h5
 have h6' : (s == 11) = false := by simpa using h6
 have h7' : (s == 13) = false := by simpa using h7
 have h8' : (s == 12) = false := by simpa using h8
 clear h5 h6 h7 h8
 go_enter Tryz.func115, Tryz.ntmps115
 go_wp2
 go_ret
 exact ⟨rfl, rfl⟩
theorem tooMany_any (a s : Int) (w : World) :
    Calls Tryz.prog 109 #[.int .i64 a, .int .i64 s] w (Sk w (.bool (decide (6 < a) || decide (20 < s)))) := by
 by_cases h1 : 6 < a
 ·go_enter Tryz.func109, Tryz.ntmps109
  go_wp2
  go_ret
  exact ⟨by simp [h1], rfl⟩
 ·by_cases h2 : 20 < s
  ·go_enter Tryz.func109, Tryz.ntmps109
   go_wp2
   go_ret
   exact ⟨by simp, rfl⟩
  ·go_enter Tryz.func109, Tryz.ntmps109
   go_wp2
   go_ret
   exact ⟨by simp [h1, h2], rfl⟩
theorem fnoSign_any (m cap P : Nat) (ao : Option Addr) (s : Int) (w : World) (hP : w.cell? ⟨P, 0, none⟩ = some (.slice ao m cap)) :
    Calls Tryz.prog 114 #[.int .i64 s, .pointer (some ⟨P, 0, none⟩)] w (Sk w (.bool (!signF m s))) := by
 have HT : Hid (∀ W, Calls Tryz.prog 115 #[.int .i64 s] W (Sk W (.int .i64 (takesF s)))) := fun W => ftakes_any s W
 by_cases h0 : takesF s = 0
 ·rw [h0] at HT
  by_cases h1 : s < 0
  ·have e : signF m s = false := by simp [signF, h0, h1]
   rw [e]
   clear e h0
   go_enter Tryz.func114, Tryz.ntmps114
   go_wp2_with (go_at_call 115; refine (HT.out _).mono ?_; rintro e w' ⟨rfl, rfl⟩)
   go_ret
   exact ⟨rfl, rfl⟩
  ·by_cases h2 : (m : Int) ≤ s
   ·have e : signF m s = false := by simp [signF, h0, h2]
    rw [e]
    clear e h0
    go_enter Tryz.func114, Tryz.ntmps114
    go_wp2_with (go_at_call 115; refine (HT.out _).mono ?_; rintro e w' ⟨rfl, rfl⟩)
    go_ret
    exact ⟨rfl, rfl⟩
   ·have e : signF m s = true := by simp [signF, h1, h2]
    rw [e]
    clear e h0
    go_enter Tryz.func114, Tryz.ntmps114
    go_wp2_with (go_at_call 115; refine (HT.out _).mono ?_; rintro e w' ⟨rfl, rfl⟩)
    go_ret
    exact ⟨back_b (by simp; omega), rfl⟩
 ·have e : signF m s = true := by simp [signF, h0]
  rw [e]
  clear e
  have h0' : (takesF s == 0) = false := by simpa using h0
  clear h0
  go_enter Tryz.func114, Tryz.ntmps114
  go_wp2_with (go_at_call 115; refine (HT.out _).mono ?_; rintro e w' ⟨rfl, rfl⟩)
  go_ret
  exact ⟨rfl, rfl⟩
def firstBadF (m : Nat) : List Int → Nat → Int
 | [], _ => -1
 | s :: l, k => if signF m s = true then firstBadF m l (k + 1) else k
theorem firstBadF_lt (m : Nat) (t : List Int) (k : Nat) : (firstBadF m t k < 0 ↔ t.all (signF m) = true) ∧ -1 ≤ firstBadF m t k := by
 induction t generalizing k with
 | nil => exact ⟨⟨fun _ => rfl, fun _ => show (-1 : Int) < 0 by decide⟩, Int.le_refl _⟩
 | cons s l ih =>
  unfold firstBadF
  by_cases h : signF m s = true
  ·rw [if_pos h]; simpa [h] using ih (k + 1)
  ·rw [if_neg h]; simp only [List.all_cons, h]; simp
theorem firstBadF_drop (m : Nat) (t : List Int) {k : Nat} (hk : k < t.length) : firstBadF m (t.drop k) k = if signF m (t.getD k 0) = true then firstBadF m (t.drop (k + 1)) (k + 1) else k := by
 rw [List.drop_eq_getElem_cons hk]
 simp [firstBadF, List.getElem?_eq_getElem hk]
theorem findexFunc_any (m mcap P : Nat) (ao : Option Addr) (b off cap : Nat) (t : List Int) (w : World) (hl : t.length ≤ 9223372036854775807) (hP : w.cell? ⟨P, 0, none⟩ = some (.slice ao m mcap)) (hc : ∀ k, k < t.length → w.cell? ⟨b, off + k, none⟩ = some (.int .i64 (t.getD k 0))) :
    Calls Tryz.prog 153 #[.slice (some ⟨b, off, none⟩) t.length cap, .func (.func 114) #[] #[.pointer (some ⟨P, 0, none⟩)]] w (Sk w (.int .i64 (firstBadF m t 0))) := by
 have HF : Hid (∀ {k : Nat}, k < t.length → firstBadF m (t.drop k) k = if signF m (t.getD k 0) = true then firstBadF m (t.drop (k + 1)) (k + 1) else k) := fun {_} h => firstBadF_drop m t h
 have HC := hide hc
 clear hc
 have HP := hide hP
 clear hP
 obtain ⟨n, hn⟩ := nm t.length
 rw [← hn] at hl ⊢
 have HN := hide hn
 clear hn
 go_enter Tryz.func153, Tryz.ntmps153
 go_wp2
 go_loop [8] (fun i => ∃ k : Nat, k ≤ n ∧ i = .int .i64 k ∧ firstBadF m (t.drop k) k = firstBadF m t 0) (fun i => n - (intOf i).toNat)
 case atStart => exact ⟨0, Nat.zero_le _, rfl, rfl⟩
 case round =>
  obtain ⟨k, hk, rfl, hF⟩ := hrel
  have HK := hide hF
  clear hF
  by_cases hlt : k < n
  ·obtain ⟨s, hs⟩ := nm (t.getD k 0)
   have hc := HC.out k (by rw [← HN.out]; exact hlt)
   rw [← hs] at hc
   have HS := hide hs
   clear hs
   have HD : Hid (firstBadF m (t.drop k) k = if signF m s = true then firstBadF m (t.drop (k + 1)) (k + 1) else k) := by
    have := HF.out (k := k) (by rw [← HN.out]; exact hlt)
    rw [← HS.out] at this; exact this
   by_cases hb : signF m s = true
   ·have HD' : Hid (firstBadF m (t.drop (k + 1)) (k + 1) = firstBadF m t 0) := by
     have h1 := HD.out
     rw [if_pos hb] at h1
     exact h1.symm.trans HK.out
    go_wp2_with (go_at_call 114; refine (fnoSign_any m mcap P ao _ _ HP.out).mono ?_; rintro e w' ⟨rfl, rfl⟩)
    go_round
    case rel => exact ⟨k + 1, by omega, by go_num, HD'.out⟩
    case measure => simp [intOf]; omega
   ·have HD' : Hid ((k : Int) = firstBadF m t 0) := by
     have h1 := HD.out
     rw [if_neg hb] at h1
     exact h1.symm.trans HK.out
    have hb' : signF m s = false := by simpa using hb
    clear hb
    go_wp2_with (go_at_call 114; refine (fnoSign_any m mcap P ao _ _ HP.out).mono ?_; rintro e w' ⟨rfl, rfl⟩)
    go_ret
    exact ⟨back_i HD'.out, rfl⟩
  ·have HE : Hid (firstBadF m t 0 = -1) := by
    have h1 := HK.out
    rw [List.drop_eq_nil_of_le (by have := HN.out; omega)] at h1
    exact h1.symm
   go_wp2
   go_ret
   exact ⟨back_i HE.out.symm, rfl⟩
theorem fcontainsFunc_any (m mcap P : Nat) (ao : Option Addr) (b off cap : Nat) (t : List Int) (w : World) (hl : t.length ≤ 9223372036854775807) (hP : w.cell? ⟨P, 0, none⟩ = some (.slice ao m mcap)) (hc : ∀ k, k < t.length → w.cell? ⟨b, off + k, none⟩ = some (.int .i64 (t.getD k 0))) :
    Calls Tryz.prog 116 #[.slice (some ⟨b, off, none⟩) t.length cap, .func (.func 114) #[] #[.pointer (some ⟨P, 0, none⟩)]] w (Sk w (.bool (!t.all (signF m)))) := by
 have c := findexFunc_any m mcap P ao b off cap t w hl hP hc
 clear hc hP
 obtain ⟨h1, h2⟩ := firstBadF_lt m t 0
 obtain ⟨n, hn⟩ := nm (firstBadF m t 0)
 rw [← hn] at c h1 h2
 clear hn
 by_cases h : t.all (signF m) = true
 ·obtain rfl : n = -1 := by have := h1.2 h; omega
  rw [h]
  clear h1 h2 h
  go_enter Tryz.func116, Tryz.ntmps116
  go_wp2_with (go_at_call 153; refine c.mono ?_; rintro e w' ⟨rfl, rfl⟩)
  go_ret
  exact ⟨rfl, rfl⟩
 ·have h0 : 0 ≤ n := by
   rcases Int.lt_or_le n 0 with h' | h'
   ·exact absurd (h1.1 h') h
   ·exact h'
  have h' : t.all (signF m) = false := by simpa using h
  rw [h']
  clear h1 h2 h h'
  go_enter Tryz.func116, Tryz.ntmps116
  go_wp2_with (go_at_call 153; refine c.mono ?_; rintro e w' ⟨rfl, rfl⟩)
  go_ret
  exact ⟨rfl, rfl⟩
theorem fisOne_any (b off cap : Nat) (t : List Int) (w : World) (hl : t.length ≤ 20) (hc : ∀ k, k < t.length → w.cell? ⟨b, off + k, none⟩ = some (.int .i64 (t.getD k 0))) :
    Calls Tryz.prog 117 #[.slice (some ⟨b, off, none⟩) t.length cap] w (Sk w (.bool (decide (cntF t 0 = some 1)))) := by
 have HC := hide hc
 clear hc
 obtain ⟨n, hn⟩ := nm t.length
 rw [← hn] at hl ⊢
 have HN := hide hn
 clear hn
 obtain ⟨R, hR⟩ := nm (decide (cntF t 0 = some 1))
 rw [← hR]
 have HR := hide hR
 clear hR
 go_enter Tryz.func117, Tryz.ntmps117
 go_wp2
 go_loop [3, 8] (fun c i => ∃ (k : Nat) (m : Int), k ≤ n ∧ i = .int .i64 k ∧ c = .int .i64 m ∧ cntF (t.take k) 0 = some m) (fun _ i => n - (intOf i).toNat)
 case atStart => exact ⟨0, 0, Nat.zero_le _, rfl, rfl, rfl⟩
 case round =>
  obtain ⟨k, m, hk, rfl, rfl, hm⟩ := hrel
  have HM := hide hm
  have hm0 : 0 ≤ m ∧ m ≤ 20 := by
   have := cntF_nonneg (Int.le_refl 0) hm
   simp at this
   omega
  clear hm
  by_cases hlt : k < n
  ·obtain ⟨s, hs⟩ := nm (t.getD k 0)
   have hc := HC.out k (by rw [← HN.out]; exact hlt)
   rw [← hs] at hc
   have HD : Hid (cntF (t.take (k + 1)) 0 = if m < takesF s then none else some (m + 1 - takesF s)) := by
    have := cntF_take_succ t (k := k) (by rw [← HN.out]; exact hlt) HM.out
    rw [← hs] at this; exact this
   clear hs
   have ht := takesF_range s
   by_cases hb : m < takesF s
   ·have HE : Hid (R = false) := by
     have h1 := HD.out
     rw [if_pos hb] at h1
     have h2 := cntF_take_none t (k + 1) h1
     have h3 := HR.out
     rw [h2] at h3
     exact h3.trans (by decide)
    go_wp2_with (go_at_call 115; refine (ftakes_any _ _).mono ?_; rintro e w' ⟨rfl, rfl⟩)
    go_ret
    exact ⟨back_b HE.out.symm, rfl⟩
   ·have HE : Hid (cntF (t.take (k + 1)) 0 = some (m + (1 - takesF s))) := by
     have h1 := HD.out
     rw [if_neg hb] at h1
     rw [show m + (1 - takesF s) = m + 1 - takesF s by omega]
     exact h1
    go_wp2_with (go_at_call 115; refine (ftakes_any _ _).mono ?_; rintro e w' ⟨rfl, rfl⟩)
    go_round
    case rel => exact ⟨k + 1, _, by omega, by go_num, rfl, HE.out⟩
    case measure => simp [intOf]; omega
  ·have HE : Hid (R = (m == 1)) := by
    have h1 := HM.out
    rw [List.take_of_length_le (by have := HN.out; omega)] at h1
    have h3 := HR.out
    rw [h1] at h3
    rw [h3]
    by_cases h : m = 1
    ·subst h; rfl
    ·rw [decide_eq_false (by simpa using h)]; exact (beq_eq_false_iff_ne.2 h).symm
   go_wp2
   go_ret
   exact ⟨back_b HE.out.symm, rfl⟩
def FormAt (w : World) (b off : Nat) (f : Fm) : Prop :=
 ∃ va vc, w.cell? ⟨b, off, none⟩ = some va ∧ w.cell? ⟨b, off + 1, none⟩ = some vc ∧ ReadsA w va f.ats ∧ Reads w vc f.c
def ReadsF (w : World) (v : Value) (fs : List Fm) : Prop :=
 (∃ ao cap, v = .slice ao 0 cap ∧ fs = []) ∨ (∃ b off cap, v = .slice (some ⟨b, off, none⟩) fs.length cap ∧ b < w.heap.size ∧ 0 < fs.length ∧ (fs.length ≤ 9223372036854775807 ∧ fs.length ≤ cap) ∧ ∀ i f, fs[i]? = some f → FormAt w b (off + i * 2) f)
theorem FormAt.below {w w' : World} {b off : Nat} {f : Fm} (h : FormAt w b off f) (hB : b < w.heap.size) (hb : Bw w w') : FormAt w' b off f := by
 obtain ⟨va, vc, h0, h1, h2, h3⟩ := h
 exact ⟨va, vc, (hb.cell hB).trans h0, (hb.cell hB).trans h1, h2.below hb, h3.below hb⟩
theorem ReadsF.below {w w' : World} {v : Value} {fs : List Fm} (h : ReadsF w v fs) (hb : Bw w w') : ReadsF w' v fs := by
 rcases h with h | ⟨b, off, cap, h1, h2, h3, h4, h5⟩
 ·exact Or.inl h
 ·exact Or.inr ⟨b, off, cap, h1, Nat.lt_of_lt_of_le h2 hb.size, h3, h4, fun i f hf => (h5 i f hf).below h2 hb⟩
theorem ReadsF.slice {w : World} {v : Value} {fs : List Fm} (h : ReadsF w v fs) : ∃ ao cap, v = .slice ao fs.length cap ∧ fs.length ≤ 9223372036854775807 := by
 rcases h with ⟨ao, cap, rfl, rfl⟩ | ⟨b, off, cap, rfl, _, _, h, _⟩
 ·exact ⟨ao, cap, rfl, by decide⟩
 ·exact ⟨_, cap, rfl, h.1⟩
theorem ReadsF.at {w : World} {b off n cap : Nat} {fs : List Fm} (h : ReadsF w (.slice (some ⟨b, off, none⟩) n cap) fs) {i : Nat} {f : Fm} (hf : fs[i]? = some f) : b < w.heap.size ∧ FormAt w b (off + i * 2) f := by
 rcases h with ⟨ao, cap', hv, h0⟩ | ⟨b', off', cap', hv, h2, _, _, h5⟩
 ·rw [h0] at hf; simp at hf
 ·obtain ⟨h1, _, _⟩ := Value.slice.inj hv
  obtain ⟨rfl, rfl, _⟩ := Addr.mk.inj (Option.some.inj h1)
  exact ⟨h2, h5 i f hf⟩
theorem ReadsF.place {w : World} {v : Value} {fs : List Fm} (h : ReadsF w v fs) (h0 : 0 < fs.length) : ∃ b off cap, v = .slice (some ⟨b, off, none⟩) fs.length cap := by
 rcases h with ⟨ao, cap', _, hz⟩ | ⟨b', off', cap', hv, _⟩
 ·rw [hz] at h0; simp at h0
 ·exact ⟨b', off', cap', hv⟩
end Go.Proofs.YtnoohlibgaeklaaGreatDoor
namespace Go.Proofs.YtnoohlibgaeklaaGreatDoor
open Go.RowKit
set_option maxRecDepth 100000
set_option maxHeartbeats 16000000
theorem leftTo_mem {fs : List Fm} {g : Nat → Bool} {f : Fm} : ∀ k, k ≤ fs.length → (f ∈ leftTo fs g k ↔ ∃ j, j < k ∧ g j = false ∧ fs[j]? = some f) := by
 intro k
 induction k with
 | zero => intro _; exact ⟨fun h => by simp [leftTo] at h, fun ⟨j, h, _⟩ => by omega⟩
 | succ k ih =>
  intro hk
  unfold leftTo
  rw [List.mem_append, ih (by omega), List.getElem?_eq_getElem (show k < fs.length by omega)]
  constructor
  ·rintro (⟨j, h1, h2, h3⟩ | h)
   ·exact ⟨j, by omega, h2, h3⟩
   ·cases hg : g k
    ·rw [hg] at h
     simp at h
     exact ⟨k, by omega, hg, by rw [List.getElem?_eq_getElem (by omega), h]⟩
    ·rw [hg] at h; simp at h
  ·rintro ⟨j, h1, h2, h3⟩
   rcases Nat.lt_or_ge j k with h | h
   ·exact Or.inl ⟨j, h, h2, h3⟩
   ·obtain rfl : j = k := by omega
    right
    rw [h2]
    rw [List.getElem?_eq_getElem (by omega)] at h3
    simp at h3
    simp [h3]
def coreF (fs : List Fm) (u : Nat) : List Fm := (coreTo fs u fs.length).map fun x => fs.getD x.toNat fmZ
end Go.Proofs.YtnoohlibgaeklaaGreatDoor
namespace Go.Proofs.YtnoohlibgaeklaaGreatDoor
open Go.ChangeShapes Go.WideShapes Go.ChangeAt Go.RowKit
set_option maxRecDepth 100000
set_option maxHeartbeats 16000000
theorem bit_at (s : Int) (i : Nat) (h0 : 0 ≤ s) (h1 : s < 256) (hi : i < 8) : bits .and .i64 (s / 2 ^ i) 1 = oneB (hasB s i) := by
 have e : ∀ n : Nat, n < 256 → ∀ i : Nat, i < 8 → bits .and .i64 ((n : Int) / 2 ^ i) 1 = oneB (hasB n i) := by decide +kernel
 obtain ⟨n, rfl⟩ := Int.eq_ofNat_of_zero_le h0
 exact e n (by omega) i hi
theorem or_more {n : Nat} {a : Int} (h : okB n a = true) (h5 : n ≤ 5) (x : Bool) : bits .or .i64 a (wrap64 (oneB x * 2 ^ n)) = a + oneB x * pw n := by
 have e := uptoSets (P := fun u a _ => u ≤ 5 → ∀ x, bits .or .i64 a (wrap64 (oneB x * 2 ^ u.toNat)) = a + oneB x * pw u.toNat) (by decide +kernel) n a a h h (by omega) x
 simpa using e
theorem and_bit : ∀ f : Nat, f < 8 → bits .and .i64 (f : Int) 1 = oneB (bitB f 0) ∧ bits .and .i64 ((f : Int) / 2) 1 = oneB (bitB f 1) ∧ bits .and .i64 ((f : Int) / 4) 1 = oneB (bitB f 2) := by decide +kernel
theorem with_field (n : Nat) (a b c : Int) (f : Nat) (hok : (Wd.mk n a b c).ok = true) (h5 : n ≤ 5) (hf : f < 8) (w : World) :
    Calls Tryz.prog 154 #[.agg #[.int .i64 n, .int .i64 a, .int .i64 b, .int .i64 c], .int .i64 f] w (Bk w (((Wd.mk n a b c).more f).v)) := by
 have HV : Hid (Value.agg #[.int .i64 ((n : Int) + 1), .int .i64 (bits .or .i64 a (wrap64 (bits .and .i64 (f : Int) 1 * 2 ^ n))), .int .i64 (bits .or .i64 b (wrap64 (bits .and .i64 ((f : Int) / 2) 1 * 2 ^ n))), .int .i64 (bits .or .i64 c (wrap64 (bits .and .i64 ((f : Int) / 4) 1 * 2 ^ n)))] = ((Wd.mk n a b c).more f).v) := by
  obtain ⟨h1, h2, h3⟩ := Wd.ok_iff.1 hok
  obtain ⟨e1, e2, e3⟩ := and_bit f hf
  unfold Hid
  rw [e1, e2, e3, or_more h1 h5, or_more h2 h5, or_more h3 h5]
  rfl
 clear hok
 go_enter Tryz.func154, Tryz.ntmps154
 go_wp2
 refine wp_loop_rounds 4 ?_
 rw [rounds_succ]
 go_wp2
 go_region
 go_wp2
 rw [rounds_succ]
 go_wp2
 go_region
 go_wp2
 rw [rounds_succ]
 go_wp2
 go_region
 go_wp2
 rw [rounds_succ]
 go_wp2
 go_returns
 exact ⟨back_v HV.out, by go_grown⟩
def maskN (t : List Int) : Int := if faultN t = 0 then maskTo (liesB t) 8 else 0
theorem with_one (f : Nat) (hf : f < 8) (w : World) :
    Calls Tryz.prog 154 #[.agg #[.int .i64 0, .int .i64 0, .int .i64 0, .int .i64 0], .int .i64 f] w (Bk w (.agg #[.int .i64 1, .int .i64 (oneW f).a, .int .i64 (oneW f).b, .int .i64 (oneW f).c])) :=
 with_field 0 0 0 0 f (by decide) (by omega) hf w
theorem one_value (t : List Int) (v : Value) (f : Nat) (w : World) (h : Reads w v t) :
    Calls Tryz.prog 178 #[v, .agg #[.int .i64 1, .int .i64 (oneW f).a, .int .i64 (oneW f).b, .int .i64 (oneW f).c]] w (Bk w (.tuple #[.int .i64 (if faultN t = 0 then oneB (liesB t f) else 0), errV (faultN t)])) := by
 have hv := value_any t v 1 (oneW f).a (oneW f).b (oneW f).c w h
 have e : (Wd.mk 1 (oneW f).a (oneW f).b (oneW f).c) = oneW f := rfl
 rw [e] at hv
 have e1 : (oneW f).answer t = if faultN t = 0 then oneB (liesB t f) else 0 := by unfold Wd.answer; rw [if_pos (oneW_ok f), oneW_val]
 have e2 : (oneW f).fault t = faultN t := by
  unfold Wd.fault; rw [if_pos (oneW_ok f)]
  split
  ·rename_i h0; exact h0.symm
  ·rfl
 rw [e1, e2] at hv
 exact hv
theorem or_mask1 : ∀ k : Nat, k < 8 → ∀ m : Nat, m < 2 ^ k → ∀ x, bits .or .i64 (m : Int) (wrap64 (oneB x * 2 ^ k)) = (m : Int) + oneB x * pw k := by decide +kernel
theorem or_mask (L : Nat → Bool) {k : Nat} (hk : k < 8) : bits .or .i64 (maskTo L k) (wrap64 (oneB (L k) * 2 ^ k)) = maskTo L (k + 1) := by
 obtain ⟨m0, m1⟩ := maskTo_le L k
 obtain ⟨m, hm⟩ := Int.eq_ofNat_of_zero_le m0
 have hp : pw k = ((2 ^ k : Nat) : Int) := by unfold pw; simp
 have h := or_mask1 k hk m (by rw [hm, hp] at m1; omega) (L k)
 show _ = maskTo L k + oneB (L k) * pw k
 rw [hm]; exact h
theorem mask_any (t : List Int) (v : Value) (w : World) (h : Reads w v t) :
    Calls Tryz.prog 147 #[v] w (Bk w (.tuple #[.int .i64 (maskN t), errV (faultN t)])) := by
 have HV : Hid (∀ f W, Bw w W → Calls Tryz.prog 178 #[v, .agg #[.int .i64 1, .int .i64 (oneW f).a, .int .i64 (oneW f).b, .int .i64 (oneW f).c]] W (Bk W (.tuple #[.int .i64 (if faultN t = 0 then oneB (liesB t f) else 0), errV (faultN t)]))) := fun f W hb => one_value t v f W (h.below hb)
 clear h
 by_cases hf : faultN t = 0
 ·have e1 : maskN t = maskTo (liesB t) 8 := by unfold maskN; rw [if_pos hf]
  have e2 : errV (faultN t) = .nilIface := by rw [hf]; rfl
  rw [e1, e2]
  rw [e2] at HV
  simp only [if_pos hf] at HV
  clear e1 e2 hf
  obtain ⟨L, hL⟩ := nm (liesB t)
  rw [← hL] at HV ⊢
  clear hL
  go_enter Tryz.func147, Tryz.ntmps147
  go_wp2
  go_loopw [4, 8] (fun m i wr => ∃ k : Nat, k ≤ 8 ∧ i = .int .i64 k ∧ m = .int .i64 (maskTo L k) ∧ Bw w wr) (fun _ i _ => 8 - (intOf i).toNat)
  case atStart => exact ⟨0, Nat.zero_le _, rfl, rfl, Below.refl _ _⟩
  case round =>
   obtain ⟨k, hk, rfl, rfl, hb⟩ := hrel
   have HB := hide hb
   clear hb
   by_cases hlt : k < 8
   ·have HS : Hid (bits .or .i64 (maskTo L k) (wrap64 (oneB (L k) * 2 ^ k)) = maskTo L (k + 1)) := or_mask L hlt
    go_wp2_with fail
    go_at_call 154
    refine (with_one k hlt _).mono ?_
    rintro e w2 ⟨rfl, hb2⟩
    have HB2 := bt HB hb2
    clear hb2
    go_wp2_with fail
    go_at_call 178
    refine (HV.out k w2 HB2.out).mono ?_
    rintro e w3 ⟨rfl, hb3⟩
    have HB3 := bt HB2 hb3
    clear hb3
    go_wp2
    go_roundw
    case rel => exact ⟨k + 1, by omega, by go_num, by rw [HS.out], HB3.out⟩
    case measure => simp [intOf]; omega
   ·obtain rfl : k = 8 := by omega
    go_wp2
    go_ret2
    exact ⟨rfl, HB.out⟩
 ·have e1 : maskN t = 0 := by unfold maskN; rw [if_neg hf]
  have e2 : errV (faultN t) = .iface 91 (.int .i64 (faultN t)) := by unfold errV; rw [if_neg hf]
  rw [e1, e2]
  rw [e2] at HV
  simp only [if_neg hf] at HV
  clear e1 e2 hf
  obtain ⟨F, hF⟩ := nm (faultN t)
  rw [← hF] at HV ⊢
  clear hF
  go_enter Tryz.func147, Tryz.ntmps147
  go_wp2
  refine wp_loop_rounds 1 ?_
  rw [rounds_succ]
  go_wp2_with fail
  go_at_call 154
  refine (with_one 0 (by omega) _).mono ?_
  rintro e w2 ⟨rfl, hb2⟩
  have HB2 := hide hb2
  clear hb2
  go_wp2_with fail
  go_at_call 178
  refine (HV.out 0 w2 HB2.out).mono ?_
  rintro e w3 ⟨rfl, hb3⟩
  have HB3 := bt HB2 hb3
  clear hb3
  go_wp2
  go_ret2
  exact ⟨rfl, HB3.out⟩
def Blk (w : World) (G : Nat) (T : TypeId) (cs : Array Value) : Prop := w.heap[G]? = some (.cells cs T (0, 0))
theorem Blk.lt {w : World} {G : Nat} {T : TypeId} {cs : Array Value} (h : Blk w G T cs) : G < w.heap.size := (Array.getElem?_eq_some_iff.1 h).1
theorem Blk.below {w w' : World} {G : Nat} {T : TypeId} {cs : Array Value} (h : Blk w G T cs) (hb : Bw w w') : Blk w' G T cs := by
 unfold Blk; rw [hb.block G h.lt]; exact h
theorem Blk.cell {w : World} {G : Nat} {T : TypeId} {cs : Array Value} (h : Blk w G T cs) (j : Nat) : w.cell? ⟨G, j, none⟩ = cs[j]? := cell_of_row w G j cs T (0, 0) h
theorem Blk.at {w : World} {G : Nat} {T : TypeId} {cs : Array Value} (h : Blk w G T cs) (j : Nat) {v : Value} (hv : cs[j]? = some v) : w.cell? ⟨G, j, none⟩ = some v := (h.cell j).trans hv
theorem Blk.frozen {w : World} {G : Nat} {T : TypeId} {cs : Array Value} (h : Blk w G T cs) (j : Nat) : w.frozen? ⟨G, j, none⟩ = false := frozen_of_row w G j cs T h
theorem Blk.set {w : World} {G : Nat} {T : TypeId} {cs : Array Value} (h : Blk w G T cs) (j : Nat) (u : Value) : Blk (w.setCell ⟨G, j, none⟩ u) G T (cs.setIfInBounds j u) := heap_setCell_same w G j cs T u h
theorem Blk.far {w : World} {G : Nat} {T : TypeId} {cs : Array Value} (h : Blk w G T cs) {R : Nat} (hR : G ≠ R) (j : Nat) (u : Value) : Blk (w.setCell ⟨R, j, none⟩ u) G T cs := by
 unfold Blk; rw [heap_setCell_other w ⟨R, j, none⟩ G u hR]; exact h
theorem Blk.drew {w : World} {G : Nat} {T : TypeId} {cs : Array Value} (h : Blk w G T cs) : Blk w.drew G T cs := h
theorem Blk.new (w : World) (T : TypeId) (cs : Array Value) : Blk (w.alloc (.cells cs T)) w.heap.size T cs := heap_alloc_new w _
theorem Blk.old {w : World} {G : Nat} {T : TypeId} {cs : Array Value} (h : Blk w G T cs) (o : Obj) : Blk (w.alloc o) G T cs := by
 unfold Blk; rw [heap_alloc_old w o h.lt]; exact h
def arr8 (N : Nat → Int) : Array Value := #[.int .i64 (N 0), .int .i64 (N 1), .int .i64 (N 2), .int .i64 (N 3), .int .i64 (N 4), .int .i64 (N 5), .int .i64 (N 6), .int .i64 (N 7)]
theorem arr8_get (N : Nat → Int) {f : Nat} (hf : f < 8) : (arr8 N)[f]? = some (.int .i64 (N f)) := by
 rcases eight hf with rfl | rfl | rfl | rfl | rfl | rfl | rfl | rfl <;> rfl
theorem arr8_same {N M : Nat → Int} (h : ∀ f, f < 8 → N f = M f) : arr8 N = arr8 M := by
 unfold arr8
 rw [h 0 (by omega), h 1 (by omega), h 2 (by omega), h 3 (by omega), h 4 (by omega), h 5 (by omega), h 6 (by omega), h 7 (by omega)]
theorem arr8_all (N M : Nat → Int) : ((((((((arr8 N).setIfInBounds 0 (.int .i64 (M 0))).setIfInBounds 1 (.int .i64 (M 1))).setIfInBounds 2 (.int .i64 (M 2))).setIfInBounds 3 (.int .i64 (M 3))).setIfInBounds 4 (.int .i64 (M 4))).setIfInBounds 5 (.int .i64 (M 5))).setIfInBounds 6 (.int .i64 (M 6))).setIfInBounds 7 (.int .i64 (M 7)) = arr8 M := by
 simp [arr8]
def arrW (w : Wd) : Array Value := #[.int .i64 w.u, .int .i64 w.a, .int .i64 w.b, .int .i64 w.c]
theorem load8 {W : World} {R : Nat} {N : Nat → Int} (h : Blk W R 60 (arr8 N)) : (loadVar 60 ⟨R, 0, none⟩).run Tryz.prog W = .ok (.agg (arr8 N)) W := by
 have hl := run_loadCells_list (P := Tryz.prog) W ⟨R, 0, none⟩ (arr8 N).toList (fun j v hj => by
  have := h.cell j
  rw [← Array.getElem?_toList] at this
  rw [hj] at this
  have ha : (⟨R, 0, none⟩ : Addr).add j = ⟨R, j, none⟩ := by unfold Addr.add; split <;> simp_all
  rw [ha]; exact this)
 simp [loadVar, Tryz.isAgg60, Tryz.sizeOf60, Result.andThen, arr8] at hl ⊢
 simp [hl]
theorem Blk.cells8 {w : World} {G : Nat} {T : TypeId} {N : Nat → Int} (h : Blk w G T (arr8 N)) : w.cell? ⟨G, 0, none⟩ = some (.int .i64 (N 0)) ∧ w.cell? ⟨G, 1, none⟩ = some (.int .i64 (N 1)) ∧ w.cell? ⟨G, 2, none⟩ = some (.int .i64 (N 2)) ∧ w.cell? ⟨G, 3, none⟩ = some (.int .i64 (N 3)) ∧ w.cell? ⟨G, 4, none⟩ = some (.int .i64 (N 4)) ∧ w.cell? ⟨G, 5, none⟩ = some (.int .i64 (N 5)) ∧ w.cell? ⟨G, 6, none⟩ = some (.int .i64 (N 6)) ∧ w.cell? ⟨G, 7, none⟩ = some (.int .i64 (N 7)) :=
 ⟨h.cell 0, h.cell 1, h.cell 2, h.cell 3, h.cell 4, h.cell 5, h.cell 6, h.cell 7⟩
theorem Blk.frozen8 {w : World} {G : Nat} {T : TypeId} {cs : Array Value} (h : Blk w G T cs) : w.frozen? ⟨G, 0, none⟩ = false ∧ w.frozen? ⟨G, 1, none⟩ = false ∧ w.frozen? ⟨G, 2, none⟩ = false ∧ w.frozen? ⟨G, 3, none⟩ = false ∧ w.frozen? ⟨G, 4, none⟩ = false ∧ w.frozen? ⟨G, 5, none⟩ = false ∧ w.frozen? ⟨G, 6, none⟩ = false ∧ w.frozen? ⟨G, 7, none⟩ = false :=
 ⟨h.frozen 0, h.frozen 1, h.frozen 2, h.frozen 3, h.frozen 4, h.frozen 5, h.frozen 6, h.frozen 7⟩
theorem Blk.cells4 {w : World} {G : Nat} {T : TypeId} {W : Wd} (h : Blk w G T (arrW W)) : w.cell? ⟨G, 0, none⟩ = some (.int .i64 W.u) ∧ w.cell? ⟨G, 1, none⟩ = some (.int .i64 W.a) ∧ w.cell? ⟨G, 2, none⟩ = some (.int .i64 W.b) ∧ w.cell? ⟨G, 3, none⟩ = some (.int .i64 W.c) :=
 ⟨h.cell 0, h.cell 1, h.cell 2, h.cell 3⟩
theorem Blk.frozen4 {w : World} {G : Nat} {T : TypeId} {cs : Array Value} (h : Blk w G T cs) : w.frozen? ⟨G, 0, none⟩ = false ∧ w.frozen? ⟨G, 1, none⟩ = false ∧ w.frozen? ⟨G, 2, none⟩ = false ∧ w.frozen? ⟨G, 3, none⟩ = false :=
 ⟨h.frozen 0, h.frozen 1, h.frozen 2, h.frozen 3⟩
def put8 (w : World) (R : Nat) (M : Nat → Int) : World := (((((((w.setCell ⟨R, 0, none⟩ (.int .i64 (M 0))).setCell ⟨R, 1, none⟩ (.int .i64 (M 1))).setCell ⟨R, 2, none⟩ (.int .i64 (M 2))).setCell ⟨R, 3, none⟩ (.int .i64 (M 3))).setCell ⟨R, 4, none⟩ (.int .i64 (M 4))).setCell ⟨R, 5, none⟩ (.int .i64 (M 5))).setCell ⟨R, 6, none⟩ (.int .i64 (M 6))).setCell ⟨R, 7, none⟩ (.int .i64 (M 7))
def putW (w : World) (R : Nat) (M : Wd) : World := (((w.setCell ⟨R, 0, none⟩ (.int .i64 M.u)).setCell ⟨R, 1, none⟩ (.int .i64 M.a)).setCell ⟨R, 2, none⟩ (.int .i64 M.b)).setCell ⟨R, 3, none⟩ (.int .i64 M.c)
theorem put8_blk {w : World} {R : Nat} {T : TypeId} {N : Nat → Int} (h : Blk w R T (arr8 N)) (M : Nat → Int) : Blk (put8 w R M) R T (arr8 M) := by
 have := (((((((h.set 0 (.int .i64 (M 0))).set 1 (.int .i64 (M 1))).set 2 (.int .i64 (M 2))).set 3 (.int .i64 (M 3))).set 4 (.int .i64 (M 4))).set 5 (.int .i64 (M 5))).set 6 (.int .i64 (M 6))).set 7 (.int .i64 (M 7))
 rw [arr8_all] at this
 exact this
theorem put8_below {B : Nat} {w w' : World} {R : Nat} (h : Below B w w') (hR : B ≤ R) (M : Nat → Int) : Below B w (put8 w' R M) :=
 (((((((h.setCell hR _).setCell hR _).setCell hR _).setCell hR _).setCell hR _).setCell hR _).setCell hR _).setCell hR _
theorem putW_blk {w : World} {R : Nat} {T : TypeId} {N : Wd} (h : Blk w R T (arrW N)) (M : Wd) : Blk (putW w R M) R T (arrW M) := by
 have := (((h.set 0 (.int .i64 M.u)).set 1 (.int .i64 M.a)).set 2 (.int .i64 M.b)).set 3 (.int .i64 M.c)
 have e : ((((arrW N).setIfInBounds 0 (.int .i64 M.u)).setIfInBounds 1 (.int .i64 M.a)).setIfInBounds 2 (.int .i64 M.b)).setIfInBounds 3 (.int .i64 M.c) = arrW M := by simp [arrW]
 rw [e] at this
 exact this
theorem putW_far {w : World} {R : Nat} {G : Nat} {T : TypeId} {cs : Array Value} (h : Blk w G T cs) (hR : G ≠ R) (M : Wd) : Blk (putW w R M) G T cs :=
 (((h.far hR 0 _).far hR 1 _).far hR 2 _).far hR 3 _
theorem putW_below {B : Nat} {w w' : World} {R : Nat} (h : Below B w w') (hR : B ≤ R) (M : Wd) : Below B w (putW w' R M) :=
 (((h.setCell hR _).setCell hR _).setCell hR _).setCell hR _
theorem loadW {W : World} {R : Nat} {M : Wd} (h : Blk W R 58 (arrW M)) : (loadVar 58 ⟨R, 0, none⟩).run Tryz.prog W = .ok (.agg (arrW M)) W := by
 have hl := run_loadCells_list (P := Tryz.prog) W ⟨R, 0, none⟩ (arrW M).toList (fun j v hj => by
  have := h.cell j
  rw [← Array.getElem?_toList] at this
  rw [hj] at this
  have ha : (⟨R, 0, none⟩ : Addr).add j = ⟨R, j, none⟩ := by unfold Addr.add; split <;> simp_all
  rw [ha]; exact this)
 simp [loadVar, Tryz.isAgg58, Tryz.sizeOf58, Result.andThen, arrW] at hl ⊢
 simp [hl]
def CellsF (w : World) (xs : List Value) (gs : List Fm) : Prop :=
 xs.length = gs.length * 2 ∧ (∀ u ∈ xs, u.oneCell' = true) ∧ ∀ i f, gs[i]? = some f → ∃ va vc, xs[i * 2]? = some va ∧ xs[i * 2 + 1]? = some vc ∧ ReadsA w va f.ats ∧ Reads w vc f.c
theorem CellsF.below {w w' : World} {xs : List Value} {gs : List Fm} (h : CellsF w xs gs) (hb : Bw w w') : CellsF w' xs gs :=
 ⟨h.1, h.2.1, fun i f hf => by
  obtain ⟨va, vc, h1, h2, h3, h4⟩ := h.2.2 i f hf
  exact ⟨va, vc, h1, h2, h3.below hb, h4.below hb⟩⟩
theorem CellsF.nil (w : World) : CellsF w [] [] := ⟨rfl, fun u hu => (by cases hu), fun i f hf => (by simp at hf)⟩
theorem CellsF.append {w : World} {xs ys : List Value} {gs hs : List Fm} (h : CellsF w xs gs) (k : CellsF w ys hs) : CellsF w (xs ++ ys) (gs ++ hs) := by
 obtain ⟨h1, h2, h3⟩ := h
 obtain ⟨k1, k2, k3⟩ := k
 refine ⟨by rw [List.length_append, List.length_append]; omega, fun u hu => ?_, fun i f hf => ?_⟩
 ·rcases List.mem_append.1 hu with hu | hu
  ·exact h2 u hu
  ·exact k2 u hu
 ·rcases Nat.lt_or_ge i gs.length with hi | hi
  ·rw [List.getElem?_append_left hi] at hf
   obtain ⟨va, vc, a, b, c, d⟩ := h3 i f hf
   exact ⟨va, vc, by rw [List.getElem?_append_left (by omega)]; exact a, by rw [List.getElem?_append_left (by omega)]; exact b, c, d⟩
  ·rw [List.getElem?_append_right hi] at hf
   obtain ⟨va, vc, a, b, c, d⟩ := k3 _ f hf
   refine ⟨va, vc, ?_, ?_, c, d⟩
   ·rw [List.getElem?_append_right (by omega), show i * 2 - xs.length = (i - gs.length) * 2 by omega]; exact a
   ·rw [List.getElem?_append_right (by omega), show i * 2 + 1 - xs.length = (i - gs.length) * 2 + 1 by omega]; exact b
theorem CellsF.one {w : World} {va vc : Value} {f : Fm} (o1 : va.oneCell' = true) (o2 : vc.oneCell' = true) (hA : ReadsA w va f.ats) (hC : Reads w vc f.c) : CellsF w [va, vc] [f] := by
 refine ⟨rfl, fun u hu => ?_, fun i g hg => ?_⟩
 ·simp at hu; rcases hu with rfl | rfl
  ·exact o1
  ·exact o2
 ·obtain rfl : i = 0 := by have := (List.getElem?_eq_some_iff.1 hg).1; simpa using this
  obtain rfl : f = g := by simpa using hg
  exact ⟨va, vc, rfl, rfl, hA, hC⟩
theorem CellsF.take {w : World} {xs : List Value} {gs : List Fm} (h : CellsF w xs gs) (k : Nat) : CellsF w (xs.take (k * 2)) (gs.take k) := by
 obtain ⟨h1, h2, h3⟩ := h
 refine ⟨by rw [List.length_take, List.length_take, h1]; omega, fun u hu => h2 u (List.mem_of_mem_take hu), fun i f hf => ?_⟩
 have hi : i < k := by have := (List.getElem?_eq_some_iff.1 hf).1; rw [List.length_take] at this; omega
 rw [List.getElem?_take_of_lt hi] at hf
 obtain ⟨va, vc, a, b, c, d⟩ := h3 i f hf
 exact ⟨va, vc, by rw [List.getElem?_take_of_lt (by omega)]; exact a, by rw [List.getElem?_take_of_lt (by omega)]; exact b, c, d⟩
theorem CellsF.drop {w : World} {xs : List Value} {gs : List Fm} (h : CellsF w xs gs) (k : Nat) : CellsF w (xs.drop (k * 2)) (gs.drop k) := by
 obtain ⟨h1, h2, h3⟩ := h
 refine ⟨by rw [List.length_drop, List.length_drop, h1]; omega, fun u hu => h2 u (List.mem_of_mem_drop hu), fun i f hf => ?_⟩
 rw [List.getElem?_drop] at hf
 obtain ⟨va, vc, a, b, c, d⟩ := h3 _ f hf
 exact ⟨va, vc, by rw [List.getElem?_drop, show k * 2 + i * 2 = (k + i) * 2 by omega]; exact a, by rw [List.getElem?_drop, show k * 2 + (i * 2 + 1) = (k + i) * 2 + 1 by omega]; exact b, c, d⟩
theorem infoFe : (Tryz.prog.info? 78).isSome = true := by kernel_rfl
theorem zeroFe : (Tryz.prog.info? 78).bind (·.zero) = some (.agg #[.slice none 0 0, .slice none 0 0]) := by kernel_rfl
theorem sizeFe : (Tryz.prog.info? 78).map (·.size) = some 2 := by kernel_rfl
theorem bytesFe : (Tryz.prog.info? 78).map (·.bytes) = some 48 := by kernel_rfl
theorem append_forms {w : World} {ops : Array Oper} {rest : List Oper} {o : Oper} {a : Act} {Q : Exit → Act → World → Prop} (hgd : o.guard = none) (s x : Operand)
    (ho : o.op = .call { callee := .builtin .append, args := #[s, x], argTypes := #[25, 25] }) (K : Nat) (v : Value) (hs : a.eval s = v) (n : Nat) (xs news : List Value) (m c b off : Nat) (hx : a.eval x = .slice (some ⟨b, off, none⟩) m c)
    (hown : w.ownsRow K 78 2 v n xs) (hl : news.length = m * 2) (h1 : ∀ u ∈ news, u.oneCell' = true) (hB : ∀ j u, news[j]? = some u → w.cell? ⟨b, off + j, none⟩ = some u) (hK : K ≤ w.heap.size) (h12 : n + m ≤ 40)
    (h : ∀ v' w', w'.ownsRow K 78 2 v' (n + m) (xs ++ news) → w.grownBy w' v.ownBlock → wpList Tryz.prog ops Q rest (a.put o.dst v') w') :
    wpList Tryz.prog ops Q (o :: rest) a w := by
 obtain ⟨i1, hi⟩ : ∃ i, Tryz.prog.info? 78 = some i := Option.isSome_iff_exists.1 infoFe
 have hz0 : i1.zero = some (.agg #[.slice none 0 0, .slice none 0 0]) := by have := zeroFe; rw [hi] at this; simpa using this
 have hz1 : i1.size = 2 := by have := sizeFe; rw [hi] at this; simpa using this
 have hz2 : i1.bytes = 48 := by have := bytesFe; rw [hi] at this; simpa using this
 refine wpList_append_own_at w hgd s x 25 ho K 78 i1 _ 2 48 Tryz.underlying25 hi hz0 hz1 hz2 rfl (by decide) v n xs hs hown ⟨b, off, none⟩ m c news hx hl (fun j u hj => by have := hB j u hj; by_cases h0 : j = 0 <;> simp [Addr.add, h0] at this ⊢ <;> exact this) h1 (by unfold maxLen; omega) (by omega) hK ?_
 intro v' w' h1 h2 _ _
 exact h v' w' h1 h2
def enoughA : Fm := ⟨[⟨3, [0], [], 1⟩], [0]⟩
def enoughB : Fm := ⟨[⟨4, [0], [], 0⟩], [0]⟩
structure LKeep (S : Nat → Prop) (W W' : World) : Prop where
 os : W'.os = W.os
 tape : W'.tape = W.tape
 output : W'.output = W.output
 size : W.heap.size ≤ W'.heap.size
 block : ∀ b, b < W.heap.size → ¬ S b → W'.heap[b]? = W.heap[b]?
theorem LKeep.below {S : Nat → Prop} {K : Nat} {W W' : World} (h : LKeep S W W') (hS : ∀ b, S b → K ≤ b) (hK : K ≤ W.heap.size) : Below K W W' :=
 ⟨h.os, h.tape, h.output, h.size, fun k hk => h.block k (by omega) fun hs => by have := hS k hs; omega⟩
theorem LKeep.blk {S : Nat → Prop} {W W' : World} (h : LKeep S W W') {G : Nat} {T : TypeId} {cs : Array Value} (hb : Blk W G T cs) (hG : ¬ S G) : Blk W' G T cs := by
 unfold Blk; rw [h.block G hb.lt hG]; exact hb
def Grows (S S' : Nat → Prop) (W : World) : Prop := ∀ b, S' b → S b ∨ W.heap.size ≤ b
theorem Grows.off {S S' : Nat → Prop} {W : World} (h : Grows S S' W) {G : Nat} (hG : ¬ S G) (hl : G < W.heap.size) : ¬ S' G := fun hs => by
 rcases h G hs with h | h
 ·exact hG h
 ·omega
theorem Grows.ge {S S' : Nat → Prop} {W : World} (h : Grows S S' W) {K : Nat} (hS : ∀ b, S b → K ≤ b) (hK : K ≤ W.heap.size) : ∀ b, S' b → K ≤ b := fun b hb => by
 rcases h b hb with h | h
 ·exact hS b h
 ·omega
theorem LKeep.refl (S : Nat → Prop) (W : World) : LKeep S W W := ⟨rfl, rfl, rfl, Nat.le_refl _, fun _ _ _ => rfl⟩
theorem LKeep.of_below {S : Nat → Prop} {W W' : World} (h : Bw W W') : LKeep S W W' := ⟨h.os, h.tape, h.output, h.size, fun b hb _ => h.block b hb⟩
theorem LKeep.trans {S S' : Nat → Prop} {W W1 W2 : World} (h : LKeep S W W1) (hg : Grows S S' W) (k : LKeep S' W1 W2) : LKeep S W W2 :=
 ⟨k.os.trans h.os, k.tape.trans h.tape, k.output.trans h.output, Nat.le_trans h.size k.size, fun b hb hs => (k.block b (Nat.lt_of_lt_of_le hb h.size) (hg.off hs hb)).trans (h.block b hb hs)⟩
theorem Grows.refl (S : Nat → Prop) (W : World) : Grows S S W := fun _ h => Or.inl h
def Kp (S : Nat → Prop) (W : World) (P : World → Prop) : Prop := ∀ X, LKeep S W X → P X
theorem Kp.now {S : Nat → Prop} {W : World} {P : World → Prop} (h : Kp S W P) : P W := h W (LKeep.refl _ _)
theorem Kp.move {S S' : Nat → Prop} {W W' : World} {P : World → Prop} (h : Kp S W P) (hk : LKeep S W W') (hg : Grows S S' W) : Kp S' W' P := fun X hX => h X (hk.trans hg hX)
theorem Kp.step {S : Nat → Prop} {W W' : World} {P : World → Prop} (h : Kp S W P) (hb : Bw W W') : Kp S W' P := h.move (LKeep.of_below hb) (Grows.refl _ _)
theorem Kp.mono {S : Nat → Prop} {W : World} {P Q : World → Prop} (h : Kp S W P) (hpq : ∀ X, P X → Q X) : Kp S W Q := fun X hX => hpq X (h X hX)
def Off (S : Nat → Prop) (g : Nat) : Nat → Prop := fun b => S b ∨ b = g
theorem LKeep.off {S : Nat → Prop} {W W' : World} (h : LKeep S W W') (g : Nat) : LKeep (Off S g) W W' := ⟨h.os, h.tape, h.output, h.size, fun b hb hs => h.block b hb fun k => hs (Or.inl k)⟩
theorem LKeep.old {S : Nat → Prop} {w W X : World} (h : LKeep S W X) (hS : ∀ b, S b → w.heap.size ≤ b) (hb : Bw w W) : Bw w X := hb.trans (h.below hS hb.size)
theorem Kp.new {S : Nat → Prop} {W : World} {G : Nat} {T : TypeId} {cs : Array Value} (h : Blk W G T cs) (hG : ¬ S G) : Kp S W (fun X => Blk X G T cs) := fun _ hX => hX.blk h hG
end Go.Proofs.YtnoohlibgaeklaaGreatDoor
