/-
  Facts and contracts that the statement leans on.
-/
import Derived.Test.YtnoohlibgaeklaaGreatDoorLibA12
import Derived.Test.YtnoohlibgaeklaaGreatDoorLibA3
import Derived.Lib.Strings
import Derived.Lib.Walk
import Derived.Laws.Strings3
import Derived.Test.YtnoohlibgaeklaaGreatDoorLibA11
import Derived.Test.YtnoohlibgaeklaaGreatDoorLibA13
import Derived.Test.YtnoohlibgaeklaaGreatDoorLibA9
import Derived.Test.YtnoohlibgaeklaaGreatDoorLibA1
import Derived.Maps.AppendAt
import Derived.Deep.AppendLies
import Derived.Test.YtnoohlibgaeklaaGreatDoorLibA8
namespace Go.Proofs.YtnoohlibgaeklaaGreatDoor
open Go.ChangeShapes Go.WideShapes Go.ChangeAt Go.RowKit
set_option maxRecDepth 100000
theorem strOf_same {a b : ByteArray} (h : a.data.toList = b.data.toList) : a = b := by rw [← strOf_data a, ← strOf_data b, h]
def endB (s : ByteArray) : Bool := decide (1 ≤ s.size) && ((s.extract (s.size - 1) s.size).toList == [10])
theorem endB_app (l : List UInt8) : endB (strOf (l ++ [10])) = true := by
 unfold endB
 have h : (strOf (l ++ [10])).size = l.length + 1 := by rw [strOf_size]; simp
 rw [h, Lib.toList_data, Lib.extract_data, strOf_list]
 simp
theorem endB_some {s : ByteArray} (h : endB s = true) : ∃ l, s = strOf (l ++ [10]) ∧ s.data.toList = l ++ [10] := by
 unfold endB at h
 rw [Bool.and_eq_true, decide_eq_true_eq] at h
 obtain ⟨h1, h2⟩ := h
 have hl : s.data.toList.length = s.size := Array.length_toList
 have e := eq_of_beq h2
 rw [Lib.toList_data, Lib.extract_data, List.take_of_length_le (by rw [List.length_drop]; omega)] at e
 have e2 := List.take_append_drop (s.size - 1) s.data.toList
 rw [e] at e2
 exact ⟨s.data.toList.take (s.size - 1), by rw [e2, strOf_data], e2.symm⟩
set_option maxHeartbeats 1000000 in
theorem hasEnd_any (s : ByteArray) (hs : s.size ≤ 9223372036854775807) (w : World) :
    Calls Tryz.prog 68 #[.string s, .string ⟨#[10]⟩] w (Sk w (.bool (endB s))) := by
 unfold endB
 by_cases h : 1 ≤ s.size
 ·go_enter Tryz.func68, Tryz.ntmps68
  go_wp2
  go_ret
  refine ⟨?_, rfl⟩
  simp [h]
 ·go_enter Tryz.func68, Tryz.ntmps68
  go_wp2
  go_ret
  refine ⟨?_, rfl⟩
  simp
theorem drop_end (l : List UInt8) (n : Nat) (h : n = l.length) : (strOf (l ++ [10])).extract 0 n = strOf l := by
 rw [strOf_take, h, List.take_left]
set_option maxHeartbeats 1000000 in
theorem trimEnd_hit (l : List UInt8) (hz : l.length + 1 ≤ 9223372036854775807) (w : World) :
    Calls Tryz.prog 13 #[.string (strOf (l ++ [10])), .string ⟨#[10]⟩] w (Sk w (.string (strOf l))) := by
 have hn : (strOf (l ++ [10])).size = l.length + 1 := by rw [strOf_size]; simp
 have HH : Hid (∀ W, Calls Tryz.prog 68 #[.string (strOf (l ++ [10])), .string ⟨#[10]⟩] W (Sk W (.bool true))) := fun W => by
  have h := hasEnd_any (strOf (l ++ [10])) (by omega) W
  rw [endB_app] at h
  exact h
 have HD : Hid (∀ n, n = l.length → (strOf (l ++ [10])).extract 0 n = strOf l) := fun n h => drop_end l n h
 obtain ⟨s, hs⟩ := nm (strOf (l ++ [10]))
 rw [← hs] at hn HH HD ⊢
 clear hs
 have HC : Hid (∀ W, Calls Tryz.prog 42 #[.string s, .string ⟨#[10]⟩] W (Sk W (.string (strOf l)))) := fun W => by
  have h1 : (1 : Int) ≤ (s.size : Int) := by omega
  have h2 : (s.size : Int) ≤ 9223372036854775807 := by omega
  go_enter Tryz.func42, Tryz.ntmps42
  go_wp2_with (go_at_call 68; refine (HH.out _).mono ?_; rintro e w' ⟨rfl, rfl⟩)
  go_ret
  refine ⟨?_, rfl⟩
  rw [HD.out _ (by omega)]
  rfl
 go_enter Tryz.func13, Tryz.ntmps13
 go_wp2_with (go_at_call 42; refine (HC.out _).mono ?_; rintro e w' ⟨rfl, rfl⟩)
 go_ret
 exact ⟨rfl, rfl⟩
def lastTen (l : List UInt8) : Nat → Int
 | 0 => -1
 | k + 1 => if l.getD k 0 = 10 then (k : Int) else lastTen l k
theorem lastTen_plain {l : List UInt8} {a : Nat} : ∀ {k : Nat}, (∀ j, a ≤ j → j < k → l.getD j 0 ≠ 10) → a ≤ k → lastTen l k = lastTen l a := by
 intro k
 induction k with
 | zero => intro _ h; rw [Nat.le_zero.1 h]
 | succ k ih =>
  intro h hk
  rcases Nat.lt_or_ge k a with hl | hl
  ·rw [show a = k + 1 by omega]
  ·rw [lastTen, if_neg (h k hl (by omega)), ih (fun j h1 h2 => h j h1 (by omega)) hl]
set_option maxHeartbeats 2000000 in
theorem lastByte_any (s : ByteArray) (hs : s.size < 4611686018427387904) (w : World) :
    Calls Tryz.prog 127 #[.string s, .int .u8 10] w (Sk w (.int .i64 (lastTen s.data.toList s.size))) := by
 obtain ⟨R, hR⟩ := nm (lastTen s.data.toList s.size)
 rw [← hR]
 have HR := hide hR
 clear hR
 have HLen : Hid (s.data.toList.length = s.size) := Array.length_toList
 go_enter Tryz.func127, Tryz.ntmps127
 go_wp2
 go_loop [5] (fun vi => ∃ k : Nat, k ≤ s.size ∧ vi = .int .i64 ((k : Int) - 1) ∧ R = lastTen s.data.toList k) (fun vi => ((intOf vi) + 1).toNat)
 case atStart => exact ⟨s.size, Nat.le_refl _, by first | rfl | go_num | (congr 1; omega), HR.out⟩
 case round =>
  obtain ⟨k, hk, rfl, hh⟩ := hrel
  have HH := hide hh
  clear hh
  by_cases h0 : k = 0
  ·subst h0
   go_wp2
   go_ret
   refine ⟨?_, rfl⟩
   rw [HH.out]; rfl
  ·obtain ⟨j, rfl⟩ : ∃ j, k = j + 1 := ⟨k - 1, by omega⟩
   have e : ((j + 1 : Nat) : Int) - 1 = (j : Int) := by omega
   rw [e]
   clear e h0
   have hj : j < s.size := by omega
   have hj' : (j : Int) < (s.size : Int) := by omega
   have HGD : Hid (s.data.toList.getD j 0 = s[j]'hj) := by
    unfold Hid
    have hk' : j < s.data.toList.length := by rw [Array.length_toList]; exact hj
    rw [List.getD_eq_getElem?_getD, List.getElem?_eq_getElem hk']
    rfl
   by_cases hb : s[j]'hj = 10
   ·have hb' : (((s[j]'hj).toNat : Int) == 10) = true := by rw [hb]; simp
    have HS : Hid (R = (j : Int)) := by unfold Hid; rw [HH.out, lastTen, if_pos (by rw [HGD.out]; exact hb)]
    clear hb HGD
    go_wp2
    go_ret
    exact ⟨back_i HS.out.symm, rfl⟩
   ·have hb' : (((s[j]'hj).toNat : Int) == 10) = false := by
     have h : (s[j]'hj).toNat ≠ 10 := fun h => hb (UInt8.toNat_inj.1 h)
     simp; omega
    have HS : Hid (R = lastTen s.data.toList j) := by unfold Hid; rw [HH.out, lastTen, if_neg (by rw [HGD.out]; exact hb)]
    clear hb HGD
    go_wp2
    go_round
    case rel => exact ⟨j, by omega, by go_num, HS.out⟩
    case measure => simp [intOf]
theorem lastIndex_any (s : ByteArray) (hs : s.size < 4611686018427387904) (w : World) :
    Calls Tryz.prog 84 #[.string s, .string ⟨#[10]⟩] w (Sk w (.int .i64 (lastTen s.data.toList s.size))) := by
 have HL : Hid (∀ W, Calls Tryz.prog 127 #[.string s, .int .u8 10] W (Sk W (.int .i64 (lastTen s.data.toList s.size)))) := fun W => lastByte_any s hs W
 go_enter Tryz.func84, Tryz.ntmps84
 go_wp2_with (go_at_call 127; refine (HL.out _).mono ?_; rintro e w' ⟨rfl, rfl⟩)
 go_ret
 exact ⟨rfl, rfl⟩
set_option maxHeartbeats 1000000 in
theorem cutWord_hit (s : ByteArray) (j : Nat) (hj : blankAt s.data.toList = j) (hz : s.size ≤ 9223372036854775806) (w : World) :
    Calls Tryz.prog 38 #[.string s, .string ⟨#[32]⟩] w (Bk w (.tuple #[.string (s.extract 0 j), .string (s.extract (j + 1) s.size), .bool true])) := by
 have hr := blankAt_range s.data.toList
 have hl : s.data.toList.length = s.size := Array.length_toList
 have HI : Hid (∀ W, Calls Tryz.prog 87 #[.string s, .string ⟨#[32]⟩] W (Sk W (.int .i64 (j : Int)))) := fun W => by
  have h := slIndex_one s W
  rw [hj] at h
  exact h
 have c1 : (0 : Int) ≤ (j : Int) := by omega
 have c2 : (j : Int) ≤ (s.size : Int) := by omega
 have c3 : (0 : Int) ≤ (j : Int) + 1 := by omega
 have c4 : (j : Int) + 1 ≤ (s.size : Int) := by omega
 clear hr hl hj
 have HC : Hid (∀ W, Calls Tryz.prog 60 #[.string s, .string ⟨#[32]⟩] W (Bk W (.tuple #[.string (s.extract 0 j), .string (s.extract (j + 1) s.size), .bool true]))) := fun W => by
  go_enter Tryz.func60, Tryz.ntmps60
  go_wp2_with (go_at_call 87; refine (HI.out _).mono ?_; rintro e w' ⟨rfl, rfl⟩)
  go_region
  go_wp2
  go_ret3
  exact ⟨rfl, (Below.refl _ _).drew⟩
 go_enter Tryz.func38, Tryz.ntmps38
 go_wp2_with (go_at_call 60; refine (HC.out _).mono ?_; rintro e w' ⟨rfl, hb⟩)
 go_ret3
 exact ⟨rfl, hb⟩
set_option maxHeartbeats 1000000 in
theorem cutWord_miss (s : ByteArray) (hj : blankAt s.data.toList = -1) (w : World) :
    Calls Tryz.prog 38 #[.string s, .string ⟨#[32]⟩] w (Bk w (.tuple #[.string s, .string ⟨#[]⟩, .bool false])) := by
 have HI : Hid (∀ W, Calls Tryz.prog 87 #[.string s, .string ⟨#[32]⟩] W (Sk W (.int .i64 (-1)))) := fun W => by
  have h := slIndex_one s W
  rw [hj] at h
  exact h
 clear hj
 have HC : Hid (∀ W, Calls Tryz.prog 60 #[.string s, .string ⟨#[32]⟩] W (Sk W (.tuple #[.string s, .string ⟨#[]⟩, .bool false]))) := fun W => by
  go_enter Tryz.func60, Tryz.ntmps60
  go_wp2_with (go_at_call 87; refine (HI.out _).mono ?_; rintro e w' ⟨rfl, rfl⟩)
  go_ret3
  exact ⟨rfl, rfl⟩
 go_enter Tryz.func38, Tryz.ntmps38
 go_wp2_with (go_at_call 60; refine (HC.out _).mono ?_; rintro e w' ⟨rfl, rfl⟩)
 go_ret3
 exact ⟨rfl, Below.refl _ _⟩
theorem cutWord_any (y : List UInt8) (L : List (List UInt8)) (hy : plainC 32 y = true) (hz : (joinB 32 (y :: L)).length ≤ 9223372036854775806) (w : World) :
    Calls Tryz.prog 38 #[.string (strOf (joinB 32 (y :: L))), .string ⟨#[32]⟩] w (Bk w (.tuple #[.string (strOf y), .string (strOf (joinB 32 L)), .bool (!L.isEmpty)])) := by
 cases L with
 | nil => exact cutWord_miss (strOf y) (by rw [strOf_list]; have h1 := blankAt_none hy; have h2 := (blankAt_range y).1; omega) w
 | cons z L =>
  have e : joinB 32 (y :: z :: L) = y ++ 32 :: joinB 32 (z :: L) := rfl
  rw [e] at hz ⊢
  have h := cutWord_hit (strOf (y ++ 32 :: joinB 32 (z :: L))) y.length (by rw [strOf_list]; exact blankAt_plain hy _) (by rw [strOf_size]; exact hz) w
  have e1 : (strOf (y ++ 32 :: joinB 32 (z :: L))).extract 0 y.length = strOf y := by rw [strOf_take, List.take_left]
  have e2 : (strOf (y ++ 32 :: joinB 32 (z :: L))).extract (y.length + 1) (strOf (y ++ 32 :: joinB 32 (z :: L))).size = strOf (joinB 32 (z :: L)) := by
   rw [strOf_drop _ _ _ (strOf_size _), ← List.drop_drop, List.drop_left]; rfl
  rw [e1, e2] at h
  exact h
end Go.Proofs.YtnoohlibgaeklaaGreatDoor
namespace Go.Proofs.YtnoohlibgaeklaaGreatDoor
open Go.RowKit
def recB (q : At × Bool) : List UInt8 := (if q.2 = true then 43 else 45) :: q.1.text
def aloneP (q : At × Bool) : Fm := aloneF q.1 q.2
def endsF : Int → List (List UInt8) → List Int
 | _, [] => []
 | s, x :: L => (s + ((x.length + 1 : Nat) : Int)) :: endsF (s + ((x.length + 1 : Nat) : Int)) L
def wholeL : List (List UInt8) → Nat → Nat
 | [], _ => 0
 | x :: L, h => if x.length + 1 ≤ h then wholeL L (h - (x.length + 1)) + 1 else 0
theorem linesT_cons (x : List UInt8) (L : List (List UInt8)) : linesT (x :: L) = (x ++ [10]) ++ linesT L := rfl
theorem linesT_app (L M : List (List UInt8)) : linesT (L ++ M) = linesT L ++ linesT M := by unfold linesT; rw [List.map_append, List.flatten_append]
theorem linesT_one (x : List UInt8) : linesT [x] = x ++ [10] := by simp [linesT]
theorem ends_length : ∀ (L : List (List UInt8)) (s : Int), (endsF s L).length = L.length
 | [], _ => rfl
 | x :: L, s => by simp [endsF, ends_length L]
theorem ends_take : ∀ (L : List (List UInt8)) (s : Int) (k : Nat), (endsF s L).take k = endsF s (L.take k)
 | [], s, k => by simp [endsF]
 | x :: L, s, 0 => rfl
 | x :: L, s, k + 1 => by
  rw [endsF, List.take_succ_cons, List.take_succ_cons, endsF, ends_take L]
theorem ends_more : ∀ (L : List (List UInt8)) (s : Int) (x : List UInt8), endsF s (L ++ [x]) = endsF s L ++ [s + ((linesT L).length : Int) + ((x.length + 1 : Nat) : Int)]
 | [], s, x => by simp [endsF, linesT]
 | y :: L, s, x => by
  rw [List.cons_append, endsF, endsF, ends_more L, List.cons_append]
  congr 3
  rw [linesT_cons, List.length_append, List.length_append]
  simp
  omega
theorem ends_at : ∀ (L : List (List UInt8)) (s : Int) (k : Nat), k < L.length → (endsF s L).getD k 0 = s + ((linesT (L.take (k + 1))).length : Int)
 | [], s, k, h => by simp at h
 | x :: L, s, 0, h => by simp [endsF, linesT]
 | x :: L, s, k + 1, h => by
  rw [endsF, List.getD_cons_succ, ends_at L _ k (by simpa using h), List.take_succ_cons, linesT_cons, List.length_append, List.length_append]
  simp
  omega
theorem end_at {L : List (List UInt8)} {k : Nat} (hk : k ≤ L.length) : endAt (endsF 0 L) k = ((linesT (L.take k)).length : Int) := by
 unfold endAt
 by_cases h : k = 0
 ·subst h; simp [linesT]
 ·rw [if_neg h, ends_at L 0 (k - 1) (by omega), show k - 1 + 1 = k by omega]; omega
theorem ends_whole : ∀ (L : List (List UInt8)) (s : Int) (h : Nat), wholeN (endsF s L) (s + (h : Int)) = wholeL L h
 | [], s, h => rfl
 | x :: L, s, h => by
  unfold wholeN wholeL
  rw [endsF, List.takeWhile_cons]
  by_cases hx : x.length + 1 ≤ h
  ·rw [if_pos hx, decide_eq_true (by omega), if_pos rfl, List.length_cons]
   have := ends_whole L (s + ((x.length + 1 : Nat) : Int)) (h - (x.length + 1))
   unfold wholeN at this
   rw [← this]
   congr 3
   funext e
   congr 2
   omega
  ·rw [if_neg hx, decide_eq_false (by omega)]
   rfl
theorem wholeL_le : ∀ (L : List (List UInt8)) (h : Nat), wholeL L h ≤ L.length
 | [], h => Nat.le_refl _
 | x :: L, h => by
  unfold wholeL
  split
  ·have := wholeL_le L (h - (x.length + 1)); simp; omega
  ·omega
theorem plainC_take {c : UInt8} {l : List UInt8} (h : plainC c l = true) (k : Nat) : plainC c (l.take k) = true := by
 unfold plainC at h ⊢
 rw [List.all_eq_true] at h ⊢
 exact fun x hx => h x (List.mem_of_mem_take hx)
theorem cut_whole : ∀ (L : List (List UInt8)) (tail : List UInt8) (h : Nat), (∀ x ∈ L, plainC 10 x = true) → plainC 10 tail = true → ∃ r, (linesT L ++ tail).take h = linesT (L.take (wholeL L h)) ++ r ∧ plainC 10 r = true
 | [], tail, h, _, ht => ⟨tail.take h, by simp [linesT], plainC_take ht h⟩
 | x :: L, tail, h, hL, ht => by
  unfold wholeL
  by_cases hx : x.length + 1 ≤ h
  ·rw [if_pos hx, List.take_succ_cons, linesT_cons, linesT_cons]
   obtain ⟨r, h1, h2⟩ := cut_whole L tail (h - (x.length + 1)) (fun y hy => hL y (List.mem_cons_of_mem _ hy)) ht
   refine ⟨r, ?_, h2⟩
   have hl : (x ++ [10]).length = x.length + 1 := by simp
   rw [List.append_assoc, List.take_append, hl, h1, List.take_of_length_le (by rw [hl]; exact hx)]
   simp
  ·rw [if_neg hx]
   refine ⟨x.take h, ?_, plainC_take (hL x List.mem_cons_self) h⟩
   have hl : (x ++ [10]).length = x.length + 1 := by simp
   rw [linesT_cons, List.append_assoc, List.append_assoc, List.take_append_of_le_length (by omega)]
   simp [linesT]
theorem last_lines {L : List (List UInt8)} {r : List UInt8} (hr : plainC 10 r = true) : lastTen (linesT L ++ r) (linesT L ++ r).length + 1 = ((linesT L).length : Int) := by
 have h1 : lastTen (linesT L ++ r) (linesT L ++ r).length = lastTen (linesT L ++ r) (linesT L).length := by
  refine lastTen_plain (fun j h1 h2 => ?_) (by simp)
  rw [List.length_append] at h2
  rw [List.getD_eq_getElem?_getD, List.getElem?_append_right h1]
  have hj : j - (linesT L).length < r.length := by omega
  rw [List.getElem?_eq_getElem hj]
  unfold plainC at hr
  rw [List.all_eq_true] at hr
  simpa using hr _ (List.getElem_mem hj)
 rw [h1]
 rcases List.eq_nil_or_concat L with rfl | ⟨M, x, rfl⟩
 ·simp [linesT, lastTen]
 ·have e : (linesT (M ++ [x])).length = (linesT M ++ x).length + 1 := by rw [linesT_app, linesT_one]; simp; omega
  rw [List.concat_eq_append, e, lastTen, if_pos]
  ·omega
  ·rw [linesT_app, linesT_one, ← List.append_assoc, List.append_assoc (linesT M ++ x), List.getD_eq_getElem?_getD, List.getElem?_append_right (Nat.le_refl _)]
   simp
theorem rec_plain {q : At × Bool} (h : q.1.fault = 0) : plainC 10 (recB q) = true := by
 unfold recB
 refine plainC_cons ?_ (line_atom h)
 split <;> decide
theorem text_small {a : At} (h : a.fault = 0) : a.text.length ≤ 100 := by
 have := lines_len (ats := [a]) (fun b hb => by obtain rfl : b = a := by simpa using hb
                                                exact h)
 simp [linesOf] at this
 omega
theorem rec_small {q : At × Bool} (h : q.1.fault = 0) : (recB q).length ≤ 101 := by
 have := text_small h
 unfold recB
 rw [List.length_cons]; omega
theorem recs_small : ∀ {ps : List (At × Bool)}, (∀ q ∈ ps, q.1.fault = 0) → (linesT (ps.map recB)).length ≤ 102 * ps.length
 | [], _ => by simp [linesT]
 | q :: ps, h => by
  have h1 := rec_small (h q List.mem_cons_self)
  have h2 := recs_small (ps := ps) fun x hx => h x (List.mem_cons_of_mem _ hx)
  rw [List.map_cons, linesT_cons, List.length_append, List.length_append, List.length_cons]
  simp
  omega
structure KeptL (l : Lg) (ps : List (At × Bool)) (tail : List UInt8) : Prop where
 u : 0 ≤ l.u ∧ l.u ≤ 6
 six : ps.length ≤ 6
 right : ∀ q ∈ ps, q.1.fault = 0
 plain : plainC 10 tail = true
 small : tail.length ≤ 200
 go : l.stop = false → tail = []
 fs : l.fs = ps.map aloneP
 ends : l.ends = endsF 0 (ps.map recB)
 bytes : l.bytes = ((linesT (ps.map recB) ++ tail).length : Int)
 safe : 0 ≤ l.safe ∧ l.safe ≤ l.bytes
theorem KeptL.len {l : Lg} {ps : List (At × Bool)} {tail : List UInt8} (h : KeptL l ps tail) : (linesT (ps.map recB) ++ tail).length ≤ 1000 := by
 have h1 := recs_small h.right
 have h2 := h.six
 have h3 := h.small
 rw [List.length_append]; omega
theorem KeptL.lines {l : Lg} {ps : List (At × Bool)} {tail : List UInt8} (h : KeptL l ps tail) : ∀ x ∈ ps.map recB, plainC 10 x = true := fun x hx => by
 obtain ⟨q, hq, rfl⟩ := List.mem_map.1 hx
 exact rec_plain (h.right q hq)
theorem keptL_0 {u : Int} (hu : 0 ≤ u ∧ u ≤ 6) : KeptL (lg0 u) [] [] :=
 ⟨hu, by simp, fun q hq => (by cases hq), rfl, by simp, fun _ => rfl, rfl, rfl, rfl, ⟨Int.le_refl _, Int.le_refl _⟩⟩
theorem KeptL.high {l : Lg} {ps : List (At × Bool)} {tail : List UInt8} (h : KeptL l ps tail) (keep : Int) : 0 ≤ l.high keep ∧ l.high keep ≤ l.bytes := by
 have := h.safe
 unfold Lg.high
 split
 ·split <;> omega
 ·omega
theorem KeptL.crash {l : Lg} {ps : List (At × Bool)} {tail : List UInt8} (h : KeptL l ps tail) (keep : Int) (k : Nat) (hk : k = wholeL (ps.map recB) (l.high keep).toNat) :
    KeptL (l.crash keep) (ps.take k) [] ∧ (l.crash keep).safe = ((linesT ((ps.take k).map recB)).length : Int) := by
 have hh := h.high keep
 have e1 : wholeN l.ends (l.high keep) = k := by
  rw [h.ends, hk]
  have := ends_whole (ps.map recB) 0 (l.high keep).toNat
  rwa [Int.zero_add, Int.toNat_of_nonneg hh.1] at this
 have hkl : k ≤ (ps.map recB).length := by rw [hk]; exact wholeL_le _ _
 have e2 : endAt l.ends k = ((linesT ((ps.take k).map recB)).length : Int) := by rw [h.ends, end_at hkl, List.map_take]
 have hs : (l.crash keep).safe = ((linesT ((ps.take k).map recB)).length : Int) := by show endAt l.ends (wholeN l.ends (l.high keep)) = _; rw [e1, e2]
 have hb : (l.crash keep).bytes = ((linesT ((ps.take k).map recB)).length : Int) := hs
 refine ⟨⟨h.u, ?_, fun q hq => h.right q (List.mem_of_mem_take hq), rfl, by simp, fun _ => rfl, ?_, ?_, ?_, ?_⟩, hs⟩
 ·have := h.six; rw [List.length_take]; omega
 ·show l.fs.take (wholeN l.ends (l.high keep)) = _
  rw [e1, h.fs, List.map_take]
 ·show l.ends.take (wholeN l.ends (l.high keep)) = _
  rw [e1, h.ends, ends_take, List.map_take]
 ·rw [hb, List.append_nil]
 ·rw [hb, hs]; exact ⟨by omega, Int.le_refl _⟩
def LeftIs (z left : Int) : Prop := (z < 0 ∧ left < 0) ∨ (0 ≤ z ∧ left = failN z)
theorem LeftIs.zero {z left : Int} (h : LeftIs z left) : z = 0 ↔ left = 0 := by
 rcases h with ⟨h1, h2⟩ | ⟨h1, rfl⟩
 ·omega
 ·unfold failN
  rw [if_neg (by omega)]
  split
  ·omega
  ·split <;> omega
theorem LeftIs.less {z left : Int} (h : LeftIs z left) (h0 : 0 < z) : LeftIs (IntKind.i64.wrap (z - 1)) (lessN1 left) := by
 rcases h with ⟨h1, h2⟩ | ⟨h1, rfl⟩
 ·omega
 ·have hr : -9223372036854775808 ≤ IntKind.i64.wrap (z - 1) ∧ IntKind.i64.wrap (z - 1) ≤ 9223372036854775807 := by rw [IntKind.wrap_i64]; omega
  obtain ⟨m, hm⟩ := nm (IntKind.i64.wrap (z - 1))
  unfold failN
  rw [if_neg (by omega), if_neg (by omega)]
  rw [← hm] at hr ⊢
  by_cases hneg : m < 0
  ·rw [if_pos hneg]
   exact Or.inl ⟨hneg, by decide⟩
  ·rw [if_neg hneg]
   refine Or.inr ⟨by omega, ?_⟩
   unfold lessN1
   rw [if_neg (by omega), failN_small (by omega) (by omega)]
   omega
theorem LeftIs.never {z left : Int} (h : LeftIs z left) (h0 : z < 0) : LeftIs z (lessN1 left) := by
 rcases h with ⟨h1, h2⟩ | ⟨h1, _⟩
 ·refine Or.inl ⟨h1, ?_⟩
  unfold lessN1
  rw [if_pos h2]; exact h2
 ·omega
theorem LeftIs.fail (n : Int) : LeftIs n (failN n) := by
 by_cases h : n < 0
 ·exact Or.inl ⟨h, by unfold failN; rw [if_pos h]; decide⟩
 ·exact Or.inr ⟨by omega, rfl⟩
theorem KeptL.said {l : Lg} {ps : List (At × Bool)} (h : KeptL l ps []) (q : At × Bool) (hq : q.1.fault = 0) (h6 : ps.length < 6) (left : Int) (stop : Bool) :
    KeptL { l with fs := l.fs ++ [aloneP q], ends := l.ends ++ [l.bytes + ((recB q ++ [10]).length : Int)], bytes := l.bytes + ((recB q ++ [10]).length : Int), left := left, stop := stop } (ps ++ [q]) [] := by
 have hb := h.bytes
 rw [List.append_nil] at hb
 have hs := h.safe
 refine ⟨h.u, by rw [List.length_append]; simp; omega, fun x hx => ?_, rfl, by simp, fun _ => rfl, ?_, ?_, ?_, ?_⟩
 ·rcases List.mem_append.1 hx with hx | hx
  ·exact h.right x hx
  ·obtain rfl : x = q := by simpa using hx
   exact hq
 ·show l.fs ++ [aloneP q] = _
  rw [h.fs, List.map_append]; rfl
 ·show l.ends ++ [l.bytes + ((recB q ++ [10]).length : Int)] = _
  rw [h.ends, List.map_append, List.map_cons, List.map_nil, ends_more, hb]
  simp
 ·show l.bytes + ((recB q ++ [10]).length : Int) = _
  rw [hb, List.map_append, List.map_cons, List.map_nil, linesT_app, linesT_one, List.append_nil, List.length_append]
  simp
 ·show 0 ≤ l.safe ∧ l.safe ≤ l.bytes + ((recB q ++ [10]).length : Int)
  omega
theorem KeptL.half {l : Lg} {ps : List (At × Bool)} (h : KeptL l ps []) (q : At × Bool) (hq : q.1.fault = 0) (n : Nat) (hn : n ≤ (recB q).length) :
    KeptL { l with bytes := l.bytes + (n : Int), stop := true } ps ((recB q).take n) := by
 have hb := h.bytes
 rw [List.append_nil] at hb
 have hs := h.safe
 have h1 := rec_small hq
 refine ⟨h.u, h.six, h.right, plainC_take (rec_plain hq) n, by rw [List.length_take]; omega, fun h => (by cases h), h.fs, h.ends, ?_, ?_⟩
 ·show l.bytes + (n : Int) = _
  rw [hb, List.length_append, List.length_take, Nat.min_eq_left hn]
  simp
 ·show 0 ≤ l.safe ∧ l.safe ≤ l.bytes + (n : Int)
  omega
end Go.Proofs.YtnoohlibgaeklaaGreatDoor
namespace Go.Proofs.YtnoohlibgaeklaaGreatDoor
open Go.ChangeShapes Go.WideShapes Go.ChangeAt Go.RowKit
set_option maxRecDepth 100000
def headB (s : ByteArray) (c : UInt8) : Bool := decide (1 ≤ s.size) && ((s.extract 0 1).toList == [c])
theorem headB_cons (x c : UInt8) (l : List UInt8) : headB (strOf (x :: l)) c = (x == c) := by
 unfold headB
 have h : (strOf (x :: l)).size = l.length + 1 := by rw [strOf_size]; rfl
 rw [h, strOf_take]
 have e : (strOf [x]).toList = [x] := by rw [Lib.toList_data, strOf_list]
 have e2 : List.take 1 (x :: l) = [x] := rfl
 rw [e2, e]
 simp
set_option maxHeartbeats 1000000 in
theorem hasHead_any (s : ByteArray) (c : UInt8) (w : World) :
    Calls Tryz.prog 163 #[.string s, .string ⟨#[c]⟩] w (Sk w (.bool (headB s c))) := by
 unfold headB
 by_cases h : 1 ≤ s.size
 ·go_enter Tryz.func163, Tryz.ntmps163
  go_wp2
  go_ret
  refine ⟨?_, rfl⟩
  simp [h]
 ·go_enter Tryz.func163, Tryz.ntmps163
  go_wp2
  go_ret
  refine ⟨?_, rfl⟩
  simp
theorem drop_head (x : UInt8) (l : List UInt8) (n : Nat) (h : n = l.length + 1) : (strOf (x :: l)).extract 1 n = strOf l := by
 rw [strOf_drop _ _ _ h]; rfl
set_option maxHeartbeats 1000000 in
theorem cutHead_any (x c : UInt8) (l : List UInt8) (hz : l.length + 1 ≤ 9223372036854775807) (w : World) :
    Calls Tryz.prog 85 #[.string (strOf (x :: l)), .string ⟨#[c]⟩] w (Sk w (.tuple #[.string (if x = c then strOf l else strOf (x :: l)), .bool (x == c)])) := by
 have hn : (strOf (x :: l)).size = l.length + 1 := by rw [strOf_size]; rfl
 have HH : Hid (∀ W, Calls Tryz.prog 163 #[.string (strOf (x :: l)), .string ⟨#[c]⟩] W (Sk W (.bool (x == c)))) := fun W => by
  have h := hasHead_any (strOf (x :: l)) c W
  rw [headB_cons] at h
  exact h
 have HD : Hid (∀ n, n = l.length + 1 → (strOf (x :: l)).extract 1 n = strOf l) := fun n h => drop_head x l n h
 obtain ⟨s, hs⟩ := nm (strOf (x :: l))
 rw [← hs] at hn HH HD ⊢
 clear hs
 have HC : Hid (∀ W, Calls Tryz.prog 129 #[.string s, .string ⟨#[c]⟩] W (Sk W (.tuple #[.string (if x = c then strOf l else s), .bool (x == c)]))) := fun W => by
  have h1 : (1 : Int) ≤ (s.size : Int) := by omega
  have h2 : (s.size : Int) ≤ 9223372036854775807 := by omega
  by_cases hx : x = c
  ·have e1 : (x == c) = true := by simpa using hx
   rw [if_pos hx, e1]
   rw [e1] at HH
   clear hx e1
   go_enter Tryz.func129, Tryz.ntmps129
   go_wp2_with (go_at_call 163; refine (HH.out _).mono ?_; rintro e w' ⟨rfl, rfl⟩)
   go_ret2
   refine ⟨?_, rfl⟩
   rw [HD.out _ (by omega)]
   rfl
  ·have e1 : (x == c) = false := by simpa using hx
   rw [if_neg hx, e1]
   rw [e1] at HH
   clear hx e1
   go_enter Tryz.func129, Tryz.ntmps129
   go_wp2_with (go_at_call 163; refine (HH.out _).mono ?_; rintro e w' ⟨rfl, rfl⟩)
   go_ret2
   exact ⟨rfl, rfl⟩
 obtain ⟨R, hR⟩ := nm ((if x = c then strOf l else s))
 obtain ⟨B, hB⟩ := nm ((x == c))
 rw [← hR, ← hB] at HC ⊢
 clear hR hB HH HD hn
 go_enter Tryz.func85, Tryz.ntmps85
 go_wp2_with (go_at_call 129; refine (HC.out _).mono ?_; rintro e w' ⟨rfl, rfl⟩)
 go_ret2
 exact ⟨rfl, rfl⟩
set_option maxHeartbeats 1000000 in
theorem trimHead_any (x c : UInt8) (l : List UInt8) (hz : l.length + 1 ≤ 9223372036854775807) (w : World) :
    Calls Tryz.prog 86 #[.string (strOf (x :: l)), .string ⟨#[c]⟩] w (Sk w (.string (if x = c then strOf l else strOf (x :: l)))) := by
 have hn : (strOf (x :: l)).size = l.length + 1 := by rw [strOf_size]; rfl
 have HH : Hid (∀ W, Calls Tryz.prog 163 #[.string (strOf (x :: l)), .string ⟨#[c]⟩] W (Sk W (.bool (x == c)))) := fun W => by
  have h := hasHead_any (strOf (x :: l)) c W
  rw [headB_cons] at h
  exact h
 have HD : Hid (∀ n, n = l.length + 1 → (strOf (x :: l)).extract 1 n = strOf l) := fun n h => drop_head x l n h
 obtain ⟨s, hs⟩ := nm (strOf (x :: l))
 rw [← hs] at hn HH HD ⊢
 clear hs
 have HC : Hid (∀ W, Calls Tryz.prog 130 #[.string s, .string ⟨#[c]⟩] W (Sk W (.string (if x = c then strOf l else s)))) := fun W => by
  have h1 : (1 : Int) ≤ (s.size : Int) := by omega
  have h2 : (s.size : Int) ≤ 9223372036854775807 := by omega
  by_cases hx : x = c
  ·have e1 : (x == c) = true := by simpa using hx
   rw [if_pos hx]
   rw [e1] at HH
   clear hx e1
   go_enter Tryz.func130, Tryz.ntmps130
   go_wp2_with (go_at_call 163; refine (HH.out _).mono ?_; rintro e w' ⟨rfl, rfl⟩)
   go_ret
   refine ⟨?_, rfl⟩
   rw [HD.out _ (by omega)]
   rfl
  ·have e1 : (x == c) = false := by simpa using hx
   rw [if_neg hx]
   rw [e1] at HH
   clear hx e1
   go_enter Tryz.func130, Tryz.ntmps130
   go_wp2_with (go_at_call 163; refine (HH.out _).mono ?_; rintro e w' ⟨rfl, rfl⟩)
   go_ret
   exact ⟨rfl, rfl⟩
 obtain ⟨R, hR⟩ := nm ((if x = c then strOf l else s))
 rw [← hR] at HC ⊢
 clear hR HH HD hn
 go_enter Tryz.func86, Tryz.ntmps86
 go_wp2_with (go_at_call 130; refine (HC.out _).mono ?_; rintro e w' ⟨rfl, rfl⟩)
 go_ret
 exact ⟨rfl, rfl⟩
set_option maxHeartbeats 1000000 in
theorem logWhole_any (L : List (List UInt8)) (r : List UInt8) (hr : plainC 10 r = true) (hz : (linesT L ++ r).length ≤ 1000000) (w : World) :
    Calls Tryz.prog 58 #[.string (strOf (linesT L ++ r))] w (Sk w (.string (strOf (linesT L)))) := by
 have hn : (strOf (linesT L ++ r)).size = (linesT L ++ r).length := strOf_size _
 have hle : (linesT L).length ≤ (linesT L ++ r).length := by simp
 have HL : Hid (∀ W, Calls Tryz.prog 84 #[.string (strOf (linesT L ++ r)), .string ⟨#[10]⟩] W (Sk W (.int .i64 (((linesT L).length : Int) - 1)))) := fun W => by
  have h := lastIndex_any (strOf (linesT L ++ r)) (by omega) W
  have e : lastTen (strOf (linesT L ++ r)).data.toList (strOf (linesT L ++ r)).size = ((linesT L).length : Int) - 1 := by
   have := last_lines (L := L) hr
   rw [strOf_list, hn]; omega
  rw [e] at h
  exact h
 have HE : Hid (∀ m : Nat, m = (linesT L).length → (strOf (linesT L ++ r)).extract 0 m = strOf (linesT L)) := fun m h => by rw [strOf_take, h, List.take_left]
 obtain ⟨m, hm⟩ := nm ((linesT L).length)
 have HE' := hide (HE.out m hm)
 rw [← hm] at HL hle
 have h1 : (m : Int) ≤ ((strOf (linesT L ++ r)).size : Int) := by omega
 have h0 : (0 : Int) ≤ (m : Int) := by omega
 have h2 : (m : Int) ≤ 1000000 := by omega
 obtain ⟨s, hs⟩ := nm (strOf (linesT L ++ r))
 rw [← hs] at HL HE' h1 ⊢
 clear hs hm HE hn hle hz
 go_enter Tryz.func58, Tryz.ntmps58
 go_wp2_with (go_at_call 84; refine (HL.out _).mono ?_; rintro e w' ⟨rfl, rfl⟩)
 go_ret
 refine ⟨?_, rfl⟩
 rw [← HE'.out]
 first | rfl | (congr 1; congr 1; omega)
end Go.Proofs.YtnoohlibgaeklaaGreatDoor
namespace Go.Proofs.YtnoohlibgaeklaaGreatDoor
open Go.ChangeShapes Go.WideShapes Go.ChangeAt Go.RowKit
set_option maxRecDepth 100000
theorem infoH : (Tryz.prog.info? 3).isSome = true := by kernel_rfl
theorem zeroH : (Tryz.prog.info? 3).bind (·.zero) = some (.int .i64 0) := by kernel_rfl
theorem sizeH : (Tryz.prog.info? 3).map (·.size) = some 1 := by kernel_rfl
theorem bytesH : (Tryz.prog.info? 3).map (·.bytes) = some 8 := by kernel_rfl
theorem append_long {w : World} {ops : Array Oper} {rest : List Oper} {o : Oper} {a : Act} {Q : Exit → Act → World → Prop} (hgd : o.guard = none) (s x : Operand)
    (ho : o.op = .call { callee := .builtin .append, args := #[s, x], argTypes := #[62, 62] }) (K : Nat) (v : Value) (hs : a.eval s = v) (l : List Int) (r : Int) (B c : Nat) (hx : a.eval x = .slice (some ⟨B, 0, none⟩) 1 c)
    (hown : w.ownsRow K 3 1 v l.length (l.map (Value.int .i64))) (hB : w.heap[B]? = some (.cells #[.int .i64 r] 3 (0, 0))) (hK : K ≤ w.heap.size) (h12 : l.length ≤ 1000000)
    (h : ∀ v' w', w'.ownsRow K 3 1 v' (l.length + 1) ((l ++ [r]).map (Value.int .i64)) → w.grownBy w' v.ownBlock → (v'.ownBlock = v.ownBlock ∨ v'.ownBlock = some w.heap.size) → wpList Tryz.prog ops Q rest (a.put o.dst v') w') :
    wpList Tryz.prog ops Q (o :: rest) a w := by
 obtain ⟨i1, hi⟩ : ∃ i, Tryz.prog.info? 3 = some i := Option.isSome_iff_exists.1 infoH
 have hz0 : i1.zero = some (.int .i64 0) := by have := zeroH; rw [hi] at this; simpa using this
 have hz1 : i1.size = 1 := by have := sizeH; rw [hi] at this; simpa using this
 have hz2 : i1.bytes = 8 := by have := bytesH; rw [hi] at this; simpa using this
 refine wpList_append_own_at w hgd s x 62 ho K 3 i1 _ 1 8 Tryz.underlying62 hi hz0 hz1 hz2 rfl (by decide) v l.length (l.map (Value.int .i64)) hs hown ⟨B, 0, none⟩ 1 c [.int .i64 r] hx rfl (World.news_of_block hB) (by simp [Value.oneCell']) (by unfold maxLen; omega) (by omega) hK ?_
 intro v' w' h1 h2 _ h5
 refine h v' w' ?_ h2 h5
 rw [List.map_append]
 exact h1
theorem own_readsL {w : World} {K : Nat} {v : Value} {t : List Int} (h : w.ownsRow K 3 1 v t.length (t.map (Value.int .i64))) (hm : t.length ≤ 9223372036854775807) : Reads w v t := by
 rcases h.2 with ⟨rfl, h0⟩ | ⟨g, cap, cur, rfl, hb, hg, hc, _⟩
 ·exact Or.inl ⟨none, 0, rfl, List.eq_nil_of_length_eq_zero h0⟩
 ·rcases Nat.eq_zero_or_pos t.length with h0 | h0
  ·have e : t = [] := List.eq_nil_of_length_eq_zero h0
   subst e
   exact Or.inl ⟨_, _, rfl, rfl⟩
  ·refine Or.inr ⟨g, 0, cap, rfl, (Array.getElem?_eq_some_iff.1 hg).1, h0, ⟨hm, hc⟩, fun k hk => ?_⟩
   rw [Nat.zero_add, h.cellAt _ (by omega), List.getElem?_map, List.getElem?_eq_getElem hk, List.getD_eq_getElem?_getD, List.getElem?_eq_getElem hk]
   rfl
theorem own_keep {X Y : World} {K n size : Nat} {e : TypeId} {v : Value} {xs : List Value} (h : X.ownsRow K e size v n xs) (hs : ∀ b, v.ownBlock = some b → Y.heap[b]? = X.heap[b]?) : Y.ownsRow K e size v n xs := by
 refine ⟨h.1, ?_⟩
 rcases h.2 with h0 | ⟨g, cap, cur, hv, hb, hg, rest⟩
 ·exact Or.inl h0
 ·exact Or.inr ⟨g, cap, cur, hv, hb, (hs g (by rw [hv]; rfl)).trans hg, rest⟩
end Go.Proofs.YtnoohlibgaeklaaGreatDoor
namespace Go.Proofs.YtnoohlibgaeklaaGreatDoor
open Go.ChangeShapes Go.WideShapes Go.ChangeAt Go.RowKit
set_option maxRecDepth 100000
def AtomAt (w : World) (b off : Nat) (a : At) : Prop :=
 ∃ vs vt, w.cell? ⟨b, off, none⟩ = some (.int .i64 a.k) ∧ w.cell? ⟨b, off + 1, none⟩ = some vs ∧ w.cell? ⟨b, off + 2, none⟩ = some vt ∧ w.cell? ⟨b, off + 3, none⟩ = some (.int .i64 a.n) ∧ Reads w vs a.s ∧ Reads w vt a.t
def ReadsA (w : World) (v : Value) (ats : List At) : Prop :=
 (∃ ao cap, v = .slice ao 0 cap ∧ ats = []) ∨ (∃ b off cap, v = .slice (some ⟨b, off, none⟩) ats.length cap ∧ b < w.heap.size ∧ 0 < ats.length ∧ (ats.length ≤ 9223372036854775807 ∧ ats.length ≤ cap) ∧ ∀ i a, ats[i]? = some a → AtomAt w b (off + i * 4) a)
theorem AtomAt.below {w w' : World} {b off : Nat} {a : At} (h : AtomAt w b off a) (hB : b < w.heap.size) (hb : Below w.heap.size w w') : AtomAt w' b off a := by
 obtain ⟨vs, vt, h1, h2, h3, h4, h5, h6⟩ := h
 exact ⟨vs, vt, by rw [hb.cell hB]; exact h1, by rw [hb.cell hB]; exact h2, by rw [hb.cell hB]; exact h3, by rw [hb.cell hB]; exact h4, h5.below hb, h6.below hb⟩
theorem ReadsA.below {w w' : World} {v : Value} {ats : List At} (h : ReadsA w v ats) (hb : Below w.heap.size w w') : ReadsA w' v ats := by
 rcases h with h | ⟨b, off, cap, h1, h2, h3, h4, h5⟩
 ·exact Or.inl h
 ·exact Or.inr ⟨b, off, cap, h1, Nat.lt_of_lt_of_le h2 hb.size, h3, h4, fun i a ha => (h5 i a ha).below h2 hb⟩
theorem ReadsA.slice {w : World} {v : Value} {ats : List At} (h : ReadsA w v ats) : ∃ ao cap, v = .slice ao ats.length cap ∧ ats.length ≤ 9223372036854775807 := by
 rcases h with ⟨ao, cap, rfl, rfl⟩ | ⟨b, off, cap, rfl, _, _, h, _⟩
 ·exact ⟨ao, cap, rfl, by decide⟩
 ·exact ⟨_, cap, rfl, h.1⟩
theorem ftakes_any (s : Int) (w : World) :
    Calls Tryz.prog 115 #[.int .i64 s] w (Sk w (.int .i64 (takesF s))) := by
 by_cases h5 : s = 10
 ·subst h5
  go_enter Tryz.func115, Tryz.ntmps115
  go_wp2
  go_ret
  exact ⟨rfl, rfl⟩
 by_cases h6 : s = 11
 ·subst h6
  go_enter Tryz.func115, Tryz.ntmps115
  go_wp2
  go_ret
  exact ⟨rfl, rfl⟩
 by_cases h7 : s = 13
 ·subst h7
  go_enter Tryz.func115, Tryz.ntmps115
  go_wp2
  go_ret
  exact ⟨rfl, rfl⟩
 by_cases h8 : s = 12
 ·subst h8
  go_enter Tryz.func115, Tryz.ntmps115
  go_wp2
  go_ret
  exact ⟨rfl, rfl⟩
 have e : takesF s = 0 := by unfold takesF; rw [if_neg (by omega), if_neg h8]
 rw [e]
 clear e
 have h5' : (s == 10) = false := by simpa using h5
 have h6' : (s == 11) = false := by simpa using h6
 have h7' : (s == 13) = false := by simpa using h7
 have h8' : (s == 12) = false := by simpa using h8
 clear h5 h6 h7 h8
 go_enter Tryz.func115, Tryz.ntmps115
 go_wp2
 go_ret
 exact ⟨rfl, rfl⟩
theorem tooMany_any (a s : Int) (w : World) :
    Calls Tryz.prog 109 #[.int .i64 a, .int .i64 s] w (Sk w (.bool (decide (6 < a) || decide (20 < s)))) := by
 by_cases h1 : 6 < a
 ·go_enter Tryz.func109, Tryz.ntmps109
  go_wp2
  go_ret
  exact ⟨by simp [h1], rfl⟩
 ·by_cases h2 : 20 < s
  ·go_enter Tryz.func109, Tryz.ntmps109
   go_wp2
   go_ret
   exact ⟨by simp, rfl⟩
  ·go_enter Tryz.func109, Tryz.ntmps109
   go_wp2
   go_ret
   exact ⟨by simp [h1, h2], rfl⟩
theorem fnoSign_any (m cap P : Nat) (ao : Option Addr) (s : Int) (w : World) (hP : w.cell? ⟨P, 0, none⟩ = some (.slice ao m cap)) :
    Calls Tryz.prog 114 #[.int .i64 s, .pointer (some ⟨P, 0, none⟩)] w (Sk w (.bool (!signF m s))) := by
 have HT : Hid (∀ W, Calls Tryz.prog 115 #[.int .i64 s] W (Sk W (.int .i64 (takesF s)))) := fun W => ftakes_any s W
 by_cases h0 : takesF s = 0
 ·rw [h0] at HT
  by_cases h1 : s < 0
  ·have e : signF m s = false := by simp [signF, h0, h1]
   rw [e]
   clear e h0
   go_enter Tryz.func114, Tryz.ntmps114
   go_wp2_with (go_at_call 115; refine (HT.out _).mono ?_; rintro e w' ⟨rfl, rfl⟩)
   go_ret
   exact ⟨rfl, rfl⟩
  ·by_cases h2 : (m : Int) ≤ s
   ·have e : signF m s = false := by simp [signF, h0, h2]
    rw [e]
    clear e h0
    go_enter Tryz.func114, Tryz.ntmps114
    go_wp2_with (go_at_call 115; refine (HT.out _).mono ?_; rintro e w' ⟨rfl, rfl⟩)
    go_ret
    exact ⟨rfl, rfl⟩
   ·have e : signF m s = true := by simp [signF, h1, h2]
    rw [e]
    clear e h0
    go_enter Tryz.func114, Tryz.ntmps114
    go_wp2_with (go_at_call 115; refine (HT.out _).mono ?_; rintro e w' ⟨rfl, rfl⟩)
    go_ret
    exact ⟨back_b (by simp; omega), rfl⟩
 ·have e : signF m s = true := by simp [signF, h0]
  rw [e]
  clear e
  have h0' : (takesF s == 0) = false := by simpa using h0
  clear h0
  go_enter Tryz.func114, Tryz.ntmps114
  go_wp2_with (go_at_call 115; refine (HT.out _).mono ?_; rintro e w' ⟨rfl, rfl⟩)
  go_ret
  exact ⟨rfl, rfl⟩
def firstBadF (m : Nat) : List Int → Nat → Int
 | [], _ => -1
 | s :: l, k => if signF m s = true then firstBadF m l (k + 1) else k
theorem firstBadF_lt (m : Nat) (t : List Int) (k : Nat) : (firstBadF m t k < 0 ↔ t.all (signF m) = true) ∧ -1 ≤ firstBadF m t k := by
 induction t generalizing k with
 | nil => exact ⟨⟨fun _ => rfl, fun _ => show (-1 : Int) < 0 by decide⟩, Int.le_refl _⟩
 | cons s l ih =>
  unfold firstBadF
  by_cases h : signF m s = true
  ·rw [if_pos h]; simpa [h] using ih (k + 1)
  ·rw [if_neg h]; simp only [List.all_cons, h]; simp
theorem firstBadF_drop (m : Nat) (t : List Int) {k : Nat} (hk : k < t.length) : firstBadF m (t.drop k) k = if signF m (t.getD k 0) = true then firstBadF m (t.drop (k + 1)) (k + 1) else k := by
 rw [List.drop_eq_getElem_cons hk]
 simp [firstBadF, List.getElem?_eq_getElem hk]
theorem findexFunc_any (m mcap P : Nat) (ao : Option Addr) (b off cap : Nat) (t : List Int) (w : World) (hl : t.length ≤ 9223372036854775807) (hP : w.cell? ⟨P, 0, none⟩ = some (.slice ao m mcap)) (hc : ∀ k, k < t.length → w.cell? ⟨b, off + k, none⟩ = some (.int .i64 (t.getD k 0))) :
    Calls Tryz.prog 153 #[.slice (some ⟨b, off, none⟩) t.length cap, .func (.func 114) #[] #[.pointer (some ⟨P, 0, none⟩)]] w (Sk w (.int .i64 (firstBadF m t 0))) := by
 have HF : Hid (∀ {k : Nat}, k < t.length → firstBadF m (t.drop k) k = if signF m (t.getD k 0) = true then firstBadF m (t.drop (k + 1)) (k + 1) else k) := fun {_} h => firstBadF_drop m t h
 have HC := hide hc
 clear hc
 have HP := hide hP
 clear hP
 obtain ⟨n, hn⟩ := nm t.length
 rw [← hn] at hl ⊢
 have HN := hide hn
 clear hn
 go_enter Tryz.func153, Tryz.ntmps153
 go_wp2
 go_loop [8] (fun i => ∃ k : Nat, k ≤ n ∧ i = .int .i64 k ∧ firstBadF m (t.drop k) k = firstBadF m t 0) (fun i => n - (intOf i).toNat)
 case atStart => exact ⟨0, Nat.zero_le _, rfl, rfl⟩
 case round =>
  obtain ⟨k, hk, rfl, hF⟩ := hrel
  have HK := hide hF
  clear hF
  by_cases hlt : k < n
  ·obtain ⟨s, hs⟩ := nm (t.getD k 0)
   have hc := HC.out k (by rw [← HN.out]; exact hlt)
   rw [← hs] at hc
   have HS := hide hs
   clear hs
   have HD : Hid (firstBadF m (t.drop k) k = if signF m s = true then firstBadF m (t.drop (k + 1)) (k + 1) else k) := by
    have := HF.out (k := k) (by rw [← HN.out]; exact hlt)
    rw [← HS.out] at this; exact this
   by_cases hb : signF m s = true
   ·have HD' : Hid (firstBadF m (t.drop (k + 1)) (k + 1) = firstBadF m t 0) := by
     have h1 := HD.out
     rw [if_pos hb] at h1
     exact h1.symm.trans HK.out
    go_wp2_with (go_at_call 114; refine (fnoSign_any m mcap P ao _ _ HP.out).mono ?_; rintro e w' ⟨rfl, rfl⟩)
    go_round
    case rel => exact ⟨k + 1, by omega, by go_num, HD'.out⟩
    case measure => simp [intOf]; omega
   ·have HD' : Hid ((k : Int) = firstBadF m t 0) := by
     have h1 := HD.out
     rw [if_neg hb] at h1
     exact h1.symm.trans HK.out
    have hb' : signF m s = false := by simpa using hb
    clear hb
    go_wp2_with (go_at_call 114; refine (fnoSign_any m mcap P ao _ _ HP.out).mono ?_; rintro e w' ⟨rfl, rfl⟩)
    go_ret
    exact ⟨back_i HD'.out, rfl⟩
  ·have HE : Hid (firstBadF m t 0 = -1) := by
    have h1 := HK.out
    rw [List.drop_eq_nil_of_le (by have := HN.out; omega)] at h1
    exact h1.symm
   go_wp2
   go_ret
   exact ⟨back_i HE.out.symm, rfl⟩
theorem fcontainsFunc_any (m mcap P : Nat) (ao : Option Addr) (b off cap : Nat) (t : List Int) (w : World) (hl : t.length ≤ 9223372036854775807) (hP : w.cell? ⟨P, 0, none⟩ = some (.slice ao m mcap)) (hc : ∀ k, k < t.length → w.cell? ⟨b, off + k, none⟩ = some (.int .i64 (t.getD k 0))) :
    Calls Tryz.prog 116 #[.slice (some ⟨b, off, none⟩) t.length cap, .func (.func 114) #[] #[.pointer (some ⟨P, 0, none⟩)]] w (Sk w (.bool (!t.all (signF m)))) := by
 have c := findexFunc_any m mcap P ao b off cap t w hl hP hc
 clear hc hP
 obtain ⟨h1, h2⟩ := firstBadF_lt m t 0
 obtain ⟨n, hn⟩ := nm (firstBadF m t 0)
 rw [← hn] at c h1 h2
 clear hn
 by_cases h : t.all (signF m) = true
 ·obtain rfl : n = -1 := by have := h1.2 h; omega
  rw [h]
  clear h1 h2 h
  go_enter Tryz.func116, Tryz.ntmps116
  go_wp2_with (go_at_call 153; refine c.mono ?_; rintro e w' ⟨rfl, rfl⟩)
  go_ret
  exact ⟨rfl, rfl⟩
 ·have h0 : 0 ≤ n := by
   rcases Int.lt_or_le n 0 with h' | h'
   ·exact absurd (h1.1 h') h
   ·exact h'
  have h' : t.all (signF m) = false := by simpa using h
  rw [h']
  clear h1 h2 h h'
  go_enter Tryz.func116, Tryz.ntmps116
  go_wp2_with (go_at_call 153; refine c.mono ?_; rintro e w' ⟨rfl, rfl⟩)
  go_ret
  exact ⟨rfl, rfl⟩
theorem fisOne_any (b off cap : Nat) (t : List Int) (w : World) (hl : t.length ≤ 20) (hc : ∀ k, k < t.length → w.cell? ⟨b, off + k, none⟩ = some (.int .i64 (t.getD k 0))) :
    Calls Tryz.prog 117 #[.slice (some ⟨b, off, none⟩) t.length cap] w (Sk w (.bool (decide (cntF t 0 = some 1)))) := by
 have HC := hide hc
 clear hc
 obtain ⟨n, hn⟩ := nm t.length
 rw [← hn] at hl ⊢
 have HN := hide hn
 clear hn
 obtain ⟨R, hR⟩ := nm (decide (cntF t 0 = some 1))
 rw [← hR]
 have HR := hide hR
 clear hR
 go_enter Tryz.func117, Tryz.ntmps117
 go_wp2
 go_loop [3, 8] (fun c i => ∃ (k : Nat) (m : Int), k ≤ n ∧ i = .int .i64 k ∧ c = .int .i64 m ∧ cntF (t.take k) 0 = some m) (fun _ i => n - (intOf i).toNat)
 case atStart => exact ⟨0, 0, Nat.zero_le _, rfl, rfl, rfl⟩
 case round =>
  obtain ⟨k, m, hk, rfl, rfl, hm⟩ := hrel
  have HM := hide hm
  have hm0 : 0 ≤ m ∧ m ≤ 20 := by
   have := cntF_nonneg (Int.le_refl 0) hm
   simp at this
   omega
  clear hm
  by_cases hlt : k < n
  ·obtain ⟨s, hs⟩ := nm (t.getD k 0)
   have hc := HC.out k (by rw [← HN.out]; exact hlt)
   rw [← hs] at hc
   have HD : Hid (cntF (t.take (k + 1)) 0 = if m < takesF s then none else some (m + 1 - takesF s)) := by
    have := cntF_take_succ t (k := k) (by rw [← HN.out]; exact hlt) HM.out
    rw [← hs] at this; exact this
   clear hs
   have ht := takesF_range s
   by_cases hb : m < takesF s
   ·have HE : Hid (R = false) := by
     have h1 := HD.out
     rw [if_pos hb] at h1
     have h2 := cntF_take_none t (k + 1) h1
     have h3 := HR.out
     rw [h2] at h3
     exact h3.trans (by decide)
    go_wp2_with (go_at_call 115; refine (ftakes_any _ _).mono ?_; rintro e w' ⟨rfl, rfl⟩)
    go_ret
    exact ⟨back_b HE.out.symm, rfl⟩
   ·have HE : Hid (cntF (t.take (k + 1)) 0 = some (m + (1 - takesF s))) := by
     have h1 := HD.out
     rw [if_neg hb] at h1
     rw [show m + (1 - takesF s) = m + 1 - takesF s by omega]
     exact h1
    go_wp2_with (go_at_call 115; refine (ftakes_any _ _).mono ?_; rintro e w' ⟨rfl, rfl⟩)
    go_round
    case rel => exact ⟨k + 1, _, by omega, by go_num, rfl, HE.out⟩
    case measure => simp [intOf]; omega
  ·have HE : Hid (R = (m == 1)) := by
    have h1 := HM.out
    rw [List.take_of_length_le (by have := HN.out; omega)] at h1
    have h3 := HR.out
    rw [h1] at h3
    rw [h3]
    by_cases h : m = 1
    ·subst h; rfl
    ·rw [decide_eq_false (by simpa using h)]; exact (beq_eq_false_iff_ne.2 h).symm
   go_wp2
   go_ret
   exact ⟨back_b HE.out.symm, rfl⟩
end Go.Proofs.YtnoohlibgaeklaaGreatDoor
namespace Go.Proofs.YtnoohlibgaeklaaGreatDoor
open Go.ChangeShapes Go.WideShapes Go.ChangeAt Go.RowKit
def FormAt (w : World) (b off : Nat) (f : Fm) : Prop :=
 ∃ va vc, w.cell? ⟨b, off, none⟩ = some va ∧ w.cell? ⟨b, off + 1, none⟩ = some vc ∧ ReadsA w va f.ats ∧ Reads w vc f.c
def ReadsF (w : World) (v : Value) (fs : List Fm) : Prop :=
 (∃ ao cap, v = .slice ao 0 cap ∧ fs = []) ∨ (∃ b off cap, v = .slice (some ⟨b, off, none⟩) fs.length cap ∧ b < w.heap.size ∧ 0 < fs.length ∧ (fs.length ≤ 9223372036854775807 ∧ fs.length ≤ cap) ∧ ∀ i f, fs[i]? = some f → FormAt w b (off + i * 2) f)
theorem FormAt.below {w w' : World} {b off : Nat} {f : Fm} (h : FormAt w b off f) (hB : b < w.heap.size) (hb : Below w.heap.size w w') : FormAt w' b off f := by
 obtain ⟨va, vc, h0, h1, h2, h3⟩ := h
 exact ⟨va, vc, (hb.cell hB).trans h0, (hb.cell hB).trans h1, h2.below hb, h3.below hb⟩
theorem ReadsF.below {w w' : World} {v : Value} {fs : List Fm} (h : ReadsF w v fs) (hb : Below w.heap.size w w') : ReadsF w' v fs := by
 rcases h with h | ⟨b, off, cap, h1, h2, h3, h4, h5⟩
 ·exact Or.inl h
 ·exact Or.inr ⟨b, off, cap, h1, Nat.lt_of_lt_of_le h2 hb.size, h3, h4, fun i f hf => (h5 i f hf).below h2 hb⟩
theorem ReadsF.slice {w : World} {v : Value} {fs : List Fm} (h : ReadsF w v fs) : ∃ ao cap, v = .slice ao fs.length cap ∧ fs.length ≤ 9223372036854775807 := by
 rcases h with ⟨ao, cap, rfl, rfl⟩ | ⟨b, off, cap, rfl, _, _, h, _⟩
 ·exact ⟨ao, cap, rfl, by decide⟩
 ·exact ⟨_, cap, rfl, h.1⟩
theorem ReadsF.at {w : World} {b off n cap : Nat} {fs : List Fm} (h : ReadsF w (.slice (some ⟨b, off, none⟩) n cap) fs) {i : Nat} {f : Fm} (hf : fs[i]? = some f) : b < w.heap.size ∧ FormAt w b (off + i * 2) f := by
 rcases h with ⟨ao, cap', hv, h0⟩ | ⟨b', off', cap', hv, h2, _, _, h5⟩
 ·rw [h0] at hf; simp at hf
 ·obtain ⟨h1, _, _⟩ := Value.slice.inj hv
  obtain ⟨rfl, rfl, _⟩ := Addr.mk.inj (Option.some.inj h1)
  exact ⟨h2, h5 i f hf⟩
theorem ReadsF.place {w : World} {v : Value} {fs : List Fm} (h : ReadsF w v fs) (h0 : 0 < fs.length) : ∃ b off cap, v = .slice (some ⟨b, off, none⟩) fs.length cap := by
 rcases h with ⟨ao, cap', _, hz⟩ | ⟨b', off', cap', hv, _⟩
 ·rw [hz] at h0; simp at h0
 ·exact ⟨b', off', cap', hv⟩
end Go.Proofs.YtnoohlibgaeklaaGreatDoor