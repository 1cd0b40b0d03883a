/-
  Proved: what strings.Lines' function hands to whatever loop ranges over it, of a text all of whose lines are ended: its lines, one behind the other, till the loop has enough (a contract that the statements lean on).
  Proved: what strings.CutSuffix, TrimSuffix and LastIndex return at a line's end, and strings.Cut at a blank, of any text; what was in memory is as it was (contracts that the statements lean on; the walks follow the library's own).
-/
import Derived.Test.YtfnkbbpjfjendaiGreatDoorLibTX30
import Derived.Test.YtfnkbbpjfjendaiGreatDoorLibTX10
import Derived.Test.YtfnkbbpjfjendaiGreatDoorLibTX3
import Derived.Test.YtfnkbbpjfjendaiGreatDoorLibTX5
import Derived.Lib.Strings
import Derived.Lib.Walk
import Derived.Laws.Strings3
namespace Go.Proofs.YtfnkbbpjfjendaiGreatDoor
open Go.ChangeShapes Go.WideShapes Go.ChangeAt Go.RowKit
set_option maxRecDepth 100000

/-- lines, each ended. -/
def linesT (L : List (List UInt8)) : List UInt8 := (L.map fun x => x ++ [10]).flatten
/-- a line, as it is handed over. -/
def encL (x : List UInt8) : Array Value := #[.string (strOf (x ++ [10]))]
theorem lines_drop {L : List (List UInt8)} {k : Nat} {x : List UInt8} (h : L[k]? = some x) : linesT (L.drop k) = (x ++ [10]) ++ linesT (L.drop (k + 1)) := by
  obtain ⟨hk, rfl⟩ := List.getElem?_eq_some_iff.1 h
  rw [List.drop_eq_getElem_cons hk]
  rfl
theorem ten_at {x : List UInt8} (h : plainC 10 x = true) (r : List UInt8) : Lib.indexByte (x ++ 10 :: r) 10 = x.length := by
  induction x with
  | nil => rfl
  | cons b x ih =>
    simp [plainC] at h
    have hi : Lib.indexByte (x ++ 10 :: r) 10 = (x.length : Int) := ih (by simp [plainC]; exact h.2)
    show Lib.indexByte (b :: (x ++ 10 :: r)) 10 = _
    rw [Lib.indexByte, if_neg (by simpa using h.1), hi, if_neg (by simp)]
    simp
theorem lines_made (s : ByteArray) (w : World) : Calls Tryz.prog 49 #[.string s] w fun e w' => e = .returned (.func (.func 64) #[] #[.pointer (some ⟨w.heap.size, 0, none⟩)]) ∧ w' = w.alloc (.cells #[.string s] 9) := by
  go_enter Tryz.func49, Tryz.ntmps49
  go_wp2
  go_ret
  exact ⟨rfl, rfl⟩

set_option maxHeartbeats 4000000 in
theorem lines_iter (L : List (List UInt8)) (hL : ∀ x ∈ L, plainC 10 x = true) (hz : (linesT L).length ≤ 9223372036854775806) (n : Nat) (hn : 1 ≤ n) (Bu : Nat) (W : World) (hB : Blk W Bu 9 #[.string (strOf (linesT L))]) :
    SeqS n Tryz.prog 64 #[.pointer (some ⟨Bu, 0, none⟩)] encL L (fun b => b = Bu) W := by
  intro l J Jx hJ hY h0
  have HY : Hid (∀ (k : Nat) (x : List UInt8) (R : Nat → Prop) (W1 : World), L[k]? = some x → J k R W1 → YieldAt Fence.wide (n - 1) Tryz.prog l #[.string (strOf (x ++ [10]))] W1 fun e W' =>
      (e = .returned (.bool true) ∧ ∃ R', J (k + 1) R' W' ∧ OverS R (fun b => b = Bu) W.heap.size W1 W' ∧ ∀ b, R' b → R b ∨ W1.heap.size ≤ b) ∨ (e = .returned (.bool false) ∧ Jx (k + 1) W')) := hY
  have HJ : Hid (∀ k R W1 W2, J k R W1 → KeepS R (fun b => b = Bu) W.heap.size W1 W2 → J k R W2) := hJ
  have HLk : Hid (∀ (k : Nat) (x : List UInt8), L[k]? = some x → ∃ s : ByteArray, s = strOf (linesT (L.drop k)) ∧ (0 : Int) < (s.size : Int) ∧ (x.length : Int) + 1 ≤ (s.size : Int) ∧ (s.size : Int) ≤ 9223372036854775806 ∧ s.extract 0 (x.length + 1) = strOf (x ++ [10]) ∧ s.extract (x.length + 1) s.size = strOf (linesT (L.drop (k + 1))) ∧ ∀ W, Calls Tryz.prog 65 #[.string s, .int .u8 10] W fun e w' => e = .returned (.int .i64 (x.length : Int)) ∧ W = w') := fun k x hx => by
    have e := lines_drop hx
    have hpl : plainC 10 x = true := hL x (List.mem_of_getElem? hx)
    have hlen : (linesT (L.drop k)).length ≤ (linesT L).length := by
      unfold linesT
      rw [List.map_drop]
      have h := congrArg List.length (List.take_append_drop k (L.map fun x => x ++ [10])).symm
      have h2 : ((L.map fun x => x ++ [10]).flatten).length = (((L.map fun x => x ++ [10]).take k).flatten).length + (((L.map fun x => x ++ [10]).drop k).flatten).length := by
        rw [← List.length_append, ← List.flatten_append, List.take_append_drop]
      omega
    have hs : (strOf (linesT (L.drop k))).size = x.length + 1 + (linesT (L.drop (k + 1))).length := by rw [strOf_size, e, List.length_append, List.length_append]; rfl
    have hs2 : (strOf (linesT (L.drop k))).size = (linesT (L.drop k)).length := strOf_size _
    have hx1 : (x ++ [10]).length = x.length + 1 := by simp
    refine ⟨_, rfl, by omega, by omega, by omega, ?_, ?_, fun W => ?_⟩
    · rw [strOf_take, e, ← hx1, List.take_left]
    · rw [strOf_drop _ _ _ (strOf_size _), e, ← hx1, List.drop_left]
    · have h := indexByte_any (strOf (linesT (L.drop k))) 10 W
      have e2 : Lib.indexByte (strOf (linesT (L.drop k))).data.toList (Int.toNat 10).toUInt8 = (x.length : Int) := by
        rw [strOf_list, e, List.append_assoc]
        exact ten_at hpl _
      rw [e2] at h
      exact h
  have H0 : Hid (J 0 (fun _ => False) W) := h0
  have HB : Hid (Blk W Bu 9 #[.string (strOf (linesT L))]) := hB
  have HBl : Hid (Bu < W.heap.size) := hB.lt
  clear hY hJ h0 hB hL hz
  refine callsIn_of_wp Tryz.func64 rfl trivial ?_ rfl
  simp only [Tryz.ntmps64, List.size_toArray, List.length_cons, List.length_nil, Nat.reduceAdd, Nat.reduceSub, Array.replicate_succ, Array.replicate_zero, List.push_toArray, List.append_toArray, List.nil_append, List.cons_append]
  gi_wp2_with fail
  gi_loopg [] (L.length + 1) (fun gk wr => ∃ (k : Nat) (R : Nat → Prop), k ≤ L.length ∧ gk + k = L.length + 1 ∧ (J k R wr ∧ ¬ R Bu) ∧ Blk wr Bu 9 #[.string (strOf (linesT (L.drop k)))])
  case atStart => exact ⟨0, _, Nat.zero_le _, rfl, ⟨H0.out, fun h => h⟩, HB.out⟩
  case round =>
    obtain ⟨k, R, hk, hg, ⟨hj, hr⟩, hb⟩ := hrel
    have HG : Hid (gk + k = L.length + 1) := hg
    have HJk : Hid (J k R wr) := hj
    have HR : Hid (¬ R Bu) := hr
    have HBk : Hid (Blk wr Bu 9 #[.string (strOf (linesT (L.drop k)))]) := hb
    clear hg hj hr hb
    by_cases hlt : k < L.length
    · obtain ⟨x, hx⟩ : ∃ x, L[k]? = some x := ⟨_, List.getElem?_eq_getElem hlt⟩
      have HX : Hid (L[k]? = some x) := hx
      obtain ⟨s, hs, s0, s1, s2, e1, e2, hI⟩ := HLk.out k x hx
      have HI : Hid (∀ W, Calls Tryz.prog 65 #[.string s, .int .u8 10] W fun e w' => e = .returned (.int .i64 (x.length : Int)) ∧ W = w') := hI
      have HE : Hid (s.extract 0 (x.length + 1) = strOf (x ++ [10]) ∧ s.extract (x.length + 1) s.size = strOf (linesT (L.drop (k + 1)))) := ⟨e1, e2⟩
      rw [← hs] at HBk
      obtain ⟨j, hj⟩ : ∃ j, j = x.length := ⟨_, rfl⟩
      rw [← hj] at s1 HI HE
      clear hs e1 e2 hI hx hj
      have c0 : wr.cell? ⟨Bu, 0, none⟩ = some (.string s) := HBk.out.cell 0
      have c1 : wr.drew.cell? ⟨Bu, 0, none⟩ = some (.string s) := c0
      have f1 : wr.drew.frozen? ⟨Bu, 0, none⟩ = false := HBk.out.frozen 0
      obtain ⟨W5, hW5⟩ : ∃ X, X = (wr.drew.setCell ⟨Bu, 0, none⟩ (.string (s.extract (j + 1) s.size))) := ⟨_, rfl⟩
      gi_wp2_with fail
      refine ⟨trivial, ?_⟩
      gi_at_call 65
      refine (callsIn_wide.2 (HI.out _)).mono ?_
      rintro e w8 ⟨rfl, rfl⟩
      have d0 : (0 : Int) ≤ (j : Int) + 1 := by omega
      have d1 : (0 : Int) ≤ (j : Int) := by omega
      gi_upto_region 4 with fail
      gi_cut [3] from 5 (fun line wc => line = .string (strOf (x ++ [10])) ∧ wc = W5)
      case first =>
        gi_region
        all_goals (try gi_wp2)
        all_goals gi_meet
        all_goals exact ⟨by rw [← HE.out.1], hW5.symm⟩
      case rest =>
      obtain ⟨rfl, rfl⟩ := hcut
      have hb5 : Blk wc Bu 9 #[.string (strOf (linesT (L.drop (k + 1))))] := by
        rw [hW5, ← HE.out.2]
        exact (HBk.out.drew).set 0 _
      have hk5 : KeepS R (fun b => b = Bu) W.heap.size wr wc := by
        rw [hW5]
        refine ⟨(Below.drew (Below.refl _ _)).setCell (Nat.zero_le _) _, fun b _ hb => Below.heap_setCell _ _ _ _ hb, fun b hb _ => Below.heap_setCell _ _ _ _ fun e => HR.out (by have e2 : b = Bu := e; rw [e2] at hb; exact hb)⟩
      obtain ⟨fn, tmps, assign, body, hy, hRn⟩ := HY.out k x R wc HX.out (HJ.out _ _ _ _ HJk.out hk5)
      have HB5 : Hid (Blk wc Bu 9 #[.string (strOf (linesT (L.drop (k + 1))))]) := hb5
      clear hW5 hb5 hk5 c0 c1 f1 d0 d1
      gi_wp2
      refine hRn.mono ?_
      rintro e W6 (⟨rfl, R', hJ6, hO6, hR6⟩ | ⟨rfl, hJx6⟩)
      · have HJ6 : Hid (J (k + 1) R' W6) := hJ6
        have HB6 : Hid (Blk W6 Bu 9 #[.string (strOf (linesT (L.drop (k + 1))))]) := by
          unfold Hid Blk; rw [hO6.same _ (Or.inr rfl) HB5.out.lt HR.out]; exact HB5.out
        have HR6 : Hid (¬ R' Bu) := fun h => by
          rcases hR6 _ h with h | h
          · exact HR.out h
          · have := HB5.out.lt; omega
        clear hJ6 hO6 hR6 hy hRn
        gi_wp2
        gi_roundg (L.length - k)
        case rel => exact ⟨k + 1, R', by omega, by omega, ⟨HJ6.out, HR6.out⟩, HB6.out⟩
        case measure => have := HG.out; omega
      · gi_wp2
        exact bodyPost_ret (results_none rfl _ _ _) rfl ⟨⟨_, rfl⟩, .inr ⟨k, hlt, hJx6⟩⟩
    · obtain rfl : k = L.length := by omega
      have e1 : strOf (linesT (L.drop L.length)) = ⟨#[]⟩ := by rw [List.drop_eq_nil_of_le (Nat.le_refl _)]; rfl
      rw [e1] at HBk
      have c0 : wr.cell? ⟨Bu, 0, none⟩ = some (.string ⟨#[]⟩) := HBk.out.cell 0
      gi_wp2
      go_end0
      exact ⟨⟨_, rfl⟩, .inl ⟨R, HJk.out⟩⟩
end Go.Proofs.YtfnkbbpjfjendaiGreatDoor

namespace Go.Proofs.YtfnkbbpjfjendaiGreatDoor
open Go.ChangeShapes Go.WideShapes Go.ChangeAt Go.RowKit
set_option maxRecDepth 100000

theorem strOf_same {a b : ByteArray} (h : a.data.toList = b.data.toList) : a = b := by rw [← strOf_data a, ← strOf_data b, h]

/-! a line's end behind a text -/
/-- whether a text ends in a line's end. -/
def endB (s : ByteArray) : Bool := decide (1 ≤ s.size) && ((s.extract (s.size - 1) s.size).toList == [10])
theorem endB_app (l : List UInt8) : endB (strOf (l ++ [10])) = true := by
  unfold endB
  have h : (strOf (l ++ [10])).size = l.length + 1 := by rw [strOf_size]; simp
  rw [h, Lib.toList_data, Lib.extract_data, strOf_list]
  simp
theorem endB_some {s : ByteArray} (h : endB s = true) : ∃ l, s = strOf (l ++ [10]) ∧ s.data.toList = l ++ [10] := by
  unfold endB at h
  rw [Bool.and_eq_true, decide_eq_true_eq] at h
  obtain ⟨h1, h2⟩ := h
  have hl : s.data.toList.length = s.size := Array.length_toList
  have e := eq_of_beq h2
  rw [Lib.toList_data, Lib.extract_data, List.take_of_length_le (by rw [List.length_drop]; omega)] at e
  have e2 := List.take_append_drop (s.size - 1) s.data.toList
  rw [e] at e2
  exact ⟨s.data.toList.take (s.size - 1), by rw [e2, strOf_data], e2.symm⟩

set_option maxHeartbeats 1000000 in
theorem hasEnd_any (s : ByteArray) (hs : s.size ≤ 9223372036854775807) (w : World) :
    Calls Tryz.prog 61 #[.string s, .string ⟨#[10]⟩] w fun e w' => e = .returned (.bool (endB s)) ∧ w = w' := by
  unfold endB
  by_cases h : 1 ≤ s.size
  · go_enter Tryz.func61, Tryz.ntmps61
    go_wp2
    go_ret
    refine ⟨?_, rfl⟩
    simp [h]
  · go_enter Tryz.func61, Tryz.ntmps61
    go_wp2
    go_ret
    refine ⟨?_, rfl⟩
    simp

theorem drop_end (l : List UInt8) (n : Nat) (h : n = l.length) : (strOf (l ++ [10])).extract 0 n = strOf l := by
  rw [strOf_take, h, List.take_left]
set_option maxHeartbeats 1000000 in
theorem cutEnd_hit (l : List UInt8) (hz : l.length + 1 ≤ 9223372036854775807) (w : World) :
    Calls Tryz.prog 23 #[.string (strOf (l ++ [10])), .string ⟨#[10]⟩] w fun e w' => e = .returned (.tuple #[.string (strOf l), .bool true]) ∧ w = w' := by
  have hn : (strOf (l ++ [10])).size = l.length + 1 := by rw [strOf_size]; simp
  have HH : Hid (∀ W, Calls Tryz.prog 61 #[.string (strOf (l ++ [10])), .string ⟨#[10]⟩] W fun e w' => e = .returned (.bool true) ∧ W = w') := fun W => by
    have h := hasEnd_any (strOf (l ++ [10])) (by omega) W
    rw [endB_app] at h
    exact h
  have HD : Hid (∀ n, n = l.length → (strOf (l ++ [10])).extract 0 n = strOf l) := fun n h => drop_end l n h
  obtain ⟨s, hs⟩ : ∃ s, s = strOf (l ++ [10]) := ⟨_, rfl⟩
  rw [← hs] at hn HH HD ⊢
  clear hs
  have HC : Hid (∀ W, Calls Tryz.prog 44 #[.string s, .string ⟨#[10]⟩] W fun e w' => e = .returned (.tuple #[.string (strOf l), .bool true]) ∧ W = w') := fun W => by
    have h1 : (1 : Int) ≤ (s.size : Int) := by omega
    have h2 : (s.size : Int) ≤ 9223372036854775807 := by omega
    go_enter Tryz.func44, Tryz.ntmps44
    go_wp2_with (go_at_call 61; refine (HH.out _).mono ?_; rintro e w' ⟨rfl, rfl⟩)
    go_ret2
    refine ⟨?_, rfl⟩
    rw [HD.out _ (by omega)]
    rfl
  go_enter Tryz.func23, Tryz.ntmps23
  go_wp2_with (go_at_call 44; refine (HC.out _).mono ?_; rintro e w' ⟨rfl, rfl⟩)
  go_ret2
  exact ⟨rfl, rfl⟩
set_option maxHeartbeats 1000000 in
theorem cutEnd_miss (s : ByteArray) (hz : s.size ≤ 9223372036854775807) (he : endB s = false) (w : World) :
    Calls Tryz.prog 23 #[.string s, .string ⟨#[10]⟩] w fun e w' => e = .returned (.tuple #[.string s, .bool false]) ∧ w = w' := by
  have HH : Hid (∀ W, Calls Tryz.prog 61 #[.string s, .string ⟨#[10]⟩] W fun e w' => e = .returned (.bool false) ∧ W = w') := fun W => by
    have h := hasEnd_any s hz W
    rw [he] at h
    exact h
  have HC : Hid (∀ W, Calls Tryz.prog 44 #[.string s, .string ⟨#[10]⟩] W fun e w' => e = .returned (.tuple #[.string s, .bool false]) ∧ W = w') := fun W => by
    go_enter Tryz.func44, Tryz.ntmps44
    go_wp2_with (go_at_call 61; refine (HH.out _).mono ?_; rintro e w' ⟨rfl, rfl⟩)
    go_ret2
    exact ⟨rfl, rfl⟩
  go_enter Tryz.func23, Tryz.ntmps23
  go_wp2_with (go_at_call 44; refine (HC.out _).mono ?_; rintro e w' ⟨rfl, rfl⟩)
  go_ret2
  exact ⟨rfl, rfl⟩
set_option maxHeartbeats 1000000 in
theorem trimEnd_hit (l : List UInt8) (hz : l.length + 1 ≤ 9223372036854775807) (w : World) :
    Calls Tryz.prog 51 #[.string (strOf (l ++ [10])), .string ⟨#[10]⟩] w fun e w' => e = .returned (.string (strOf l)) ∧ w = w' := by
  have hn : (strOf (l ++ [10])).size = l.length + 1 := by rw [strOf_size]; simp
  have HH : Hid (∀ W, Calls Tryz.prog 61 #[.string (strOf (l ++ [10])), .string ⟨#[10]⟩] W fun e w' => e = .returned (.bool true) ∧ W = w') := fun W => by
    have h := hasEnd_any (strOf (l ++ [10])) (by omega) W
    rw [endB_app] at h
    exact h
  have HD : Hid (∀ n, n = l.length → (strOf (l ++ [10])).extract 0 n = strOf l) := fun n h => drop_end l n h
  obtain ⟨s, hs⟩ : ∃ s, s = strOf (l ++ [10]) := ⟨_, rfl⟩
  rw [← hs] at hn HH HD ⊢
  clear hs
  have HC : Hid (∀ W, Calls Tryz.prog 71 #[.string s, .string ⟨#[10]⟩] W fun e w' => e = .returned (.string (strOf l)) ∧ W = w') := fun W => by
    have h1 : (1 : Int) ≤ (s.size : Int) := by omega
    have h2 : (s.size : Int) ≤ 9223372036854775807 := by omega
    go_enter Tryz.func71, Tryz.ntmps71
    go_wp2_with (go_at_call 61; refine (HH.out _).mono ?_; rintro e w' ⟨rfl, rfl⟩)
    go_ret
    refine ⟨?_, rfl⟩
    rw [HD.out _ (by omega)]
    rfl
  go_enter Tryz.func51, Tryz.ntmps51
  go_wp2_with (go_at_call 71; refine (HC.out _).mono ?_; rintro e w' ⟨rfl, rfl⟩)
  go_ret
  exact ⟨rfl, rfl⟩

/-! the last line's end -/
/-- where the last line's end ahead of place k stands. -/
def lastTen (l : List UInt8) : Nat → Int
  | 0 => -1
  | k + 1 => if l.getD k 0 = 10 then (k : Int) else lastTen l k
theorem lastTen_plain {l : List UInt8} {a : Nat} : ∀ {k : Nat}, (∀ j, a ≤ j → j < k → l.getD j 0 ≠ 10) → a ≤ k → lastTen l k = lastTen l a := by
  intro k
  induction k with
  | zero => intro _ h; rw [Nat.le_zero.1 h]
  | succ k ih =>
    intro h hk
    rcases Nat.lt_or_ge k a with hl | hl
    · rw [show a = k + 1 by omega]
    · rw [lastTen, if_neg (h k hl (by omega)), ih (fun j h1 h2 => h j h1 (by omega)) hl]
set_option maxHeartbeats 2000000 in
theorem lastByte_any (s : ByteArray) (hs : s.size < 4611686018427387904) (w : World) :
    Calls Tryz.prog 45 #[.string s, .int .u8 10] w fun e w' => e = .returned (.int .i64 (lastTen s.data.toList s.size)) ∧ w = w' := by
  obtain ⟨R, hR⟩ : ∃ R, R = lastTen s.data.toList s.size := ⟨_, rfl⟩
  rw [← hR]
  have HR : Hid (R = lastTen s.data.toList s.size) := hR
  clear hR
  have HLen : Hid (s.data.toList.length = s.size) := Array.length_toList
  go_enter Tryz.func45, Tryz.ntmps45
  go_wp2
  go_loop [5] (fun vi => ∃ k : Nat, k ≤ s.size ∧ vi = .int .i64 ((k : Int) - 1) ∧ R = lastTen s.data.toList k) (fun vi => ((intOf vi) + 1).toNat)
  case atStart => exact ⟨s.size, Nat.le_refl _, by first | rfl | go_num | (congr 1; omega), HR.out⟩
  case round =>
    obtain ⟨k, hk, rfl, hh⟩ := hrel
    have HH : Hid (R = lastTen s.data.toList k) := hh
    clear hh
    by_cases h0 : k = 0
    · subst h0
      go_wp2
      go_ret
      refine ⟨?_, rfl⟩
      rw [HH.out]; rfl
    · obtain ⟨j, rfl⟩ : ∃ j, k = j + 1 := ⟨k - 1, by omega⟩
      have e : ((j + 1 : Nat) : Int) - 1 = (j : Int) := by omega
      rw [e]
      clear e h0
      have hj : j < s.size := by omega
      have hj' : (j : Int) < (s.size : Int) := by omega
      have HGD : Hid (s.data.toList.getD j 0 = s[j]'hj) := by
        unfold Hid
        have hk' : j < s.data.toList.length := by rw [Array.length_toList]; exact hj
        rw [List.getD_eq_getElem?_getD, List.getElem?_eq_getElem hk']
        rfl
      by_cases hb : s[j]'hj = 10
      · have hb' : (((s[j]'hj).toNat : Int) == 10) = true := by rw [hb]; simp
        have HS : Hid (R = (j : Int)) := by unfold Hid; rw [HH.out, lastTen, if_pos (by rw [HGD.out]; exact hb)]
        clear hb HGD
        go_wp2
        go_ret
        exact ⟨back_i HS.out.symm, rfl⟩
      · have hb' : (((s[j]'hj).toNat : Int) == 10) = false := by
          have h : (s[j]'hj).toNat ≠ 10 := fun h => hb (UInt8.toNat_inj.1 h)
          simp; omega
        have HS : Hid (R = lastTen s.data.toList j) := by unfold Hid; rw [HH.out, lastTen, if_neg (by rw [HGD.out]; exact hb)]
        clear hb HGD
        go_wp2
        go_round
        case rel => exact ⟨j, by omega, by go_num, HS.out⟩
        case measure => simp [intOf]
theorem lastIndex_any (s : ByteArray) (hs : s.size < 4611686018427387904) (w : World) :
    Calls Tryz.prog 24 #[.string s, .string ⟨#[10]⟩] w fun e w' => e = .returned (.int .i64 (lastTen s.data.toList s.size)) ∧ w = w' := by
  have HL : Hid (∀ W, Calls Tryz.prog 45 #[.string s, .int .u8 10] W fun e w' => e = .returned (.int .i64 (lastTen s.data.toList s.size)) ∧ W = w') := fun W => lastByte_any s hs W
  go_enter Tryz.func24, Tryz.ntmps24
  go_wp2_with (go_at_call 45; refine (HL.out _).mono ?_; rintro e w' ⟨rfl, rfl⟩)
  go_ret
  exact ⟨rfl, rfl⟩

/-! a word, and the rest -/
set_option maxHeartbeats 1000000 in
theorem cutWord_hit (s : ByteArray) (j : Nat) (hj : blankAt s.data.toList = j) (hz : s.size ≤ 9223372036854775806) (w : World) :
    Calls Tryz.prog 47 #[.string s, .string ⟨#[32]⟩] w fun e w' => e = .returned (.tuple #[.string (s.extract 0 j), .string (s.extract (j + 1) s.size), .bool true]) ∧ Below w.heap.size w w' := by
  have hr := blankAt_range s.data.toList
  have hl : s.data.toList.length = s.size := Array.length_toList
  have HI : Hid (∀ W, Calls Tryz.prog 78 #[.string s, .string ⟨#[32]⟩] W fun e w' => e = .returned (.int .i64 (j : Int)) ∧ W = w') := fun W => by
    have h := slIndex_one s W
    rw [hj] at h
    exact h
  have c1 : (0 : Int) ≤ (j : Int) := by omega
  have c2 : (j : Int) ≤ (s.size : Int) := by omega
  have c3 : (0 : Int) ≤ (j : Int) + 1 := by omega
  have c4 : (j : Int) + 1 ≤ (s.size : Int) := by omega
  clear hr hl hj
  have HC : Hid (∀ W, Calls Tryz.prog 63 #[.string s, .string ⟨#[32]⟩] W fun e w' => e = .returned (.tuple #[.string (s.extract 0 j), .string (s.extract (j + 1) s.size), .bool true]) ∧ Below W.heap.size W w') := fun W => by
    go_enter Tryz.func63, Tryz.ntmps63
    go_wp2_with (go_at_call 78; refine (HI.out _).mono ?_; rintro e w' ⟨rfl, rfl⟩)
    go_region
    go_wp2
    go_ret3
    exact ⟨rfl, (Below.refl _ _).drew⟩
  go_enter Tryz.func47, Tryz.ntmps47
  go_wp2_with (go_at_call 63; refine (HC.out _).mono ?_; rintro e w' ⟨rfl, hb⟩)
  go_ret3
  exact ⟨rfl, hb⟩
set_option maxHeartbeats 1000000 in
theorem cutWord_miss (s : ByteArray) (hj : blankAt s.data.toList = -1) (w : World) :
    Calls Tryz.prog 47 #[.string s, .string ⟨#[32]⟩] w fun e w' => e = .returned (.tuple #[.string s, .string ⟨#[]⟩, .bool false]) ∧ Below w.heap.size w w' := by
  have HI : Hid (∀ W, Calls Tryz.prog 78 #[.string s, .string ⟨#[32]⟩] W fun e w' => e = .returned (.int .i64 (-1)) ∧ W = w') := fun W => by
    have h := slIndex_one s W
    rw [hj] at h
    exact h
  clear hj
  have HC : Hid (∀ W, Calls Tryz.prog 63 #[.string s, .string ⟨#[32]⟩] W fun e w' => e = .returned (.tuple #[.string s, .string ⟨#[]⟩, .bool false]) ∧ W = w') := fun W => by
    go_enter Tryz.func63, Tryz.ntmps63
    go_wp2_with (go_at_call 78; refine (HI.out _).mono ?_; rintro e w' ⟨rfl, rfl⟩)
    go_ret3
    exact ⟨rfl, rfl⟩
  go_enter Tryz.func47, Tryz.ntmps47
  go_wp2_with (go_at_call 63; refine (HC.out _).mono ?_; rintro e w' ⟨rfl, rfl⟩)
  go_ret3
  exact ⟨rfl, Below.refl _ _⟩
/-- the first of some words, and the others. -/
theorem cutWord_any (y : List UInt8) (L : List (List UInt8)) (hy : plainC 32 y = true) (hz : (joinB 32 (y :: L)).length ≤ 9223372036854775806) (w : World) :
    Calls Tryz.prog 47 #[.string (strOf (joinB 32 (y :: L))), .string ⟨#[32]⟩] w fun e w' => e = .returned (.tuple #[.string (strOf y), .string (strOf (joinB 32 L)), .bool (!L.isEmpty)]) ∧ Below w.heap.size w w' := by
  cases L with
  | nil => exact cutWord_miss (strOf y) (by rw [strOf_list]; have h1 := blankAt_none hy; have h2 := (blankAt_range y).1; omega) w
  | cons z L =>
    have e : joinB 32 (y :: z :: L) = y ++ 32 :: joinB 32 (z :: L) := rfl
    rw [e] at hz ⊢
    have h := cutWord_hit (strOf (y ++ 32 :: joinB 32 (z :: L))) y.length (by rw [strOf_list]; exact blankAt_plain hy _) (by rw [strOf_size]; exact hz) w
    have e1 : (strOf (y ++ 32 :: joinB 32 (z :: L))).extract 0 y.length = strOf y := by rw [strOf_take, List.take_left]
    have e2 : (strOf (y ++ 32 :: joinB 32 (z :: L))).extract (y.length + 1) (strOf (y ++ 32 :: joinB 32 (z :: L))).size = strOf (joinB 32 (z :: L)) := by
      rw [strOf_drop _ _ _ (strOf_size _), ← List.drop_drop, List.drop_left]; rfl
    rw [e1, e2] at h
    exact h
end Go.Proofs.YtfnkbbpjfjendaiGreatDoor
