/-
  Facts and contracts that the statement leans on.
-/
import Derived.Test.YtjmeakkmfeoigaaGreatDoorLibA1
import Derived.Lib.ItoaNum
import Derived.Lib.Atoi
import Derived.Test.YtjmeakkmfeoigaaGreatDoorLibA16
import Derived.Lib.Strings
import Derived.Test.YtjmeakkmfeoigaaGreatDoorShelf
import Derived.Test.YtjmeakkmfeoigaaGreatDoorLibA6
import Derived.Lib.AppendIntMem
import Derived.Lib.LaidTab
import Derived.Lib.SmallJoins
import Derived.Laws.World
namespace Go.Proofs.YtjmeakkmfeoigaaGreatDoor
open Go.RowKit
set_option maxRecDepth 100000
def digitsN (u : Nat) : List UInt8 := if u < 10 then [UInt8.ofNat (48 + u)] else [UInt8.ofNat (48 + u / 10), UInt8.ofNat (48 + u % 10)]
def numText (n : Int) : List UInt8 := if n < 0 then 45 :: digitsN n.natAbs else digitsN n.toNat
theorem dec_digits {u : Nat} (h : u < 100) : Lib.decDigits u = digitsN u := by
 unfold digitsN
 by_cases h1 : u < 10
 ·rw [if_pos h1, Lib.decDigits, dif_pos h1]
 ·rw [if_neg h1, Lib.decDigits, dif_neg h1, Lib.decDigits, dif_pos (by omega)]; rfl
theorem itoa_num {n : Int} (h0 : -99 ≤ n) (h1 : n ≤ 99) : Lib.itoa n = numText n := by
 unfold Lib.itoa numText
 by_cases h : n < 0
 ·rw [if_pos h, if_pos h, dec_digits (by omega)]
 ·rw [if_neg h, if_neg h, dec_digits (by omega)]
def nums : List Int := (List.range 199).map fun (i : Nat) => (i : Int) - 99
theorem mem_nums {n : Int} : n ∈ nums ↔ -99 ≤ n ∧ n ≤ 99 := by
 unfold nums
 rw [List.mem_map]
 constructor
 ·rintro ⟨i, hi, rfl⟩
  have := List.mem_range.1 hi
  omega
 ·intro h
  exact ⟨(n + 99).toNat, List.mem_range.2 (by omega), by omega⟩
def numOf (l : List UInt8) : Option Int := nums.find? fun n => decide (numText n = l)
theorem nums_atoi : nums.all (fun n => decide (Lib.atoi (numText n) = some n)) = true := by decide +kernel
theorem atoi_num {n : Int} (h : -99 ≤ n ∧ n ≤ 99) : Lib.atoi (numText n) = some n := by
 have := List.all_eq_true.1 nums_atoi n (mem_nums.2 h)
 simpa using this
theorem numOf_some {l : List UInt8} {n : Int} : numOf l = some n ↔ (-99 ≤ n ∧ n ≤ 99) ∧ numText n = l := by
 constructor
 ·intro h
  exact ⟨mem_nums.1 (List.mem_of_find?_eq_some h), by simpa using List.find?_some h⟩
 ·rintro ⟨hn, rfl⟩
  cases h : numOf (numText n) with
  | none =>
   have := List.find?_eq_none.1 h n (mem_nums.2 hn)
   simp at this
  | some m =>
   have hm : numText m = numText n := by simpa using List.find?_some h
   have h1 := atoi_num (mem_nums.1 (List.mem_of_find?_eq_some h))
   rw [hm, atoi_num hn] at h1
   rw [Option.some.inj h1]
theorem numOf_text {n : Int} (h : -99 ≤ n ∧ n ≤ 99) : numOf (numText n) = some n := numOf_some.2 ⟨h, rfl⟩
def bareN : List UInt8 → List UInt8
 | [] => []
 | b :: r => if b = 45 then r else b :: r
theorem nums_bare : nums.all (fun n => decide ((bareN (numText n)).length ≤ 2)) = true := by decide +kernel
theorem bare_num {n : Int} (h : -99 ≤ n ∧ n ≤ 99) : (bareN (numText n)).length ≤ 2 := by
 have := List.all_eq_true.1 nums_bare n (mem_nums.2 h)
 simpa using this
theorem numOf_long {l : List UInt8} (h : 2 < (bareN l).length) : numOf l = none := by
 cases h1 : numOf l with
 | none => rfl
 | some n =>
  obtain ⟨hn, rfl⟩ := numOf_some.1 h1
  have := bare_num hn
  omega
theorem dec_le {l : List UInt8} {m : Nat} (hl : l.length ≤ 2) (h : Lib.decNat l = some m) : m ≤ 99 := by
 have hd : ∀ b d, Lib.digitVal b = some d → d ≤ 9 := by
  intro b d hb
  unfold Lib.digitVal at hb
  split at hb
  ·simp at hb; omega
  ·cases hb
 match l, hl with
 | [], _ => simp [Lib.decNat] at h
 | [a], _ =>
  simp only [Lib.decNat, Lib.decFrom, List.isEmpty] at h
  cases ha : Lib.digitVal a with
  | none => rw [ha] at h; simp at h
  | some d =>
   rw [ha] at h
   have := hd a d ha
   simp at h
   omega
 | [a, b], _ =>
  simp only [Lib.decNat, Lib.decFrom, List.isEmpty] at h
  cases ha : Lib.digitVal a with
  | none => rw [ha] at h; simp at h
  | some d =>
   cases hb : Lib.digitVal b with
   | none => rw [ha, hb] at h; simp at h
   | some d' =>
    rw [ha, hb] at h
    have := hd a d ha
    have := hd b d' hb
    simp at h
    omega
theorem atoi_bare {l : List UInt8} {n : Int} (hl : (bareN l).length ≤ 2) (h : Lib.atoi l = some n) : -99 ≤ n ∧ n ≤ 99 := by
 match l with
 | [] => cases h
 | b :: r =>
  rw [Lib.atoi] at h
  by_cases hb : b = 45
  ·subst hb
   have hl' : r.length ≤ 2 := hl
   rw [if_pos (by decide)] at h
   cases hm : Lib.decNat r with
   | none => rw [hm] at h; cases h
   | some m =>
    have := dec_le hl' hm
    rw [hm] at h
    simp at h
    omega
  ·have hl' : (b :: r).length ≤ 2 := by
    rw [bareN, if_neg hb] at hl
    exact hl
   rw [if_neg (by simpa using hb)] at h
   split at h
   ·cases hm : Lib.decNat r with
    | none => rw [hm] at h; cases h
    | some m =>
     have := dec_le (by simp at hl'; omega) hm
     rw [hm] at h
     simp at h
     omega
   ·cases hm : Lib.decNat (b :: r) with
    | none => rw [hm] at h; cases h
    | some m =>
     have := dec_le hl' hm
     rw [hm] at h
     simp at h
     omega
theorem numOf_atoi {l : List UInt8} (hl : (bareN l).length ≤ 2) : numOf l = match Lib.atoi l with | some n => if numText n = l then some n else none | none => none := by
 cases h : Lib.atoi l with
 | none =>
  cases h1 : numOf l with
  | none => rfl
  | some n =>
   obtain ⟨hn, rfl⟩ := numOf_some.1 h1
   rw [atoi_num hn] at h
   cases h
 | some n =>
  have hn := atoi_bare hl h
  show numOf l = if numText n = l then some n else none
  by_cases he : numText n = l
  ·rw [if_pos he]; exact numOf_some.2 ⟨hn, he⟩
  ·rw [if_neg he]
   cases h1 : numOf l with
   | none => rfl
   | some m =>
    obtain ⟨hm, rfl⟩ := numOf_some.1 h1
    rw [atoi_num hm] at h
    obtain rfl := Option.some.inj h
    exact absurd rfl he
end Go.Proofs.YtjmeakkmfeoigaaGreatDoor
namespace Go.Proofs.YtjmeakkmfeoigaaGreatDoor
open Go.ChangeShapes Go.WideShapes Go.ChangeAt Go.RowKit
set_option maxRecDepth 100000
def blankAt (l : List UInt8) : Int := Lib.indexByte l 32
def splitL : Nat → List UInt8 → List (List UInt8)
 | 0, l => [l]
 | k + 1, l => if blankAt l < 0 then [l] else l.take (blankAt l).toNat :: splitL k (l.drop ((blankAt l).toNat + 1))
theorem blankAt_range (l : List UInt8) : -1 ≤ blankAt l ∧ blankAt l < l.length := by
 unfold blankAt
 induction l with
 | nil => exact ⟨by decide, by decide⟩
 | cons b l ih =>
  unfold Lib.indexByte
  split
  ·exact ⟨by decide, by simp⟩
  split
  ·exact ⟨by decide, by simp; omega⟩
  ·simp; omega
theorem splitL_hit {k : Nat} {l : List UInt8} {j : Nat} (h : blankAt l = j) : splitL (k + 1) l = l.take j :: splitL k (l.drop (j + 1)) := by
 rw [splitL, h, if_neg (by omega)]; rfl
theorem splitL_miss {k : Nat} {l : List UInt8} (h : blankAt l < 0) : splitL k l = [l] := by
 cases k with
 | zero => rfl
 | succ k => rw [splitL, if_pos h]
def ReadsS (w : World) (v : Value) (ws : List (List UInt8)) : Prop :=
 ∃ b cap, v = .slice (some ⟨b, 0, none⟩) ws.length cap ∧ b < w.heap.size ∧ ws.length ≤ cap ∧ ∀ k, k < ws.length → w.cell? ⟨b, k, none⟩ = some (.string (strOf (ws.getD k [])))
theorem ReadsS.below {w w' : World} {v : Value} {ws : List (List UInt8)} (h : ReadsS w v ws) (hb : Below w.heap.size w w') : ReadsS w' v ws := by
 obtain ⟨b, cap, h1, h2, h3, h4⟩ := h
 exact ⟨b, cap, h1, Nat.lt_of_lt_of_le h2 hb.size, h3, fun k hk => by rw [hb.cell h2]; exact h4 k hk⟩
theorem strOf_data (s : ByteArray) : strOf s.data.toList = s := by unfold strOf; rw [Array.toArray_toList]
theorem strOf_size (l : List UInt8) : (strOf l).size = l.length := by unfold strOf; simp [ByteArray.size]
theorem strOf_list (l : List UInt8) : (strOf l).data.toList = l := by unfold strOf; simp
theorem drop_data (c : ByteArray) (k : Nat) : (c.extract k c.size).data.toList = c.data.toList.drop k := by
 rw [Lib.extract_data, List.take_of_length_le (by rw [List.length_drop]; have : c.data.toList.length = c.size := Array.length_toList; omega)]
theorem take_str (c : ByteArray) (k : Nat) : c.extract 0 k = strOf (c.data.toList.take k) := by
 rw [Lib.extract_eq]; rfl
theorem strOf_take (l : List UInt8) (k : Nat) : (strOf l).extract 0 k = strOf (l.take k) := by
 rw [Lib.extract_eq, strOf_list]; rfl
theorem strOf_drop (l : List UInt8) (k n : Nat) (h : n = l.length) : (strOf l).extract k n = strOf (l.drop k) := by
 rw [Lib.extract_eq, strOf_list, List.take_of_length_le (by simp; omega)]; rfl
theorem slIndex_one (s : ByteArray) (w : World) :
    Calls Tryz.prog 193 #[.string s, .string ⟨#[32]⟩] w (Sk w (.int .i64 (blankAt s.data.toList))) := by
 have HI : Hid (∀ W, Calls Tryz.prog 108 #[.string s, .int .u8 32] W (Sk W (.int .i64 (blankAt s.data.toList)))) := fun W => sIndexByte_any s 32 W
 rcases (Bool.eq_false_or_eq_true ([32] == s.toList)).symm with h | h
 ·go_enter Tryz.func193, Tryz.ntmps193
  go_wp2_with (go_at_call 108; refine (HI.out _).mono ?_; rintro e w' ⟨rfl, rfl⟩)
  go_ret
  exact ⟨rfl, rfl⟩
 ·have HE : Hid (blankAt s.data.toList = 0) := by
   have e : s.toList = [32] := (eq_of_beq h).symm
   rw [Lib.toList_data] at e
   unfold Hid; rw [e]; decide
  go_enter Tryz.func193, Tryz.ntmps193
  go_wp2
  go_ret
  exact ⟨back_i HE.out.symm, rfl⟩
theorem sIndex_one (s : ByteArray) (w : World) :
    Calls Tryz.prog 164 #[.string s, .string ⟨#[32]⟩] w (Sk w (.int .i64 (blankAt s.data.toList))) := by
 go_enter Tryz.func164, Tryz.ntmps164
 go_wp2_with (go_at_call 193; refine (slIndex_one _ _).mono ?_; rintro e w' ⟨rfl, rfl⟩)
 go_ret
 exact ⟨rfl, rfl⟩
theorem infoStr : (Tryz.prog.info? 9).map (fun i => (i.zero, i.size, i.bytes)) = some (some (.string ByteArray.empty), 1, 16) := by kernel_rfl
def rowS (done : List (List UInt8)) (N : Nat) : List Value := done.map (fun l => Value.string (strOf l)) ++ List.replicate (N - done.length) (.string ByteArray.empty)
theorem rowS_set {done : List (List UInt8)} {N : Nat} (l : List UInt8) (h : done.length < N) : (rowS done N).set done.length (.string (strOf l)) = rowS (done ++ [l]) N := by
 obtain ⟨m, hm⟩ : ∃ m, N - done.length = m + 1 := ⟨N - done.length - 1, by omega⟩
 unfold rowS
 rw [hm, List.set_append_right _ _ (by simp)]
 have e : N - (done ++ [l]).length = m := by simp; omega
 rw [e]
 simp [List.replicate_succ]
theorem rowS_get {done : List (List UInt8)} {N j : Nat} (h : j < done.length) : (rowS done N)[j]? = some (.string (strOf (done.getD j []))) := by
 unfold rowS
 rw [List.getElem?_append_left (by simpa using h)]
 simp [List.getElem?_eq_getElem h]
theorem rowS_at {done : List (List UInt8)} {N : Nat} (h : done.length < N) : (rowS done N)[done.length]? = some (.string ByteArray.empty) := by
 unfold rowS
 rw [List.getElem?_append_right (by simp), List.length_map, Nat.sub_self, List.getElem?_replicate, if_pos (by omega)]
theorem rowS_nil (N : Nat) : rowS [] N = List.replicate N (.string ByteArray.empty) := by simp [rowS]
theorem own_words {w : World} {base : Nat} {g N : Nat} {done : List (List UInt8)} {m : Nat} (h : w.ownsRow base 9 1 (.slice (some ⟨g, 0, none⟩) N N) N (rowS done N)) (hm : m = done.length) (hN : done.length ≤ N) : ReadsS w (.slice (some ⟨g, 0, none⟩) m N) done := by
 subst hm
 exact ⟨g, N, rfl, (ownsRow_block h).2.1, hN, fun k hk => by rw [h.cellAt k (by omega), rowS_get hk]⟩
set_option maxHeartbeats 4000000 in
theorem genSplit_long (s : ByteArray) (hz : s.size ≤ 9223372036854775806) (hn : 4 ≤ s.size) (w : World) :
    Calls Tryz.prog 134 #[.string s, .string ⟨#[32]⟩, .int .i64 0, .int .i64 5] w fun e w' => ∃ v, e = .returned v ∧ ReadsS w' v (splitL 4 s.data.toList) ∧ Below w.heap.size w w' := by
 obtain ⟨i0, hi, hz0, hz1, hz2⟩ := info_parts infoStr
 have hdec : ¬ (s.size : Int) + 1 < 5 := by omega
 obtain ⟨R, hR⟩ := nm (splitL 4 s.data.toList)
 rw [← hR]
 have HR := hide hR
 clear hR
 go_enter Tryz.func134, Tryz.ntmps134
 go_wp2_with (at_make; refine wpList_make_full _ rfl _ _ 151 rfl w.heap.size 9 i0 (.string ByteArray.empty) 1 Tryz.underlying151 hi hz0 hz1 .i64 .i64 _ _ 5 rfl rfl ?m0 ?m1 ?m2 ?m3 ?m4 ?_)
 try (case m0 => omega)
 try (case m1 => omega)
 case m3 => decide
 intro w1 hown1 hgrow1
 obtain ⟨G, hG⟩ := nm w.heap.size
 have HO : Hid (w1.ownsRow G 9 1 (.slice (some ⟨G, 0, none⟩) 5 5) 5 (rowS [] 5) ∧ Below w.heap.size w w1) := by
  refine ⟨?_, ?_⟩
  ·rw [rowS_nil, ← toList_madeCells_one, hG]
   simpa [Value.cells] using hown1
  ·exact (Below.refl _ _).grown hgrow1 (by omega) (fun k hk => by cases hk)
 have HG : Hid (w.heap.size ≤ G) := by unfold Hid; omega
 rw [← hG]
 clear hown1 hgrow1 hG
 go_wp2
 go_loopw [0, 10] (fun sv i wr => ∃ (k : Nat) (c : ByteArray) (done : List (List UInt8)), k ≤ 4 ∧ done.length = k ∧ i = .int .i64 k ∧ sv = .string c ∧ c.size ≤ 9223372036854775806 ∧ R = done ++ splitL (4 - k) c.data.toList ∧ wr.ownsRow G 9 1 (.slice (some ⟨G, 0, none⟩) 5 5) 5 (rowS done 5) ∧ Below w.heap.size w wr) (fun _ i _ => 4 - (intOf i).toNat)
 case atStart => exact ⟨0, s, [], Nat.zero_le _, rfl, rfl, rfl, hz, HR.out, HO.out.1, HO.out.2⟩
 case round =>
  obtain ⟨k, c, done, hk, hd, rfl, rfl, hc, hS, hown, hbel⟩ := hrel
  have hfr : wr.frozen? ⟨G, k, none⟩ = false := hown.frozenAt k
  have hcg : wr.cell? ⟨G, k, none⟩ = some (.string ByteArray.empty) := by rw [hown.cellAt k (by omega), ← hd, rowS_at (by omega)]
  have HW : Hid (∀ l, (wr.setCell ⟨G, k, none⟩ (.string (strOf l))).ownsRow G 9 1 (.slice (some ⟨G, 0, none⟩) 5 5) 5 (rowS (done ++ [l]) 5) ∧ Below w.heap.size w (wr.setCell ⟨G, k, none⟩ (.string (strOf l)))) := by
   intro l
   have := hown.stored k (.string (strOf l))
   rw [← hd, rowS_set l (by omega), hd] at this
   exact ⟨this.1, hbel.setCell HG.out _⟩
  have HS := hide hS
  have HD := hide hd
  clear hS hown hbel hd
  by_cases hlt : k < 4
  ·have hr := blankAt_range c.data.toList
   have HI : Hid (∀ W, Calls Tryz.prog 164 #[.string c, .string ⟨#[32]⟩] W (Sk W (.int .i64 (blankAt c.data.toList)))) := fun W => sIndex_one c W
   have HLen : Hid (c.data.toList.length = c.size) := Array.length_toList
   obtain ⟨B, hB⟩ := nm (blankAt c.data.toList)
   rw [← hB] at hr HI
   have HB := hide hB
   have hr2 : B < (c.size : Int) := by have := HLen.out; omega
   have hr1 := hr.1
   clear hB hr
   by_cases hneg : B < 0
   ·have HT : Hid (R = done ++ [c.data.toList]) := by
     unfold Hid; rw [HS.out, splitL_miss (by rw [← HB.out]; exact hneg)]
    have HE : Hid (strOf c.data.toList = c) := strOf_data c
    go_wp2_with (go_at_call 164; refine (HI.out _).mono ?_; rintro e w' ⟨rfl, rfl⟩)
    go_ret
    have h := HW.out c.data.toList
    rw [HE.out] at h
    have hd := HD.out
    refine ⟨_, rfl, ?_, h.2⟩
    rw [HT.out]
    exact own_words h.1 (by simp [hd]) (by simp; omega)
   ·obtain ⟨j, rfl⟩ := Int.eq_ofNat_of_zero_le (show 0 ≤ B by omega)
    have HT : Hid (R = (done ++ [c.data.toList.take j]) ++ splitL (4 - (k + 1)) (c.extract (j + 1) c.size).data.toList) := by
     have e : 4 - k = (4 - (k + 1)) + 1 := by omega
     unfold Hid
     rw [HS.out, e, splitL_hit HB.out.symm, drop_data, List.append_assoc]; rfl
    have HE : Hid (c.extract 0 j = strOf (c.data.toList.take j)) := take_str c j
    have HZ : Hid ((c.extract (j + 1) c.size).size ≤ 9223372036854775806) := by
     unfold Hid
     rw [ByteArray.size_extract]; omega
    go_wp2_with (go_at_call 164; refine (HI.out _).mono ?_; rintro e w' ⟨rfl, rfl⟩)
    go_roundw
    case rel =>
     have h := HW.out (c.data.toList.take j)
     rw [← HE.out] at h
     exact ⟨k + 1, _, _, by omega, by simp [HD.out], by go_num, rfl, HZ.out, HT.out, h.1, h.2⟩
    case measure => simp [intOf]; omega
  ·obtain rfl : k = 4 := by omega
   have HE : Hid (strOf c.data.toList = c) := strOf_data c
   have HT : Hid (R = done ++ [c.data.toList]) := by
    unfold Hid; rw [HS.out, Nat.sub_self]; rfl
   go_wp2
   go_ret
   have h := HW.out c.data.toList
   rw [HE.out] at h
   have hd := HD.out
   refine ⟨_, rfl, ?_, h.2⟩
   rw [HT.out]
   exact own_words h.1 (by simp [hd]) (by simp; omega)
set_option maxHeartbeats 4000000 in
theorem genSplit_short (s : ByteArray) (hz : s.size ≤ 9223372036854775806) (hn : s.size < 4) (w : World) :
    Calls Tryz.prog 134 #[.string s, .string ⟨#[32]⟩, .int .i64 0, .int .i64 5] w fun e w' => ∃ v, e = .returned v ∧ ReadsS w' v (splitL s.size s.data.toList) ∧ Below w.heap.size w w' := by
 obtain ⟨i0, hi, hz0, hz1, hz2⟩ := info_parts infoStr
 have hdec : (s.size : Int) + 1 < 5 := by omega
 obtain ⟨R, hR⟩ := nm (splitL s.size s.data.toList)
 rw [← hR]
 have HR := hide hR
 clear hR
 go_enter Tryz.func134, Tryz.ntmps134
 go_wp2_with (at_make; refine wpList_make_full _ rfl _ _ 151 rfl w.heap.size 9 i0 (.string ByteArray.empty) 1 Tryz.underlying151 hi hz0 hz1 .i64 .i64 _ _ (s.size + 1) rfl rfl ?m0 ?m1 ?m2 ?m3 ?m4 ?_)
 case m0 => first | rfl | omega
 case m1 => first | rfl | omega
 case m2 => rw [hz2]; omega
 case m3 => unfold maxLen; omega
 case m4 => exact Nat.le_refl _
 intro w1 hown1 hgrow1
 obtain ⟨G, hG⟩ := nm w.heap.size
 have HO : Hid (w1.ownsRow G 9 1 (.slice (some ⟨G, 0, none⟩) (s.size + 1) (s.size + 1)) (s.size + 1) (rowS [] (s.size + 1)) ∧ Below w.heap.size w w1) := by
  refine ⟨?_, ?_⟩
  ·rw [rowS_nil, ← toList_madeCells_one, hG]
   simpa [Value.cells] using hown1
  ·exact (Below.refl _ _).grown hgrow1 (by omega) (fun k hk => by cases hk)
 have HG : Hid (w.heap.size ≤ G) := by unfold Hid; omega
 rw [← hG]
 clear hown1 hgrow1 hG
 go_wp2
 go_loopw [0, 10] (fun sv i wr => ∃ (k : Nat) (c : ByteArray) (done : List (List UInt8)), k ≤ s.size ∧ done.length = k ∧ i = .int .i64 k ∧ sv = .string c ∧ c.size ≤ 9223372036854775806 ∧ R = done ++ splitL (s.size - k) c.data.toList ∧ wr.ownsRow G 9 1 (.slice (some ⟨G, 0, none⟩) (s.size + 1) (s.size + 1)) (s.size + 1) (rowS done (s.size + 1)) ∧ Below w.heap.size w wr) (fun _ i _ => s.size - (intOf i).toNat)
 case atStart => exact ⟨0, s, [], Nat.zero_le _, rfl, rfl, rfl, hz, HR.out, HO.out.1, HO.out.2⟩
 case round =>
  obtain ⟨k, c, done, hk, hd, rfl, rfl, hc, hS, hown, hbel⟩ := hrel
  have hfr : wr.frozen? ⟨G, k, none⟩ = false := hown.frozenAt k
  have hcg : wr.cell? ⟨G, k, none⟩ = some (.string ByteArray.empty) := by rw [hown.cellAt k (by omega), ← hd, rowS_at (by omega)]
  have HW : Hid (∀ l, (wr.setCell ⟨G, k, none⟩ (.string (strOf l))).ownsRow G 9 1 (.slice (some ⟨G, 0, none⟩) (s.size + 1) (s.size + 1)) (s.size + 1) (rowS (done ++ [l]) (s.size + 1)) ∧ Below w.heap.size w (wr.setCell ⟨G, k, none⟩ (.string (strOf l)))) := by
   intro l
   have := hown.stored k (.string (strOf l))
   rw [← hd, rowS_set l (by omega), hd] at this
   exact ⟨this.1, hbel.setCell HG.out _⟩
  have HS := hide hS
  have HD := hide hd
  clear hS hown hbel hd
  by_cases hlt : k < s.size
  ·have hr := blankAt_range c.data.toList
   have HI : Hid (∀ W, Calls Tryz.prog 164 #[.string c, .string ⟨#[32]⟩] W (Sk W (.int .i64 (blankAt c.data.toList)))) := fun W => sIndex_one c W
   have HLen : Hid (c.data.toList.length = c.size) := Array.length_toList
   obtain ⟨B, hB⟩ := nm (blankAt c.data.toList)
   rw [← hB] at hr HI
   have HB := hide hB
   have hr2 : B < (c.size : Int) := by have := HLen.out; omega
   have hr1 := hr.1
   clear hB hr
   by_cases hneg : B < 0
   ·have HT : Hid (R = done ++ [c.data.toList]) := by
     unfold Hid; rw [HS.out, splitL_miss (by rw [← HB.out]; exact hneg)]
    have HE : Hid (strOf c.data.toList = c) := strOf_data c
    go_wp2_with (go_at_call 164; refine (HI.out _).mono ?_; rintro e w' ⟨rfl, rfl⟩)
    go_ret
    have h := HW.out c.data.toList
    rw [HE.out] at h
    have hd := HD.out
    refine ⟨_, rfl, ?_, h.2⟩
    rw [HT.out]
    exact own_words h.1 (by simp [hd]) (by simp; omega)
   ·obtain ⟨j, rfl⟩ := Int.eq_ofNat_of_zero_le (show 0 ≤ B by omega)
    have HT : Hid (R = (done ++ [c.data.toList.take j]) ++ splitL (s.size - (k + 1)) (c.extract (j + 1) c.size).data.toList) := by
     have e : s.size - k = (s.size - (k + 1)) + 1 := by omega
     unfold Hid
     rw [HS.out, e, splitL_hit HB.out.symm, drop_data, List.append_assoc]; rfl
    have HE : Hid (c.extract 0 j = strOf (c.data.toList.take j)) := take_str c j
    have HZ : Hid ((c.extract (j + 1) c.size).size ≤ 9223372036854775806) := by
     unfold Hid
     rw [ByteArray.size_extract]; omega
    go_wp2_with (go_at_call 164; refine (HI.out _).mono ?_; rintro e w' ⟨rfl, rfl⟩)
    go_roundw
    case rel =>
     have h := HW.out (c.data.toList.take j)
     rw [← HE.out] at h
     exact ⟨k + 1, _, _, by omega, by simp [HD.out], by go_num, rfl, HZ.out, HT.out, h.1, h.2⟩
    case measure => simp [intOf]; omega
  ·obtain rfl : k = s.size := by omega
   have HE : Hid (strOf c.data.toList = c) := strOf_data c
   have HT : Hid (R = done ++ [c.data.toList]) := by
    unfold Hid; rw [HS.out, Nat.sub_self]; rfl
   go_wp2
   go_ret
   have h := HW.out c.data.toList
   rw [HE.out] at h
   have hd := HD.out
   refine ⟨_, rfl, ?_, h.2⟩
   rw [HT.out]
   exact own_words h.1 (by simp [hd]) (by simp; omega)
theorem split_any (s : ByteArray) (hz : s.size ≤ 9223372036854775806) (w : World) :
    Calls Tryz.prog 96 #[.string s, .string ⟨#[32]⟩, .int .i64 5] w fun e w' => ∃ v, e = .returned v ∧ ReadsS w' v (splitL (if 4 ≤ s.size then 4 else s.size) s.data.toList) ∧ Below w.heap.size w w' := by
 have c : Calls Tryz.prog 134 #[.string s, .string ⟨#[32]⟩, .int .i64 0, .int .i64 5] w fun e w' => ∃ v, e = .returned v ∧ ReadsS w' v (splitL (if 4 ≤ s.size then 4 else s.size) s.data.toList) ∧ Below w.heap.size w w' := by
  by_cases h : 4 ≤ s.size
  ·rw [if_pos h]; exact genSplit_long s hz h w
  ·rw [if_neg h]; exact genSplit_short s hz (by omega) w
 have HC := hide c
 clear c
 obtain ⟨R, hR⟩ := nm (splitL (if 4 ≤ s.size then 4 else s.size) s.data.toList)
 rw [← hR] at HC ⊢
 clear hR
 go_enter Tryz.func96, Tryz.ntmps96
 go_wp2_with (go_at_call 134; refine HC.out.mono ?_; rintro e w' ⟨v, rfl, hv, hb⟩)
 go_ret
 exact ⟨v, rfl, hv, hb⟩
end Go.Proofs.YtjmeakkmfeoigaaGreatDoor
namespace Go.Proofs.YtjmeakkmfeoigaaGreatDoor
open Go.ChangeShapes Go.WideShapes Go.ChangeAt Go.RowKit
set_option maxRecDepth 100000
theorem var_below {w w' : World} {n : String} {cs : Array Value} (h : w.var? Tryz.prog n = some cs) (hb : Below w.heap.size w w') : w'.var? Tryz.prog n = some cs := by
 unfold World.var? at h ⊢
 cases hg : Tryz.prog.globalNamed n with
 | none => simp [hg] at h
 | some g =>
  simp only [hg, Option.bind_some] at h ⊢
  have hlt : g < w.heap.size := by
   rcases Nat.lt_or_ge g w.heap.size with h' | h'
   ·exact h'
   ·simp [Array.getElem?_eq_none h'] at h
  rw [hb.block g hlt]
  exact h
def LibLaid (w : World) : Prop := Lib.TabIs Tryz.prog w "internal/strconv.uint64pow10" .u64 Lib.pow10Tab ∧ ∃ tp p, w.var? Tryz.prog "strconv.ErrSyntax" = some #[.iface tp p]
theorem LibLaid.below {w w' : World} (h : LibLaid w) (hb : Below w.heap.size w w') : LibLaid w' := by
 obtain ⟨h1, tp, p, h2⟩ := h
 exact ⟨var_below h1 hb, tp, p, var_below h2 hb⟩
theorem itoa_any (n : Int) (h0 : -99 ≤ n) (h1 : n ≤ 99) (w : World) (hL : LibLaid w) :
    Calls Tryz.prog 90 #[.int .i64 n] w (Bk w (.string (strOf (numText n)))) := by
 refine (Any.strconv_Itoa Tryz.laysM171 n (by omega) (by omega) w hL.1).mono ?_
 rintro e w' ⟨he, k, os, rfl⟩
 refine ⟨?_, Lib.below_grow _ _ (Nat.le_refl _) _ _⟩
 rw [he, itoa_num h0 h1]
 rfl
theorem trim_any (s : ByteArray) (w : World) :
    Calls Tryz.prog 63 #[.string s, .string ⟨#[45]⟩] w (Sk w (.string (strOf (bareN s.data.toList)))) := by
 refine (Any.strings_TrimPrefix Tryz.lays101 s ⟨#[45]⟩ w).mono ?_
 rintro e w' ⟨he, rfl⟩
 refine ⟨?_, rfl⟩
 have e1 : Lib.trimPrefix s.data.toList (ByteArray.mk #[45]).data.toList = bareN s.data.toList := by
  show Lib.trimPrefix s.data.toList [45] = _
  match s.data.toList with
  | [] => rfl
  | b :: r =>
   unfold Lib.trimPrefix
   by_cases hb : b = 45
   ·subst hb
    rw [if_pos (by simp [Lib.hasPrefix])]; rfl
   ·rw [if_neg (by simp [Lib.hasPrefix]; exact fun h => hb h.symm), bareN, if_neg hb]
 rw [he, e1]; rfl
theorem atoi_some (s : ByteArray) (n : Int) (hl : s.size ≤ 18) (h : Lib.atoi s.data.toList = some n) (w : World) :
    Calls Tryz.prog 139 #[.string s] w (Bk w (.tuple #[.int .i64 n, .nilIface])) := by
 refine (Any.strconv_Atoi Tryz.lays172 s n hl h w).mono ?_
 rintro e w' ⟨he, t, rfl⟩
 exact ⟨he, Go.Joins.below_bytesWorld _ _ _ _ (Nat.le_refl _)⟩
theorem atoi_none (s : ByteArray) (hl : s.size ≤ 18) (h : Lib.atoi s.data.toList = none) (w : World) (hL : LibLaid w) :
    Calls Tryz.prog 139 #[.string s] w fun e w' => ∃ N, e = .returned (.tuple #[.int .i64 0, .iface 256 (.pointer (some ⟨N, 0, none⟩))]) ∧ Below w.heap.size w w' := by
 obtain ⟨_, tp, p, hv⟩ := hL
 refine (Any.strconv_Atoi_err_var Tryz.laysC172 s hl h tp p w hv).mono ?_
 rintro e w' ⟨N, he, _, _, hb⟩
 exact ⟨N, he, hb⟩
def numFault (l : List UInt8) : Int := if (numOf l).isSome then 0 else 2
def numIs (l : List UInt8) : Int := (numOf l).getD 0
theorem bare_size {l : List UInt8} (h : (bareN l).length ≤ 2) : l.length ≤ 3 := by
 match l with
 | [] => simp
 | b :: r =>
  rw [bareN] at h
  split at h
  ·simp; omega
  ·omega
set_option maxHeartbeats 1000000 in
theorem number_any (s : ByteArray) (hz : s.size ≤ 9223372036854775807) (w : World) (hL : LibLaid w) :
    Calls Tryz.prog 99 #[.string s] w (Bk w (.tuple #[.int .i64 (numIs s.data.toList), errV (numFault s.data.toList)])) := by
 have HT : Hid (∀ W, Calls Tryz.prog 63 #[.string s, .string ⟨#[45]⟩] W (Sk W (.string (strOf (bareN s.data.toList))))) := fun W => trim_any s W
 have hsz : s.data.toList.length = s.size := Array.length_toList
 have hbl : (bareN s.data.toList).length ≤ s.data.toList.length := by
  cases s.data.toList with
  | nil => simp [bareN]
  | cons b r => rw [bareN]; split <;> simp
 by_cases hb : 2 < (bareN s.data.toList).length
 ·have e1 : numIs s.data.toList = 0 := by unfold numIs; rw [numOf_long hb]; rfl
  have e2 : errV (numFault s.data.toList) = .iface 64 (.int .i64 2) := by unfold numFault; rw [numOf_long hb]; rfl
  rw [e1, e2]
  have hl2 : (2 : Int) < ((strOf (bareN s.data.toList)).size : Int) := by rw [strOf_size]; omega
  have hl3 : (strOf (bareN s.data.toList)).size ≤ 9223372036854775807 := by rw [strOf_size]; omega
  obtain ⟨t, ht⟩ := nm (strOf (bareN s.data.toList))
  rw [← ht] at HT hl2 hl3
  clear e1 e2 hb hbl hsz ht hz hL
  go_enter Tryz.func99, Tryz.ntmps99
  go_wp2_with (go_at_call 63; refine (HT.out _).mono ?_; rintro e w' ⟨rfl, rfl⟩)
  go_ret2
  exact ⟨rfl, Below.refl _ _⟩
 have hb2 : (bareN s.data.toList).length ≤ 2 := by omega
 have hl2 : ¬ (2 : Int) < ((strOf (bareN s.data.toList)).size : Int) := by rw [strOf_size]; omega
 have h18 : s.size ≤ 18 := by have := bare_size hb2; omega
 have hN := numOf_atoi hb2
 have hl3 : (strOf (bareN s.data.toList)).size ≤ 9223372036854775807 := by rw [strOf_size]; omega
 obtain ⟨t, ht⟩ := nm (strOf (bareN s.data.toList))
 rw [← ht] at HT hl2 hl3
 clear ht hb hbl
 rcases hA : Lib.atoi s.data.toList with _ | n
 ·rw [hA] at hN
  have e1 : numIs s.data.toList = 0 := by unfold numIs; rw [hN]; rfl
  have e2 : errV (numFault s.data.toList) = .iface 64 (.int .i64 2) := by unfold numFault; rw [hN]; rfl
  rw [e1, e2]
  have HA : Hid (Calls Tryz.prog 139 #[.string s] w fun e w' => ∃ N, e = .returned (.tuple #[.int .i64 0, .iface 256 (.pointer (some ⟨N, 0, none⟩))]) ∧ Below w.heap.size w w') := atoi_none s h18 hA w hL
  clear e1 e2 hN hA h18 hsz hb2 hz hL
  go_enter Tryz.func99, Tryz.ntmps99
  go_wp2_with (first | (go_at_call 63; refine (HT.out _).mono ?_; rintro e w' ⟨rfl, rfl⟩) | (go_at_call 139; refine HA.out.mono ?_; rintro e w2 ⟨N, rfl, hbel⟩))
  go_ret2
  exact ⟨rfl, hbel⟩
 ·rw [hA] at hN
  have hn := atoi_bare hb2 hA
  have HA : Hid (Calls Tryz.prog 139 #[.string s] w (Bk w (.tuple #[.int .i64 n, .nilIface]))) := atoi_some s n h18 hA w
  have HI : Hid (∀ W, Below w.heap.size w W → Calls Tryz.prog 90 #[.int .i64 n] W (Bk W (.string (strOf (numText n))))) := fun W h => itoa_any n hn.1 hn.2 W (hL.below h)
  by_cases he : numText n = s.data.toList
  ·have e0 : numOf s.data.toList = some n := by rw [hN]; exact if_pos he
   have e1 : numIs s.data.toList = n := by unfold numIs; rw [e0]; rfl
   have e2 : errV (numFault s.data.toList) = .nilIface := by unfold numFault; rw [e0]; rfl
   rw [e1, e2]
   rw [he, strOf_data] at HI
   clear e0 e1 e2 hN hA h18 hsz hb2 he hn hz hL
   go_enter Tryz.func99, Tryz.ntmps99
   go_wp2_with (first | (go_at_call 63; refine (HT.out _).mono ?_; rintro e w' ⟨rfl, rfl⟩) | (go_at_call 139; refine HA.out.mono ?_; rintro e w2 ⟨rfl, hbel⟩; have HB2 : Hid (Below w.heap.size w w2) := hbel; clear hbel) | (go_at_call 90; refine (HI.out _ HB2.out).mono ?_; rintro e w3 ⟨rfl, hbel⟩; have HB3 : Hid (Below w.heap.size w w3) := HB2.out.trans (hbel.mono HB2.out.size); clear hbel))
   go_ret2
   exact ⟨rfl, HB3.out⟩
  ·have e0 : numOf s.data.toList = none := by rw [hN]; exact if_neg he
   have e1 : numIs s.data.toList = 0 := by unfold numIs; rw [e0]; rfl
   have e2 : errV (numFault s.data.toList) = .iface 64 (.int .i64 2) := by unfold numFault; rw [e0]; rfl
   rw [e1, e2]
   have hq : ((strOf (numText n)).toList == s.toList) = false := by
    rw [Lib.toList_data, Lib.toList_data, strOf_list]
    simpa using he
   obtain ⟨x, hx⟩ := nm (strOf (numText n))
   rw [← hx] at HI hq
   clear e0 e1 e2 hN hA h18 hsz hb2 he hn hz hL hx
   go_enter Tryz.func99, Tryz.ntmps99
   go_wp2_with (first | (go_at_call 63; refine (HT.out _).mono ?_; rintro e w' ⟨rfl, rfl⟩) | (go_at_call 139; refine HA.out.mono ?_; rintro e w2 ⟨rfl, hbel⟩; have HB2 : Hid (Below w.heap.size w w2) := hbel; clear hbel) | (go_at_call 90; refine (HI.out _ HB2.out).mono ?_; rintro e w3 ⟨rfl, hbel⟩; have HB3 : Hid (Below w.heap.size w w3) := HB2.out.trans (hbel.mono HB2.out.size); clear hbel))
   go_ret2
   exact ⟨rfl, HB3.out⟩
end Go.Proofs.YtjmeakkmfeoigaaGreatDoor
namespace Go.Proofs.YtjmeakkmfeoigaaGreatDoor
open Go.RowKit
set_option maxRecDepth 100000
def kindWord (k : Int) : List UInt8 := if k = 1 then [115, 117, 98] else if k = 2 then [115, 97, 109, 101] else if k = 3 then [108, 101, 97, 115, 116] else if k = 4 then [109, 111, 115, 116] else [110, 111, 109, 111, 114, 101]
def kindOfN (l : List UInt8) : Int := if l = [115, 117, 98] then 1 else if l = [115, 97, 109, 101] then 2 else if l = [108, 101, 97, 115, 116] then 3 else if l = [109, 111, 115, 116] then 4 else if l = [110, 111, 109, 111, 114, 101] then 5 else 0
def manyN (k : Int) : Nat := if k = 5 then 4 else 3
def atomText (k : Int) (s t : List Int) (n : Int) : List UInt8 := (kindWord k ++ (32 :: textN s)) ++ ((if secondB k = true then 32 :: textN t else []) ++ (if numberB k = true then 32 :: numText n else []))
def wordsKind (ws : List (List UInt8)) : Int := if ws.length = manyN (kindOfN (ws.getD 0 [])) then kindOfN (ws.getD 0 []) else 0
def partsBad (k : Int) (ws : List (List UInt8)) : Bool := !lettersB (ws.getD 1 []) || (secondB k && !lettersB (ws.getD 2 [])) || (numberB k && (numOf (ws.getD (ws.length - 1) [])).isNone)
def wordsS (ws : List (List UInt8)) : List Int := readN (ws.getD 1 [])
def wordsT (k : Int) (ws : List (List UInt8)) : List Int := if secondB k = true then readN (ws.getD 2 []) else []
def wordsN (k : Int) (ws : List (List UInt8)) : Int := if numberB k = true then (numOf (ws.getD (ws.length - 1) [])).getD 0 else 0
def wordsFault (ws : List (List UInt8)) : Int :=
 if wordsKind ws = 0 then 2 else if partsBad (wordsKind ws) ws = true then 2 else atomFault (wordsKind ws) (wordsS ws) (wordsT (wordsKind ws) ws) (wordsN (wordsKind ws) ws)
end Go.Proofs.YtjmeakkmfeoigaaGreatDoor
namespace Go.Proofs.YtjmeakkmfeoigaaGreatDoor
open Go.ChangeShapes Go.WideShapes Go.ChangeAt Go.RowKit
set_option maxRecDepth 100000
theorem str_eq {x : ByteArray} {l : List UInt8} (h : x.data.toList = l) : x = strOf l := by rw [← h, strOf_data]
theorem back_str {a b : ByteArray} {v : Value} (h : a = b) : Ending.returned (.tuple #[.string a, v]) = .returned (.tuple #[.string b, v]) := by rw [h]
def BoxA (w : World) (B : Nat) (k n : Int) (vs vt : Value) : Prop := w.cell? ⟨B, 0, none⟩ = some (.int .i64 k) ∧ w.cell? ⟨B, 1, none⟩ = some vs ∧ w.cell? ⟨B, 2, none⟩ = some vt ∧ w.cell? ⟨B, 3, none⟩ = some (.int .i64 n)
theorem BoxA.below {w w' : World} {B K : Nat} {k n : Int} {vs vt : Value} (h : BoxA w B k n vs vt) (hb : Below K w w') (hK : B < K) : BoxA w' B k n vs vt :=
 ⟨(hb.cell hK).trans h.1, (hb.cell hK).trans h.2.1, (hb.cell hK).trans h.2.2.1, (hb.cell hK).trans h.2.2.2⟩
theorem boxA_alloc (w : World) (k n : Int) (vs vt : Value) : BoxA (w.alloc (.cells #[.int .i64 k, vs, vt, .int .i64 n] 29)) w.heap.size k n vs vt := ⟨by simp, by simp, by simp, by simp⟩
theorem aprint_bad (k F : Int) (n : Int) (sao tao : Option Addr) (sl scap tl tcap : Nat) (w : World)
    (hC : ∀ W, Below w.heap.size w W → Calls Tryz.prog 36 #[.agg #[.int .i64 k, .slice sao sl scap, .slice tao tl tcap, .int .i64 n]] W (Bk W (.iface 64 (.int .i64 F)))) :
    Calls Tryz.prog 58 #[.agg #[.int .i64 k, .slice sao sl scap, .slice tao tl tcap, .int .i64 n]] w (Bk w (.tuple #[.string ⟨#[]⟩, (.iface 64 (.int .i64 F))])) := by
 obtain ⟨w1, hw1⟩ := nm (w.alloc (.cells #[.int .i64 k, .slice sao sl scap, .slice tao tl tcap, .int .i64 n] 29))
 have HB1 : Hid (Below w.heap.size w w1) := by unfold Hid; rw [hw1]; exact below_alloc1 w _
 have HX : Hid (BoxA w1 w.heap.size k n (.slice sao sl scap) (.slice tao tl tcap)) := by unfold Hid; rw [hw1]; exact boxA_alloc w _ _ _ _
 have HK1 : Hid (w.heap.size < w1.heap.size) := by unfold Hid; rw [hw1]; simp
 have HC := hide (hC w1 HB1.out)
 clear hC
 obtain ⟨x0, x1, x2, x3⟩ := HX.out
 go_enter Tryz.func58, Tryz.ntmps58
 go_wp2_with fail
 rw [← hw1]
 clear hw1
 go_wp2_with (go_at_call 36; refine HC.out.mono ?_; rintro e w2 ⟨rfl, hb⟩; have HB2 : Hid (Below w.heap.size w w2) := HB1.out.trans (hb.mono HB1.out.size); clear hb)
 go_ret2
 exact ⟨rfl, HB2.out⟩
set_option maxHeartbeats 2000000 in
theorem aprint_two (k : Nat) (h0 : 0 < k) (h6 : k < 6) (Q : ByteArray) (hQ : Q.size ≤ 6) (ls lt : List UInt8) (zs : ls.length ≤ 20) (zt : lt.length ≤ 20) (n : Int) (sao tao : Option Addr) (sl scap tl tcap : Nat) (w : World)
    (HKc : Hid (∀ W, Below w.heap.size w W → W.cell? ⟨0, k * 3, none⟩ = some (.string Q) ∧ W.cell? ⟨0, k * 3 + 1, none⟩ = some (.bool true) ∧ W.cell? ⟨0, k * 3 + 2, none⟩ = some (.bool false)))
    (hC : ∀ W, Below w.heap.size w W → Calls Tryz.prog 36 #[.agg #[.int .i64 (k : Int), .slice sao sl scap, .slice tao tl tcap, .int .i64 n]] W (Bk W .nilIface))
    (hS : ∀ W, Below w.heap.size w W → Calls Tryz.prog 89 #[.slice sao sl scap] W (Bk W (.tuple #[.string (strOf ls), .nilIface])))
    (hT : ∀ W, Below w.heap.size w W → Calls Tryz.prog 89 #[.slice tao tl tcap] W (Bk W (.tuple #[.string (strOf lt), .nilIface])))
    : Calls Tryz.prog 58 #[.agg #[.int .i64 (k : Int), .slice sao sl scap, .slice tao tl tcap, .int .i64 n]] w (Bk w (.tuple #[.string (strOf (Q.data.toList ++ (32 :: ls) ++ (32 :: lt))), .nilIface])) := by
 obtain ⟨w1, hw1⟩ := nm (w.alloc (.cells #[.int .i64 (k : Int), .slice sao sl scap, .slice tao tl tcap, .int .i64 n] 29))
 have HB1 : Hid (Below w.heap.size w w1) := by unfold Hid; rw [hw1]; exact below_alloc1 w _
 have HX : Hid (BoxA w1 w.heap.size (k : Int) n (.slice sao sl scap) (.slice tao tl tcap)) := by unfold Hid; rw [hw1]; exact boxA_alloc w _ _ _ _
 have HK1 : Hid (w.heap.size < w1.heap.size) := by unfold Hid; rw [hw1]; simp
 have HT0 : Hid (∀ W, Below w1.heap.size w1 W → Below w.heap.size w W) := fun W h => HB1.out.trans (h.mono HB1.out.size)
 have HC := hide (hC w1 HB1.out)
 obtain ⟨ps, hps⟩ := nm (strOf ls)
 obtain ⟨pt, hpt⟩ := nm (strOf lt)
 have fs : ps.size ≤ 20 := by rw [hps, strOf_size]; exact zs
 have ft : pt.size ≤ 20 := by rw [hpt, strOf_size]; exact zt
 rw [← hps] at hS
 rw [← hpt] at hT
 have HS : Hid (∀ W, Below w1.heap.size w1 W → Calls Tryz.prog 89 #[.slice sao sl scap] W (Bk W (.tuple #[.string ps, .nilIface]))) := fun W h => hS W (HT0.out W h)
 have HT : Hid (∀ W, Below w1.heap.size w1 W → Calls Tryz.prog 89 #[.slice tao tl tcap] W (Bk W (.tuple #[.string pt, .nilIface]))) := fun W h => hT W (HT0.out W h)
 obtain ⟨R, hR⟩ := nm (strOf (Q.data.toList ++ (32 :: ls) ++ (32 :: lt)))
 rw [← hR]
 have HR : Hid (R.data.toList = Q.data.toList ++ (32 :: ps.data.toList) ++ (32 :: pt.data.toList)) := by
  unfold Hid; rw [hR, hps, hpt]; simp only [strOf_list]
 clear hR hps hpt zs zt hC hS hT
 obtain ⟨x0, x1, x2, x3⟩ := HX.out
 go_enter Tryz.func58, Tryz.ntmps58
 go_wp2_with fail
 rw [← hw1]
 clear hw1
 go_wp2_with fail
 go_at_call 36
 refine HC.out.mono ?_
 rintro e w2 ⟨rfl, hb⟩
 have HZ2 := hide hb
 clear hb x0 x1 x2 x3
 obtain ⟨q0, q1, q2⟩ := HKc.out _ (HT0.out _ HZ2.out)
 obtain ⟨x0, x1, x2, x3⟩ := HX.out.below HZ2.out HK1.out
 go_wp2_with fail
 go_at_call 89
 refine (HS.out _ HZ2.out).mono ?_
 rintro e w3 ⟨rfl, hb⟩
 have HZ3 := hide (HZ2.out.trans (hb.mono HZ2.out.size))
 clear hb x0 x1 x2 x3 q0 q1 q2
 obtain ⟨q0, q1, q2⟩ := HKc.out _ (HT0.out _ HZ3.out)
 obtain ⟨x0, x1, x2, x3⟩ := HX.out.below HZ3.out HK1.out
 go_wp2_with fail
 go_at_call 89
 refine (HT.out _ HZ3.out).mono ?_
 rintro e w4 ⟨rfl, hb⟩
 have HZ4 := hide (HZ3.out.trans (hb.mono HZ3.out.size))
 clear hb x0 x1 x2 x3 q0 q1 q2
 obtain ⟨q0, q1, q2⟩ := HKc.out _ (HT0.out _ HZ4.out)
 obtain ⟨x0, x1, x2, x3⟩ := HX.out.below HZ4.out HK1.out
 go_wp2_with fail
 go_ret2
 refine ⟨back_str ?_, HT0.out _ HZ4.out⟩
 refine (str_eq (l := R.data.toList) ?_).trans (strOf_data R)
 rw [HR.out]
 simp
set_option maxHeartbeats 2000000 in
theorem aprint_num (k : Nat) (h0 : 0 < k) (h6 : k < 6) (Q : ByteArray) (hQ : Q.size ≤ 6) (ls ln : List UInt8) (zs : ls.length ≤ 20) (zn : ln.length ≤ 20) (n : Int) (sao tao : Option Addr) (sl scap tl tcap : Nat) (w : World)
    (HKc : Hid (∀ W, Below w.heap.size w W → W.cell? ⟨0, k * 3, none⟩ = some (.string Q) ∧ W.cell? ⟨0, k * 3 + 1, none⟩ = some (.bool false) ∧ W.cell? ⟨0, k * 3 + 2, none⟩ = some (.bool true)))
    (hC : ∀ W, Below w.heap.size w W → Calls Tryz.prog 36 #[.agg #[.int .i64 (k : Int), .slice sao sl scap, .slice tao tl tcap, .int .i64 n]] W (Bk W .nilIface))
    (hS : ∀ W, Below w.heap.size w W → Calls Tryz.prog 89 #[.slice sao sl scap] W (Bk W (.tuple #[.string (strOf ls), .nilIface])))
    (hN : ∀ W, Below w.heap.size w W → Calls Tryz.prog 90 #[.int .i64 n] W (Bk W (.string (strOf ln))))
    : Calls Tryz.prog 58 #[.agg #[.int .i64 (k : Int), .slice sao sl scap, .slice tao tl tcap, .int .i64 n]] w (Bk w (.tuple #[.string (strOf (Q.data.toList ++ (32 :: ls) ++ (32 :: ln))), .nilIface])) := by
 obtain ⟨w1, hw1⟩ := nm (w.alloc (.cells #[.int .i64 (k : Int), .slice sao sl scap, .slice tao tl tcap, .int .i64 n] 29))
 have HB1 : Hid (Below w.heap.size w w1) := by unfold Hid; rw [hw1]; exact below_alloc1 w _
 have HX : Hid (BoxA w1 w.heap.size (k : Int) n (.slice sao sl scap) (.slice tao tl tcap)) := by unfold Hid; rw [hw1]; exact boxA_alloc w _ _ _ _
 have HK1 : Hid (w.heap.size < w1.heap.size) := by unfold Hid; rw [hw1]; simp
 have HT0 : Hid (∀ W, Below w1.heap.size w1 W → Below w.heap.size w W) := fun W h => HB1.out.trans (h.mono HB1.out.size)
 have HC := hide (hC w1 HB1.out)
 obtain ⟨ps, hps⟩ := nm (strOf ls)
 obtain ⟨pn, hpn⟩ := nm (strOf ln)
 have fs : ps.size ≤ 20 := by rw [hps, strOf_size]; exact zs
 have fn : pn.size ≤ 20 := by rw [hpn, strOf_size]; exact zn
 rw [← hps] at hS
 rw [← hpn] at hN
 have HS : Hid (∀ W, Below w1.heap.size w1 W → Calls Tryz.prog 89 #[.slice sao sl scap] W (Bk W (.tuple #[.string ps, .nilIface]))) := fun W h => hS W (HT0.out W h)
 have HN : Hid (∀ W, Below w1.heap.size w1 W → Calls Tryz.prog 90 #[.int .i64 n] W (Bk W (.string pn))) := fun W h => hN W (HT0.out W h)
 obtain ⟨R, hR⟩ := nm (strOf (Q.data.toList ++ (32 :: ls) ++ (32 :: ln)))
 rw [← hR]
 have HR : Hid (R.data.toList = Q.data.toList ++ (32 :: ps.data.toList) ++ (32 :: pn.data.toList)) := by
  unfold Hid; rw [hR, hps, hpn]; simp only [strOf_list]
 clear hR hps hpn zs zn hC hS hN
 obtain ⟨x0, x1, x2, x3⟩ := HX.out
 go_enter Tryz.func58, Tryz.ntmps58
 go_wp2_with fail
 rw [← hw1]
 clear hw1
 go_wp2_with fail
 go_at_call 36
 refine HC.out.mono ?_
 rintro e w2 ⟨rfl, hb⟩
 have HZ2 := hide hb
 clear hb x0 x1 x2 x3
 obtain ⟨q0, q1, q2⟩ := HKc.out _ (HT0.out _ HZ2.out)
 obtain ⟨x0, x1, x2, x3⟩ := HX.out.below HZ2.out HK1.out
 go_wp2_with fail
 go_at_call 89
 refine (HS.out _ HZ2.out).mono ?_
 rintro e w3 ⟨rfl, hb⟩
 have HZ3 := hide (HZ2.out.trans (hb.mono HZ2.out.size))
 clear hb x0 x1 x2 x3 q0 q1 q2
 obtain ⟨q0, q1, q2⟩ := HKc.out _ (HT0.out _ HZ3.out)
 obtain ⟨x0, x1, x2, x3⟩ := HX.out.below HZ3.out HK1.out
 go_wp2_with fail
 go_at_call 90
 refine (HN.out _ HZ3.out).mono ?_
 rintro e w5 ⟨rfl, hb⟩
 have HZ5 := hide (HZ3.out.trans (hb.mono HZ3.out.size))
 clear hb x0 x1 x2 x3 q0 q1 q2
 go_wp2_with fail
 go_ret2
 refine ⟨back_str ?_, HT0.out _ HZ5.out⟩
 refine (str_eq (l := R.data.toList) ?_).trans (strOf_data R)
 rw [HR.out]
 simp
set_option maxHeartbeats 2000000 in
theorem aprint_all (k : Nat) (h0 : 0 < k) (h6 : k < 6) (Q : ByteArray) (hQ : Q.size ≤ 6) (ls lt ln : List UInt8) (zs : ls.length ≤ 20) (zt : lt.length ≤ 20) (zn : ln.length ≤ 20) (n : Int) (sao tao : Option Addr) (sl scap tl tcap : Nat) (w : World)
    (HKc : Hid (∀ W, Below w.heap.size w W → W.cell? ⟨0, k * 3, none⟩ = some (.string Q) ∧ W.cell? ⟨0, k * 3 + 1, none⟩ = some (.bool true) ∧ W.cell? ⟨0, k * 3 + 2, none⟩ = some (.bool true)))
    (hC : ∀ W, Below w.heap.size w W → Calls Tryz.prog 36 #[.agg #[.int .i64 (k : Int), .slice sao sl scap, .slice tao tl tcap, .int .i64 n]] W (Bk W .nilIface))
    (hS : ∀ W, Below w.heap.size w W → Calls Tryz.prog 89 #[.slice sao sl scap] W (Bk W (.tuple #[.string (strOf ls), .nilIface])))
    (hT : ∀ W, Below w.heap.size w W → Calls Tryz.prog 89 #[.slice tao tl tcap] W (Bk W (.tuple #[.string (strOf lt), .nilIface])))
    (hN : ∀ W, Below w.heap.size w W → Calls Tryz.prog 90 #[.int .i64 n] W (Bk W (.string (strOf ln))))
    : Calls Tryz.prog 58 #[.agg #[.int .i64 (k : Int), .slice sao sl scap, .slice tao tl tcap, .int .i64 n]] w (Bk w (.tuple #[.string (strOf (Q.data.toList ++ (32 :: ls) ++ (32 :: lt) ++ (32 :: ln))), .nilIface])) := by
 obtain ⟨w1, hw1⟩ := nm (w.alloc (.cells #[.int .i64 (k : Int), .slice sao sl scap, .slice tao tl tcap, .int .i64 n] 29))
 have HB1 : Hid (Below w.heap.size w w1) := by unfold Hid; rw [hw1]; exact below_alloc1 w _
 have HX : Hid (BoxA w1 w.heap.size (k : Int) n (.slice sao sl scap) (.slice tao tl tcap)) := by unfold Hid; rw [hw1]; exact boxA_alloc w _ _ _ _
 have HK1 : Hid (w.heap.size < w1.heap.size) := by unfold Hid; rw [hw1]; simp
 have HT0 : Hid (∀ W, Below w1.heap.size w1 W → Below w.heap.size w W) := fun W h => HB1.out.trans (h.mono HB1.out.size)
 have HC := hide (hC w1 HB1.out)
 obtain ⟨ps, hps⟩ := nm (strOf ls)
 obtain ⟨pt, hpt⟩ := nm (strOf lt)
 obtain ⟨pn, hpn⟩ := nm (strOf ln)
 have fs : ps.size ≤ 20 := by rw [hps, strOf_size]; exact zs
 have ft : pt.size ≤ 20 := by rw [hpt, strOf_size]; exact zt
 have fn : pn.size ≤ 20 := by rw [hpn, strOf_size]; exact zn
 rw [← hps] at hS
 rw [← hpt] at hT
 rw [← hpn] at hN
 have HS : Hid (∀ W, Below w1.heap.size w1 W → Calls Tryz.prog 89 #[.slice sao sl scap] W (Bk W (.tuple #[.string ps, .nilIface]))) := fun W h => hS W (HT0.out W h)
 have HT : Hid (∀ W, Below w1.heap.size w1 W → Calls Tryz.prog 89 #[.slice tao tl tcap] W (Bk W (.tuple #[.string pt, .nilIface]))) := fun W h => hT W (HT0.out W h)
 have HN : Hid (∀ W, Below w1.heap.size w1 W → Calls Tryz.prog 90 #[.int .i64 n] W (Bk W (.string pn))) := fun W h => hN W (HT0.out W h)
 obtain ⟨R, hR⟩ := nm (strOf (Q.data.toList ++ (32 :: ls) ++ (32 :: lt) ++ (32 :: ln)))
 rw [← hR]
 have HR : Hid (R.data.toList = Q.data.toList ++ (32 :: ps.data.toList) ++ (32 :: pt.data.toList) ++ (32 :: pn.data.toList)) := by
  unfold Hid; rw [hR, hps, hpt, hpn]; simp only [strOf_list]
 clear hR hps hpt hpn zs zt zn hC hS hT hN
 obtain ⟨x0, x1, x2, x3⟩ := HX.out
 go_enter Tryz.func58, Tryz.ntmps58
 go_wp2_with fail
 rw [← hw1]
 clear hw1
 go_wp2_with fail
 go_at_call 36
 refine HC.out.mono ?_
 rintro e w2 ⟨rfl, hb⟩
 have HZ2 := hide hb
 clear hb x0 x1 x2 x3
 obtain ⟨q0, q1, q2⟩ := HKc.out _ (HT0.out _ HZ2.out)
 obtain ⟨x0, x1, x2, x3⟩ := HX.out.below HZ2.out HK1.out
 go_wp2_with fail
 go_at_call 89
 refine (HS.out _ HZ2.out).mono ?_
 rintro e w3 ⟨rfl, hb⟩
 have HZ3 := hide (HZ2.out.trans (hb.mono HZ2.out.size))
 clear hb x0 x1 x2 x3 q0 q1 q2
 obtain ⟨q0, q1, q2⟩ := HKc.out _ (HT0.out _ HZ3.out)
 obtain ⟨x0, x1, x2, x3⟩ := HX.out.below HZ3.out HK1.out
 go_wp2_with fail
 go_at_call 89
 refine (HT.out _ HZ3.out).mono ?_
 rintro e w4 ⟨rfl, hb⟩
 have HZ4 := hide (HZ3.out.trans (hb.mono HZ3.out.size))
 clear hb x0 x1 x2 x3 q0 q1 q2
 obtain ⟨q0, q1, q2⟩ := HKc.out _ (HT0.out _ HZ4.out)
 obtain ⟨x0, x1, x2, x3⟩ := HX.out.below HZ4.out HK1.out
 go_wp2_with fail
 go_at_call 90
 refine (HN.out _ HZ4.out).mono ?_
 rintro e w5 ⟨rfl, hb⟩
 have HZ5 := hide (HZ4.out.trans (hb.mono HZ4.out.size))
 clear hb x0 x1 x2 x3 q0 q1 q2
 go_wp2_with fail
 go_ret2
 refine ⟨back_str ?_, HT0.out _ HZ5.out⟩
 refine (str_eq (l := R.data.toList) ?_).trans (strOf_data R)
 rw [HR.out]
 simp
theorem digits_length (u : Nat) : (digitsN u).length ≤ 2 := by unfold digitsN; split <;> simp
theorem numText_length (n : Int) : (numText n).length ≤ 3 := by
 unfold numText
 split
 ·have := digits_length n.natAbs; simp; omega
 ·have := digits_length n.toNat; omega
def aprintS (k : Int) (s t : List Int) (n : Int) : ByteArray := if atomFault k s t n = 0 then strOf (atomText k s t n) else ⟨#[]⟩
theorem aprint_any (k n : Int) (vs vt : Value) (s t : List Int) (w : World) (hS : Reads w vs s) (hT : Reads w vt t) (hK : KindsLaid w) (hL : LibLaid w) :
    Calls Tryz.prog 58 #[.agg #[.int .i64 k, vs, vt, .int .i64 n]] w (Bk w (.tuple #[.string (aprintS k s t n), errV (atomFault k s t n)])) := by
 have hC : ∀ W, Below w.heap.size w W → _ := fun W hW => acheck_any k n vs vt s t W (hS.below hW) (hT.below hW) (hK.below hW)
 have hPS : ∀ W, Below w.heap.size w W → _ := fun W hW => print_any s vs W (hS.below hW)
 have hPT : ∀ W, Below w.heap.size w W → _ := fun W hW => print_any t vt W (hT.below hW)
 obtain ⟨sao, scap, rfl, _⟩ := hS.slice
 obtain ⟨tao, tcap, rfl, _⟩ := hT.slice
 by_cases hf : atomFault k s t n = 0
 ·obtain ⟨hk, hs, ht, n0, n1⟩ := atomFault_zero.1 hf
  have e0 : aprintS k s t n = strOf (atomText k s t n) := by unfold aprintS; rw [if_pos hf]
  have hm : mostN k ≤ 20 := by unfold mostN; split <;> omega
  rw [e0, hf, errV_0]
  rw [hf, errV_0] at hC
  have es : printS s = strOf (textN s) := by unfold printS; rw [if_pos hs]
  rw [es, hs, errV_0] at hPS
  have zs : (textN s).length ≤ 20 := by have := (fault_zero.1 hs).2.1; simp [textN]; omega
  have hsec : secondB k = true → (∀ W, Below w.heap.size w W → Calls Tryz.prog 89 #[.slice tao t.length tcap] W (Bk W (.tuple #[.string (strOf (textN t)), .nilIface]))) ∧ (textN t).length ≤ 20 := by
   intro h
   have h0 := second_reads ht h
   have et : printS t = strOf (textN t) := by unfold printS; rw [if_pos h0]
   rw [et, h0, errV_0] at hPT
   exact ⟨hPT, by have := (fault_zero.1 h0).2.1; simp [textN]; omega⟩
  have zn : (numText n).length ≤ 20 := by have := numText_length n; omega
  have hN : ∀ W, Below w.heap.size w W → Calls Tryz.prog 90 #[.int .i64 n] W (Bk W (.string (strOf (numText n)))) := fun W h => itoa_any n (by omega) (by omega) W (hL.below h)
  have hL := fun W (h : Below w.heap.size w W) => hK.below h
  rcases five hk.1 hk.2 with rfl | rfl | rfl | rfl | rfl
  ·obtain ⟨g1, g2⟩ := hsec (by decide)
   have := aprint_two 1 (by decide) (by decide) ⟨#[115, 117, 98]⟩ (by decide) (textN s) (textN t) zs g2 n sao tao _ scap _ tcap w (fun W h => ⟨hL W h _ (by decide), hL W h _ (by decide), hL W h _ (by decide)⟩) hC hPS g1
   simpa [atomText, kindWord, secondB, numberB] using this
  ·obtain ⟨g1, g2⟩ := hsec (by decide)
   have := aprint_two 2 (by decide) (by decide) ⟨#[115, 97, 109, 101]⟩ (by decide) (textN s) (textN t) zs g2 n sao tao _ scap _ tcap w (fun W h => ⟨hL W h _ (by decide), hL W h _ (by decide), hL W h _ (by decide)⟩) hC hPS g1
   simpa [atomText, kindWord, secondB, numberB] using this
  ·have := aprint_num 3 (by decide) (by decide) ⟨#[108, 101, 97, 115, 116]⟩ (by decide) (textN s) (numText n) zs zn n sao tao _ scap _ tcap w (fun W h => ⟨hL W h _ (by decide), hL W h _ (by decide), hL W h _ (by decide)⟩) hC hPS hN
   simpa [atomText, kindWord, secondB, numberB] using this
  ·have := aprint_num 4 (by decide) (by decide) ⟨#[109, 111, 115, 116]⟩ (by decide) (textN s) (numText n) zs zn n sao tao _ scap _ tcap w (fun W h => ⟨hL W h _ (by decide), hL W h _ (by decide), hL W h _ (by decide)⟩) hC hPS hN
   simpa [atomText, kindWord, secondB, numberB] using this
  ·obtain ⟨g1, g2⟩ := hsec (by decide)
   have := aprint_all 5 (by decide) (by decide) ⟨#[110, 111, 109, 111, 114, 101]⟩ (by decide) (textN s) (textN t) (numText n) zs g2 zn n sao tao _ scap _ tcap w (fun W h => ⟨hL W h _ (by decide), hL W h _ (by decide), hL W h _ (by decide)⟩) hC hPS g1 hN
   simpa [atomText, kindWord, secondB, numberB] using this
 ·have e0 : aprintS k s t n = ⟨#[]⟩ := by unfold aprintS; rw [if_neg hf]
  rw [e0, errV_no hf]
  rw [errV_no hf] at hC
  exact aprint_bad k _ n sao tao _ scap _ tcap w hC
end Go.Proofs.YtjmeakkmfeoigaaGreatDoor
namespace Go.Proofs.YtjmeakkmfeoigaaGreatDoor
open Go.ChangeShapes Go.WideShapes Go.ChangeAt Go.RowKit
set_option maxRecDepth 100000
def PS (W : World) (A : Nat) (k vS vT n e0 e1 e2 : Value) : Prop :=
 (W.cell? ⟨A, 0, none⟩ = some k ∧ W.cell? ⟨A, 1, none⟩ = some vS ∧ W.cell? ⟨A, 2, none⟩ = some vT ∧ W.cell? ⟨A, 3, none⟩ = some n) ∧ (W.cell? ⟨A + 1, 0, none⟩ = some e0 ∧ W.cell? ⟨A + 1, 1, none⟩ = some e1 ∧ W.cell? ⟨A + 1, 2, none⟩ = some e2) ∧ (∀ j, W.frozen? ⟨A, j, none⟩ = false) ∧ (∀ j, W.frozen? ⟨A + 1, j, none⟩ = false) ∧ A + 1 < W.heap.size
theorem PS.below {W W' : World} {A : Nat} {k vS vT n e0 e1 e2 : Value} (h : PS W A k vS vT n e0 e1 e2) (hb : Below W.heap.size W W') : PS W' A k vS vT n e0 e1 e2 := by
 obtain ⟨⟨a0, a1, a2, a3⟩, ⟨b0, b1, b2⟩, f0, f1, hl⟩ := h
 have h0 : A < W.heap.size := by omega
 exact ⟨⟨(hb.cell h0).trans a0, (hb.cell h0).trans a1, (hb.cell h0).trans a2, (hb.cell h0).trans a3⟩, ⟨(hb.cell hl).trans b0, (hb.cell hl).trans b1, (hb.cell hl).trans b2⟩, fun j => (hb.frozen h0).trans (f0 j), fun j => (hb.frozen hl).trans (f1 j), Nat.lt_of_lt_of_le hl hb.size⟩
theorem set_far {W : World} {p q : Addr} {v : Value} (h : p ≠ q) : (W.setCell p v).cell? q = W.cell? q := by apply World.cell?_setCell_other; exact h
theorem set_same {W : World} {p : Addr} {u v : Value} (h : W.cell? p = some u) : (W.setCell p v).cell? p = some v := by apply World.cell?_setCell_same; exact h
theorem ne_off {A i j : Nat} (h : i ≠ j) : (⟨A, i, none⟩ : Addr) ≠ ⟨A, j, none⟩ := fun e => h (by injection e)
theorem ne_blk {A B i j : Nat} (h : A ≠ B) : (⟨A, i, none⟩ : Addr) ≠ ⟨B, j, none⟩ := fun e => h (by injection e)
theorem PS.storeS {W : World} {A : Nat} {k vS vT n e0 e1 e2 : Value} (h : PS W A k vS vT n e0 e1 e2) (v e : Value) : PS ((W.setCell ⟨A, 1, none⟩ v).setCell ⟨A + 1, 0, none⟩ e) A k v vT n e e1 e2 := by
 obtain ⟨⟨a0, a1, a2, a3⟩, ⟨b0, b1, b2⟩, f0, f1, hl⟩ := h
 have n1 : A + 1 ≠ A := by omega
 refine ⟨⟨?_, ?_, ?_, ?_⟩, ⟨?_, ?_, ?_⟩, fun j => by simp [f0 j], fun j => by simp [f1 j], by simpa using hl⟩
 ·rw [set_far (ne_blk n1), set_far (ne_off (by decide))]; exact a0
 ·rw [set_far (ne_blk n1)]; exact set_same a1
 ·rw [set_far (ne_blk n1), set_far (ne_off (by decide))]; exact a2
 ·rw [set_far (ne_blk n1), set_far (ne_off (by decide))]; exact a3
 ·exact set_same ((set_far (ne_blk n1.symm)).trans b0)
 ·rw [set_far (ne_off (by decide)), set_far (ne_blk n1.symm)]; exact b1
 ·rw [set_far (ne_off (by decide)), set_far (ne_blk n1.symm)]; exact b2
theorem PS.storeT {W : World} {A : Nat} {k vS vT n e0 e1 e2 : Value} (h : PS W A k vS vT n e0 e1 e2) (v e : Value) : PS ((W.setCell ⟨A, 2, none⟩ v).setCell ⟨A + 1, 1, none⟩ e) A k vS v n e0 e e2 := by
 obtain ⟨⟨a0, a1, a2, a3⟩, ⟨b0, b1, b2⟩, f0, f1, hl⟩ := h
 have n1 : A + 1 ≠ A := by omega
 refine ⟨⟨?_, ?_, ?_, ?_⟩, ⟨?_, ?_, ?_⟩, fun j => by simp [f0 j], fun j => by simp [f1 j], by simpa using hl⟩
 ·rw [set_far (ne_blk n1), set_far (ne_off (by decide))]; exact a0
 ·rw [set_far (ne_blk n1), set_far (ne_off (by decide))]; exact a1
 ·rw [set_far (ne_blk n1)]; exact set_same a2
 ·rw [set_far (ne_blk n1), set_far (ne_off (by decide))]; exact a3
 ·rw [set_far (ne_off (by decide)), set_far (ne_blk n1.symm)]; exact b0
 ·exact set_same ((set_far (ne_blk n1.symm)).trans b1)
 ·rw [set_far (ne_off (by decide)), set_far (ne_blk n1.symm)]; exact b2
theorem PS.storeN {W : World} {A : Nat} {k vS vT n e0 e1 e2 : Value} (h : PS W A k vS vT n e0 e1 e2) (v e : Value) : PS ((W.setCell ⟨A, 3, none⟩ v).setCell ⟨A + 1, 2, none⟩ e) A k vS vT v e0 e1 e := by
 obtain ⟨⟨a0, a1, a2, a3⟩, ⟨b0, b1, b2⟩, f0, f1, hl⟩ := h
 have n1 : A + 1 ≠ A := by omega
 refine ⟨⟨?_, ?_, ?_, ?_⟩, ⟨?_, ?_, ?_⟩, fun j => by simp [f0 j], fun j => by simp [f1 j], by simpa using hl⟩
 ·rw [set_far (ne_blk n1), set_far (ne_off (by decide))]; exact a0
 ·rw [set_far (ne_blk n1), set_far (ne_off (by decide))]; exact a1
 ·rw [set_far (ne_blk n1), set_far (ne_off (by decide))]; exact a2
 ·rw [set_far (ne_blk n1)]; exact set_same a3
 ·rw [set_far (ne_off (by decide)), set_far (ne_blk n1.symm)]; exact b0
 ·rw [set_far (ne_off (by decide)), set_far (ne_blk n1.symm)]; exact b1
 ·exact set_same ((set_far (ne_blk n1.symm)).trans b2)
theorem ps_alloc (W : World) (k : Value) (ta te : TypeId) : PS ((W.alloc (.cells #[k, .slice none 0 0, .slice none 0 0, .int .i64 0] ta)).alloc (.cells #[.nilIface, .nilIface, .nilIface] te)) W.heap.size k (.slice none 0 0) (.slice none 0 0) (.int .i64 0) .nilIface .nilIface .nilIface := by
 have h : ∀ j, ((W.alloc (.cells #[k, .slice none 0 0, .slice none 0 0, .int .i64 0] ta)).alloc (.cells #[.nilIface, .nilIface, .nilIface] te)).cell? ⟨W.heap.size, j, none⟩ = (W.alloc (.cells #[k, .slice none 0 0, .slice none 0 0, .int .i64 0] ta)).cell? ⟨W.heap.size, j, none⟩ := fun j => World.cell?_alloc_lt _ _ ⟨W.heap.size, j, none⟩ (by simp)
 have e : W.heap.size + 1 = (W.alloc (.cells #[k, .slice none 0 0, .slice none 0 0, .int .i64 0] ta)).heap.size := by simp
 refine ⟨⟨?_, ?_, ?_, ?_⟩, ⟨?_, ?_, ?_⟩, fun j => ?_, fun j => ?_, by simp⟩
 ·rw [h]; simp
 ·rw [h]; simp
 ·rw [h]; simp
 ·rw [h]; simp
 ·rw [e]; simp
 ·rw [e]; simp
 ·rw [e]; simp
 ·rw [World.frozen?_alloc_old _ _ ⟨W.heap.size, j, none⟩ (by simp)]; simp
 ·rw [e]; simp
theorem Reads.store {W : World} {g c : Nat} {t : List Int} {p : Addr} {v : Value} (h : Reads W (.slice (some ⟨g, 0, none⟩) c c) t) (hp : p.block ≠ g) : Reads (W.setCell p v) (.slice (some ⟨g, 0, none⟩) c c) t := by
 rcases h with ⟨ao, cap, e, ht⟩ | ⟨b, off, cap, e, h2, h3, h4, h5⟩
 ·exact Or.inl ⟨ao, cap, e, ht⟩
 ·have eb : b = g := by injection e with e1 _ _; injection e1 with e2; injection e2 with e3; exact e3.symm
  refine Or.inr ⟨b, off, cap, e, by simpa using h2, h3, h4, fun k hk => ?_⟩
  rw [set_far (fun e' => hp (by rw [e', eb]))]
  exact h5 k hk
end Go.Proofs.YtjmeakkmfeoigaaGreatDoor