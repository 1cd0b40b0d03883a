/-
  Proved: what strings.SplitN returns at a blank and 5, of any text: the words that it is cut into, at most four times; what was in memory is as it was (a contract that the statements lean on).
-/
import Derived.Test.YtenmheenieifpabGreatDoorTermParse
import Derived.Test.YtenmheenieifpabGreatDoorTermPrint
import Derived.Test.YtenmheenieifpabGreatDoorAtomText
import Derived.Lib.Strings
namespace Go.Proofs.YtenmheenieifpabGreatDoor
open Go.ChangeShapes Go.WideShapes Go.ChangeAt Go.RowKit
set_option maxRecDepth 100000

/-- where the first blank stands. -/
def blankAt (l : List UInt8) : Int := Lib.indexByte l 32
/-- a text cut at blanks, at most k times. -/
def splitL : Nat → List UInt8 → List (List UInt8)
  | 0, l => [l]
  | k + 1, l => if blankAt l < 0 then [l] else l.take (blankAt l).toNat :: splitL k (l.drop ((blankAt l).toNat + 1))
theorem blankAt_range (l : List UInt8) : -1 ≤ blankAt l ∧ blankAt l < l.length := by
  unfold blankAt
  induction l with
  | nil => exact ⟨by decide, by decide⟩
  | cons b l ih =>
    unfold Lib.indexByte
    split
    · exact ⟨by decide, by simp⟩
    split
    · exact ⟨by decide, by simp; omega⟩
    · simp; omega
theorem splitL_hit {k : Nat} {l : List UInt8} {j : Nat} (h : blankAt l = j) : splitL (k + 1) l = l.take j :: splitL k (l.drop (j + 1)) := by
  rw [splitL, h, if_neg (by omega)]; rfl
theorem splitL_miss {k : Nat} {l : List UInt8} (h : blankAt l < 0) : splitL k l = [l] := by
  cases k with
  | zero => rfl
  | succ k => rw [splitL, if_pos h]

/-- the slice v reads, in the world w, as these words. -/
def ReadsS (w : World) (v : Value) (ws : List (List UInt8)) : Prop :=
  ∃ b cap, v = .slice (some ⟨b, 0, none⟩) ws.length cap ∧ b < w.heap.size ∧ ws.length ≤ cap ∧ ∀ k, k < ws.length → w.cell? ⟨b, k, none⟩ = some (.string (strOf (ws.getD k [])))
theorem ReadsS.below {w w' : World} {v : Value} {ws : List (List UInt8)} (h : ReadsS w v ws) (hb : Below w.heap.size w w') : ReadsS w' v ws := by
  obtain ⟨b, cap, h1, h2, h3, h4⟩ := h
  exact ⟨b, cap, h1, Nat.lt_of_lt_of_le h2 hb.size, h3, fun k hk => by rw [hb.cell h2]; exact h4 k hk⟩

theorem strOf_data (s : ByteArray) : strOf s.data.toList = s := by unfold strOf; rw [Array.toArray_toList]
theorem strOf_size (l : List UInt8) : (strOf l).size = l.length := by unfold strOf; simp [ByteArray.size]
theorem strOf_list (l : List UInt8) : (strOf l).data.toList = l := by unfold strOf; simp
theorem drop_data (c : ByteArray) (k : Nat) : (c.extract k c.size).data.toList = c.data.toList.drop k := by
  rw [Lib.extract_data, List.take_of_length_le (by rw [List.length_drop]; have : c.data.toList.length = c.size := Array.length_toList; omega)]
theorem take_str (c : ByteArray) (k : Nat) : c.extract 0 k = strOf (c.data.toList.take k) := by
  rw [Lib.extract_eq]; rfl
theorem strOf_take (l : List UInt8) (k : Nat) : (strOf l).extract 0 k = strOf (l.take k) := by
  rw [Lib.extract_eq, strOf_list]; rfl
theorem strOf_drop (l : List UInt8) (k n : Nat) (h : n = l.length) : (strOf l).extract k n = strOf (l.drop k) := by
  rw [Lib.extract_eq, strOf_list, List.take_of_length_le (by simp; omega)]; rfl

theorem slIndex_one (s : ByteArray) (w : World) :
    Calls Tryz.prog 95 #[.string s, .string ⟨#[32]⟩] w fun e w' => e = .returned (.int .i64 (blankAt s.data.toList)) ∧ w = w' := by
  have HI : Hid (∀ W, Calls Tryz.prog 79 #[.string s, .int .u8 32] W fun e w' => e = .returned (.int .i64 (blankAt s.data.toList)) ∧ W = w') := fun W => sIndexByte_any s 32 W
  rcases (Bool.eq_false_or_eq_true ([32] == s.toList)).symm with h | h
  · go_enter Tryz.func95, Tryz.ntmps95
    go_wp2_with (go_at_call 79; refine (HI.out _).mono ?_; rintro e w' ⟨rfl, rfl⟩)
    go_ret
    exact ⟨rfl, rfl⟩
  · have HE : Hid (blankAt s.data.toList = 0) := by
      have e : s.toList = [32] := (eq_of_beq h).symm
      rw [Lib.toList_data] at e
      unfold Hid; rw [e]; decide
    go_enter Tryz.func95, Tryz.ntmps95
    go_wp2
    go_ret
    exact ⟨back_i HE.out.symm, rfl⟩
theorem sIndex_one (s : ByteArray) (w : World) :
    Calls Tryz.prog 76 #[.string s, .string ⟨#[32]⟩] w fun e w' => e = .returned (.int .i64 (blankAt s.data.toList)) ∧ w = w' := by
  go_enter Tryz.func76, Tryz.ntmps76
  go_wp2_with (go_at_call 95; refine (slIndex_one _ _).mono ?_; rintro e w' ⟨rfl, rfl⟩)
  go_ret
  exact ⟨rfl, rfl⟩

theorem infoStr : (Tryz.prog.info? 9).map (fun i => (i.zero, i.size, i.bytes)) = some (some (.string ByteArray.empty), 1, 16) := by kernel_rfl
/-- the words that lie there already, and empty texts. -/
def rowS (done : List (List UInt8)) (N : Nat) : List Value := done.map (fun l => Value.string (strOf l)) ++ List.replicate (N - done.length) (.string ByteArray.empty)
theorem rowS_set {done : List (List UInt8)} {N : Nat} (l : List UInt8) (h : done.length < N) : (rowS done N).set done.length (.string (strOf l)) = rowS (done ++ [l]) N := by
  obtain ⟨m, hm⟩ : ∃ m, N - done.length = m + 1 := ⟨N - done.length - 1, by omega⟩
  unfold rowS
  rw [hm, List.set_append_right _ _ (by simp)]
  have e : N - (done ++ [l]).length = m := by simp; omega
  rw [e]
  simp [List.replicate_succ]
theorem rowS_get {done : List (List UInt8)} {N j : Nat} (h : j < done.length) : (rowS done N)[j]? = some (.string (strOf (done.getD j []))) := by
  unfold rowS
  rw [List.getElem?_append_left (by simpa using h)]
  simp [List.getElem?_eq_getElem h]
theorem rowS_at {done : List (List UInt8)} {N : Nat} (h : done.length < N) : (rowS done N)[done.length]? = some (.string ByteArray.empty) := by
  unfold rowS
  rw [List.getElem?_append_right (by simp), List.length_map, Nat.sub_self, List.getElem?_replicate, if_pos (by omega)]
theorem rowS_nil (N : Nat) : rowS [] N = List.replicate N (.string ByteArray.empty) := by simp [rowS]
theorem own_words {w : World} {base : Nat} {g N : Nat} {done : List (List UInt8)} {m : Nat} (h : w.ownsRow base 9 1 (.slice (some ⟨g, 0, none⟩) N N) N (rowS done N)) (hm : m = done.length) (hN : done.length ≤ N) : ReadsS w (.slice (some ⟨g, 0, none⟩) m N) done := by
  subst hm
  exact ⟨g, N, rfl, (ownsRow_block h).2.1, hN, fun k hk => by rw [h.cellAt k (by omega), rowS_get hk]⟩

set_option maxHeartbeats 4000000 in
theorem genSplit_long (s : ByteArray) (hz : s.size ≤ 9223372036854775806) (hn : 4 ≤ s.size) (w : World) :
    Calls Tryz.prog 53 #[.string s, .string ⟨#[32]⟩, .int .i64 0, .int .i64 5] w fun e w' => ∃ v, e = .returned v ∧ ReadsS w' v (splitL 4 s.data.toList) ∧ Below w.heap.size w w' := by
  obtain ⟨i0, hi, hz0, hz1, hz2⟩ := info_parts infoStr
  have hdec : ¬ (s.size : Int) + 1 < 5 := by omega
  obtain ⟨R, hR⟩ : ∃ R, R = splitL 4 s.data.toList := ⟨_, rfl⟩
  rw [← hR]
  have HR : Hid (R = [] ++ splitL 4 s.data.toList) := hR
  clear hR
  go_enter Tryz.func53, Tryz.ntmps53
  go_wp2_with (at_make; refine wpList_make_full _ rfl _ _ 65 rfl w.heap.size 9 i0 (.string ByteArray.empty) 1 Tryz.underlying65 hi hz0 hz1 .i64 .i64 _ _ 5 rfl rfl ?m0 ?m1 ?m2 ?m3 ?m4 ?_)
  case m3 => decide
  intro w1 hown1 hgrow1
  obtain ⟨G, hG⟩ : ∃ G, G = w.heap.size := ⟨_, rfl⟩
  have HO : Hid (w1.ownsRow G 9 1 (.slice (some ⟨G, 0, none⟩) 5 5) 5 (rowS [] 5) ∧ Below w.heap.size w w1) := by
    refine ⟨?_, ?_⟩
    · rw [rowS_nil, ← toList_madeCells_one, hG]
      simpa [Value.cells] using hown1
    · exact (Below.refl _ _).grown hgrow1 (by omega) (fun k hk => by cases hk)
  have HG : Hid (w.heap.size ≤ G) := by unfold Hid; omega
  rw [← hG]
  clear hown1 hgrow1 hG
  go_wp2
  go_loopw [0, 10] (fun sv i wr => ∃ (k : Nat) (c : ByteArray) (done : List (List UInt8)), k ≤ 4 ∧ done.length = k ∧ i = .int .i64 k ∧ sv = .string c ∧ c.size ≤ 9223372036854775806 ∧ R = done ++ splitL (4 - k) c.data.toList ∧ wr.ownsRow G 9 1 (.slice (some ⟨G, 0, none⟩) 5 5) 5 (rowS done 5) ∧ Below w.heap.size w wr) (fun _ i _ => 4 - (intOf i).toNat)
  case atStart => exact ⟨0, s, [], Nat.zero_le _, rfl, rfl, rfl, hz, HR.out, HO.out.1, HO.out.2⟩
  case round =>
    obtain ⟨k, c, done, hk, hd, rfl, rfl, hc, hS, hown, hbel⟩ := hrel
    have hfr : wr.frozen? ⟨G, k, none⟩ = false := hown.frozenAt k
    have hcg : wr.cell? ⟨G, k, none⟩ = some (.string ByteArray.empty) := by rw [hown.cellAt k (by omega), ← hd, rowS_at (by omega)]
    have HW : Hid (∀ l, (wr.setCell ⟨G, k, none⟩ (.string (strOf l))).ownsRow G 9 1 (.slice (some ⟨G, 0, none⟩) 5 5) 5 (rowS (done ++ [l]) 5) ∧ Below w.heap.size w (wr.setCell ⟨G, k, none⟩ (.string (strOf l)))) := by
      intro l
      have := hown.stored k (.string (strOf l))
      rw [← hd, rowS_set l (by omega), hd] at this
      exact ⟨this.1, hbel.setCell HG.out _⟩
    have HS : Hid (R = done ++ splitL (4 - k) c.data.toList) := hS
    have HD : Hid (done.length = k) := hd
    clear hS hown hbel hd
    by_cases hlt : k < 4
    · have hr := blankAt_range c.data.toList
      have HI : Hid (∀ W, Calls Tryz.prog 76 #[.string c, .string ⟨#[32]⟩] W fun e w' => e = .returned (.int .i64 (blankAt c.data.toList)) ∧ W = w') := fun W => sIndex_one c W
      have HLen : Hid (c.data.toList.length = c.size) := Array.length_toList
      obtain ⟨B, hB⟩ : ∃ B, B = blankAt c.data.toList := ⟨_, rfl⟩
      rw [← hB] at hr HI
      have HB : Hid (B = blankAt c.data.toList) := hB
      have hr2 : B < (c.size : Int) := by have := HLen.out; omega
      have hr1 := hr.1
      clear hB hr
      by_cases hneg : B < 0
      · have HT : Hid (R = done ++ [c.data.toList]) := by
          unfold Hid; rw [HS.out, splitL_miss (by rw [← HB.out]; exact hneg)]
        have HE : Hid (strOf c.data.toList = c) := strOf_data c
        go_wp2_with (go_at_call 76; refine (HI.out _).mono ?_; rintro e w' ⟨rfl, rfl⟩)
        go_ret
        have h := HW.out c.data.toList
        rw [HE.out] at h
        have hd := HD.out
        refine ⟨_, rfl, ?_, h.2⟩
        rw [HT.out]
        exact own_words h.1 (by simp [hd]) (by simp; omega)
      · obtain ⟨j, rfl⟩ := Int.eq_ofNat_of_zero_le (show 0 ≤ B by omega)
        have HT : Hid (R = (done ++ [c.data.toList.take j]) ++ splitL (4 - (k + 1)) (c.extract (j + 1) c.size).data.toList) := by
          have e : 4 - k = (4 - (k + 1)) + 1 := by omega
          unfold Hid
          rw [HS.out, e, splitL_hit HB.out.symm, drop_data, List.append_assoc]; rfl
        have HE : Hid (c.extract 0 j = strOf (c.data.toList.take j)) := take_str c j
        have HZ : Hid ((c.extract (j + 1) c.size).size ≤ 9223372036854775806) := by
          unfold Hid
          rw [ByteArray.size_extract]; omega
        go_wp2_with (go_at_call 76; refine (HI.out _).mono ?_; rintro e w' ⟨rfl, rfl⟩)
        go_roundw
        case rel =>
          have h := HW.out (c.data.toList.take j)
          rw [← HE.out] at h
          exact ⟨k + 1, _, _, by omega, by simp [HD.out], by go_num, rfl, HZ.out, HT.out, h.1, h.2⟩
        case measure => simp [intOf]; omega
    · obtain rfl : k = 4 := by omega
      have HE : Hid (strOf c.data.toList = c) := strOf_data c
      have HT : Hid (R = done ++ [c.data.toList]) := by
        unfold Hid; rw [HS.out, Nat.sub_self]; rfl
      go_wp2
      go_ret
      have h := HW.out c.data.toList
      rw [HE.out] at h
      have hd := HD.out
      refine ⟨_, rfl, ?_, h.2⟩
      rw [HT.out]
      exact own_words h.1 (by simp [hd]) (by simp; omega)

set_option maxHeartbeats 4000000 in
theorem genSplit_short (s : ByteArray) (hz : s.size ≤ 9223372036854775806) (hn : s.size < 4) (w : World) :
    Calls Tryz.prog 53 #[.string s, .string ⟨#[32]⟩, .int .i64 0, .int .i64 5] w fun e w' => ∃ v, e = .returned v ∧ ReadsS w' v (splitL s.size s.data.toList) ∧ Below w.heap.size w w' := by
  obtain ⟨i0, hi, hz0, hz1, hz2⟩ := info_parts infoStr
  have hdec : (s.size : Int) + 1 < 5 := by omega
  obtain ⟨R, hR⟩ : ∃ R, R = splitL s.size s.data.toList := ⟨_, rfl⟩
  rw [← hR]
  have HR : Hid (R = [] ++ splitL s.size s.data.toList) := hR
  clear hR
  go_enter Tryz.func53, Tryz.ntmps53
  go_wp2_with (at_make; refine wpList_make_full _ rfl _ _ 65 rfl w.heap.size 9 i0 (.string ByteArray.empty) 1 Tryz.underlying65 hi hz0 hz1 .i64 .i64 _ _ (s.size + 1) rfl rfl ?m0 ?m1 ?m2 ?m3 ?m4 ?_)
  case m0 => rfl
  case m1 => rfl
  case m2 => rw [hz2]; omega
  case m3 => unfold maxLen; omega
  case m4 => exact Nat.le_refl _
  intro w1 hown1 hgrow1
  obtain ⟨G, hG⟩ : ∃ G, G = w.heap.size := ⟨_, rfl⟩
  have HO : Hid (w1.ownsRow G 9 1 (.slice (some ⟨G, 0, none⟩) (s.size + 1) (s.size + 1)) (s.size + 1) (rowS [] (s.size + 1)) ∧ Below w.heap.size w w1) := by
    refine ⟨?_, ?_⟩
    · rw [rowS_nil, ← toList_madeCells_one, hG]
      simpa [Value.cells] using hown1
    · exact (Below.refl _ _).grown hgrow1 (by omega) (fun k hk => by cases hk)
  have HG : Hid (w.heap.size ≤ G) := by unfold Hid; omega
  rw [← hG]
  clear hown1 hgrow1 hG
  go_wp2
  go_loopw [0, 10] (fun sv i wr => ∃ (k : Nat) (c : ByteArray) (done : List (List UInt8)), k ≤ s.size ∧ done.length = k ∧ i = .int .i64 k ∧ sv = .string c ∧ c.size ≤ 9223372036854775806 ∧ R = done ++ splitL (s.size - k) c.data.toList ∧ wr.ownsRow G 9 1 (.slice (some ⟨G, 0, none⟩) (s.size + 1) (s.size + 1)) (s.size + 1) (rowS done (s.size + 1)) ∧ Below w.heap.size w wr) (fun _ i _ => s.size - (intOf i).toNat)
  case atStart => exact ⟨0, s, [], Nat.zero_le _, rfl, rfl, rfl, hz, HR.out, HO.out.1, HO.out.2⟩
  case round =>
    obtain ⟨k, c, done, hk, hd, rfl, rfl, hc, hS, hown, hbel⟩ := hrel
    have hfr : wr.frozen? ⟨G, k, none⟩ = false := hown.frozenAt k
    have hcg : wr.cell? ⟨G, k, none⟩ = some (.string ByteArray.empty) := by rw [hown.cellAt k (by omega), ← hd, rowS_at (by omega)]
    have HW : Hid (∀ l, (wr.setCell ⟨G, k, none⟩ (.string (strOf l))).ownsRow G 9 1 (.slice (some ⟨G, 0, none⟩) (s.size + 1) (s.size + 1)) (s.size + 1) (rowS (done ++ [l]) (s.size + 1)) ∧ Below w.heap.size w (wr.setCell ⟨G, k, none⟩ (.string (strOf l)))) := by
      intro l
      have := hown.stored k (.string (strOf l))
      rw [← hd, rowS_set l (by omega), hd] at this
      exact ⟨this.1, hbel.setCell HG.out _⟩
    have HS : Hid (R = done ++ splitL (s.size - k) c.data.toList) := hS
    have HD : Hid (done.length = k) := hd
    clear hS hown hbel hd
    by_cases hlt : k < s.size
    · have hr := blankAt_range c.data.toList
      have HI : Hid (∀ W, Calls Tryz.prog 76 #[.string c, .string ⟨#[32]⟩] W fun e w' => e = .returned (.int .i64 (blankAt c.data.toList)) ∧ W = w') := fun W => sIndex_one c W
      have HLen : Hid (c.data.toList.length = c.size) := Array.length_toList
      obtain ⟨B, hB⟩ : ∃ B, B = blankAt c.data.toList := ⟨_, rfl⟩
      rw [← hB] at hr HI
      have HB : Hid (B = blankAt c.data.toList) := hB
      have hr2 : B < (c.size : Int) := by have := HLen.out; omega
      have hr1 := hr.1
      clear hB hr
      by_cases hneg : B < 0
      · have HT : Hid (R = done ++ [c.data.toList]) := by
          unfold Hid; rw [HS.out, splitL_miss (by rw [← HB.out]; exact hneg)]
        have HE : Hid (strOf c.data.toList = c) := strOf_data c
        go_wp2_with (go_at_call 76; refine (HI.out _).mono ?_; rintro e w' ⟨rfl, rfl⟩)
        go_ret
        have h := HW.out c.data.toList
        rw [HE.out] at h
        have hd := HD.out
        refine ⟨_, rfl, ?_, h.2⟩
        rw [HT.out]
        exact own_words h.1 (by simp [hd]) (by simp; omega)
      · obtain ⟨j, rfl⟩ := Int.eq_ofNat_of_zero_le (show 0 ≤ B by omega)
        have HT : Hid (R = (done ++ [c.data.toList.take j]) ++ splitL (s.size - (k + 1)) (c.extract (j + 1) c.size).data.toList) := by
          have e : s.size - k = (s.size - (k + 1)) + 1 := by omega
          unfold Hid
          rw [HS.out, e, splitL_hit HB.out.symm, drop_data, List.append_assoc]; rfl
        have HE : Hid (c.extract 0 j = strOf (c.data.toList.take j)) := take_str c j
        have HZ : Hid ((c.extract (j + 1) c.size).size ≤ 9223372036854775806) := by
          unfold Hid
          rw [ByteArray.size_extract]; omega
        go_wp2_with (go_at_call 76; refine (HI.out _).mono ?_; rintro e w' ⟨rfl, rfl⟩)
        go_roundw
        case rel =>
          have h := HW.out (c.data.toList.take j)
          rw [← HE.out] at h
          exact ⟨k + 1, _, _, by omega, by simp [HD.out], by go_num, rfl, HZ.out, HT.out, h.1, h.2⟩
        case measure => simp [intOf]; omega
    · obtain rfl : k = s.size := by omega
      have HE : Hid (strOf c.data.toList = c) := strOf_data c
      have HT : Hid (R = done ++ [c.data.toList]) := by
        unfold Hid; rw [HS.out, Nat.sub_self]; rfl
      go_wp2
      go_ret
      have h := HW.out c.data.toList
      rw [HE.out] at h
      have hd := HD.out
      refine ⟨_, rfl, ?_, h.2⟩
      rw [HT.out]
      exact own_words h.1 (by simp [hd]) (by simp; omega)

/-- SplitN at a blank and 5. -/
theorem split_any (s : ByteArray) (hz : s.size ≤ 9223372036854775806) (w : World) :
    Calls Tryz.prog 34 #[.string s, .string ⟨#[32]⟩, .int .i64 5] w fun e w' => ∃ v, e = .returned v ∧ ReadsS w' v (splitL (if 4 ≤ s.size then 4 else s.size) s.data.toList) ∧ Below w.heap.size w w' := by
  have c : Calls Tryz.prog 53 #[.string s, .string ⟨#[32]⟩, .int .i64 0, .int .i64 5] w fun e w' => ∃ v, e = .returned v ∧ ReadsS w' v (splitL (if 4 ≤ s.size then 4 else s.size) s.data.toList) ∧ Below w.heap.size w w' := by
    by_cases h : 4 ≤ s.size
    · rw [if_pos h]; exact genSplit_long s hz h w
    · rw [if_neg h]; exact genSplit_short s hz (by omega) w
  have HC : Hid (Calls Tryz.prog 53 #[.string s, .string ⟨#[32]⟩, .int .i64 0, .int .i64 5] w fun e w' => ∃ v, e = .returned v ∧ ReadsS w' v (splitL (if 4 ≤ s.size then 4 else s.size) s.data.toList) ∧ Below w.heap.size w w') := c
  clear c
  obtain ⟨R, hR⟩ : ∃ R, R = splitL (if 4 ≤ s.size then 4 else s.size) s.data.toList := ⟨_, rfl⟩
  rw [← hR] at HC ⊢
  clear hR
  go_enter Tryz.func34, Tryz.ntmps34
  go_wp2_with (go_at_call 53; refine HC.out.mono ?_; rintro e w' ⟨v, rfl, hv, hb⟩)
  go_ret
  exact ⟨v, rfl, hv, hb⟩
end Go.Proofs.YtenmheenieifpabGreatDoor
