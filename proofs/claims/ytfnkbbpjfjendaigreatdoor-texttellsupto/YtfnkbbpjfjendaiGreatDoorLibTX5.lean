/-
  Proved: what strings.SplitN returns at a blank and 5, of any text: the words that it is cut into, at most four times; what was in memory is as it was (a contract that the statements lean on).
  Plain facts on atoms as texts (chapter 3): the word of a kind, the text of an atom, and the atom that a text is. No program is read here.
  Plain facts on words (chapter 3): words joined by blanks are the text that they were cut from, and words without blanks are cut as they were. No program is read here.
  Plain facts on memory while an atom is read: the atom's own place and the three errors' place, behind a call and behind a store. (What the walk of atom.Parse leans on.)
-/
import Derived.Test.YtfnkbbpjfjendaiGreatDoorLibTX4
import Derived.Lib.Strings
import Derived.Lib.IndexLaws
import Derived.Laws.World
namespace Go.Proofs.YtfnkbbpjfjendaiGreatDoor
open Go.ChangeShapes Go.WideShapes Go.ChangeAt Go.RowKit
set_option maxRecDepth 100000

/-- where the first blank stands. -/
def blankAt (l : List UInt8) : Int := Lib.indexByte l 32
/-- a text cut at blanks, at most k times. -/
def splitL : Nat → List UInt8 → List (List UInt8)
  | 0, l => [l]
  | k + 1, l => if blankAt l < 0 then [l] else l.take (blankAt l).toNat :: splitL k (l.drop ((blankAt l).toNat + 1))
theorem blankAt_range (l : List UInt8) : -1 ≤ blankAt l ∧ blankAt l < l.length := by
  unfold blankAt
  induction l with
  | nil => exact ⟨by decide, by decide⟩
  | cons b l ih =>
    unfold Lib.indexByte
    split
    · exact ⟨by decide, by simp⟩
    split
    · exact ⟨by decide, by simp; omega⟩
    · simp; omega
theorem splitL_hit {k : Nat} {l : List UInt8} {j : Nat} (h : blankAt l = j) : splitL (k + 1) l = l.take j :: splitL k (l.drop (j + 1)) := by
  rw [splitL, h, if_neg (by omega)]; rfl
theorem splitL_miss {k : Nat} {l : List UInt8} (h : blankAt l < 0) : splitL k l = [l] := by
  cases k with
  | zero => rfl
  | succ k => rw [splitL, if_pos h]

/-- the slice v reads, in the world w, as these words. -/
def ReadsS (w : World) (v : Value) (ws : List (List UInt8)) : Prop :=
  ∃ b cap, v = .slice (some ⟨b, 0, none⟩) ws.length cap ∧ b < w.heap.size ∧ ws.length ≤ cap ∧ ∀ k, k < ws.length → w.cell? ⟨b, k, none⟩ = some (.string (strOf (ws.getD k [])))
theorem ReadsS.below {w w' : World} {v : Value} {ws : List (List UInt8)} (h : ReadsS w v ws) (hb : Below w.heap.size w w') : ReadsS w' v ws := by
  obtain ⟨b, cap, h1, h2, h3, h4⟩ := h
  exact ⟨b, cap, h1, Nat.lt_of_lt_of_le h2 hb.size, h3, fun k hk => by rw [hb.cell h2]; exact h4 k hk⟩

theorem strOf_data (s : ByteArray) : strOf s.data.toList = s := by unfold strOf; rw [Array.toArray_toList]
theorem strOf_size (l : List UInt8) : (strOf l).size = l.length := by unfold strOf; simp [ByteArray.size]
theorem strOf_list (l : List UInt8) : (strOf l).data.toList = l := by unfold strOf; simp
theorem drop_data (c : ByteArray) (k : Nat) : (c.extract k c.size).data.toList = c.data.toList.drop k := by
  rw [Lib.extract_data, List.take_of_length_le (by rw [List.length_drop]; have : c.data.toList.length = c.size := Array.length_toList; omega)]
theorem take_str (c : ByteArray) (k : Nat) : c.extract 0 k = strOf (c.data.toList.take k) := by
  rw [Lib.extract_eq]; rfl
theorem strOf_take (l : List UInt8) (k : Nat) : (strOf l).extract 0 k = strOf (l.take k) := by
  rw [Lib.extract_eq, strOf_list]; rfl
theorem strOf_drop (l : List UInt8) (k n : Nat) (h : n = l.length) : (strOf l).extract k n = strOf (l.drop k) := by
  rw [Lib.extract_eq, strOf_list, List.take_of_length_le (by simp; omega)]; rfl

theorem slIndex_one (s : ByteArray) (w : World) :
    Calls Tryz.prog 78 #[.string s, .string ⟨#[32]⟩] w fun e w' => e = .returned (.int .i64 (blankAt s.data.toList)) ∧ w = w' := by
  have HI : Hid (∀ W, Calls Tryz.prog 79 #[.string s, .int .u8 32] W fun e w' => e = .returned (.int .i64 (blankAt s.data.toList)) ∧ W = w') := fun W => sIndexByte_any s 32 W
  rcases (Bool.eq_false_or_eq_true ([32] == s.toList)).symm with h | h
  · go_enter Tryz.func78, Tryz.ntmps78
    go_wp2_with (go_at_call 79; refine (HI.out _).mono ?_; rintro e w' ⟨rfl, rfl⟩)
    go_ret
    exact ⟨rfl, rfl⟩
  · have HE : Hid (blankAt s.data.toList = 0) := by
      have e : s.toList = [32] := (eq_of_beq h).symm
      rw [Lib.toList_data] at e
      unfold Hid; rw [e]; decide
    go_enter Tryz.func78, Tryz.ntmps78
    go_wp2
    go_ret
    exact ⟨back_i HE.out.symm, rfl⟩
theorem sIndex_one (s : ByteArray) (w : World) :
    Calls Tryz.prog 99 #[.string s, .string ⟨#[32]⟩] w fun e w' => e = .returned (.int .i64 (blankAt s.data.toList)) ∧ w = w' := by
  go_enter Tryz.func99, Tryz.ntmps99
  go_wp2_with (go_at_call 78; refine (slIndex_one _ _).mono ?_; rintro e w' ⟨rfl, rfl⟩)
  go_ret
  exact ⟨rfl, rfl⟩

theorem infoStr : (Tryz.prog.info? 9).map (fun i => (i.zero, i.size, i.bytes)) = some (some (.string ByteArray.empty), 1, 16) := by kernel_rfl
/-- the words that lie there already, and empty texts. -/
def rowS (done : List (List UInt8)) (N : Nat) : List Value := done.map (fun l => Value.string (strOf l)) ++ List.replicate (N - done.length) (.string ByteArray.empty)
theorem rowS_set {done : List (List UInt8)} {N : Nat} (l : List UInt8) (h : done.length < N) : (rowS done N).set done.length (.string (strOf l)) = rowS (done ++ [l]) N := by
  obtain ⟨m, hm⟩ : ∃ m, N - done.length = m + 1 := ⟨N - done.length - 1, by omega⟩
  unfold rowS
  rw [hm, List.set_append_right _ _ (by simp)]
  have e : N - (done ++ [l]).length = m := by simp; omega
  rw [e]
  simp [List.replicate_succ]
theorem rowS_get {done : List (List UInt8)} {N j : Nat} (h : j < done.length) : (rowS done N)[j]? = some (.string (strOf (done.getD j []))) := by
  unfold rowS
  rw [List.getElem?_append_left (by simpa using h)]
  simp [List.getElem?_eq_getElem h]
theorem rowS_at {done : List (List UInt8)} {N : Nat} (h : done.length < N) : (rowS done N)[done.length]? = some (.string ByteArray.empty) := by
  unfold rowS
  rw [List.getElem?_append_right (by simp), List.length_map, Nat.sub_self, List.getElem?_replicate, if_pos (by omega)]
theorem rowS_nil (N : Nat) : rowS [] N = List.replicate N (.string ByteArray.empty) := by simp [rowS]
theorem own_words {w : World} {base : Nat} {g N : Nat} {done : List (List UInt8)} {m : Nat} (h : w.ownsRow base 9 1 (.slice (some ⟨g, 0, none⟩) N N) N (rowS done N)) (hm : m = done.length) (hN : done.length ≤ N) : ReadsS w (.slice (some ⟨g, 0, none⟩) m N) done := by
  subst hm
  exact ⟨g, N, rfl, (ownsRow_block h).2.1, hN, fun k hk => by rw [h.cellAt k (by omega), rowS_get hk]⟩

set_option maxHeartbeats 4000000 in
theorem genSplit_long (s : ByteArray) (hz : s.size ≤ 9223372036854775806) (hn : 4 ≤ s.size) (w : World) :
    Calls Tryz.prog 80 #[.string s, .string ⟨#[32]⟩, .int .i64 0, .int .i64 5] w fun e w' => ∃ v, e = .returned v ∧ ReadsS w' v (splitL 4 s.data.toList) ∧ Below w.heap.size w w' := by
  obtain ⟨i0, hi, hz0, hz1, hz2⟩ := info_parts infoStr
  have hdec : ¬ (s.size : Int) + 1 < 5 := by omega
  obtain ⟨R, hR⟩ : ∃ R, R = splitL 4 s.data.toList := ⟨_, rfl⟩
  rw [← hR]
  have HR : Hid (R = [] ++ splitL 4 s.data.toList) := hR
  clear hR
  go_enter Tryz.func80, Tryz.ntmps80
  go_wp2_with (at_make; refine wpList_make_full _ rfl _ _ 57 rfl w.heap.size 9 i0 (.string ByteArray.empty) 1 Tryz.underlying57 hi hz0 hz1 .i64 .i64 _ _ 5 rfl rfl ?m0 ?m1 ?m2 ?m3 ?m4 ?_)
  case m3 => decide
  intro w1 hown1 hgrow1
  obtain ⟨G, hG⟩ : ∃ G, G = w.heap.size := ⟨_, rfl⟩
  have HO : Hid (w1.ownsRow G 9 1 (.slice (some ⟨G, 0, none⟩) 5 5) 5 (rowS [] 5) ∧ Below w.heap.size w w1) := by
    refine ⟨?_, ?_⟩
    · rw [rowS_nil, ← toList_madeCells_one, hG]
      simpa [Value.cells] using hown1
    · exact (Below.refl _ _).grown hgrow1 (by omega) (fun k hk => by cases hk)
  have HG : Hid (w.heap.size ≤ G) := by unfold Hid; omega
  rw [← hG]
  clear hown1 hgrow1 hG
  go_wp2
  go_loopw [0, 10] (fun sv i wr => ∃ (k : Nat) (c : ByteArray) (done : List (List UInt8)), k ≤ 4 ∧ done.length = k ∧ i = .int .i64 k ∧ sv = .string c ∧ c.size ≤ 9223372036854775806 ∧ R = done ++ splitL (4 - k) c.data.toList ∧ wr.ownsRow G 9 1 (.slice (some ⟨G, 0, none⟩) 5 5) 5 (rowS done 5) ∧ Below w.heap.size w wr) (fun _ i _ => 4 - (intOf i).toNat)
  case atStart => exact ⟨0, s, [], Nat.zero_le _, rfl, rfl, rfl, hz, HR.out, HO.out.1, HO.out.2⟩
  case round =>
    obtain ⟨k, c, done, hk, hd, rfl, rfl, hc, hS, hown, hbel⟩ := hrel
    have hfr : wr.frozen? ⟨G, k, none⟩ = false := hown.frozenAt k
    have hcg : wr.cell? ⟨G, k, none⟩ = some (.string ByteArray.empty) := by rw [hown.cellAt k (by omega), ← hd, rowS_at (by omega)]
    have HW : Hid (∀ l, (wr.setCell ⟨G, k, none⟩ (.string (strOf l))).ownsRow G 9 1 (.slice (some ⟨G, 0, none⟩) 5 5) 5 (rowS (done ++ [l]) 5) ∧ Below w.heap.size w (wr.setCell ⟨G, k, none⟩ (.string (strOf l)))) := by
      intro l
      have := hown.stored k (.string (strOf l))
      rw [← hd, rowS_set l (by omega), hd] at this
      exact ⟨this.1, hbel.setCell HG.out _⟩
    have HS : Hid (R = done ++ splitL (4 - k) c.data.toList) := hS
    have HD : Hid (done.length = k) := hd
    clear hS hown hbel hd
    by_cases hlt : k < 4
    · have hr := blankAt_range c.data.toList
      have HI : Hid (∀ W, Calls Tryz.prog 99 #[.string c, .string ⟨#[32]⟩] W fun e w' => e = .returned (.int .i64 (blankAt c.data.toList)) ∧ W = w') := fun W => sIndex_one c W
      have HLen : Hid (c.data.toList.length = c.size) := Array.length_toList
      obtain ⟨B, hB⟩ : ∃ B, B = blankAt c.data.toList := ⟨_, rfl⟩
      rw [← hB] at hr HI
      have HB : Hid (B = blankAt c.data.toList) := hB
      have hr2 : B < (c.size : Int) := by have := HLen.out; omega
      have hr1 := hr.1
      clear hB hr
      by_cases hneg : B < 0
      · have HT : Hid (R = done ++ [c.data.toList]) := by
          unfold Hid; rw [HS.out, splitL_miss (by rw [← HB.out]; exact hneg)]
        have HE : Hid (strOf c.data.toList = c) := strOf_data c
        go_wp2_with (go_at_call 99; refine (HI.out _).mono ?_; rintro e w' ⟨rfl, rfl⟩)
        go_ret
        have h := HW.out c.data.toList
        rw [HE.out] at h
        have hd := HD.out
        refine ⟨_, rfl, ?_, h.2⟩
        rw [HT.out]
        exact own_words h.1 (by simp [hd]) (by simp; omega)
      · obtain ⟨j, rfl⟩ := Int.eq_ofNat_of_zero_le (show 0 ≤ B by omega)
        have HT : Hid (R = (done ++ [c.data.toList.take j]) ++ splitL (4 - (k + 1)) (c.extract (j + 1) c.size).data.toList) := by
          have e : 4 - k = (4 - (k + 1)) + 1 := by omega
          unfold Hid
          rw [HS.out, e, splitL_hit HB.out.symm, drop_data, List.append_assoc]; rfl
        have HE : Hid (c.extract 0 j = strOf (c.data.toList.take j)) := take_str c j
        have HZ : Hid ((c.extract (j + 1) c.size).size ≤ 9223372036854775806) := by
          unfold Hid
          rw [ByteArray.size_extract]; omega
        go_wp2_with (go_at_call 99; refine (HI.out _).mono ?_; rintro e w' ⟨rfl, rfl⟩)
        go_roundw
        case rel =>
          have h := HW.out (c.data.toList.take j)
          rw [← HE.out] at h
          exact ⟨k + 1, _, _, by omega, by simp [HD.out], by go_num, rfl, HZ.out, HT.out, h.1, h.2⟩
        case measure => simp [intOf]; omega
    · obtain rfl : k = 4 := by omega
      have HE : Hid (strOf c.data.toList = c) := strOf_data c
      have HT : Hid (R = done ++ [c.data.toList]) := by
        unfold Hid; rw [HS.out, Nat.sub_self]; rfl
      go_wp2
      go_ret
      have h := HW.out c.data.toList
      rw [HE.out] at h
      have hd := HD.out
      refine ⟨_, rfl, ?_, h.2⟩
      rw [HT.out]
      exact own_words h.1 (by simp [hd]) (by simp; omega)

set_option maxHeartbeats 4000000 in
theorem genSplit_short (s : ByteArray) (hz : s.size ≤ 9223372036854775806) (hn : s.size < 4) (w : World) :
    Calls Tryz.prog 80 #[.string s, .string ⟨#[32]⟩, .int .i64 0, .int .i64 5] w fun e w' => ∃ v, e = .returned v ∧ ReadsS w' v (splitL s.size s.data.toList) ∧ Below w.heap.size w w' := by
  obtain ⟨i0, hi, hz0, hz1, hz2⟩ := info_parts infoStr
  have hdec : (s.size : Int) + 1 < 5 := by omega
  obtain ⟨R, hR⟩ : ∃ R, R = splitL s.size s.data.toList := ⟨_, rfl⟩
  rw [← hR]
  have HR : Hid (R = [] ++ splitL s.size s.data.toList) := hR
  clear hR
  go_enter Tryz.func80, Tryz.ntmps80
  go_wp2_with (at_make; refine wpList_make_full _ rfl _ _ 57 rfl w.heap.size 9 i0 (.string ByteArray.empty) 1 Tryz.underlying57 hi hz0 hz1 .i64 .i64 _ _ (s.size + 1) rfl rfl ?m0 ?m1 ?m2 ?m3 ?m4 ?_)
  case m0 => rfl
  case m1 => rfl
  case m2 => rw [hz2]; omega
  case m3 => unfold maxLen; omega
  case m4 => exact Nat.le_refl _
  intro w1 hown1 hgrow1
  obtain ⟨G, hG⟩ : ∃ G, G = w.heap.size := ⟨_, rfl⟩
  have HO : Hid (w1.ownsRow G 9 1 (.slice (some ⟨G, 0, none⟩) (s.size + 1) (s.size + 1)) (s.size + 1) (rowS [] (s.size + 1)) ∧ Below w.heap.size w w1) := by
    refine ⟨?_, ?_⟩
    · rw [rowS_nil, ← toList_madeCells_one, hG]
      simpa [Value.cells] using hown1
    · exact (Below.refl _ _).grown hgrow1 (by omega) (fun k hk => by cases hk)
  have HG : Hid (w.heap.size ≤ G) := by unfold Hid; omega
  rw [← hG]
  clear hown1 hgrow1 hG
  go_wp2
  go_loopw [0, 10] (fun sv i wr => ∃ (k : Nat) (c : ByteArray) (done : List (List UInt8)), k ≤ s.size ∧ done.length = k ∧ i = .int .i64 k ∧ sv = .string c ∧ c.size ≤ 9223372036854775806 ∧ R = done ++ splitL (s.size - k) c.data.toList ∧ wr.ownsRow G 9 1 (.slice (some ⟨G, 0, none⟩) (s.size + 1) (s.size + 1)) (s.size + 1) (rowS done (s.size + 1)) ∧ Below w.heap.size w wr) (fun _ i _ => s.size - (intOf i).toNat)
  case atStart => exact ⟨0, s, [], Nat.zero_le _, rfl, rfl, rfl, hz, HR.out, HO.out.1, HO.out.2⟩
  case round =>
    obtain ⟨k, c, done, hk, hd, rfl, rfl, hc, hS, hown, hbel⟩ := hrel
    have hfr : wr.frozen? ⟨G, k, none⟩ = false := hown.frozenAt k
    have hcg : wr.cell? ⟨G, k, none⟩ = some (.string ByteArray.empty) := by rw [hown.cellAt k (by omega), ← hd, rowS_at (by omega)]
    have HW : Hid (∀ l, (wr.setCell ⟨G, k, none⟩ (.string (strOf l))).ownsRow G 9 1 (.slice (some ⟨G, 0, none⟩) (s.size + 1) (s.size + 1)) (s.size + 1) (rowS (done ++ [l]) (s.size + 1)) ∧ Below w.heap.size w (wr.setCell ⟨G, k, none⟩ (.string (strOf l)))) := by
      intro l
      have := hown.stored k (.string (strOf l))
      rw [← hd, rowS_set l (by omega), hd] at this
      exact ⟨this.1, hbel.setCell HG.out _⟩
    have HS : Hid (R = done ++ splitL (s.size - k) c.data.toList) := hS
    have HD : Hid (done.length = k) := hd
    clear hS hown hbel hd
    by_cases hlt : k < s.size
    · have hr := blankAt_range c.data.toList
      have HI : Hid (∀ W, Calls Tryz.prog 99 #[.string c, .string ⟨#[32]⟩] W fun e w' => e = .returned (.int .i64 (blankAt c.data.toList)) ∧ W = w') := fun W => sIndex_one c W
      have HLen : Hid (c.data.toList.length = c.size) := Array.length_toList
      obtain ⟨B, hB⟩ : ∃ B, B = blankAt c.data.toList := ⟨_, rfl⟩
      rw [← hB] at hr HI
      have HB : Hid (B = blankAt c.data.toList) := hB
      have hr2 : B < (c.size : Int) := by have := HLen.out; omega
      have hr1 := hr.1
      clear hB hr
      by_cases hneg : B < 0
      · have HT : Hid (R = done ++ [c.data.toList]) := by
          unfold Hid; rw [HS.out, splitL_miss (by rw [← HB.out]; exact hneg)]
        have HE : Hid (strOf c.data.toList = c) := strOf_data c
        go_wp2_with (go_at_call 99; refine (HI.out _).mono ?_; rintro e w' ⟨rfl, rfl⟩)
        go_ret
        have h := HW.out c.data.toList
        rw [HE.out] at h
        have hd := HD.out
        refine ⟨_, rfl, ?_, h.2⟩
        rw [HT.out]
        exact own_words h.1 (by simp [hd]) (by simp; omega)
      · obtain ⟨j, rfl⟩ := Int.eq_ofNat_of_zero_le (show 0 ≤ B by omega)
        have HT : Hid (R = (done ++ [c.data.toList.take j]) ++ splitL (s.size - (k + 1)) (c.extract (j + 1) c.size).data.toList) := by
          have e : s.size - k = (s.size - (k + 1)) + 1 := by omega
          unfold Hid
          rw [HS.out, e, splitL_hit HB.out.symm, drop_data, List.append_assoc]; rfl
        have HE : Hid (c.extract 0 j = strOf (c.data.toList.take j)) := take_str c j
        have HZ : Hid ((c.extract (j + 1) c.size).size ≤ 9223372036854775806) := by
          unfold Hid
          rw [ByteArray.size_extract]; omega
        go_wp2_with (go_at_call 99; refine (HI.out _).mono ?_; rintro e w' ⟨rfl, rfl⟩)
        go_roundw
        case rel =>
          have h := HW.out (c.data.toList.take j)
          rw [← HE.out] at h
          exact ⟨k + 1, _, _, by omega, by simp [HD.out], by go_num, rfl, HZ.out, HT.out, h.1, h.2⟩
        case measure => simp [intOf]; omega
    · obtain rfl : k = s.size := by omega
      have HE : Hid (strOf c.data.toList = c) := strOf_data c
      have HT : Hid (R = done ++ [c.data.toList]) := by
        unfold Hid; rw [HS.out, Nat.sub_self]; rfl
      go_wp2
      go_ret
      have h := HW.out c.data.toList
      rw [HE.out] at h
      have hd := HD.out
      refine ⟨_, rfl, ?_, h.2⟩
      rw [HT.out]
      exact own_words h.1 (by simp [hd]) (by simp; omega)

/-- SplitN at a blank and 5. -/
theorem split_any (s : ByteArray) (hz : s.size ≤ 9223372036854775806) (w : World) :
    Calls Tryz.prog 66 #[.string s, .string ⟨#[32]⟩, .int .i64 5] w fun e w' => ∃ v, e = .returned v ∧ ReadsS w' v (splitL (if 4 ≤ s.size then 4 else s.size) s.data.toList) ∧ Below w.heap.size w w' := by
  have c : Calls Tryz.prog 80 #[.string s, .string ⟨#[32]⟩, .int .i64 0, .int .i64 5] w fun e w' => ∃ v, e = .returned v ∧ ReadsS w' v (splitL (if 4 ≤ s.size then 4 else s.size) s.data.toList) ∧ Below w.heap.size w w' := by
    by_cases h : 4 ≤ s.size
    · rw [if_pos h]; exact genSplit_long s hz h w
    · rw [if_neg h]; exact genSplit_short s hz (by omega) w
  have HC : Hid (Calls Tryz.prog 80 #[.string s, .string ⟨#[32]⟩, .int .i64 0, .int .i64 5] w fun e w' => ∃ v, e = .returned v ∧ ReadsS w' v (splitL (if 4 ≤ s.size then 4 else s.size) s.data.toList) ∧ Below w.heap.size w w') := c
  clear c
  obtain ⟨R, hR⟩ : ∃ R, R = splitL (if 4 ≤ s.size then 4 else s.size) s.data.toList := ⟨_, rfl⟩
  rw [← hR] at HC ⊢
  clear hR
  go_enter Tryz.func66, Tryz.ntmps66
  go_wp2_with (go_at_call 80; refine HC.out.mono ?_; rintro e w' ⟨v, rfl, hv, hb⟩)
  go_ret
  exact ⟨v, rfl, hv, hb⟩
end Go.Proofs.YtfnkbbpjfjendaiGreatDoor

namespace Go.Proofs.YtfnkbbpjfjendaiGreatDoor
open Go.RowKit
set_option maxRecDepth 100000

/-- the word of a kind. -/
def kindWord (k : Int) : List UInt8 := if k = 1 then [115, 117, 98] else if k = 2 then [115, 97, 109, 101] else if k = 3 then [108, 101, 97, 115, 116] else if k = 4 then [109, 111, 115, 116] else [110, 111, 109, 111, 114, 101]
/-- the kind of a word; 0: none. -/
def kindOfN (l : List UInt8) : Int := if l = [115, 117, 98] then 1 else if l = [115, 97, 109, 101] then 2 else if l = [108, 101, 97, 115, 116] then 3 else if l = [109, 111, 115, 116] then 4 else if l = [110, 111, 109, 111, 114, 101] then 5 else 0
/-- how many words an atom of a kind has. -/
def manyN (k : Int) : Nat := if k = 5 then 4 else 3
/-- the text of an atom. -/
def atomText (k : Int) (s t : List Int) (n : Int) : List UInt8 := (kindWord k ++ (32 :: textN s)) ++ ((if secondB k = true then 32 :: textN t else []) ++ (if numberB k = true then 32 :: numText n else []))

/-- the kind that words begin with, where they are as many. -/
def wordsKind (ws : List (List UInt8)) : Int := if ws.length = manyN (kindOfN (ws.getD 0 [])) then kindOfN (ws.getD 0 []) else 0
/-- a text of a part is none. -/
def partsBad (k : Int) (ws : List (List UInt8)) : Bool := !lettersB (ws.getD 1 []) || (secondB k && !lettersB (ws.getD 2 [])) || (numberB k && (numOf (ws.getD (ws.length - 1) [])).isNone)
def wordsS (ws : List (List UInt8)) : List Int := readN (ws.getD 1 [])
def wordsT (k : Int) (ws : List (List UInt8)) : List Int := if secondB k = true then readN (ws.getD 2 []) else []
def wordsN (k : Int) (ws : List (List UInt8)) : Int := if numberB k = true then (numOf (ws.getD (ws.length - 1) [])).getD 0 else 0
/-- what is wrong with words as an atom. -/
def wordsFault (ws : List (List UInt8)) : Int :=
  if wordsKind ws = 0 then 2 else if partsBad (wordsKind ws) ws = true then 2 else atomFault (wordsKind ws) (wordsS ws) (wordsT (wordsKind ws) ws) (wordsN (wordsKind ws) ws)
end Go.Proofs.YtfnkbbpjfjendaiGreatDoor

namespace Go.Proofs.YtfnkbbpjfjendaiGreatDoor
open Go.RowKit
set_option maxRecDepth 100000

/-- words with a blank between. -/
def joinL : List (List UInt8) → List UInt8
  | [] => []
  | [x] => x
  | x :: y :: r => x ++ 32 :: joinL (y :: r)
theorem joinL_cons (x : List UInt8) {r : List (List UInt8)} (h : 0 < r.length) : joinL (x :: r) = x ++ 32 :: joinL r := by
  cases r with
  | nil => simp at h
  | cons y r => rfl
theorem splitL_some (k : Nat) (l : List UInt8) : 0 < (splitL k l).length := by
  cases k with
  | zero => simp [splitL]
  | succ k => unfold splitL; split <;> simp
theorem blank_part {l : List UInt8} {j : Nat} (h : blankAt l = j) : l.take j ++ 32 :: l.drop (j + 1) = l := by
  have hs := (Lib.indexByte_some (l := l) (c := 32) (o := j) h).1
  obtain ⟨hj, he⟩ := List.getElem?_eq_some_iff.1 hs
  rw [← he, ← List.drop_eq_getElem_cons hj, List.take_append_drop]
/-- words joined are the text. -/
theorem join_split (k : Nat) : ∀ l, joinL (splitL k l) = l := by
  induction k with
  | zero => intro l; rfl
  | succ k ih =>
    intro l
    by_cases h : blankAt l < 0
    · rw [splitL_miss h]; rfl
    · obtain ⟨j, hj⟩ := Int.eq_ofNat_of_zero_le (show 0 ≤ blankAt l by omega)
      rw [splitL_hit hj, joinL_cons _ (splitL_some _ _), ih, blank_part hj]
/-- a word without a blank. -/
def plainB (l : List UInt8) : Bool := l.all fun b => b != 32
theorem blankAt_plain {x : List UInt8} (h : plainB x = true) (r : List UInt8) : blankAt (x ++ 32 :: r) = x.length := by
  induction x with
  | nil => rfl
  | cons b x ih =>
    simp [plainB] at h
    have hi : Lib.indexByte (x ++ 32 :: r) 32 = (x.length : Int) := ih (by simp [plainB]; exact h.2)
    show Lib.indexByte (b :: (x ++ 32 :: r)) 32 = _
    rw [Lib.indexByte, if_neg (by simpa using h.1), hi, if_neg (by simp)]
    simp
theorem blankAt_none {x : List UInt8} (h : plainB x = true) : blankAt x < 0 := by
  induction x with
  | nil => decide
  | cons b x ih =>
    simp [plainB] at h
    have hi : Lib.indexByte x 32 < 0 := ih (by simp [plainB]; exact h.2)
    show Lib.indexByte (b :: x) 32 < 0
    have hg := Lib.indexByte_ge x 32
    rw [Lib.indexByte, if_neg (by simpa using h.1), if_pos (by simp; omega)]
    decide
/-- one word off. -/
theorem split_word {k : Nat} {x : List UInt8} (h : plainB x = true) (r : List UInt8) : splitL (k + 1) (x ++ 32 :: r) = x :: splitL k r := by
  rw [splitL_hit (blankAt_plain h r)]
  simp
theorem split_last {k : Nat} {x : List UInt8} (h : plainB x = true) : splitL k x = [x] := splitL_miss (blankAt_none h)
end Go.Proofs.YtfnkbbpjfjendaiGreatDoor

namespace Go.Proofs.YtfnkbbpjfjendaiGreatDoor
open Go.ChangeShapes Go.WideShapes Go.ChangeAt Go.RowKit
set_option maxRecDepth 100000

/-- the atom lies at A, the errors at A + 1, and both may be written. -/
def PS (W : World) (A : Nat) (k vS vT n e0 e1 e2 : Value) : Prop :=
  (W.cell? ⟨A, 0, none⟩ = some k ∧ W.cell? ⟨A, 1, none⟩ = some vS ∧ W.cell? ⟨A, 2, none⟩ = some vT ∧ W.cell? ⟨A, 3, none⟩ = some n) ∧ (W.cell? ⟨A + 1, 0, none⟩ = some e0 ∧ W.cell? ⟨A + 1, 1, none⟩ = some e1 ∧ W.cell? ⟨A + 1, 2, none⟩ = some e2) ∧ (∀ j, W.frozen? ⟨A, j, none⟩ = false) ∧ (∀ j, W.frozen? ⟨A + 1, j, none⟩ = false) ∧ A + 1 < W.heap.size
theorem PS.below {W W' : World} {A : Nat} {k vS vT n e0 e1 e2 : Value} (h : PS W A k vS vT n e0 e1 e2) (hb : Below W.heap.size W W') : PS W' A k vS vT n e0 e1 e2 := by
  obtain ⟨⟨a0, a1, a2, a3⟩, ⟨b0, b1, b2⟩, f0, f1, hl⟩ := h
  have h0 : A < W.heap.size := by omega
  exact ⟨⟨(hb.cell h0).trans a0, (hb.cell h0).trans a1, (hb.cell h0).trans a2, (hb.cell h0).trans a3⟩, ⟨(hb.cell hl).trans b0, (hb.cell hl).trans b1, (hb.cell hl).trans b2⟩, fun j => (hb.frozen h0).trans (f0 j), fun j => (hb.frozen hl).trans (f1 j), Nat.lt_of_lt_of_le hl hb.size⟩
theorem set_far {W : World} {p q : Addr} {v : Value} (h : p ≠ q) : (W.setCell p v).cell? q = W.cell? q := by apply World.cell?_setCell_other; exact h
theorem set_same {W : World} {p : Addr} {u v : Value} (h : W.cell? p = some u) : (W.setCell p v).cell? p = some v := by apply World.cell?_setCell_same; exact h
theorem ne_off {A i j : Nat} (h : i ≠ j) : (⟨A, i, none⟩ : Addr) ≠ ⟨A, j, none⟩ := fun e => h (by injection e)
theorem ne_blk {A B i j : Nat} (h : A ≠ B) : (⟨A, i, none⟩ : Addr) ≠ ⟨B, j, none⟩ := fun e => h (by injection e)
theorem PS.storeS {W : World} {A : Nat} {k vS vT n e0 e1 e2 : Value} (h : PS W A k vS vT n e0 e1 e2) (v e : Value) : PS ((W.setCell ⟨A, 1, none⟩ v).setCell ⟨A + 1, 0, none⟩ e) A k v vT n e e1 e2 := by
  obtain ⟨⟨a0, a1, a2, a3⟩, ⟨b0, b1, b2⟩, f0, f1, hl⟩ := h
  have n1 : A + 1 ≠ A := by omega
  refine ⟨⟨?_, ?_, ?_, ?_⟩, ⟨?_, ?_, ?_⟩, fun j => by simp [f0 j], fun j => by simp [f1 j], by simpa using hl⟩
  · rw [set_far (ne_blk n1), set_far (ne_off (by decide))]; exact a0
  · rw [set_far (ne_blk n1)]; exact set_same a1
  · rw [set_far (ne_blk n1), set_far (ne_off (by decide))]; exact a2
  · rw [set_far (ne_blk n1), set_far (ne_off (by decide))]; exact a3
  · exact set_same ((set_far (ne_blk n1.symm)).trans b0)
  · rw [set_far (ne_off (by decide)), set_far (ne_blk n1.symm)]; exact b1
  · rw [set_far (ne_off (by decide)), set_far (ne_blk n1.symm)]; exact b2
theorem PS.storeT {W : World} {A : Nat} {k vS vT n e0 e1 e2 : Value} (h : PS W A k vS vT n e0 e1 e2) (v e : Value) : PS ((W.setCell ⟨A, 2, none⟩ v).setCell ⟨A + 1, 1, none⟩ e) A k vS v n e0 e e2 := by
  obtain ⟨⟨a0, a1, a2, a3⟩, ⟨b0, b1, b2⟩, f0, f1, hl⟩ := h
  have n1 : A + 1 ≠ A := by omega
  refine ⟨⟨?_, ?_, ?_, ?_⟩, ⟨?_, ?_, ?_⟩, fun j => by simp [f0 j], fun j => by simp [f1 j], by simpa using hl⟩
  · rw [set_far (ne_blk n1), set_far (ne_off (by decide))]; exact a0
  · rw [set_far (ne_blk n1), set_far (ne_off (by decide))]; exact a1
  · rw [set_far (ne_blk n1)]; exact set_same a2
  · rw [set_far (ne_blk n1), set_far (ne_off (by decide))]; exact a3
  · rw [set_far (ne_off (by decide)), set_far (ne_blk n1.symm)]; exact b0
  · exact set_same ((set_far (ne_blk n1.symm)).trans b1)
  · rw [set_far (ne_off (by decide)), set_far (ne_blk n1.symm)]; exact b2
theorem PS.storeN {W : World} {A : Nat} {k vS vT n e0 e1 e2 : Value} (h : PS W A k vS vT n e0 e1 e2) (v e : Value) : PS ((W.setCell ⟨A, 3, none⟩ v).setCell ⟨A + 1, 2, none⟩ e) A k vS vT v e0 e1 e := by
  obtain ⟨⟨a0, a1, a2, a3⟩, ⟨b0, b1, b2⟩, f0, f1, hl⟩ := h
  have n1 : A + 1 ≠ A := by omega
  refine ⟨⟨?_, ?_, ?_, ?_⟩, ⟨?_, ?_, ?_⟩, fun j => by simp [f0 j], fun j => by simp [f1 j], by simpa using hl⟩
  · rw [set_far (ne_blk n1), set_far (ne_off (by decide))]; exact a0
  · rw [set_far (ne_blk n1), set_far (ne_off (by decide))]; exact a1
  · rw [set_far (ne_blk n1), set_far (ne_off (by decide))]; exact a2
  · rw [set_far (ne_blk n1)]; exact set_same a3
  · rw [set_far (ne_off (by decide)), set_far (ne_blk n1.symm)]; exact b0
  · rw [set_far (ne_off (by decide)), set_far (ne_blk n1.symm)]; exact b1
  · exact set_same ((set_far (ne_blk n1.symm)).trans b2)
/-- the two places as they are made. -/
theorem ps_alloc (W : World) (k : Value) (ta te : TypeId) : PS ((W.alloc (.cells #[k, .slice none 0 0, .slice none 0 0, .int .i64 0] ta)).alloc (.cells #[.nilIface, .nilIface, .nilIface] te)) W.heap.size k (.slice none 0 0) (.slice none 0 0) (.int .i64 0) .nilIface .nilIface .nilIface := by
  have h : ∀ j, ((W.alloc (.cells #[k, .slice none 0 0, .slice none 0 0, .int .i64 0] ta)).alloc (.cells #[.nilIface, .nilIface, .nilIface] te)).cell? ⟨W.heap.size, j, none⟩ = (W.alloc (.cells #[k, .slice none 0 0, .slice none 0 0, .int .i64 0] ta)).cell? ⟨W.heap.size, j, none⟩ := fun j => World.cell?_alloc_lt _ _ ⟨W.heap.size, j, none⟩ (by simp)
  have e : W.heap.size + 1 = (W.alloc (.cells #[k, .slice none 0 0, .slice none 0 0, .int .i64 0] ta)).heap.size := by simp
  refine ⟨⟨?_, ?_, ?_, ?_⟩, ⟨?_, ?_, ?_⟩, fun j => ?_, fun j => ?_, by simp⟩
  · rw [h]; simp
  · rw [h]; simp
  · rw [h]; simp
  · rw [h]; simp
  · rw [e]; simp
  · rw [e]; simp
  · rw [e]; simp
  · rw [World.frozen?_alloc_old _ _ ⟨W.heap.size, j, none⟩ (by simp)]; simp
  · rw [e]; simp
/-- a row in another block reads as it did behind a store. -/
theorem Reads.store {W : World} {g c : Nat} {t : List Int} {p : Addr} {v : Value} (h : Reads W (.slice (some ⟨g, 0, none⟩) c c) t) (hp : p.block ≠ g) : Reads (W.setCell p v) (.slice (some ⟨g, 0, none⟩) c c) t := by
  rcases h with ⟨ao, cap, e, ht⟩ | ⟨b, off, cap, e, h2, h3, h4, h5⟩
  · exact Or.inl ⟨ao, cap, e, ht⟩
  · have eb : b = g := by injection e with e1 _ _; injection e1 with e2; injection e2 with e3; exact e3.symm
    refine Or.inr ⟨b, off, cap, e, by simpa using h2, h3, h4, fun k hk => ?_⟩
    rw [set_far (fun e' => hp (by rw [e', eb]))]
    exact h5 k hk
end Go.Proofs.YtfnkbbpjfjendaiGreatDoor
