/-
  Proved: what vennref1.ReadNumber returns, of any text: the number that it is, if it is one; what was in memory is as it was (a contract that the statements lean on).
-/
import Derived.Test.YtfnkbbpjfjendaiGreatDoorLibTX4
import Derived.Test.YtfnkbbpjfjendaiGreatDoorLibTX1
import Derived.Test.YtfnkbbpjfjendaiGreatDoorLibTX2
import Derived.Lib.Strings
namespace Go.Proofs.YtfnkbbpjfjendaiGreatDoor
open Go.ChangeShapes Go.WideShapes Go.ChangeAt Go.RowKit
set_option maxRecDepth 100000

/-- a digit. -/
def digB (b : UInt8) : Bool := decide (48 ≤ b.toNat ∧ b.toNat ≤ 57)
def sgn (below : Bool) (n : Int) : Int := if below = true then -n else n
/-- one or two digits as a number; none: they are none. -/
def refNumU (below : Bool) : List UInt8 → Option Int
  | [d] => if digB d = true then (if d = 48 ∧ below = true then none else some (sgn below ((d.toNat : Int) - 48))) else none
  | [d, e] => if digB d = true ∧ digB e = true then (if d = 48 then none else some (sgn below (10 * ((d.toNat : Int) - 48) + ((e.toNat : Int) - 48)))) else none
  | _ => none
def refNum : List UInt8 → Option Int
  | [] => none
  | b :: r => if b = 45 then refNumU true r else refNumU false (b :: r)
theorem refNum_nums : nums.all (fun n => decide (refNum (numText n) = some n)) = true := by decide +kernel
theorem refNum_text {n : Int} (h : -99 ≤ n ∧ n ≤ 99) : refNum (numText n) = some n := by
  have := List.all_eq_true.1 refNum_nums n (mem_nums.2 h)
  simpa using this
theorem digit_of {b : UInt8} (h : digB b = true) : ∃ a : Nat, a ≤ 9 ∧ b = UInt8.ofNat (48 + a) ∧ b.toNat = 48 + a := by
  have h' : 48 ≤ b.toNat ∧ b.toNat ≤ 57 := by simpa [digB] using h
  refine ⟨b.toNat - 48, by omega, ?_, by omega⟩
  apply UInt8.toNat_inj.1
  simp
  omega
theorem one_text : ∀ a : Nat, a < 10 → numText (a : Int) = [UInt8.ofNat (48 + a)] ∧ (0 < a → numText (-(a : Int)) = [45, UInt8.ofNat (48 + a)]) := by decide
theorem two_text : ∀ a : Nat, a < 10 → 0 < a → ∀ b : Nat, b < 10 → numText ((10 * a + b : Nat) : Int) = [UInt8.ofNat (48 + a), UInt8.ofNat (48 + b)] ∧ numText (-((10 * a + b : Nat) : Int)) = [45, UInt8.ofNat (48 + a), UInt8.ofNat (48 + b)] := by decide +kernel
theorem numU_text {below : Bool} {r : List UInt8} {n : Int} (h : refNumU below r = some n) : (-99 ≤ n ∧ n ≤ 99) ∧ numText n = (if below = true then 45 :: r else r) := by
  match r, h with
  | [d], h =>
    rw [refNumU] at h
    by_cases hd : digB d = true
    · rw [if_pos hd] at h
      obtain ⟨a, ha, rfl, hn⟩ := digit_of hd
      by_cases hz : UInt8.ofNat (48 + a) = 48 ∧ below = true
      · rw [if_pos hz] at h; cases h
      · rw [if_neg hz] at h
        have e := Option.some.inj h
        rw [hn] at e
        have ht := one_text a (by omega)
        cases below
        · simp [sgn] at e
          have e' : n = (a : Int) := by omega
          subst e'
          exact ⟨by omega, ht.1⟩
        · simp [sgn] at e
          have e' : n = -(a : Int) := by omega
          subst e'
          have h0 : 0 < a := by
            rcases Nat.eq_zero_or_pos a with rfl | h0
            · exact absurd ⟨rfl, rfl⟩ hz
            · exact h0
          exact ⟨by omega, ht.2 h0⟩
    · rw [if_neg hd] at h; cases h
  | [d, e0], h =>
    rw [refNumU] at h
    by_cases hd : digB d = true ∧ digB e0 = true
    · rw [if_pos hd] at h
      obtain ⟨a, ha, rfl, hn⟩ := digit_of hd.1
      obtain ⟨b, hb, rfl, hm⟩ := digit_of hd.2
      by_cases hz : UInt8.ofNat (48 + a) = 48
      · rw [if_pos hz] at h; cases h
      · rw [if_neg hz] at h
        have e := Option.some.inj h
        rw [hn, hm] at e
        have h0 : 0 < a := by
          rcases Nat.eq_zero_or_pos a with rfl | h0
          · exact absurd rfl hz
          · exact h0
        have ht := two_text a (by omega) h0 b (by omega)
        cases below
        · simp [sgn] at e
          have e' : n = ((10 * a + b : Nat) : Int) := by omega
          subst e'
          exact ⟨by omega, ht.1⟩
        · simp [sgn] at e
          have e' : n = -((10 * a + b : Nat) : Int) := by omega
          subst e'
          exact ⟨by omega, ht.2⟩
    · rw [if_neg hd] at h; cases h
  | [], h => cases h
  | _ :: _ :: _ :: _, h => cases h
/-- the reference's number is the document's. -/
theorem numOf_ref (l : List UInt8) : numOf l = refNum l := by
  cases h : refNum l with
  | some n =>
    match l, h with
    | b :: r, h =>
      rw [refNum] at h
      by_cases hb : b = 45
      · subst hb
        rw [if_pos rfl] at h
        have := numU_text h
        exact numOf_some.2 ⟨this.1, this.2⟩
      · rw [if_neg hb] at h
        have := numU_text h
        exact numOf_some.2 ⟨this.1, this.2⟩
  | none =>
    cases h1 : numOf l with
    | none => rfl
    | some n =>
      obtain ⟨hn, rfl⟩ := numOf_some.1 h1
      rw [refNum_text hn] at h
      cases h

theorem at_byte {s : ByteArray} {l : List UInt8} (hl : s.data.toList = l) {k : Nat} (hk : k < s.size) {b : UInt8} (hb : l[k]? = some b) : s[k]'hk = b := by
  have h2 : s.data.toList[k]? = some (s[k]'hk) := by
    rw [List.getElem?_eq_getElem (by rw [Array.length_toList]; exact hk)]; rfl
  rw [hl, hb] at h2
  exact (Option.some.inj h2).symm
theorem byte_ne {b : UInt8} {c : Nat} (hc : c < 256) (h : b ≠ UInt8.ofNat c) : ((b.toNat : Int) == (c : Int)) = false := by
  simp only [beq_eq_false_iff_ne, ne_eq]
  intro h1
  apply h
  apply UInt8.toNat_inj.1
  simp
  omega
theorem readNum_none (s : ByteArray) (hz : s.size ≤ 9223372036854775807) (hl : (bareN s.data.toList).length = 0 ∨ 2 < (bareN s.data.toList).length) (w : World) :
    Calls Tryz.prog 43 #[.string s] w fun e w' => e = .returned (.tuple #[.int .i64 0, .bool false]) ∧ w = w' := by
  have hsz : s.data.toList.length = s.size := Array.length_toList
  by_cases h0 : s.size = 0
  · have h0' : (s.size : Int) = 0 := by omega
    go_enter Tryz.func43, Tryz.ntmps43
    go_wp2
    go_ret2
    exact ⟨rfl, rfl⟩
  · have h0' : (0 : Int) < (s.size : Int) := by omega
    have h0n : 0 < s.size := by omega
    obtain ⟨b, r, hbr⟩ : ∃ b r, s.data.toList = b :: r := by
      cases h : s.data.toList with
      | nil => rw [h] at hsz; simp at hsz; omega
      | cons b r => exact ⟨b, r, rfl⟩
    have hb0 : s[0]'h0n = b := at_byte hbr h0n rfl
    rw [hbr] at hl hsz
    simp at hsz
    by_cases hb : b = 45
    · subst hb
      have hl' : r.length = 0 ∨ 2 < r.length := hl
      have hbb : (((s[0]'h0n).toNat : Int) == 45) = true := by rw [hb0]; rfl
      have h1s : (1 : Int) ≤ (s.size : Int) := by omega
      have hxs : (s.extract 1 s.size).size = s.size - 1 := by simp
      rcases hl' with hl' | hl'
      · have hx : ((s.extract 1 s.size).size : Int) < 1 := by omega
        go_enter Tryz.func43, Tryz.ntmps43
        go_wp2
        go_ret2
        exact ⟨rfl, rfl⟩
      · have hx : (2 : Int) < ((s.extract 1 s.size).size : Int) := by omega
        go_enter Tryz.func43, Tryz.ntmps43
        go_wp2
        go_ret2
        exact ⟨rfl, rfl⟩
    · have hbb : ((b.toNat : Int) == 45) = false := byte_ne (by decide) hb
      have hl' : 2 < r.length + 1 := by
        rcases hl with h | h
        · rw [bareN, if_neg hb] at h; simp at h
        · rw [bareN, if_neg hb] at h; simpa using h
      have hs2 : (2 : Int) < (s.size : Int) := by omega
      go_enter Tryz.func43, Tryz.ntmps43
      go_wp2
      go_ret2
      exact ⟨rfl, rfl⟩

set_option maxHeartbeats 4000000 in
theorem readNum_d (s : ByteArray) (d : UInt8) (hs : s.data.toList = [d]) (hd : d ≠ 45) (w : World) :
    Calls Tryz.prog 43 #[.string s] w fun e w' => e = .returned (.tuple #[.int .i64 ((refNumU false [d]).getD 0), .bool (refNumU false [d]).isSome]) ∧ w = w' := by
  have hsz : s.size = 1 := by have : s.data.toList.length = s.size := Array.length_toList; rw [hs] at this; exact this.symm
  have h0n : 0 < s.size := by omega
  have hi : (s.size : Int) = 1 := by omega
  have hbb : ((d.toNat : Int) == 45) = false := byte_ne (by decide) hd
  have hn0 : 0 < s.size := by omega
  have hb0 : s[0]'hn0 = d := at_byte hs hn0 rfl
  have hq0 : (d.toNat : Int) ≤ 255 := by have := d.toNat_lt; omega
  by_cases l0 : d.toNat < 48
  · have l0' : (d.toNat : Int) < 48 := by omega
    have he : refNumU false [d] = none := by simp only [refNumU]; rw [if_neg]; simp [digB]; omega
    rw [he]
    clear he
    go_enter Tryz.func43, Tryz.ntmps43
    go_wp2
    refine wp_loop_rounds 3 ?_
    rw [rounds_succ]
    go_wp2
    go_ret2
    exact ⟨rfl, rfl⟩
  · have l0' : ¬ (d.toNat : Int) < 48 := by omega
    by_cases g0 : 57 < d.toNat
    · have g0' : 57 < (d.toNat : Int) := by omega
      have he : refNumU false [d] = none := by simp only [refNumU]; rw [if_neg]; simp [digB]; omega
      rw [he]
      clear he
      go_enter Tryz.func43, Tryz.ntmps43
      go_wp2
      refine wp_loop_rounds 3 ?_
      rw [rounds_succ]
      go_wp2
      go_ret2
      exact ⟨rfl, rfl⟩
    · have g0' : ¬ 57 < (d.toNat : Int) := by omega
      by_cases z : d = 48
      · have z' : ((d.toNat : Int) == 48) = true := by rw [z]; rfl
        have z2 : (d.toNat : Int) = 48 := by rw [z]; rfl
        have he : refNumU false [d] = some 0 := by subst z; rfl
        rw [he]
        clear he
        go_enter Tryz.func43, Tryz.ntmps43
        go_wp2
        refine wp_loop_rounds 3 ?_
        rw [rounds_succ]
        go_wp2
        rw [rounds_succ]
        go_wp2
        go_ret2
        exact ⟨by first | rfl | (apply back_v; first | rfl | (congr 3; simp; try omega)), rfl⟩
      · have z' : ((d.toNat : Int) == 48) = false := byte_ne (by decide) z
        have he : refNumU false [d] = some ((d.toNat : Int) - 48) := by simp only [refNumU]; rw [if_pos (by simp [digB]; omega), if_neg (fun h => z h.1)]; rfl
        rw [he]
        clear he
        go_enter Tryz.func43, Tryz.ntmps43
        go_wp2
        refine wp_loop_rounds 3 ?_
        rw [rounds_succ]
        go_wp2
        rw [rounds_succ]
        go_wp2
        go_ret2
        exact ⟨by first | rfl | (apply back_v; first | rfl | (congr 3; simp; try omega)), rfl⟩

set_option maxHeartbeats 4000000 in
theorem readNum_dc (s : ByteArray) (d c : UInt8) (hs : s.data.toList = [d, c]) (hd : d ≠ 45) (w : World) :
    Calls Tryz.prog 43 #[.string s] w fun e w' => e = .returned (.tuple #[.int .i64 ((refNumU false [d, c]).getD 0), .bool (refNumU false [d, c]).isSome]) ∧ w = w' := by
  have hsz : s.size = 2 := by have : s.data.toList.length = s.size := Array.length_toList; rw [hs] at this; exact this.symm
  have h0n : 0 < s.size := by omega
  have hi : (s.size : Int) = 2 := by omega
  have hbb : ((d.toNat : Int) == 45) = false := byte_ne (by decide) hd
  have hn0 : 0 < s.size := by omega
  have hb0 : s[0]'hn0 = d := at_byte hs hn0 rfl
  have hq0 : (d.toNat : Int) ≤ 255 := by have := d.toNat_lt; omega
  have hn1 : 1 < s.size := by omega
  have hb1 : s[1]'hn1 = c := at_byte hs hn1 rfl
  have hq1 : (c.toNat : Int) ≤ 255 := by have := c.toNat_lt; omega
  by_cases l0 : d.toNat < 48
  · have l0' : (d.toNat : Int) < 48 := by omega
    have he : refNumU false [d, c] = none := by simp only [refNumU]; rw [if_neg]; simp [digB]; omega
    rw [he]
    clear he
    go_enter Tryz.func43, Tryz.ntmps43
    go_wp2
    refine wp_loop_rounds 3 ?_
    rw [rounds_succ]
    go_wp2
    go_ret2
    exact ⟨rfl, rfl⟩
  · have l0' : ¬ (d.toNat : Int) < 48 := by omega
    by_cases g0 : 57 < d.toNat
    · have g0' : 57 < (d.toNat : Int) := by omega
      have he : refNumU false [d, c] = none := by simp only [refNumU]; rw [if_neg]; simp [digB]; omega
      rw [he]
      clear he
      go_enter Tryz.func43, Tryz.ntmps43
      go_wp2
      refine wp_loop_rounds 3 ?_
      rw [rounds_succ]
      go_wp2
      go_ret2
      exact ⟨rfl, rfl⟩
    · have g0' : ¬ 57 < (d.toNat : Int) := by omega
      by_cases l1 : c.toNat < 48
      · have l1' : (c.toNat : Int) < 48 := by omega
        have he : refNumU false [d, c] = none := by simp only [refNumU]; rw [if_neg]; simp [digB]; omega
        rw [he]
        clear he
        go_enter Tryz.func43, Tryz.ntmps43
        go_wp2
        refine wp_loop_rounds 3 ?_
        rw [rounds_succ]
        go_wp2
        rw [rounds_succ]
        go_wp2
        go_ret2
        exact ⟨rfl, rfl⟩
      · have l1' : ¬ (c.toNat : Int) < 48 := by omega
        by_cases g1 : 57 < c.toNat
        · have g1' : 57 < (c.toNat : Int) := by omega
          have he : refNumU false [d, c] = none := by simp only [refNumU]; rw [if_neg]; simp [digB]; omega
          rw [he]
          clear he
          go_enter Tryz.func43, Tryz.ntmps43
          go_wp2
          refine wp_loop_rounds 3 ?_
          rw [rounds_succ]
          go_wp2
          rw [rounds_succ]
          go_wp2
          go_ret2
          exact ⟨rfl, rfl⟩
        · have g1' : ¬ 57 < (c.toNat : Int) := by omega
          by_cases z : d = 48
          · have z' : ((d.toNat : Int) == 48) = true := by rw [z]; rfl
            have he : refNumU false [d, c] = none := by simp only [refNumU]; rw [if_pos (by simp [digB]; omega), if_pos z]
            rw [he]
            clear he
            go_enter Tryz.func43, Tryz.ntmps43
            go_wp2
            refine wp_loop_rounds 3 ?_
            rw [rounds_succ]
            go_wp2
            rw [rounds_succ]
            go_wp2
            rw [rounds_succ]
            go_wp2
            go_ret2
            exact ⟨rfl, rfl⟩
          · have z' : ((d.toNat : Int) == 48) = false := byte_ne (by decide) z
            have he : refNumU false [d, c] = some (10 * ((d.toNat : Int) - 48) + ((c.toNat : Int) - 48)) := by simp only [refNumU]; rw [if_pos (by simp [digB]; omega), if_neg z]; rfl
            rw [he]
            clear he
            go_enter Tryz.func43, Tryz.ntmps43
            go_wp2
            refine wp_loop_rounds 3 ?_
            rw [rounds_succ]
            go_wp2
            rw [rounds_succ]
            go_wp2
            rw [rounds_succ]
            go_wp2
            go_ret2
            exact ⟨by first | rfl | (apply back_v; first | rfl | (congr 3; simp; try omega)), rfl⟩

set_option maxHeartbeats 4000000 in
theorem readNum_md (s : ByteArray) (d : UInt8) (hs : s.data.toList = [45, d]) (w : World) :
    Calls Tryz.prog 43 #[.string s] w fun e w' => e = .returned (.tuple #[.int .i64 ((refNumU true [d]).getD 0), .bool (refNumU true [d]).isSome]) ∧ w = w' := by
  have hsz : s.size = 2 := by have : s.data.toList.length = s.size := Array.length_toList; rw [hs] at this; exact this.symm
  have h0n : 0 < s.size := by omega
  have hi : (s.size : Int) = 2 := by omega
  have hb : s[0]'h0n = 45 := at_byte hs h0n rfl
  obtain ⟨t, hx⟩ : ∃ t, s.extract 1 2 = t := ⟨_, rfl⟩
  have ht : t.data.toList = [d] := by rw [← hx, Lib.extract_eq, hs]; rfl
  have htz : t.size = 1 := by have : t.data.toList.length = t.size := Array.length_toList; rw [ht] at this; exact this.symm
  have hti : (t.size : Int) = 1 := by omega
  have hn0 : 0 < t.size := by omega
  have hb0 : t[0]'hn0 = d := at_byte ht hn0 rfl
  have hq0 : (d.toNat : Int) ≤ 255 := by have := d.toNat_lt; omega
  by_cases l0 : d.toNat < 48
  · have l0' : (d.toNat : Int) < 48 := by omega
    have he : refNumU true [d] = none := by simp only [refNumU]; rw [if_neg]; simp [digB]; omega
    rw [he]
    clear he
    go_enter Tryz.func43, Tryz.ntmps43
    go_wp2
    refine wp_loop_rounds 3 ?_
    rw [rounds_succ]
    go_wp2
    go_ret2
    exact ⟨rfl, rfl⟩
  · have l0' : ¬ (d.toNat : Int) < 48 := by omega
    by_cases g0 : 57 < d.toNat
    · have g0' : 57 < (d.toNat : Int) := by omega
      have he : refNumU true [d] = none := by simp only [refNumU]; rw [if_neg]; simp [digB]; omega
      rw [he]
      clear he
      go_enter Tryz.func43, Tryz.ntmps43
      go_wp2
      refine wp_loop_rounds 3 ?_
      rw [rounds_succ]
      go_wp2
      go_ret2
      exact ⟨rfl, rfl⟩
    · have g0' : ¬ 57 < (d.toNat : Int) := by omega
      by_cases z : d = 48
      · have z' : ((d.toNat : Int) == 48) = true := by rw [z]; rfl
        have he : refNumU true [d] = none := by subst z; rfl
        rw [he]
        clear he
        go_enter Tryz.func43, Tryz.ntmps43
        go_wp2
        refine wp_loop_rounds 3 ?_
        rw [rounds_succ]
        go_wp2
        rw [rounds_succ]
        go_wp2
        go_ret2
        exact ⟨rfl, rfl⟩
      · have z' : ((d.toNat : Int) == 48) = false := byte_ne (by decide) z
        have he : refNumU true [d] = some (-((d.toNat : Int) - 48)) := by simp only [refNumU]; rw [if_pos (by simp [digB]; omega), if_neg (fun h => z h.1)]; rfl
        rw [he]
        clear he
        go_enter Tryz.func43, Tryz.ntmps43
        go_wp2
        refine wp_loop_rounds 3 ?_
        rw [rounds_succ]
        go_wp2
        rw [rounds_succ]
        go_wp2
        go_ret2
        exact ⟨by first | rfl | (apply back_v; first | rfl | (congr 3; simp; try omega)), rfl⟩

set_option maxHeartbeats 4000000 in
theorem readNum_mdc (s : ByteArray) (d c : UInt8) (hs : s.data.toList = [45, d, c]) (w : World) :
    Calls Tryz.prog 43 #[.string s] w fun e w' => e = .returned (.tuple #[.int .i64 ((refNumU true [d, c]).getD 0), .bool (refNumU true [d, c]).isSome]) ∧ w = w' := by
  have hsz : s.size = 3 := by have : s.data.toList.length = s.size := Array.length_toList; rw [hs] at this; exact this.symm
  have h0n : 0 < s.size := by omega
  have hi : (s.size : Int) = 3 := by omega
  have hb : s[0]'h0n = 45 := at_byte hs h0n rfl
  obtain ⟨t, hx⟩ : ∃ t, s.extract 1 3 = t := ⟨_, rfl⟩
  have ht : t.data.toList = [d, c] := by rw [← hx, Lib.extract_eq, hs]; rfl
  have htz : t.size = 2 := by have : t.data.toList.length = t.size := Array.length_toList; rw [ht] at this; exact this.symm
  have hti : (t.size : Int) = 2 := by omega
  have hn0 : 0 < t.size := by omega
  have hb0 : t[0]'hn0 = d := at_byte ht hn0 rfl
  have hq0 : (d.toNat : Int) ≤ 255 := by have := d.toNat_lt; omega
  have hn1 : 1 < t.size := by omega
  have hb1 : t[1]'hn1 = c := at_byte ht hn1 rfl
  have hq1 : (c.toNat : Int) ≤ 255 := by have := c.toNat_lt; omega
  by_cases l0 : d.toNat < 48
  · have l0' : (d.toNat : Int) < 48 := by omega
    have he : refNumU true [d, c] = none := by simp only [refNumU]; rw [if_neg]; simp [digB]; omega
    rw [he]
    clear he
    go_enter Tryz.func43, Tryz.ntmps43
    go_wp2
    refine wp_loop_rounds 3 ?_
    rw [rounds_succ]
    go_wp2
    go_ret2
    exact ⟨rfl, rfl⟩
  · have l0' : ¬ (d.toNat : Int) < 48 := by omega
    by_cases g0 : 57 < d.toNat
    · have g0' : 57 < (d.toNat : Int) := by omega
      have he : refNumU true [d, c] = none := by simp only [refNumU]; rw [if_neg]; simp [digB]; omega
      rw [he]
      clear he
      go_enter Tryz.func43, Tryz.ntmps43
      go_wp2
      refine wp_loop_rounds 3 ?_
      rw [rounds_succ]
      go_wp2
      go_ret2
      exact ⟨rfl, rfl⟩
    · have g0' : ¬ 57 < (d.toNat : Int) := by omega
      by_cases l1 : c.toNat < 48
      · have l1' : (c.toNat : Int) < 48 := by omega
        have he : refNumU true [d, c] = none := by simp only [refNumU]; rw [if_neg]; simp [digB]; omega
        rw [he]
        clear he
        go_enter Tryz.func43, Tryz.ntmps43
        go_wp2
        refine wp_loop_rounds 3 ?_
        rw [rounds_succ]
        go_wp2
        rw [rounds_succ]
        go_wp2
        go_ret2
        exact ⟨rfl, rfl⟩
      · have l1' : ¬ (c.toNat : Int) < 48 := by omega
        by_cases g1 : 57 < c.toNat
        · have g1' : 57 < (c.toNat : Int) := by omega
          have he : refNumU true [d, c] = none := by simp only [refNumU]; rw [if_neg]; simp [digB]; omega
          rw [he]
          clear he
          go_enter Tryz.func43, Tryz.ntmps43
          go_wp2
          refine wp_loop_rounds 3 ?_
          rw [rounds_succ]
          go_wp2
          rw [rounds_succ]
          go_wp2
          go_ret2
          exact ⟨rfl, rfl⟩
        · have g1' : ¬ 57 < (c.toNat : Int) := by omega
          by_cases z : d = 48
          · have z' : ((d.toNat : Int) == 48) = true := by rw [z]; rfl
            have he : refNumU true [d, c] = none := by simp only [refNumU]; rw [if_pos (by simp [digB]; omega), if_pos z]
            rw [he]
            clear he
            go_enter Tryz.func43, Tryz.ntmps43
            go_wp2
            refine wp_loop_rounds 3 ?_
            rw [rounds_succ]
            go_wp2
            rw [rounds_succ]
            go_wp2
            rw [rounds_succ]
            go_wp2
            go_ret2
            exact ⟨rfl, rfl⟩
          · have z' : ((d.toNat : Int) == 48) = false := byte_ne (by decide) z
            have he : refNumU true [d, c] = some (-(10 * ((d.toNat : Int) - 48) + ((c.toNat : Int) - 48))) := by simp only [refNumU]; rw [if_pos (by simp [digB]; omega), if_neg z]; rfl
            rw [he]
            clear he
            go_enter Tryz.func43, Tryz.ntmps43
            go_wp2
            refine wp_loop_rounds 3 ?_
            rw [rounds_succ]
            go_wp2
            rw [rounds_succ]
            go_wp2
            rw [rounds_succ]
            go_wp2
            go_ret2
            exact ⟨by first | rfl | (apply back_v; first | rfl | (congr 3; simp; try omega)), rfl⟩
/-- ReadNumber, of any text. -/
theorem readNumber_any (s : ByteArray) (hz : s.size ≤ 9223372036854775807) (w : World) :
    Calls Tryz.prog 43 #[.string s] w fun e w' => e = .returned (.tuple #[.int .i64 ((numOf s.data.toList).getD 0), .bool (numOf s.data.toList).isSome]) ∧ w = w' := by
  have none_of : (bareN s.data.toList).length = 0 ∨ 2 < (bareN s.data.toList).length → numOf s.data.toList = none := by
    intro h
    rw [numOf_ref]
    cases hl : s.data.toList with
    | nil => rfl
    | cons b r =>
      rw [hl, bareN] at h
      rw [refNum]
      by_cases hb : b = 45
      · rw [if_pos hb] at h ⊢
        match r, h with
        | [], _ => rfl
        | [_], h => simp at h
        | [_, _], h => simp at h
        | _ :: _ :: _ :: _, _ => rfl
      · rw [if_neg hb] at h ⊢
        match r, h with
        | [], h => simp at h
        | [_], h => simp at h
        | _ :: _ :: _, _ => rfl
  by_cases hl : (bareN s.data.toList).length = 0 ∨ 2 < (bareN s.data.toList).length
  · rw [none_of hl]
    exact readNum_none s hz hl w
  · clear none_of
    rw [numOf_ref]
    match hs : s.data.toList with
    | [] => rw [hs] at hl; exact absurd (Or.inl rfl) hl
    | b :: r =>
      rw [hs, bareN] at hl
      rw [refNum]
      by_cases hb : b = 45
      · subst hb
        rw [if_pos rfl] at hl ⊢
        match r, hl, hs with
        | [], hl, _ => exact absurd (Or.inl rfl) hl
        | [d], _, hs => exact readNum_md s d hs w
        | [d, c], _, hs => exact readNum_mdc s d c hs w
        | _ :: _ :: _ :: _, hl, _ => exact absurd (Or.inr (by simp)) hl
      · rw [if_neg hb] at hl ⊢
        match r, hl, hs with
        | [], _, hs => exact readNum_d s b hs hb w
        | [c], _, hs => exact readNum_dc s b c hs hb w
        | _ :: _ :: _, hl, _ => exact absurd (Or.inr (by simp)) hl
end Go.Proofs.YtfnkbbpjfjendaiGreatDoor
