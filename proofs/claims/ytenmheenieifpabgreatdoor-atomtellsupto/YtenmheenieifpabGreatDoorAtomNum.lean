/-
  Proved: what strconv.Itoa and atom.number return, of a number of at most two digits and of any text; what was in memory is as it was (contracts that the statements lean on).
-/
import Derived.Test.YtenmheenieifpabGreatDoorShelf
import Derived.Test.YtenmheenieifpabGreatDoorAtomSplit
import Derived.Test.YtenmheenieifpabGreatDoorAtomCheck
import Derived.Lib.AppendIntMem
import Derived.Lib.LaidTab
import Derived.Lib.SmallJoins
namespace Go.Proofs.YtenmheenieifpabGreatDoor
open Go.ChangeShapes Go.WideShapes Go.ChangeAt Go.RowKit
set_option maxRecDepth 100000

theorem var_below {w w' : World} {n : String} {cs : Array Value} (h : w.var? Tryz.prog n = some cs) (hb : Below w.heap.size w w') : w'.var? Tryz.prog n = some cs := by
  unfold World.var? at h ⊢
  cases hg : Tryz.prog.globalNamed n with
  | none => simp [hg] at h
  | some g =>
    simp only [hg, Option.bind_some] at h ⊢
    have hlt : g < w.heap.size := by
      rcases Nat.lt_or_ge g w.heap.size with h' | h'
      · exact h'
      · simp [Array.getElem?_eq_none h'] at h
    rw [hb.block g hlt]
    exact h

/-- the library's variables that are read lie as they were laid. -/
def LibLaid (w : World) : Prop := Lib.TabIs Tryz.prog w "internal/strconv.uint64pow10" .u64 Lib.pow10Tab ∧ ∃ tp p, w.var? Tryz.prog "strconv.ErrSyntax" = some #[.iface tp p]
theorem LibLaid.below {w w' : World} (h : LibLaid w) (hb : Below w.heap.size w w') : LibLaid w' := by
  obtain ⟨h1, tp, p, h2⟩ := h
  exact ⟨var_below h1 hb, tp, p, var_below h2 hb⟩

theorem itoa_any (n : Int) (h0 : -99 ≤ n) (h1 : n ≤ 99) (w : World) (hL : LibLaid w) :
    Calls Tryz.prog 25 #[.int .i64 n] w fun e w' => e = .returned (.string (strOf (numText n))) ∧ Below w.heap.size w w' := by
  refine (Any.strconv_Itoa Tryz.laysM171 n (by omega) (by omega) w hL.1).mono ?_
  rintro e w' ⟨he, k, os, rfl⟩
  refine ⟨?_, Lib.below_grow _ _ (Nat.le_refl _) _ _⟩
  rw [he, itoa_num h0 h1]
  rfl

theorem trim_any (s : ByteArray) (w : World) :
    Calls Tryz.prog 59 #[.string s, .string ⟨#[45]⟩] w fun e w' => e = .returned (.string (strOf (bareN s.data.toList))) ∧ w = w' := by
  refine (Any.strings_TrimPrefix Tryz.lays101 s ⟨#[45]⟩ w).mono ?_
  rintro e w' ⟨he, rfl⟩
  refine ⟨?_, rfl⟩
  have e1 : Lib.trimPrefix s.data.toList (ByteArray.mk #[45]).data.toList = bareN s.data.toList := by
    show Lib.trimPrefix s.data.toList [45] = _
    match s.data.toList with
    | [] => rfl
    | b :: r =>
      unfold Lib.trimPrefix
      by_cases hb : b = 45
      · subst hb
        rw [if_pos (by simp [Lib.hasPrefix])]; rfl
      · rw [if_neg (by simp [Lib.hasPrefix]; exact fun h => hb h.symm), bareN, if_neg hb]
  rw [he, e1]; rfl

theorem atoi_some (s : ByteArray) (n : Int) (hl : s.size ≤ 18) (h : Lib.atoi s.data.toList = some n) (w : World) :
    Calls Tryz.prog 60 #[.string s] w fun e w' => e = .returned (.tuple #[.int .i64 n, .nilIface]) ∧ Below w.heap.size w w' := by
  refine (Any.strconv_Atoi Tryz.lays172 s n hl h w).mono ?_
  rintro e w' ⟨he, t, rfl⟩
  exact ⟨he, Go.Joins.below_bytesWorld _ _ _ _ (Nat.le_refl _)⟩
theorem atoi_none (s : ByteArray) (hl : s.size ≤ 18) (h : Lib.atoi s.data.toList = none) (w : World) (hL : LibLaid w) :
    Calls Tryz.prog 60 #[.string s] w fun e w' => ∃ N, e = .returned (.tuple #[.int .i64 0, .iface 154 (.pointer (some ⟨N, 0, none⟩))]) ∧ Below w.heap.size w w' := by
  obtain ⟨_, tp, p, hv⟩ := hL
  refine (Any.strconv_Atoi_err_var Tryz.laysC172 s hl h tp p w hv).mono ?_
  rintro e w' ⟨N, he, _, _, hb⟩
  exact ⟨N, he, hb⟩

/-- what number answers. -/
def numFault (l : List UInt8) : Int := if (numOf l).isSome then 0 else 2
def numIs (l : List UInt8) : Int := (numOf l).getD 0

theorem bare_size {l : List UInt8} (h : (bareN l).length ≤ 2) : l.length ≤ 3 := by
  match l with
  | [] => simp
  | b :: r =>
    rw [bareN] at h
    split at h
    · simp; omega
    · omega

set_option maxHeartbeats 1000000 in
theorem number_any (s : ByteArray) (hz : s.size ≤ 9223372036854775807) (w : World) (hL : LibLaid w) :
    Calls Tryz.prog 37 #[.string s] w fun e w' => e = .returned (.tuple #[.int .i64 (numIs s.data.toList), errV (numFault s.data.toList)]) ∧ Below w.heap.size w w' := by
  have HT : Hid (∀ W, Calls Tryz.prog 59 #[.string s, .string ⟨#[45]⟩] W fun e w' => e = .returned (.string (strOf (bareN s.data.toList))) ∧ W = w') := fun W => trim_any s W
  have hsz : s.data.toList.length = s.size := Array.length_toList
  have hbl : (bareN s.data.toList).length ≤ s.data.toList.length := by
    cases s.data.toList with
    | nil => simp [bareN]
    | cons b r => rw [bareN]; split <;> simp
  by_cases hb : 2 < (bareN s.data.toList).length
  · have e1 : numIs s.data.toList = 0 := by unfold numIs; rw [numOf_long hb]; rfl
    have e2 : errV (numFault s.data.toList) = .iface 51 (.int .i64 2) := by unfold numFault; rw [numOf_long hb]; rfl
    rw [e1, e2]
    have hl2 : (2 : Int) < ((strOf (bareN s.data.toList)).size : Int) := by rw [strOf_size]; omega
    have hl3 : (strOf (bareN s.data.toList)).size ≤ 9223372036854775807 := by rw [strOf_size]; omega
    obtain ⟨t, ht⟩ : ∃ t, t = strOf (bareN s.data.toList) := ⟨_, rfl⟩
    rw [← ht] at HT hl2 hl3
    clear e1 e2 hb hbl hsz ht hz hL
    go_enter Tryz.func37, Tryz.ntmps37
    go_wp2_with (go_at_call 59; refine (HT.out _).mono ?_; rintro e w' ⟨rfl, rfl⟩)
    go_ret2
    exact ⟨rfl, Below.refl _ _⟩
  have hb2 : (bareN s.data.toList).length ≤ 2 := by omega
  have hl2 : ¬ (2 : Int) < ((strOf (bareN s.data.toList)).size : Int) := by rw [strOf_size]; omega
  have h18 : s.size ≤ 18 := by have := bare_size hb2; omega
  have hN := numOf_atoi hb2
  have hl3 : (strOf (bareN s.data.toList)).size ≤ 9223372036854775807 := by rw [strOf_size]; omega
  obtain ⟨t, ht⟩ : ∃ t, t = strOf (bareN s.data.toList) := ⟨_, rfl⟩
  rw [← ht] at HT hl2 hl3
  clear ht hb hbl
  rcases hA : Lib.atoi s.data.toList with _ | n
  · rw [hA] at hN
    have e1 : numIs s.data.toList = 0 := by unfold numIs; rw [hN]; rfl
    have e2 : errV (numFault s.data.toList) = .iface 51 (.int .i64 2) := by unfold numFault; rw [hN]; rfl
    rw [e1, e2]
    have HA : Hid (Calls Tryz.prog 60 #[.string s] w fun e w' => ∃ N, e = .returned (.tuple #[.int .i64 0, .iface 154 (.pointer (some ⟨N, 0, none⟩))]) ∧ Below w.heap.size w w') := atoi_none s h18 hA w hL
    clear e1 e2 hN hA h18 hsz hb2 hz hL
    go_enter Tryz.func37, Tryz.ntmps37
    go_wp2_with (first | (go_at_call 59; refine (HT.out _).mono ?_; rintro e w' ⟨rfl, rfl⟩) | (go_at_call 60; refine HA.out.mono ?_; rintro e w2 ⟨N, rfl, hbel⟩))
    go_ret2
    exact ⟨rfl, hbel⟩
  · rw [hA] at hN
    have hn := atoi_bare hb2 hA
    have HA : Hid (Calls Tryz.prog 60 #[.string s] w fun e w' => e = .returned (.tuple #[.int .i64 n, .nilIface]) ∧ Below w.heap.size w w') := atoi_some s n h18 hA w
    have HI : Hid (∀ W, Below w.heap.size w W → Calls Tryz.prog 25 #[.int .i64 n] W fun e w' => e = .returned (.string (strOf (numText n))) ∧ Below W.heap.size W w') := fun W h => itoa_any n hn.1 hn.2 W (hL.below h)
    by_cases he : numText n = s.data.toList
    · have e0 : numOf s.data.toList = some n := by rw [hN]; exact if_pos he
      have e1 : numIs s.data.toList = n := by unfold numIs; rw [e0]; rfl
      have e2 : errV (numFault s.data.toList) = .nilIface := by unfold numFault; rw [e0]; rfl
      rw [e1, e2]
      rw [he, strOf_data] at HI
      clear e0 e1 e2 hN hA h18 hsz hb2 he hn hz hL
      go_enter Tryz.func37, Tryz.ntmps37
      go_wp2_with (first | (go_at_call 59; refine (HT.out _).mono ?_; rintro e w' ⟨rfl, rfl⟩) | (go_at_call 60; refine HA.out.mono ?_; rintro e w2 ⟨rfl, hbel⟩; have HB2 : Hid (Below w.heap.size w w2) := hbel; clear hbel) | (go_at_call 25; refine (HI.out _ HB2.out).mono ?_; rintro e w3 ⟨rfl, hbel⟩; have HB3 : Hid (Below w.heap.size w w3) := HB2.out.trans (hbel.mono HB2.out.size); clear hbel))
      go_ret2
      exact ⟨rfl, HB3.out⟩
    · have e0 : numOf s.data.toList = none := by rw [hN]; exact if_neg he
      have e1 : numIs s.data.toList = 0 := by unfold numIs; rw [e0]; rfl
      have e2 : errV (numFault s.data.toList) = .iface 51 (.int .i64 2) := by unfold numFault; rw [e0]; rfl
      rw [e1, e2]
      have hq : ((strOf (numText n)).toList == s.toList) = false := by
        rw [Lib.toList_data, Lib.toList_data, strOf_list]
        simpa using he
      obtain ⟨x, hx⟩ : ∃ x, x = strOf (numText n) := ⟨_, rfl⟩
      rw [← hx] at HI hq
      clear e0 e1 e2 hN hA h18 hsz hb2 he hn hz hL hx
      go_enter Tryz.func37, Tryz.ntmps37
      go_wp2_with (first | (go_at_call 59; refine (HT.out _).mono ?_; rintro e w' ⟨rfl, rfl⟩) | (go_at_call 60; refine HA.out.mono ?_; rintro e w2 ⟨rfl, hbel⟩; have HB2 : Hid (Below w.heap.size w w2) := hbel; clear hbel) | (go_at_call 25; refine (HI.out _ HB2.out).mono ?_; rintro e w3 ⟨rfl, hbel⟩; have HB3 : Hid (Below w.heap.size w w3) := HB2.out.trans (hbel.mono HB2.out.size); clear hbel))
      go_ret2
      exact ⟨rfl, HB3.out⟩
end Go.Proofs.YtenmheenieifpabGreatDoor
