/-
  Proved: what the reference's functions Power, Has and Set return, and that they leave memory as it was.
  Proved: what the reference's functions of chapter 1 (Size, Do) return, and that they leave memory as it was.
  Proved: what the reference's Term and World return, of any row of signs and any world; what was in memory is as it was (contracts that the statements lean on).
  Proved: what vennref1.Atom returns, of any atom; what was in memory is as it was (a contract that the statements lean on). Written by program.
  Proved: what the reference's in and In return, of a right term and a right world; what was in memory is as it was (contracts that the statements lean on).
  Proved: what the reference's Value returns, of a right term and a right world; what was in memory is as it was (contracts that the statements lean on).
  Proved: what the reference's TermText and ReadTerm return, of a right term and of a text that is not too long; what was in memory is as it was (contracts that the statements lean on).
  Proved: what the reference's ReadTerm returns, of a text of at most 1048576 bytes; what was in memory is as it was (a contract that the statements lean on).
-/
import Derived.Test.YtenmheenieifpabGreatDoorRows
import Derived.Test.YtenmheenieifpabGreatDoorRefMath
import Derived.WalkKit
import Derived.ProofKit
import Derived.OpenShut
import Derived.Test.YtenmheenieifpabGreatDoorTermValue
import Derived.Test.YtenmheenieifpabGreatDoorTermRefMath
import Derived.Test.YtenmheenieifpabGreatDoorAtomCheck
import Derived.Test.YtenmheenieifpabGreatDoorTermParse
import Derived.Test.YtenmheenieifpabGreatDoorTermPrint
namespace Go.Proofs.YtenmheenieifpabGreatDoor
open Go.ChangeShapes Go.WideShapes Go.ChangeAt Go.RowKit
set_option maxRecDepth 100000

theorem ret_i {k : IntKind} {a b : Int} (h : a = b) : Ending.returned (.int k a) = .returned (.int k b) := by rw [h]
theorem ret_b {a b : Bool} (h : a = b) : Ending.returned (.bool a) = .returned (.bool b) := by rw [h]

theorem refPower_any (n : Nat) (hn : n ≤ 62) (w : World) :
    Calls Tryz.prog 50 #[.int .i64 n] w fun e w' => e = .returned (.int .i64 (pw n)) ∧ w = w' := by
  go_enter Tryz.func50, Tryz.ntmps50
  go_wp2
  go_loop [3, 4] (fun p i => ∃ k : Nat, k ≤ n ∧ i = .int .i64 k ∧ p = .int .i64 (pw k)) (fun _ i => n - (intOf i).toNat)
  case atStart => exact ⟨0, Nat.zero_le _, rfl, rfl⟩
  case round =>
    obtain ⟨k, hk, rfl, rfl⟩ := hrel
    by_cases hlt : k < n
    · have p1 := pw_pos k
      have p2 := pw_le61 (k := k) (by omega)
      have HS : Hid (pw (k + 1) = 2 * pw k) := pw_succ k
      go_wp2
      go_round
      case rel => exact ⟨k + 1, by omega, by go_num, by rw [HS.out]⟩
      case measure => simp [intOf]; omega
    · obtain rfl : k = n := by omega
      go_wp2
      go_ret
      exact ⟨rfl, rfl⟩

theorem refHas_any (s : Int) (i : Nat) (hs : 0 ≤ s) (hm : s ≤ 9223372036854775807) (hi : i ≤ 62) (w : World) :
    Calls Tryz.prog 52 #[.int .i64 s, .int .i64 i] w fun e w' => e = .returned (.bool (hasB s i)) ∧ w = w' := by
  have p1 := pw_pos i
  go_enter Tryz.func52, Tryz.ntmps52
  go_wp2_with (go_at_call 50; refine (refPower_any _ hi _).mono ?_; rintro e w' ⟨rfl, rfl⟩)
  go_ret
  exact ⟨ret_b (has_spell2 s i hs), rfl⟩

theorem refSet_ok (u s : Int) (h : okB u s = true) (w : World) :
    Calls Tryz.prog 26 #[.int .i64 u, .int .i64 s] w fun e w' => e = .returned (.int .i64 0) ∧ w = w' := by
  obtain ⟨h0, h1, h2, h3⟩ := okB_iff.1 h
  rw [allN_pw] at h3
  clear h
  obtain ⟨n, rfl⟩ := Int.eq_ofNat_of_zero_le h0
  rw [Int.toNat_natCast] at h3
  go_enter Tryz.func26, Tryz.ntmps26
  go_wp2_with (go_at_call 50; refine (refPower_any _ ?_ _).mono ?_; omega; rintro e w' ⟨rfl, rfl⟩)
  go_ret
  exact ⟨rfl, rfl⟩

theorem refSet_no (u s : Int) (h : okB u s = false) (w : World) :
    Calls Tryz.prog 26 #[.int .i64 u, .int .i64 s] w fun e w' => e = .returned (.int .i64 1) ∧ w = w' := by
  have h' := okB_not.1 h
  clear h
  by_cases h0 : u < 0
  · clear h'
    go_enter Tryz.func26, Tryz.ntmps26
    go_wp2_with fail
    go_ret
    exact ⟨rfl, rfl⟩
  by_cases h1 : 6 < u
  · clear h'
    go_enter Tryz.func26, Tryz.ntmps26
    go_wp2_with fail
    go_ret
    exact ⟨rfl, rfl⟩
  by_cases h2 : s < 0
  · clear h'
    go_enter Tryz.func26, Tryz.ntmps26
    go_wp2_with fail
    go_ret
    exact ⟨rfl, rfl⟩
  have h3 : allN u < s := by omega
  rw [allN_pw] at h3
  clear h'
  obtain ⟨n, rfl⟩ := Int.eq_ofNat_of_zero_le (show 0 ≤ u by omega)
  rw [Int.toNat_natCast] at h3
  go_enter Tryz.func26, Tryz.ntmps26
  go_wp2_with (go_at_call 50; refine (refPower_any _ ?_ _).mono ?_; omega; rintro e w' ⟨rfl, rfl⟩)
  go_ret
  exact ⟨rfl, rfl⟩

end Go.Proofs.YtenmheenieifpabGreatDoor

namespace Go.Proofs.YtenmheenieifpabGreatDoor
open Go.ChangeShapes Go.WideShapes Go.ChangeAt Go.RowKit
set_option maxRecDepth 100000

theorem refSize_any (s : Int) (hs : 0 ≤ s) (hm : s < 64) (w : World) :
    Calls Tryz.prog 28 #[.int .i64 s] w fun e w' => e = .returned (.int .i64 (pcN s)) ∧ w = w' := by
  have HE : Hid (pcTo s 6 = pcN s) := pcTo_six s hs hm
  go_enter Tryz.func28, Tryz.ntmps28
  go_wp2
  go_loop [3, 4] (fun n i => ∃ k : Nat, k ≤ 6 ∧ i = .int .i64 k ∧ n = .int .i64 (pcTo s k)) (fun _ i => 6 - (intOf i).toNat)
  case atStart => exact ⟨0, Nat.zero_le _, rfl, rfl⟩
  case round =>
    obtain ⟨k, hk, rfl, rfl⟩ := hrel
    have p1 := pcTo_le s k
    by_cases hlt : k < 6
    · by_cases hh : hasB s k = true
      · have HS : Hid (pcTo s (k + 1) = pcTo s k + 1) := by unfold Hid; rw [pcTo, if_pos hh]
        go_wp2_with (go_at_call 52; refine (refHas_any _ _ hs ?_ ?_ _).mono ?_; omega; omega; rintro e w' ⟨rfl, rfl⟩)
        go_round
        case rel => exact ⟨k + 1, by omega, by go_num, by rw [HS.out]⟩
        case measure => simp [intOf]; omega
      · have hh' : hasB s k = false := by simpa using hh
        have HS : Hid (pcTo s (k + 1) = pcTo s k) := by unfold Hid; rw [pcTo, if_neg hh]; omega
        clear hh
        go_wp2_with (go_at_call 52; refine (refHas_any _ _ hs ?_ ?_ _).mono ?_; omega; omega; rintro e w' ⟨rfl, rfl⟩)
        go_round
        case rel => exact ⟨k + 1, by omega, by go_num, by rw [HS.out]⟩
        case measure => simp [intOf]; omega
    · obtain rfl : k = 6 := by omega
      go_wp2
      go_ret
      exact ⟨ret_i HE.out, rfl⟩

theorem in5 (x y : Bool) : inB 5 x y = (x || y) := rfl
theorem in6 (x y : Bool) : inB 6 x y = (x && y) := rfl
theorem in7 (x y : Bool) : inB 7 x y = (x && !y) := rfl
theorem in8 (x y : Bool) : inB 8 x y = !x := rfl

set_option maxHeartbeats 1000000 in
theorem refDo_any (what u a b : Int) (hl : 5 ≤ what) (hm : what ≤ 8) (ha : okB u a = true) (hb : okB u b = true) (w : World) :
    Calls Tryz.prog 29 #[.int .i64 what, .int .i64 u, .int .i64 a, .int .i64 b] w fun e w' => e = .returned (.int .i64 (doN what u a b)) ∧ w = w' := by
  obtain ⟨u0, u1, a0, a1⟩ := okB_lt ha
  obtain ⟨_, _, b0, b1⟩ := okB_lt hb
  have HE : Hid (doTo what a b u.toNat = doN what u a b) := doTo_do what u a b hl hm ha hb
  clear ha hb
  obtain ⟨n, rfl⟩ := Int.eq_ofNat_of_zero_le u0
  clear u0
  have hd : what = 5 ∨ what = 6 ∨ what = 7 ∨ what = 8 := by omega
  clear hl hm
  go_enter Tryz.func29, Tryz.ntmps29
  go_wp2
  go_loop [9, 10] (fun s i => ∃ k : Nat, k ≤ n ∧ i = .int .i64 k ∧ s = .int .i64 (doTo what a b k)) (fun _ i => n - (intOf i).toNat)
  case atStart => exact ⟨0, Nat.zero_le _, rfl, rfl⟩
  case round =>
    obtain ⟨k, hk, rfl, rfl⟩ := hrel
    have p1 := doTo_le what a b k
    by_cases hlt : k < n
    · have p2 := pw_le6 (k := k) (by omega)
      have p3 := pw_pos k
      have HS : Hid (doTo what a b (k + 1) = doTo what a b k + if inB what (hasB a k) (hasB b k) = true then pw k else 0) := rfl
      rcases hd with rfl | rfl | rfl | rfl
      all_goals
        cases hx : hasB a k <;> cases hy : hasB b k
        all_goals
          go_wp2_with (first | (go_at_call 52; refine (refHas_any _ _ ?_ ?_ ?_ _).mono ?_; omega; omega; omega; rintro e w' ⟨rfl, rfl⟩) | (go_at_call 50; refine (refPower_any _ ?_ _).mono ?_; omega; rintro e w' ⟨rfl, rfl⟩))
          go_round
          case rel => exact ⟨k + 1, by omega, by go_num, by rw [HS.out, hx, hy]; simp [in5, in6, in7, in8]⟩
          case measure => simp [intOf]; omega
    · obtain rfl : k = n := by omega
      go_wp2
      go_ret
      exact ⟨ret_i HE.out, rfl⟩
end Go.Proofs.YtenmheenieifpabGreatDoor

namespace Go.Proofs.YtenmheenieifpabGreatDoor
open Go.ChangeShapes Go.WideShapes Go.ChangeAt Go.RowKit
set_option maxRecDepth 100000

theorem all_take_succ (t : List Int) {k : Nat} (h : k < t.length) : (t.take (k + 1)).all signB = ((t.take k).all signB && signB (t.getD k 0)) := by
  rw [take_succ_getD t h]; simp
theorem all_false_of {t : List Int} {k : Nat} (h : k < t.length) (hs : signB (t.getD k 0) = false) : ¬ t.all signB = true := by
  intro ha
  have := List.all_eq_true.1 ha (t.getD k 0) (by rw [List.getD_eq_getElem?_getD, List.getElem?_eq_getElem h]; exact List.getElem_mem h)
  rw [hs] at this; cases this

set_option maxRecDepth 100000 in
set_option maxHeartbeats 4000000 in
theorem refTerm_mid (b off cap : Nat) (t : List Int) (w : World) (h0 : 0 < t.length) (hl : t.length ≤ 12) (hc : ∀ k, k < t.length → w.cell? ⟨b, off + k, none⟩ = some (.int .i64 (t.getD k 0))) :
    Calls Tryz.prog 18 #[.slice (some ⟨b, off, none⟩) t.length cap] w fun e w' => e = .returned (.int .i64 (faultN t)) ∧ w = w' := by
  have HC : Hid (∀ k, k < t.length → w.cell? ⟨b, off + k, none⟩ = some (.int .i64 (t.getD k 0))) := hc
  clear hc
  obtain ⟨n, hn⟩ : ∃ n, n = t.length := ⟨_, rfl⟩
  rw [← hn] at h0 hl ⊢
  have HN : Hid (n = t.length) := hn
  obtain ⟨F, hF⟩ : ∃ F, F = faultN t := ⟨_, rfl⟩
  rw [← hF]
  have HF : Hid (F = if t.all signB = true then (if cnt t 0 = some 1 then 0 else 3) else 1) := by
    unfold Hid; rw [hF]; unfold faultN; rw [if_neg (by omega), if_neg (by omega)]
  clear hn hF
  go_enter Tryz.func18, Tryz.ntmps18
  go_wp2
  go_loop [3] (fun i => ∃ k : Nat, k ≤ n ∧ i = .int .i64 k ∧ (t.take k).all signB = true) (fun i => n - (intOf i).toNat)
  case atStart => exact ⟨0, Nat.zero_le _, rfl, by simp⟩
  case round =>
    obtain ⟨k, hk, rfl, hall⟩ := hrel
    have HA : Hid ((t.take k).all signB = true) := hall
    clear hall
    by_cases hlt : k < n
    · obtain ⟨s, hs⟩ : ∃ s, s = t.getD k 0 := ⟨_, rfl⟩
      have hkt : k < t.length := by rw [← HN.out]; exact hlt
      have hc := HC.out k hkt
      rw [← hs] at hc
      by_cases hlo : s < 0
      · have HE : Hid (1 = F) := by
          have := all_false_of hkt (by rw [← hs]; simp [signB]; omega)
          unfold Hid; rw [HF.out, if_neg this]
        clear hs hkt
        go_wp2
        go_ret
        exact ⟨back_i HE.out, rfl⟩
      by_cases hhi : 8 < s
      · have HE : Hid (1 = F) := by
          have := all_false_of hkt (by rw [← hs]; simp [signB]; omega)
          unfold Hid; rw [HF.out, if_neg this]
        clear hs hkt
        go_wp2
        go_ret
        exact ⟨back_i HE.out, rfl⟩
      have HA2 : Hid ((t.take (k + 1)).all signB = true) := by
        have : signB s = true := by simp [signB]; omega
        unfold Hid; rw [all_take_succ t hkt, HA.out, ← hs, this]; rfl
      clear hs hkt
      go_wp2
      go_round
      case rel => exact ⟨k + 1, by omega, by go_num, HA2.out⟩
      case measure => simp [intOf]; omega
    · have HAll : Hid (t.all signB = true) := by
        have := HA.out
        rw [List.take_of_length_le (by have := HN.out; omega)] at this
        exact this
      clear HA
      go_wp2
      go_loop [4, 5] (fun c i => ∃ (k : Nat) (m : Int), k ≤ n ∧ i = .int .i64 k ∧ c = .int .i64 m ∧ cnt (t.take k) 0 = some m) (fun _ i => n - (intOf i).toNat)
      case atStart => exact ⟨0, 0, Nat.zero_le _, rfl, rfl, rfl⟩
      case round =>
        clear hlt hk
        obtain ⟨k, m, hk, rfl, rfl, hm⟩ := hrel
        have HM : Hid (cnt (t.take k) 0 = some m) := hm
        have hm0 : 0 ≤ m ∧ m ≤ 12 := by
          have := cnt_nonneg (Int.le_refl 0) hm
          simp at this
          omega
        clear hm
        by_cases hlt : k < n
        · obtain ⟨s, hs⟩ : ∃ s, s = t.getD k 0 := ⟨_, rfl⟩
          have hkt : k < t.length := by rw [← HN.out]; exact hlt
          have hc := HC.out k hkt
          rw [← hs] at hc
          have hsg : 0 ≤ s ∧ s ≤ 8 := by
            refine signB_iff.1 (List.all_eq_true.1 HAll.out s ?_)
            rw [hs, List.getD_eq_getElem?_getD, List.getElem?_eq_getElem hkt]; exact List.getElem_mem hkt
          have HD : Hid (cnt (t.take (k + 1)) 0 = if m < takesN s then none else some (m + 1 - takesN s)) := by
            have := cnt_take_succ t hkt HM.out
            rw [← hs] at this; exact this
          have HNo : Hid (m < takesN s → 3 = F) := fun hb => by
            have h1 := HD.out
            rw [if_pos hb] at h1
            have h2 := cnt_take_none t (k + 1) h1
            rw [HF.out, if_pos HAll.out, if_neg (by rw [h2]; simp)]
          have HYes : Hid (¬ m < takesN s → cnt (t.take (k + 1)) 0 = some (m + 1 - takesN s)) := fun hb => by
            have h1 := HD.out
            rw [if_neg hb] at h1; exact h1
          clear hs hkt HD
          by_cases h5 : s < 5
          · have HE : Hid (cnt (t.take (k + 1)) 0 = some (m + 1)) := by
              have := HYes.out (by rw [takes5 s h5]; omega)
              rw [takes5 s h5] at this; rw [show m + 1 = m + 1 - 0 by omega]; exact this
            go_wp2
            go_round
            case rel => exact ⟨k + 1, _, by omega, by go_num, rfl, HE.out⟩
            case measure => simp [intOf]; omega
          by_cases h8 : s < 8
          · have ht := takes2 s (by omega) (by omega)
            by_cases hb : m < 2
            · have HE : Hid (3 = F) := HNo.out (by rw [ht]; exact hb)
              clear ht
              by_cases hb1 : m < 1
              · go_wp2
                go_ret
                exact ⟨back_i HE.out, rfl⟩
              · go_wp2
                go_ret
                exact ⟨back_i HE.out, rfl⟩
            · have HE : Hid (cnt (t.take (k + 1)) 0 = some (m - 1)) := by
                have := HYes.out (by rw [ht]; omega)
                rw [ht] at this; rw [show m - 1 = m + 1 - 2 by omega]; exact this
              have hb1 : ¬ m < 1 := by omega
              clear ht
              go_wp2
              go_round
              case rel => exact ⟨k + 1, _, by omega, by go_num, rfl, HE.out⟩
              case measure => simp [intOf]; omega
          · obtain rfl : s = 8 := by omega
            by_cases hb : m < 1
            · have HE : Hid (3 = F) := HNo.out (by rw [takes1]; exact hb)
              go_wp2
              go_ret
              exact ⟨back_i HE.out, rfl⟩
            · have HE : Hid (cnt (t.take (k + 1)) 0 = some m) := by
                have := HYes.out (by rw [takes1]; exact hb)
                rw [takes1] at this; rw [show m = m + 1 - 1 by omega]; exact this
              go_wp2
              go_round
              case rel => exact ⟨k + 1, _, by omega, by go_num, rfl, HE.out⟩
              case measure => simp [intOf]; omega
        · have HE : Hid (cnt t 0 = some m) := by
            have h1 := HM.out
            rw [List.take_of_length_le (by have := HN.out; omega)] at h1; exact h1
          by_cases h1 : m = 1
          · have HG : Hid (0 = F) := by unfold Hid; rw [HF.out, if_pos HAll.out, HE.out, if_pos (by rw [h1])]
            subst h1
            go_wp2
            go_ret
            exact ⟨back_i HG.out, rfl⟩
          · have HG : Hid (3 = F) := by unfold Hid; rw [HF.out, if_pos HAll.out, HE.out, if_neg (by simpa using h1)]
            have h1' : (m != 1) = true := by simpa using h1
            clear h1
            go_wp2
            go_ret
            exact ⟨back_i HG.out, rfl⟩

theorem refTerm_any (t : List Int) (v : Value) (w : World) (h : Reads w v t) :
    Calls Tryz.prog 18 #[v] w fun e w' => e = .returned (.int .i64 (faultN t)) ∧ w = w' := by
  rcases h with ⟨ao, cap, rfl, rfl⟩ | ⟨b, off, cap, rfl, -, h0, ⟨hl, _⟩, hc⟩
  · go_enter Tryz.func18, Tryz.ntmps18
    go_wp2
    go_ret
    exact ⟨rfl, rfl⟩
  · by_cases h12 : 12 < t.length
    · have e : faultN t = 4 := by unfold faultN; rw [if_neg (by omega), if_pos h12]
      rw [e]
      clear e hc
      obtain ⟨n, hn⟩ : ∃ n, n = t.length := ⟨_, rfl⟩
      rw [← hn] at h0 hl h12 ⊢
      clear hn
      go_enter Tryz.func18, Tryz.ntmps18
      go_wp2
      go_ret
      exact ⟨rfl, rfl⟩
    · exact refTerm_mid b off cap t w h0 (by omega) hc

theorem quiet_set_ok (u s : Int) (h : okB u s = true) (W : World) : Calls Tryz.prog 26 #[.int .i64 u, .int .i64 s] W fun e w' => e = .returned (.int .i64 0) ∧ w' = W := (refSet_ok u s h W).mono fun _ _ h => (And.intro h.1 h.2.symm)
theorem quiet_set_no (u s : Int) (h : okB u s = false) (W : World) : Calls Tryz.prog 26 #[.int .i64 u, .int .i64 s] W fun e w' => e = .returned (.int .i64 1) ∧ w' = W := (refSet_no u s h W).mono fun _ _ h => (And.intro h.1 h.2.symm)

set_option maxRecDepth 100000 in
set_option maxHeartbeats 4000000 in
theorem refWorld_any (u a b c : Int) (w : World) :
    Calls Tryz.prog 10 #[.agg #[.int .i64 u, .int .i64 a, .int .i64 b, .int .i64 c]] w fun e w' => e = .returned (.int .i64 (if (Wd.mk u a b c).ok = true then 0 else 1)) ∧ Below w.heap.size w w' := by
  obtain ⟨w1, hw1⟩ : ∃ w1, w1 = w.alloc (.cells #[.int .i64 u, .int .i64 a, .int .i64 b, .int .i64 c] 27) := ⟨_, rfl⟩
  obtain ⟨K, hK⟩ : ∃ K, K = w.heap.size + 1 := ⟨_, rfl⟩
  have HK1 : Hid (w1.heap.size = K) := by unfold Hid; rw [hw1, hK]; simp
  have HX : Hid (w1.cell? ⟨w.heap.size, 0, none⟩ = some (.int .i64 u) ∧ w1.cell? ⟨w.heap.size, 1, none⟩ = some (.int .i64 a) ∧ w1.cell? ⟨w.heap.size, 2, none⟩ = some (.int .i64 b) ∧ w1.cell? ⟨w.heap.size, 3, none⟩ = some (.int .i64 c)) := by
    unfold Hid; rw [hw1]; simp
  have HBK : Hid (w.heap.size < K) := by unfold Hid; omega
  have HW : Hid (Below w.heap.size w w1) := by unfold Hid; rw [hw1]; exact below_alloc1 _ _
  have HKs : Hid (w.heap.size ≤ K) := by unfold Hid; omega
  clear hK
  obtain ⟨R, hR⟩ : ∃ R : Int, R = if (Wd.mk u a b c).ok = true then 0 else 1 := ⟨_, rfl⟩
  rw [← hR]
  have HE : Hid ((okB u a = true → okB u b = true → okB u c = true → 0 = R) ∧ ((okB u a = false ∨ okB u b = false ∨ okB u c = false) → 1 = R)) := by
    refine ⟨fun h1 h2 h3 => ?_, fun h => ?_⟩
    · rw [hR, if_pos (Wd.ok_iff.2 ⟨h1, h2, h3⟩)]
    · have ho : ¬ (Wd.mk u a b c).ok = true := by
        intro ho
        obtain ⟨h1, h2, h3⟩ := Wd.ok_iff.1 ho
        simp only at h1 h2 h3
        rw [h1, h2, h3] at h
        simp at h
      rw [hR, if_neg ho]
  clear hR
  go_enter Tryz.func10, Tryz.ntmps10
  go_wp2
  rw [← hw1]
  clear hw1
  go_loopw [3] (fun i wr => ∃ k : Nat, k ≤ 3 ∧ i = .int .i64 k ∧ Below K w1 wr ∧ (1 ≤ k → okB u a = true) ∧ (2 ≤ k → okB u b = true) ∧ (3 ≤ k → okB u c = true)) (fun i _ => 3 - (intOf i).toNat)
  case atStart => exact ⟨0, Nat.zero_le _, rfl, Below.refl _ _, by omega, by omega, by omega⟩
  case round =>
    obtain ⟨k, hk, rfl, hbel, k1, k2, k3⟩ := hrel
    have x0 : wr.cell? ⟨w.heap.size, 0, none⟩ = some (.int .i64 u) := by rw [hbel.cell HBK.out]; exact HX.out.1
    have x1 : wr.cell? ⟨w.heap.size, 1, none⟩ = some (.int .i64 a) := by rw [hbel.cell HBK.out]; exact HX.out.2.1
    have x2 : wr.cell? ⟨w.heap.size, 2, none⟩ = some (.int .i64 b) := by rw [hbel.cell HBK.out]; exact HX.out.2.2.1
    have x3 : wr.cell? ⟨w.heap.size, 3, none⟩ = some (.int .i64 c) := by rw [hbel.cell HBK.out]; exact HX.out.2.2.2
    have HB : Hid (Below K w1 wr) := hbel
    have HKw : Hid (K ≤ wr.heap.size) := by unfold Hid; rw [← HK1.out]; exact hbel.size
    clear hbel
    obtain rfl | rfl | rfl | rfl : k = 0 ∨ k = 1 ∨ k = 2 ∨ k = 3 := by omega
    · clear k1 k2 k3 hk
      rcases (Bool.eq_false_or_eq_true (okB u a)).symm with ho | ho
      · have HO : Hid (okB u a = false) := ho
        clear ho
        go_wp2_with fail
        go_quiet (first | (go_at_call 26; exact Calls.quiet_of_same (quiet_set_no _ _ HO.out _)))
        go_wp2
        go_ret
        exact ⟨back_i (HE.out.2 (Or.inl HO.out)), HW.out.trans ((HB.out.mono HKs.out).trans ((below_drewNs _ _).mono (Nat.le_trans HKs.out HKw.out)))⟩
      · have HO : Hid (okB u a = true) := ho
        clear ho
        go_wp2_with fail
        go_quiet (first | (go_at_call 26; exact Calls.quiet_of_same (quiet_set_ok _ _ HO.out _)))
        go_wp2
        go_roundw
        case rel => exact ⟨1, by omega, by go_num, HB.out.trans ((below_drewNs _ _).mono HKw.out), fun _ => HO.out, fun h => by omega, fun h => by omega⟩
        case measure => simp [intOf]
    · have HO1 : Hid (okB u a = true) := k1 (by omega)
      clear k1 k2 k3 hk
      rcases (Bool.eq_false_or_eq_true (okB u b)).symm with ho | ho
      · have HO : Hid (okB u b = false) := ho
        clear ho
        go_wp2_with fail
        go_quiet (first | (go_at_call 26; exact Calls.quiet_of_same (quiet_set_no _ _ HO.out _)))
        go_wp2
        go_ret
        exact ⟨back_i (HE.out.2 (Or.inr (Or.inl HO.out))), HW.out.trans ((HB.out.mono HKs.out).trans ((below_drewNs _ _).mono (Nat.le_trans HKs.out HKw.out)))⟩
      · have HO : Hid (okB u b = true) := ho
        clear ho
        go_wp2_with fail
        go_quiet (first | (go_at_call 26; exact Calls.quiet_of_same (quiet_set_ok _ _ HO.out _)))
        go_wp2
        go_roundw
        case rel => exact ⟨2, by omega, by go_num, HB.out.trans ((below_drewNs _ _).mono HKw.out), fun _ => HO1.out, fun _ => HO.out, fun h => by omega⟩
        case measure => simp [intOf]
    · have HO1 : Hid (okB u a = true) := k1 (by omega)
      have HO2 : Hid (okB u b = true) := k2 (by omega)
      clear k1 k2 k3 hk
      rcases (Bool.eq_false_or_eq_true (okB u c)).symm with ho | ho
      · have HO : Hid (okB u c = false) := ho
        clear ho
        go_wp2_with fail
        go_quiet (first | (go_at_call 26; exact Calls.quiet_of_same (quiet_set_no _ _ HO.out _)))
        go_wp2
        go_ret
        exact ⟨back_i (HE.out.2 (Or.inr (Or.inr HO.out))), HW.out.trans ((HB.out.mono HKs.out).trans ((below_drewNs _ _).mono (Nat.le_trans HKs.out HKw.out)))⟩
      · have HO : Hid (okB u c = true) := ho
        clear ho
        go_wp2_with fail
        go_quiet (first | (go_at_call 26; exact Calls.quiet_of_same (quiet_set_ok _ _ HO.out _)))
        go_wp2
        go_roundw
        case rel => exact ⟨3, by omega, by go_num, HB.out.trans ((below_drewNs _ _).mono HKw.out), fun _ => HO1.out, fun _ => HO2.out, fun _ => HO.out⟩
        case measure => simp [intOf]
    · have HO : Hid (okB u a = true ∧ okB u b = true ∧ okB u c = true) := ⟨k1 (by omega), k2 (by omega), k3 (by omega)⟩
      clear k1 k2 k3 hk
      go_wp2
      go_ret
      exact ⟨back_i (HE.out.1 HO.out.1 HO.out.2.1 HO.out.2.2), HW.out.trans (HB.out.mono HKs.out)⟩
end Go.Proofs.YtenmheenieifpabGreatDoor

namespace Go.Proofs.YtenmheenieifpabGreatDoor
open Go.ChangeShapes Go.WideShapes Go.ChangeAt Go.RowKit
set_option maxRecDepth 100000

set_option linter.unusedVariables false in
set_option maxHeartbeats 4000000 in
theorem refAtom_1 (n : Int) (sao tao : Option Addr) (sl scap tl tcap : Nat) (s t : List Int) (hl : tl = t.length) (w : World)
    (hS : ∀ W, Below w.heap.size w W → Calls Tryz.prog 18 #[.slice sao sl scap] W fun e w' => e = .returned (.int .i64 (faultN s)) ∧ W = w')
    (hT : ∀ W, Below w.heap.size w W → Calls Tryz.prog 18 #[.slice tao tl tcap] W fun e w' => e = .returned (.int .i64 (faultN t)) ∧ W = w') :
    Calls Tryz.prog 5 #[.agg #[.int .i64 1, .slice sao sl scap, .slice tao tl tcap, .int .i64 n]] w fun e w' => e = .returned (.int .i64 (atomFault 1 s t n)) ∧ Below w.heap.size w w' := by
  obtain ⟨w1, hw1⟩ : ∃ w1, w1 = w.alloc (.cells #[.int .i64 1, .slice sao sl scap, .slice tao tl tcap, .int .i64 n] 24) := ⟨_, rfl⟩
  have HB1 : Hid (Below w.heap.size w w1) := by unfold Hid; rw [hw1]; exact below_alloc1 w _
  obtain ⟨x0, x1, x2, x3⟩ : w1.cell? ⟨w.heap.size, 0, none⟩ = some (.int .i64 1) ∧ w1.cell? ⟨w.heap.size, 1, none⟩ = some (.slice sao sl scap) ∧ w1.cell? ⟨w.heap.size, 2, none⟩ = some (.slice tao tl tcap) ∧ w1.cell? ⟨w.heap.size, 3, none⟩ = some (.int .i64 n) := by rw [hw1]; simp
  have HS : Hid (Calls Tryz.prog 18 #[.slice sao sl scap] w1 fun e w' => e = .returned (.int .i64 (faultN s)) ∧ w1 = w') := hS w1 HB1.out
  have HT : Hid (Calls Tryz.prog 18 #[.slice tao tl tcap] w1 fun e w' => e = .returned (.int .i64 (faultN t)) ∧ w1 = w') := hT w1 HB1.out
  have HL : Hid (tl = t.length) := hl
  clear hS hT hl
  have hk : (1 : Int) ≤ 1 ∧ (1 : Int) ≤ 5 := by decide
  obtain ⟨F, hF⟩ : ∃ F, F = atomFault 1 s t n := ⟨_, rfl⟩
  rw [← hF]
  by_cases hs : faultN s = 0
  · rw [hs] at HS
    by_cases ht : faultN t = 0
    · rw [ht] at HT
      have hsf : secondFault 1 t = 0 := by unfold secondFault; rw [if_pos (by decide), ht]
      clear ht
      rw [atomFault_third hk hs hsf] at hF
      have hmo : mostN 1 = 0 := by decide
      rw [hmo] at hF
      clear hmo hs hsf
      by_cases h1 : n < -20
      · rw [if_neg (by omega)] at hF
        subst hF
        go_enter Tryz.func5, Tryz.ntmps5
        go_wp2_with fail
        rw [← hw1]
        clear hw1
        go_at_call 18
        refine HS.out.mono ?_
        rintro e w' ⟨rfl, rfl⟩
        go_wp2_with fail
        go_at_call 18
        refine HT.out.mono ?_
        rintro e w' ⟨rfl, rfl⟩
        go_wp2
        go_ret
        exact ⟨rfl, HB1.out⟩
      by_cases h2 : 20 < n
      · rw [if_neg (by omega)] at hF
        subst hF
        go_enter Tryz.func5, Tryz.ntmps5
        go_wp2_with fail
        rw [← hw1]
        clear hw1
        go_at_call 18
        refine HS.out.mono ?_
        rintro e w' ⟨rfl, rfl⟩
        go_wp2_with fail
        go_at_call 18
        refine HT.out.mono ?_
        rintro e w' ⟨rfl, rfl⟩
        go_wp2
        go_ret
        exact ⟨rfl, HB1.out⟩
      by_cases h3 : n = 0
      · rw [if_pos (by omega)] at hF
        subst hF h3
        go_enter Tryz.func5, Tryz.ntmps5
        go_wp2_with fail
        rw [← hw1]
        clear hw1
        go_at_call 18
        refine HS.out.mono ?_
        rintro e w' ⟨rfl, rfl⟩
        go_wp2_with fail
        go_at_call 18
        refine HT.out.mono ?_
        rintro e w' ⟨rfl, rfl⟩
        go_wp2
        go_ret
        exact ⟨rfl, HB1.out⟩
      · have h3' : (n != 0) = true := by simpa using h3
        rw [if_neg (by omega)] at hF
        subst hF
        go_enter Tryz.func5, Tryz.ntmps5
        go_wp2_with fail
        rw [← hw1]
        clear hw1
        go_at_call 18
        refine HS.out.mono ?_
        rintro e w' ⟨rfl, rfl⟩
        go_wp2_with fail
        go_at_call 18
        refine HT.out.mono ?_
        rintro e w' ⟨rfl, rfl⟩
        go_wp2
        go_ret
        exact ⟨rfl, HB1.out⟩
    · have hsf : secondFault 1 t = faultN t := by unfold secondFault; rw [if_pos (by decide)]
      rw [atomFault_second hk hs (by rw [hsf]; exact ht), hsf] at hF
      rw [← hF] at HT ht
      have ht' : (F != 0) = true := by simpa using ht
      clear hF ht hsf hs
      go_enter Tryz.func5, Tryz.ntmps5
      go_wp2_with fail
      rw [← hw1]
      clear hw1
      go_at_call 18
      refine HS.out.mono ?_
      rintro e w' ⟨rfl, rfl⟩
      go_wp2_with fail
      go_at_call 18
      refine HT.out.mono ?_
      rintro e w' ⟨rfl, rfl⟩
      go_wp2
      go_ret
      exact ⟨rfl, HB1.out⟩
  · rw [atomFault_first hk hs] at hF
    rw [← hF] at HS hs
    have hs' : (F != 0) = true := by simpa using hs
    clear hF hs
    go_enter Tryz.func5, Tryz.ntmps5
    go_wp2_with fail
    rw [← hw1]
    clear hw1
    go_at_call 18
    refine HS.out.mono ?_
    rintro e w' ⟨rfl, rfl⟩
    go_wp2
    go_ret
    exact ⟨rfl, HB1.out⟩

set_option linter.unusedVariables false in
set_option maxHeartbeats 4000000 in
theorem refAtom_2 (n : Int) (sao tao : Option Addr) (sl scap tl tcap : Nat) (s t : List Int) (hl : tl = t.length) (w : World)
    (hS : ∀ W, Below w.heap.size w W → Calls Tryz.prog 18 #[.slice sao sl scap] W fun e w' => e = .returned (.int .i64 (faultN s)) ∧ W = w')
    (hT : ∀ W, Below w.heap.size w W → Calls Tryz.prog 18 #[.slice tao tl tcap] W fun e w' => e = .returned (.int .i64 (faultN t)) ∧ W = w') :
    Calls Tryz.prog 5 #[.agg #[.int .i64 2, .slice sao sl scap, .slice tao tl tcap, .int .i64 n]] w fun e w' => e = .returned (.int .i64 (atomFault 2 s t n)) ∧ Below w.heap.size w w' := by
  obtain ⟨w1, hw1⟩ : ∃ w1, w1 = w.alloc (.cells #[.int .i64 2, .slice sao sl scap, .slice tao tl tcap, .int .i64 n] 24) := ⟨_, rfl⟩
  have HB1 : Hid (Below w.heap.size w w1) := by unfold Hid; rw [hw1]; exact below_alloc1 w _
  obtain ⟨x0, x1, x2, x3⟩ : w1.cell? ⟨w.heap.size, 0, none⟩ = some (.int .i64 2) ∧ w1.cell? ⟨w.heap.size, 1, none⟩ = some (.slice sao sl scap) ∧ w1.cell? ⟨w.heap.size, 2, none⟩ = some (.slice tao tl tcap) ∧ w1.cell? ⟨w.heap.size, 3, none⟩ = some (.int .i64 n) := by rw [hw1]; simp
  have HS : Hid (Calls Tryz.prog 18 #[.slice sao sl scap] w1 fun e w' => e = .returned (.int .i64 (faultN s)) ∧ w1 = w') := hS w1 HB1.out
  have HT : Hid (Calls Tryz.prog 18 #[.slice tao tl tcap] w1 fun e w' => e = .returned (.int .i64 (faultN t)) ∧ w1 = w') := hT w1 HB1.out
  have HL : Hid (tl = t.length) := hl
  clear hS hT hl
  have hk : (1 : Int) ≤ 2 ∧ (2 : Int) ≤ 5 := by decide
  obtain ⟨F, hF⟩ : ∃ F, F = atomFault 2 s t n := ⟨_, rfl⟩
  rw [← hF]
  by_cases hs : faultN s = 0
  · rw [hs] at HS
    by_cases ht : faultN t = 0
    · rw [ht] at HT
      have hsf : secondFault 2 t = 0 := by unfold secondFault; rw [if_pos (by decide), ht]
      clear ht
      rw [atomFault_third hk hs hsf] at hF
      have hmo : mostN 2 = 0 := by decide
      rw [hmo] at hF
      clear hmo hs hsf
      by_cases h1 : n < -20
      · rw [if_neg (by omega)] at hF
        subst hF
        go_enter Tryz.func5, Tryz.ntmps5
        go_wp2_with fail
        rw [← hw1]
        clear hw1
        go_at_call 18
        refine HS.out.mono ?_
        rintro e w' ⟨rfl, rfl⟩
        go_wp2_with fail
        go_at_call 18
        refine HT.out.mono ?_
        rintro e w' ⟨rfl, rfl⟩
        go_wp2
        go_ret
        exact ⟨rfl, HB1.out⟩
      by_cases h2 : 20 < n
      · rw [if_neg (by omega)] at hF
        subst hF
        go_enter Tryz.func5, Tryz.ntmps5
        go_wp2_with fail
        rw [← hw1]
        clear hw1
        go_at_call 18
        refine HS.out.mono ?_
        rintro e w' ⟨rfl, rfl⟩
        go_wp2_with fail
        go_at_call 18
        refine HT.out.mono ?_
        rintro e w' ⟨rfl, rfl⟩
        go_wp2
        go_ret
        exact ⟨rfl, HB1.out⟩
      by_cases h3 : n = 0
      · rw [if_pos (by omega)] at hF
        subst hF h3
        go_enter Tryz.func5, Tryz.ntmps5
        go_wp2_with fail
        rw [← hw1]
        clear hw1
        go_at_call 18
        refine HS.out.mono ?_
        rintro e w' ⟨rfl, rfl⟩
        go_wp2_with fail
        go_at_call 18
        refine HT.out.mono ?_
        rintro e w' ⟨rfl, rfl⟩
        go_wp2
        go_ret
        exact ⟨rfl, HB1.out⟩
      · have h3' : (n != 0) = true := by simpa using h3
        rw [if_neg (by omega)] at hF
        subst hF
        go_enter Tryz.func5, Tryz.ntmps5
        go_wp2_with fail
        rw [← hw1]
        clear hw1
        go_at_call 18
        refine HS.out.mono ?_
        rintro e w' ⟨rfl, rfl⟩
        go_wp2_with fail
        go_at_call 18
        refine HT.out.mono ?_
        rintro e w' ⟨rfl, rfl⟩
        go_wp2
        go_ret
        exact ⟨rfl, HB1.out⟩
    · have hsf : secondFault 2 t = faultN t := by unfold secondFault; rw [if_pos (by decide)]
      rw [atomFault_second hk hs (by rw [hsf]; exact ht), hsf] at hF
      rw [← hF] at HT ht
      have ht' : (F != 0) = true := by simpa using ht
      clear hF ht hsf hs
      go_enter Tryz.func5, Tryz.ntmps5
      go_wp2_with fail
      rw [← hw1]
      clear hw1
      go_at_call 18
      refine HS.out.mono ?_
      rintro e w' ⟨rfl, rfl⟩
      go_wp2_with fail
      go_at_call 18
      refine HT.out.mono ?_
      rintro e w' ⟨rfl, rfl⟩
      go_wp2
      go_ret
      exact ⟨rfl, HB1.out⟩
  · rw [atomFault_first hk hs] at hF
    rw [← hF] at HS hs
    have hs' : (F != 0) = true := by simpa using hs
    clear hF hs
    go_enter Tryz.func5, Tryz.ntmps5
    go_wp2_with fail
    rw [← hw1]
    clear hw1
    go_at_call 18
    refine HS.out.mono ?_
    rintro e w' ⟨rfl, rfl⟩
    go_wp2
    go_ret
    exact ⟨rfl, HB1.out⟩

set_option linter.unusedVariables false in
set_option maxHeartbeats 4000000 in
theorem refAtom_3 (n : Int) (sao tao : Option Addr) (sl scap tl tcap : Nat) (s t : List Int) (hl : tl = t.length) (w : World)
    (hS : ∀ W, Below w.heap.size w W → Calls Tryz.prog 18 #[.slice sao sl scap] W fun e w' => e = .returned (.int .i64 (faultN s)) ∧ W = w')
    (hT : ∀ W, Below w.heap.size w W → Calls Tryz.prog 18 #[.slice tao tl tcap] W fun e w' => e = .returned (.int .i64 (faultN t)) ∧ W = w') :
    Calls Tryz.prog 5 #[.agg #[.int .i64 3, .slice sao sl scap, .slice tao tl tcap, .int .i64 n]] w fun e w' => e = .returned (.int .i64 (atomFault 3 s t n)) ∧ Below w.heap.size w w' := by
  obtain ⟨w1, hw1⟩ : ∃ w1, w1 = w.alloc (.cells #[.int .i64 3, .slice sao sl scap, .slice tao tl tcap, .int .i64 n] 24) := ⟨_, rfl⟩
  have HB1 : Hid (Below w.heap.size w w1) := by unfold Hid; rw [hw1]; exact below_alloc1 w _
  obtain ⟨x0, x1, x2, x3⟩ : w1.cell? ⟨w.heap.size, 0, none⟩ = some (.int .i64 3) ∧ w1.cell? ⟨w.heap.size, 1, none⟩ = some (.slice sao sl scap) ∧ w1.cell? ⟨w.heap.size, 2, none⟩ = some (.slice tao tl tcap) ∧ w1.cell? ⟨w.heap.size, 3, none⟩ = some (.int .i64 n) := by rw [hw1]; simp
  have HS : Hid (Calls Tryz.prog 18 #[.slice sao sl scap] w1 fun e w' => e = .returned (.int .i64 (faultN s)) ∧ w1 = w') := hS w1 HB1.out
  have HT : Hid (Calls Tryz.prog 18 #[.slice tao tl tcap] w1 fun e w' => e = .returned (.int .i64 (faultN t)) ∧ w1 = w') := hT w1 HB1.out
  have HL : Hid (tl = t.length) := hl
  clear hS hT hl
  have hk : (1 : Int) ≤ 3 ∧ (3 : Int) ≤ 5 := by decide
  obtain ⟨F, hF⟩ : ∃ F, F = atomFault 3 s t n := ⟨_, rfl⟩
  rw [← hF]
  by_cases hs : faultN s = 0
  · rw [hs] at HS
    by_cases ht : 0 < t.length
    · have hsf : secondFault 3 t = 3 := by unfold secondFault; rw [if_neg (by decide), if_pos ht]
      rw [atomFault_second hk hs (by rw [hsf]; decide), hsf] at hF
      rw [← HL.out] at ht
      subst hF
      clear hsf hs
      go_enter Tryz.func5, Tryz.ntmps5
      go_wp2_with fail
      rw [← hw1]
      clear hw1
      go_at_call 18
      refine HS.out.mono ?_
      rintro e w' ⟨rfl, rfl⟩
      go_wp2
      go_ret
      exact ⟨rfl, HB1.out⟩
    · have hsf : secondFault 3 t = 0 := by unfold secondFault; rw [if_neg (by decide), if_neg ht]
      obtain rfl : tl = 0 := by have := HL.out; omega
      clear ht
      rw [atomFault_third hk hs hsf] at hF
      have hmo : mostN 3 = 20 := by decide
      rw [hmo] at hF
      clear hmo hs hsf
      by_cases h1 : n < -20
      · rw [if_neg (by omega)] at hF
        subst hF
        go_enter Tryz.func5, Tryz.ntmps5
        go_wp2_with fail
        rw [← hw1]
        clear hw1
        go_at_call 18
        refine HS.out.mono ?_
        rintro e w' ⟨rfl, rfl⟩
        go_wp2
        go_ret
        exact ⟨rfl, HB1.out⟩
      by_cases h2 : 20 < n
      · rw [if_neg (by omega)] at hF
        subst hF
        go_enter Tryz.func5, Tryz.ntmps5
        go_wp2_with fail
        rw [← hw1]
        clear hw1
        go_at_call 18
        refine HS.out.mono ?_
        rintro e w' ⟨rfl, rfl⟩
        go_wp2
        go_ret
        exact ⟨rfl, HB1.out⟩
      rw [if_pos (by omega)] at hF
      subst hF
      go_enter Tryz.func5, Tryz.ntmps5
      go_wp2_with fail
      rw [← hw1]
      clear hw1
      go_at_call 18
      refine HS.out.mono ?_
      rintro e w' ⟨rfl, rfl⟩
      go_wp2
      go_ret
      exact ⟨rfl, HB1.out⟩
  · rw [atomFault_first hk hs] at hF
    rw [← hF] at HS hs
    have hs' : (F != 0) = true := by simpa using hs
    clear hF hs
    go_enter Tryz.func5, Tryz.ntmps5
    go_wp2_with fail
    rw [← hw1]
    clear hw1
    go_at_call 18
    refine HS.out.mono ?_
    rintro e w' ⟨rfl, rfl⟩
    go_wp2
    go_ret
    exact ⟨rfl, HB1.out⟩

set_option linter.unusedVariables false in
set_option maxHeartbeats 4000000 in
theorem refAtom_4 (n : Int) (sao tao : Option Addr) (sl scap tl tcap : Nat) (s t : List Int) (hl : tl = t.length) (w : World)
    (hS : ∀ W, Below w.heap.size w W → Calls Tryz.prog 18 #[.slice sao sl scap] W fun e w' => e = .returned (.int .i64 (faultN s)) ∧ W = w')
    (hT : ∀ W, Below w.heap.size w W → Calls Tryz.prog 18 #[.slice tao tl tcap] W fun e w' => e = .returned (.int .i64 (faultN t)) ∧ W = w') :
    Calls Tryz.prog 5 #[.agg #[.int .i64 4, .slice sao sl scap, .slice tao tl tcap, .int .i64 n]] w fun e w' => e = .returned (.int .i64 (atomFault 4 s t n)) ∧ Below w.heap.size w w' := by
  obtain ⟨w1, hw1⟩ : ∃ w1, w1 = w.alloc (.cells #[.int .i64 4, .slice sao sl scap, .slice tao tl tcap, .int .i64 n] 24) := ⟨_, rfl⟩
  have HB1 : Hid (Below w.heap.size w w1) := by unfold Hid; rw [hw1]; exact below_alloc1 w _
  obtain ⟨x0, x1, x2, x3⟩ : w1.cell? ⟨w.heap.size, 0, none⟩ = some (.int .i64 4) ∧ w1.cell? ⟨w.heap.size, 1, none⟩ = some (.slice sao sl scap) ∧ w1.cell? ⟨w.heap.size, 2, none⟩ = some (.slice tao tl tcap) ∧ w1.cell? ⟨w.heap.size, 3, none⟩ = some (.int .i64 n) := by rw [hw1]; simp
  have HS : Hid (Calls Tryz.prog 18 #[.slice sao sl scap] w1 fun e w' => e = .returned (.int .i64 (faultN s)) ∧ w1 = w') := hS w1 HB1.out
  have HT : Hid (Calls Tryz.prog 18 #[.slice tao tl tcap] w1 fun e w' => e = .returned (.int .i64 (faultN t)) ∧ w1 = w') := hT w1 HB1.out
  have HL : Hid (tl = t.length) := hl
  clear hS hT hl
  have hk : (1 : Int) ≤ 4 ∧ (4 : Int) ≤ 5 := by decide
  obtain ⟨F, hF⟩ : ∃ F, F = atomFault 4 s t n := ⟨_, rfl⟩
  rw [← hF]
  by_cases hs : faultN s = 0
  · rw [hs] at HS
    by_cases ht : 0 < t.length
    · have hsf : secondFault 4 t = 3 := by unfold secondFault; rw [if_neg (by decide), if_pos ht]
      rw [atomFault_second hk hs (by rw [hsf]; decide), hsf] at hF
      rw [← HL.out] at ht
      subst hF
      clear hsf hs
      go_enter Tryz.func5, Tryz.ntmps5
      go_wp2_with fail
      rw [← hw1]
      clear hw1
      go_at_call 18
      refine HS.out.mono ?_
      rintro e w' ⟨rfl, rfl⟩
      go_wp2
      go_ret
      exact ⟨rfl, HB1.out⟩
    · have hsf : secondFault 4 t = 0 := by unfold secondFault; rw [if_neg (by decide), if_neg ht]
      obtain rfl : tl = 0 := by have := HL.out; omega
      clear ht
      rw [atomFault_third hk hs hsf] at hF
      have hmo : mostN 4 = 20 := by decide
      rw [hmo] at hF
      clear hmo hs hsf
      by_cases h1 : n < -20
      · rw [if_neg (by omega)] at hF
        subst hF
        go_enter Tryz.func5, Tryz.ntmps5
        go_wp2_with fail
        rw [← hw1]
        clear hw1
        go_at_call 18
        refine HS.out.mono ?_
        rintro e w' ⟨rfl, rfl⟩
        go_wp2
        go_ret
        exact ⟨rfl, HB1.out⟩
      by_cases h2 : 20 < n
      · rw [if_neg (by omega)] at hF
        subst hF
        go_enter Tryz.func5, Tryz.ntmps5
        go_wp2_with fail
        rw [← hw1]
        clear hw1
        go_at_call 18
        refine HS.out.mono ?_
        rintro e w' ⟨rfl, rfl⟩
        go_wp2
        go_ret
        exact ⟨rfl, HB1.out⟩
      rw [if_pos (by omega)] at hF
      subst hF
      go_enter Tryz.func5, Tryz.ntmps5
      go_wp2_with fail
      rw [← hw1]
      clear hw1
      go_at_call 18
      refine HS.out.mono ?_
      rintro e w' ⟨rfl, rfl⟩
      go_wp2
      go_ret
      exact ⟨rfl, HB1.out⟩
  · rw [atomFault_first hk hs] at hF
    rw [← hF] at HS hs
    have hs' : (F != 0) = true := by simpa using hs
    clear hF hs
    go_enter Tryz.func5, Tryz.ntmps5
    go_wp2_with fail
    rw [← hw1]
    clear hw1
    go_at_call 18
    refine HS.out.mono ?_
    rintro e w' ⟨rfl, rfl⟩
    go_wp2
    go_ret
    exact ⟨rfl, HB1.out⟩

set_option linter.unusedVariables false in
set_option maxHeartbeats 4000000 in
theorem refAtom_5 (n : Int) (sao tao : Option Addr) (sl scap tl tcap : Nat) (s t : List Int) (hl : tl = t.length) (w : World)
    (hS : ∀ W, Below w.heap.size w W → Calls Tryz.prog 18 #[.slice sao sl scap] W fun e w' => e = .returned (.int .i64 (faultN s)) ∧ W = w')
    (hT : ∀ W, Below w.heap.size w W → Calls Tryz.prog 18 #[.slice tao tl tcap] W fun e w' => e = .returned (.int .i64 (faultN t)) ∧ W = w') :
    Calls Tryz.prog 5 #[.agg #[.int .i64 5, .slice sao sl scap, .slice tao tl tcap, .int .i64 n]] w fun e w' => e = .returned (.int .i64 (atomFault 5 s t n)) ∧ Below w.heap.size w w' := by
  obtain ⟨w1, hw1⟩ : ∃ w1, w1 = w.alloc (.cells #[.int .i64 5, .slice sao sl scap, .slice tao tl tcap, .int .i64 n] 24) := ⟨_, rfl⟩
  have HB1 : Hid (Below w.heap.size w w1) := by unfold Hid; rw [hw1]; exact below_alloc1 w _
  obtain ⟨x0, x1, x2, x3⟩ : w1.cell? ⟨w.heap.size, 0, none⟩ = some (.int .i64 5) ∧ w1.cell? ⟨w.heap.size, 1, none⟩ = some (.slice sao sl scap) ∧ w1.cell? ⟨w.heap.size, 2, none⟩ = some (.slice tao tl tcap) ∧ w1.cell? ⟨w.heap.size, 3, none⟩ = some (.int .i64 n) := by rw [hw1]; simp
  have HS : Hid (Calls Tryz.prog 18 #[.slice sao sl scap] w1 fun e w' => e = .returned (.int .i64 (faultN s)) ∧ w1 = w') := hS w1 HB1.out
  have HT : Hid (Calls Tryz.prog 18 #[.slice tao tl tcap] w1 fun e w' => e = .returned (.int .i64 (faultN t)) ∧ w1 = w') := hT w1 HB1.out
  have HL : Hid (tl = t.length) := hl
  clear hS hT hl
  have hk : (1 : Int) ≤ 5 ∧ (5 : Int) ≤ 5 := by decide
  obtain ⟨F, hF⟩ : ∃ F, F = atomFault 5 s t n := ⟨_, rfl⟩
  rw [← hF]
  by_cases hs : faultN s = 0
  · rw [hs] at HS
    by_cases ht : faultN t = 0
    · rw [ht] at HT
      have hsf : secondFault 5 t = 0 := by unfold secondFault; rw [if_pos (by decide), ht]
      clear ht
      rw [atomFault_third hk hs hsf] at hF
      have hmo : mostN 5 = 20 := by decide
      rw [hmo] at hF
      clear hmo hs hsf
      by_cases h1 : n < -20
      · rw [if_neg (by omega)] at hF
        subst hF
        go_enter Tryz.func5, Tryz.ntmps5
        go_wp2_with fail
        rw [← hw1]
        clear hw1
        go_at_call 18
        refine HS.out.mono ?_
        rintro e w' ⟨rfl, rfl⟩
        go_wp2_with fail
        go_at_call 18
        refine HT.out.mono ?_
        rintro e w' ⟨rfl, rfl⟩
        go_wp2
        go_ret
        exact ⟨rfl, HB1.out⟩
      by_cases h2 : 20 < n
      · rw [if_neg (by omega)] at hF
        subst hF
        go_enter Tryz.func5, Tryz.ntmps5
        go_wp2_with fail
        rw [← hw1]
        clear hw1
        go_at_call 18
        refine HS.out.mono ?_
        rintro e w' ⟨rfl, rfl⟩
        go_wp2_with fail
        go_at_call 18
        refine HT.out.mono ?_
        rintro e w' ⟨rfl, rfl⟩
        go_wp2
        go_ret
        exact ⟨rfl, HB1.out⟩
      rw [if_pos (by omega)] at hF
      subst hF
      go_enter Tryz.func5, Tryz.ntmps5
      go_wp2_with fail
      rw [← hw1]
      clear hw1
      go_at_call 18
      refine HS.out.mono ?_
      rintro e w' ⟨rfl, rfl⟩
      go_wp2_with fail
      go_at_call 18
      refine HT.out.mono ?_
      rintro e w' ⟨rfl, rfl⟩
      go_wp2
      go_ret
      exact ⟨rfl, HB1.out⟩
    · have hsf : secondFault 5 t = faultN t := by unfold secondFault; rw [if_pos (by decide)]
      rw [atomFault_second hk hs (by rw [hsf]; exact ht), hsf] at hF
      rw [← hF] at HT ht
      have ht' : (F != 0) = true := by simpa using ht
      clear hF ht hsf hs
      go_enter Tryz.func5, Tryz.ntmps5
      go_wp2_with fail
      rw [← hw1]
      clear hw1
      go_at_call 18
      refine HS.out.mono ?_
      rintro e w' ⟨rfl, rfl⟩
      go_wp2_with fail
      go_at_call 18
      refine HT.out.mono ?_
      rintro e w' ⟨rfl, rfl⟩
      go_wp2
      go_ret
      exact ⟨rfl, HB1.out⟩
  · rw [atomFault_first hk hs] at hF
    rw [← hF] at HS hs
    have hs' : (F != 0) = true := by simpa using hs
    clear hF hs
    go_enter Tryz.func5, Tryz.ntmps5
    go_wp2_with fail
    rw [← hw1]
    clear hw1
    go_at_call 18
    refine HS.out.mono ?_
    rintro e w' ⟨rfl, rfl⟩
    go_wp2
    go_ret
    exact ⟨rfl, HB1.out⟩

/-- Atom, whatever the atom. -/
theorem refAtom_any (k n : Int) (vs vt : Value) (s t : List Int) (w : World) (hS : Reads w vs s) (hT : Reads w vt t) :
    Calls Tryz.prog 5 #[.agg #[.int .i64 k, vs, vt, .int .i64 n]] w fun e w' => e = .returned (.int .i64 (atomFault k s t n)) ∧ Below w.heap.size w w' := by
  have h1 := fun (W : World) (hW : Below w.heap.size w W) => refTerm_any s vs W (hS.below hW)
  have h2 := fun (W : World) (hW : Below w.heap.size w W) => refTerm_any t vt W (hT.below hW)
  obtain ⟨sao, scap, rfl, _⟩ := hS.slice
  obtain ⟨tao, tcap, rfl, _⟩ := hT.slice
  by_cases hk : 1 ≤ k ∧ k ≤ 5
  · rcases five hk.1 hk.2 with rfl | rfl | rfl | rfl | rfl
    · exact refAtom_1 n sao tao _ scap _ tcap s t rfl w h1 h2
    · exact refAtom_2 n sao tao _ scap _ tcap s t rfl w h1 h2
    · exact refAtom_3 n sao tao _ scap _ tcap s t rfl w h1 h2
    · exact refAtom_4 n sao tao _ scap _ tcap s t rfl w h1 h2
    · exact refAtom_5 n sao tao _ scap _ tcap s t rfl w h1 h2
  · rw [atomFault_kind hk]
    obtain ⟨sl, hsl⟩ : ∃ sl, sl = s.length := ⟨_, rfl⟩
    obtain ⟨tl, htl⟩ : ∃ tl, tl = t.length := ⟨_, rfl⟩
    rw [← hsl, ← htl]
    clear hS hT h1 h2 hsl htl
    by_cases h1 : k < 1
    · go_enter Tryz.func5, Tryz.ntmps5
      go_wp2
      go_ret
      exact ⟨rfl, below_alloc1 _ _⟩
    · have h2 : 5 < k := by omega
      go_enter Tryz.func5, Tryz.ntmps5
      go_wp2
      go_ret
      exact ⟨rfl, below_alloc1 _ _⟩
end Go.Proofs.YtenmheenieifpabGreatDoor

namespace Go.Proofs.YtenmheenieifpabGreatDoor
open Go.ChangeShapes Go.WideShapes Go.ChangeAt Go.RowKit
set_option maxRecDepth 100000

/-- the row q lies in w at a place. -/
def Lies (w : World) (B off : Nat) (q : List Int) : Prop := B < w.heap.size ∧ ∀ k, k < q.length → w.cell? ⟨B, off + k, none⟩ = some (.int .i64 (q.getD k 0))
theorem Lies.below {w w' : World} {B off : Nat} {q : List Int} (h : Lies w B off q) (hb : Below w.heap.size w w') : Lies w' B off q :=
  ⟨Nat.lt_of_lt_of_le h.1 hb.size, fun k hk => by rw [hb.cell h.1]; exact h.2 k hk⟩
theorem Lies.front {w : World} {B off : Nat} {q l : List Int} (h : Lies w B off (q ++ l)) : Lies w B off q :=
  ⟨h.1, fun k hk => by
    rw [h.2 k (by rw [List.length_append]; omega)]
    simp [List.getElem?_append_left hk]⟩
theorem Lies.last {w : World} {B off : Nat} {q : List Int} {s : Int} (h : Lies w B off (q ++ [s])) : w.cell? ⟨B, off + q.length, none⟩ = some (.int .i64 s) := by
  rw [h.2 q.length (by simp)]; simp
theorem name_le {w : Wd} (h : w.ok = true) (s : Int) : 0 ≤ w.name s ∧ w.name s < 64 := by
  obtain ⟨_, _, h1, h2⟩ := okB_lt (ok_name h s); exact ⟨h1, h2⟩
theorem back_bs {a b : Bool} {v : Value} (h : a = b) : Ending.returned (.tuple #[.bool a, v]) = .returned (.tuple #[.bool b, v]) := by rw [h]

set_option maxRecDepth 100000 in
set_option maxHeartbeats 4000000 in
theorem in_leaf (s : Int) (h0 : 0 ≤ s) (h4 : s ≤ 4) (m B off cap i : Nat) (u a b c : Int) (w : World) (hok : (Wd.mk u a b c).ok = true) (hi : (i : Int) < u) (hm : m ≤ 12) (hcap : m + 1 ≤ cap) (hB : B < w.heap.size) (hc : w.cell? ⟨B, off + m, none⟩ = some (.int .i64 s)) :
    Calls Tryz.prog 73 #[.slice (some ⟨B, off, none⟩) (m + 1) cap, .agg #[.int .i64 u, .int .i64 a, .int .i64 b, .int .i64 c], .int .i64 i] w fun e w' => e = .returned (.tuple #[.bool (hasB ((Wd.mk u a b c).val [s]) i), .slice (some ⟨B, off, none⟩) m cap]) ∧ Below w.heap.size w w' := by
  have HL : Hid (hasB ((Wd.mk u a b c).val [s]) i = if s < 3 then hasB ((Wd.mk u a b c).name s) i else s == 4) := has_leaf hok s h0 h4 i hi
  have hu := ok_u hok
  simp only at hu
  have hi6 : i ≤ 6 := by omega
  have HH : Hid (∀ s W, Calls Tryz.prog 52 #[.int .i64 ((Wd.mk u a b c).name s), .int .i64 i] W fun e w' => e = .returned (.bool (hasB ((Wd.mk u a b c).name s) i)) ∧ W = w') := fun s W => refHas_any _ i (name_le hok s).1 (by have := (name_le hok s).2; omega) (by omega) W
  have d0 : (w.alloc (.cells #[.int .i64 u, .int .i64 a, .int .i64 b, .int .i64 c] 27)).cell? ⟨B, off + m, none⟩ = some (.int .i64 s) := by
    rw [World.cell?_alloc_lt _ _ ⟨B, off + m, none⟩ hB]; exact hc
  have hle : (m : Int) ≤ (cap : Int) := by omega
  obtain ⟨V, hV⟩ : ∃ V, V = hasB ((Wd.mk u a b c).val [s]) i := ⟨_, rfl⟩
  rw [← hV] at HL ⊢
  clear hV hc hB hok hu hi
  have hd : s = 0 ∨ s = 1 ∨ s = 2 ∨ s = 3 ∨ s = 4 := by omega
  clear h0 h4
  rcases hd with rfl | rfl | rfl | rfl | rfl
  · have HA : Hid (∀ W, Calls Tryz.prog 52 #[.int .i64 a, .int .i64 i] W fun e w' => e = .returned (.bool V) ∧ W = w') := fun W => by rw [HL.out]; exact HH.out 0 W
    go_enter Tryz.func73, Tryz.ntmps73
    go_wp2_with (go_at_call 52; refine (HA.out _).mono ?_; rintro e w' ⟨rfl, rfl⟩)
    go_ret2
    exact ⟨rfl, below_alloc1 _ _⟩
  · have HA : Hid (∀ W, Calls Tryz.prog 52 #[.int .i64 b, .int .i64 i] W fun e w' => e = .returned (.bool V) ∧ W = w') := fun W => by rw [HL.out]; exact HH.out 1 W
    go_enter Tryz.func73, Tryz.ntmps73
    go_wp2_with (go_at_call 52; refine (HA.out _).mono ?_; rintro e w' ⟨rfl, rfl⟩)
    go_ret2
    exact ⟨rfl, below_alloc1 _ _⟩
  · have HA : Hid (∀ W, Calls Tryz.prog 52 #[.int .i64 c, .int .i64 i] W fun e w' => e = .returned (.bool V) ∧ W = w') := fun W => by rw [HL.out]; exact HH.out 2 W
    go_enter Tryz.func73, Tryz.ntmps73
    go_wp2_with (go_at_call 52; refine (HA.out _).mono ?_; rintro e w' ⟨rfl, rfl⟩)
    go_ret2
    exact ⟨rfl, below_alloc1 _ _⟩
  · go_enter Tryz.func73, Tryz.ntmps73
    go_wp2_with fail
    go_ret2
    exact ⟨back_bs HL.out.symm, below_alloc1 _ _⟩
  · go_enter Tryz.func73, Tryz.ntmps73
    go_wp2_with fail
    go_ret2
    exact ⟨back_bs HL.out.symm, below_alloc1 _ _⟩

set_option maxRecDepth 100000 in
set_option maxHeartbeats 4000000 in
/-- behind one call of itself. -/
theorem in_opp (m p B off cap i : Nat) (u a b c : Int) (x : Bool) (w : World) (hm : m ≤ 12) (hcap : m + 1 ≤ cap) (hB : B < w.heap.size) (hc : w.cell? ⟨B, off + m, none⟩ = some (.int .i64 8))
    (ih : ∀ W, Below w.heap.size w W → Calls Tryz.prog 73 #[.slice (some ⟨B, off, none⟩) m cap, .agg #[.int .i64 u, .int .i64 a, .int .i64 b, .int .i64 c], .int .i64 i] W fun e w' => e = .returned (.tuple #[.bool x, .slice (some ⟨B, off, none⟩) p cap]) ∧ Below W.heap.size W w') :
    Calls Tryz.prog 73 #[.slice (some ⟨B, off, none⟩) (m + 1) cap, .agg #[.int .i64 u, .int .i64 a, .int .i64 b, .int .i64 c], .int .i64 i] w fun e w' => e = .returned (.tuple #[.bool (!x), .slice (some ⟨B, off, none⟩) p cap]) ∧ Below w.heap.size w w' := by
  have HI : Hid (Calls Tryz.prog 73 #[.slice (some ⟨B, off, none⟩) m cap, .agg #[.int .i64 u, .int .i64 a, .int .i64 b, .int .i64 c], .int .i64 i] (w.alloc (.cells #[.int .i64 u, .int .i64 a, .int .i64 b, .int .i64 c] 27)) fun e w' => e = .returned (.tuple #[.bool x, .slice (some ⟨B, off, none⟩) p cap]) ∧ Below (w.alloc (.cells #[.int .i64 u, .int .i64 a, .int .i64 b, .int .i64 c] 27)).heap.size (w.alloc (.cells #[.int .i64 u, .int .i64 a, .int .i64 b, .int .i64 c] 27)) w') := ih _ (below_alloc1 _ _)
  have HA : Hid (Below w.heap.size w (w.alloc (.cells #[.int .i64 u, .int .i64 a, .int .i64 b, .int .i64 c] 27))) := below_alloc1 _ _
  have d0 : (w.alloc (.cells #[.int .i64 u, .int .i64 a, .int .i64 b, .int .i64 c] 27)).cell? ⟨B, off + m, none⟩ = some (.int .i64 8) := by
    rw [World.cell?_alloc_lt _ _ ⟨B, off + m, none⟩ hB]; exact hc
  have hle : (m : Int) ≤ (cap : Int) := by omega
  clear hc hB ih
  go_enter Tryz.func73, Tryz.ntmps73
  go_wp2_with (go_at_call 73; refine HI.out.mono ?_; rintro e w2 ⟨rfl, hb⟩)
  go_ret2
  exact ⟨rfl, HA.out.trans (hb.mono HA.out.size)⟩

set_option maxRecDepth 100000 in
set_option maxHeartbeats 4000000 in
/-- behind two calls of itself. -/
theorem in_two (s : Int) (h5 : 5 ≤ s) (h7 : s ≤ 7) (m p q B off cap i : Nat) (u a b c : Int) (x y : Bool) (w : World) (hm : m ≤ 12) (hcap : m + 1 ≤ cap) (hB : B < w.heap.size) (hc : w.cell? ⟨B, off + m, none⟩ = some (.int .i64 s))
    (ihy : ∀ W, Below w.heap.size w W → Calls Tryz.prog 73 #[.slice (some ⟨B, off, none⟩) m cap, .agg #[.int .i64 u, .int .i64 a, .int .i64 b, .int .i64 c], .int .i64 i] W fun e w' => e = .returned (.tuple #[.bool y, .slice (some ⟨B, off, none⟩) q cap]) ∧ Below W.heap.size W w')
    (ihx : ∀ W, Below w.heap.size w W → Calls Tryz.prog 73 #[.slice (some ⟨B, off, none⟩) q cap, .agg #[.int .i64 u, .int .i64 a, .int .i64 b, .int .i64 c], .int .i64 i] W fun e w' => e = .returned (.tuple #[.bool x, .slice (some ⟨B, off, none⟩) p cap]) ∧ Below W.heap.size W w') :
    Calls Tryz.prog 73 #[.slice (some ⟨B, off, none⟩) (m + 1) cap, .agg #[.int .i64 u, .int .i64 a, .int .i64 b, .int .i64 c], .int .i64 i] w fun e w' => e = .returned (.tuple #[.bool (inB s x y), .slice (some ⟨B, off, none⟩) p cap]) ∧ Below w.heap.size w w' := by
  obtain ⟨w1, hw1⟩ : ∃ w1, w1 = w.alloc (.cells #[.int .i64 u, .int .i64 a, .int .i64 b, .int .i64 c] 27) := ⟨_, rfl⟩
  have HA : Hid (Below w.heap.size w w1) := by unfold Hid; rw [hw1]; exact below_alloc1 _ _
  have HI : Hid (Calls Tryz.prog 73 #[.slice (some ⟨B, off, none⟩) m cap, .agg #[.int .i64 u, .int .i64 a, .int .i64 b, .int .i64 c], .int .i64 i] w1 fun e w' => e = .returned (.tuple #[.bool y, .slice (some ⟨B, off, none⟩) q cap]) ∧ Below w1.heap.size w1 w') := ihy _ HA.out
  have HX : Hid (∀ W, Below w.heap.size w W → Calls Tryz.prog 73 #[.slice (some ⟨B, off, none⟩) q cap, .agg #[.int .i64 u, .int .i64 a, .int .i64 b, .int .i64 c], .int .i64 i] W fun e w' => e = .returned (.tuple #[.bool x, .slice (some ⟨B, off, none⟩) p cap]) ∧ Below W.heap.size W w') := ihx
  have HC : Hid (∀ W, Below w1.heap.size w1 W → W.cell? ⟨w.heap.size, 0, none⟩ = some (.int .i64 u) ∧ W.cell? ⟨w.heap.size, 1, none⟩ = some (.int .i64 a) ∧ W.cell? ⟨w.heap.size, 2, none⟩ = some (.int .i64 b) ∧ W.cell? ⟨w.heap.size, 3, none⟩ = some (.int .i64 c)) := fun W hc => by
    have hlt : w.heap.size < w1.heap.size := by rw [hw1]; simp
    rw [hc.cell (p := ⟨w.heap.size, 0, none⟩) hlt, hc.cell (p := ⟨w.heap.size, 1, none⟩) hlt, hc.cell (p := ⟨w.heap.size, 2, none⟩) hlt, hc.cell (p := ⟨w.heap.size, 3, none⟩) hlt, hw1]
    simp
  have d0 : w1.cell? ⟨B, off + m, none⟩ = some (.int .i64 s) := by
    rw [hw1, World.cell?_alloc_lt _ _ ⟨B, off + m, none⟩ hB]; exact hc
  have hle : (m : Int) ≤ (cap : Int) := by omega
  clear hc hB ihx ihy
  have hd : s = 5 ∨ s = 6 ∨ s = 7 := by omega
  clear h5 h7
  rcases hd with rfl | rfl | rfl
  all_goals
    rw [hw1] at d0
    go_enter Tryz.func73, Tryz.ntmps73
    go_wp2_with fail
    rw [← hw1]
    rw [← hw1] at d0
    clear hw1
    go_at_call 73
    refine HI.out.mono ?_
    rintro e w2 ⟨rfl, hb⟩
    have HB2 : Hid (Below w.heap.size w w2) := HA.out.trans (hb.mono HA.out.size)
    obtain ⟨x0, x1, x2, x3⟩ := HC.out _ hb
    clear hb
    go_wp2_with fail
    go_at_call 73
    refine (HX.out _ HB2.out).mono ?_
    rintro e w3 ⟨rfl, hb3⟩
    have HB3 : Hid (Below w.heap.size w w3) := HB2.out.trans (hb3.mono HB2.out.size)
    clear hb3 x0 x1 x2 x3
    cases x <;> cases y
    all_goals
      go_wp2
      go_ret2
      exact ⟨rfl, HB3.out⟩

theorem in_any (i : Nat) (u a b c : Int) (hok : (Wd.mk u a b c).ok = true) (hi : (i : Int) < u) (B off cap : Nat) (n : Nat) :
    ∀ (q : List Int), isTm n q → ∀ (pre : List Int) (w : World), (pre ++ q).length ≤ 12 → (pre ++ q).length ≤ cap → Lies w B off (pre ++ q) →
    Calls Tryz.prog 73 #[.slice (some ⟨B, off, none⟩) (pre ++ q).length cap, .agg #[.int .i64 u, .int .i64 a, .int .i64 b, .int .i64 c], .int .i64 i] w fun e w' => e = .returned (.tuple #[.bool (hasB ((Wd.mk u a b c).val q) i), .slice (some ⟨B, off, none⟩) pre.length cap]) ∧ Below w.heap.size w w' := by
  induction n with
  | zero => intro q h; exact h.elim
  | succ n ih =>
    intro q h pre w h12 hcap hL
    rcases h with ⟨s, h0, h4, rfl⟩ | ⟨t, ht, rfl⟩ | ⟨s, A, C, h5, h7, hA, hC, rfl⟩
    · have e : (pre ++ [s]).length = pre.length + 1 := by simp
      rw [e] at h12 hcap ⊢
      exact in_leaf s h0 h4 pre.length B off cap i u a b c w hok hi (by omega) hcap hL.1 hL.last
    · have e0 : pre ++ (t ++ [8]) = (pre ++ t) ++ [8] := by simp
      have e : (pre ++ (t ++ [8])).length = (pre ++ t).length + 1 := by rw [e0, List.length_append]; rfl
      rw [e] at h12 hcap ⊢
      rw [e0] at hL
      rw [has_opp hok ht i hi]
      exact in_opp (pre ++ t).length pre.length B off cap i u a b c _ w (by omega) hcap hL.1 hL.last (fun W hb => ih t ht pre W (by omega) (by omega) (hL.front.below hb))
    · have e0 : pre ++ (A ++ (C ++ [s])) = ((pre ++ A) ++ C) ++ [s] := by simp
      have e : (pre ++ (A ++ (C ++ [s]))).length = ((pre ++ A) ++ C).length + 1 := by rw [e0, List.length_append]; rfl
      have e2 : ((pre ++ A) ++ C).length = (pre ++ A).length + C.length := by rw [List.length_append]
      rw [e] at h12 hcap ⊢
      rw [e0] at hL
      rw [has_two hok h5 h7 hA hC i hi]
      exact in_two s h5 h7 ((pre ++ A) ++ C).length pre.length (pre ++ A).length B off cap i u a b c _ _ w (by omega) hcap hL.1 hL.last
        (fun W hb => ih C hC (pre ++ A) W (by omega) (by omega) (hL.front.below hb)) (fun W hb => ih A hA pre W (by omega) (by omega) (hL.front.front.below hb))

theorem In_any (t : List Int) (hf : faultN t = 0) (i : Nat) (u a b c : Int) (hok : (Wd.mk u a b c).ok = true) (hi : (i : Int) < u) (B off cap : Nat) (hcap : t.length ≤ cap) (w : World) (hL : Lies w B off t) :
    Calls Tryz.prog 51 #[.slice (some ⟨B, off, none⟩) t.length cap, .agg #[.int .i64 u, .int .i64 a, .int .i64 b, .int .i64 c], .int .i64 i] w fun e w' => e = .returned (.bool (hasB ((Wd.mk u a b c).val t) i)) ∧ Below w.heap.size w w' := by
  obtain ⟨_, h12, hs, h1⟩ := fault_zero.1 hf
  obtain ⟨k, hk⟩ := tree t hs h1
  have HI : Hid (Calls Tryz.prog 73 #[.slice (some ⟨B, off, none⟩) t.length cap, .agg #[.int .i64 u, .int .i64 a, .int .i64 b, .int .i64 c], .int .i64 i] (w.alloc (.cells #[.int .i64 u, .int .i64 a, .int .i64 b, .int .i64 c] 27)) fun e w' => e = .returned (.tuple #[.bool (hasB ((Wd.mk u a b c).val t) i), .slice (some ⟨B, off, none⟩) 0 cap]) ∧ Below (w.alloc (.cells #[.int .i64 u, .int .i64 a, .int .i64 b, .int .i64 c] 27)).heap.size (w.alloc (.cells #[.int .i64 u, .int .i64 a, .int .i64 b, .int .i64 c] 27)) w') := by
    have hL' := hL.below (below_alloc1 w (.cells #[.int .i64 u, .int .i64 a, .int .i64 b, .int .i64 c] 27))
    exact in_any i u a b c hok hi B off cap k t hk [] _ h12 hcap hL'
  have HA : Hid (Below w.heap.size w (w.alloc (.cells #[.int .i64 u, .int .i64 a, .int .i64 b, .int .i64 c] 27))) := below_alloc1 _ _
  obtain ⟨V, hV⟩ : ∃ V, V = hasB ((Wd.mk u a b c).val t) i := ⟨_, rfl⟩
  rw [← hV] at HI ⊢
  obtain ⟨n, hn⟩ : ∃ n, n = t.length := ⟨_, rfl⟩
  rw [← hn] at HI ⊢
  clear hV hn hk hL hcap hi hok h1 hs h12 hf
  go_enter Tryz.func51, Tryz.ntmps51
  go_wp2_with (go_at_call 73; refine HI.out.mono ?_; rintro e w2 ⟨rfl, hb⟩)
  go_ret
  exact ⟨rfl, HA.out.trans (hb.mono HA.out.size)⟩
end Go.Proofs.YtenmheenieifpabGreatDoor

namespace Go.Proofs.YtenmheenieifpabGreatDoor
open Go.ChangeShapes Go.WideShapes Go.ChangeAt Go.RowKit
set_option maxRecDepth 100000

set_option maxRecDepth 100000 in
set_option maxHeartbeats 4000000 in
theorem refValue_any (t : List Int) (hf : faultN t = 0) (u a b c : Int) (hok : (Wd.mk u a b c).ok = true) (B off cap : Nat) (hcap : t.length ≤ cap) (w : World) (hL : Lies w B off t) :
    Calls Tryz.prog 27 #[.slice (some ⟨B, off, none⟩) t.length cap, .agg #[.int .i64 u, .int .i64 a, .int .i64 b, .int .i64 c]] w fun e w' => e = .returned (.int .i64 ((Wd.mk u a b c).val t)) ∧ Below w.heap.size w w' := by
  have hv := ok_val hok t
  simp only at hv
  obtain ⟨hu0, hu6, _, _⟩ := okB_lt hv
  have HS : Hid (sumTo ((Wd.mk u a b c).val t) u.toNat = (Wd.mk u a b c).val t) := sumTo_all hv
  have HIn : Hid (∀ i : Nat, (i : Int) < u → ∀ W, Below w.heap.size w W → Calls Tryz.prog 51 #[.slice (some ⟨B, off, none⟩) t.length cap, .agg #[.int .i64 u, .int .i64 a, .int .i64 b, .int .i64 c], .int .i64 i] W fun e w' => e = .returned (.bool (hasB ((Wd.mk u a b c).val t) i)) ∧ Below W.heap.size W w') := fun i hi W hb => In_any t hf i u a b c hok hi B off cap hcap W (hL.below hb)
  obtain ⟨V, hV⟩ : ∃ V, V = (Wd.mk u a b c).val t := ⟨_, rfl⟩
  rw [← hV] at HS HIn ⊢
  obtain ⟨n, hn⟩ : ∃ n, n = t.length := ⟨_, rfl⟩
  rw [← hn] at HIn ⊢
  clear hV hn hv hL hcap hok hf
  obtain ⟨U, rfl⟩ := Int.eq_ofNat_of_zero_le hu0
  rw [Int.toNat_natCast] at HS
  clear hu0
  obtain ⟨w1, hw1⟩ : ∃ w1, w1 = w.alloc (.cells #[.int .i64 (U : Int), .int .i64 a, .int .i64 b, .int .i64 c] 27) := ⟨_, rfl⟩
  have HX : Hid (∀ W, Below w1.heap.size w1 W → W.cell? ⟨w.heap.size, 0, none⟩ = some (.int .i64 (U : Int)) ∧ W.cell? ⟨w.heap.size, 1, none⟩ = some (.int .i64 a) ∧ W.cell? ⟨w.heap.size, 2, none⟩ = some (.int .i64 b) ∧ W.cell? ⟨w.heap.size, 3, none⟩ = some (.int .i64 c)) := fun W hc => by
    have hlt : w.heap.size < w1.heap.size := by rw [hw1]; simp
    rw [hc.cell (p := ⟨w.heap.size, 0, none⟩) hlt, hc.cell (p := ⟨w.heap.size, 1, none⟩) hlt, hc.cell (p := ⟨w.heap.size, 2, none⟩) hlt, hc.cell (p := ⟨w.heap.size, 3, none⟩) hlt, hw1]
    simp
  have HW : Hid (Below w.heap.size w w1 ∧ w.heap.size ≤ w1.heap.size) := by
    refine ⟨?_, ?_⟩
    · rw [hw1]; exact below_alloc1 _ _
    · rw [hw1]; simp
  go_enter Tryz.func27, Tryz.ntmps27
  go_wp2
  rw [← hw1]
  clear hw1
  go_loopw [5, 6] (fun s i wr => ∃ k : Nat, k ≤ U ∧ i = .int .i64 k ∧ s = .int .i64 (sumTo V k) ∧ Below w1.heap.size w1 wr) (fun _ i _ => U - (intOf i).toNat)
  case atStart => exact ⟨0, Nat.zero_le _, rfl, rfl, Below.refl _ _⟩
  case round =>
    obtain ⟨k, hk, rfl, rfl, hbel⟩ := hrel
    obtain ⟨x0, x1, x2, x3⟩ := HX.out _ hbel
    have HB : Hid (Below w1.heap.size w1 wr) := hbel
    have HB0 : Hid (Below w.heap.size w wr) := HW.out.1.trans (hbel.mono HW.out.2)
    clear hbel
    have p1 := sumTo_le V k
    by_cases hlt : k < U
    · have p2 := pw_le6 (k := k) (by omega)
      have p3 := pw_pos k
      have HI := HIn.out k (by omega) wr HB0.out
      have HI' : Hid (Calls Tryz.prog 51 #[.slice (some ⟨B, off, none⟩) n cap, .agg #[.int .i64 (U : Int), .int .i64 a, .int .i64 b, .int .i64 c], .int .i64 k] wr fun e w' => e = .returned (.bool (hasB V k)) ∧ Below wr.heap.size wr w') := HI
      clear HI
      have HT : Hid (sumTo V (k + 1) = sumTo V k + if hasB V k = true then pw k else 0) := rfl
      cases hx : hasB V k
      · rw [hx] at HI'
        have HE : Hid (sumTo V (k + 1) = sumTo V k) := by unfold Hid; rw [HT.out, hx]; simp
        clear hx HT
        go_wp2_with (go_at_call 51; refine HI'.out.mono ?_; rintro e w2 ⟨rfl, hb⟩)
        go_roundw
        case rel => exact ⟨k + 1, by omega, by go_num, by rw [HE.out], HB.out.trans (hb.mono HB.out.size)⟩
        case measure => simp [intOf]; omega
      · rw [hx] at HI'
        have HE : Hid (sumTo V (k + 1) = sumTo V k + pw k) := by unfold Hid; rw [HT.out, hx]; simp
        clear hx HT
        go_wp2_with (first | (go_at_call 51; refine HI'.out.mono ?_; rintro e w2 ⟨rfl, hb⟩) | (go_at_call 50; refine (refPower_any _ ?_ _).mono ?_; omega; rintro e w' ⟨rfl, rfl⟩))
        go_roundw
        case rel => exact ⟨k + 1, by omega, by go_num, by rw [HE.out], HB.out.trans (hb.mono HB.out.size)⟩
        case measure => simp [intOf]; omega
    · obtain rfl : k = U := by omega
      go_wp2
      go_ret
      exact ⟨back_i HS.out, HB0.out⟩
end Go.Proofs.YtenmheenieifpabGreatDoor

namespace Go.Proofs.YtenmheenieifpabGreatDoor
open Go.ChangeShapes Go.WideShapes Go.ChangeAt Go.RowKit
set_option maxRecDepth 100000

theorem text_step (t : List Int) {k : Nat} (h : k < t.length) : strOf (textN (t.take (k + 1))) = strOf (textN (t.take k)) ++ strOf [byteOf (t.getD k 0)] := by
  rw [take_succ_getD t h]
  unfold strOf textN
  apply ByteArray.ext
  simp [ByteArray.data_append]
theorem back_s {a b : ByteArray} (h : a = b) : Ending.returned (.string a) = .returned (.string b) := by rw [h]

set_option maxRecDepth 100000 in
set_option maxHeartbeats 4000000 in
theorem refText_any (t : List Int) (B off cap : Nat) (w : World) (hf : faultN t = 0) (hL : Lies w B off t) :
    Calls Tryz.prog 22 #[.slice (some ⟨B, off, none⟩) t.length cap] w fun e w' => e = .returned (.string (strOf (textN t))) ∧ Below w.heap.size w w' := by
  obtain ⟨f1, f2, f3, f4⟩ := fault_zero.1 hf
  have HS : Hid (t.all signB = true) := f3
  have HL : Hid (Lies w B off t) := hL
  clear hL f1 f3 f4 hf
  obtain ⟨n, hn⟩ : ∃ n, n = t.length := ⟨_, rfl⟩
  rw [← hn] at f2 ⊢
  have HN : Hid (n = t.length) := hn
  clear hn
  obtain ⟨P, hP⟩ : ∃ P, P = strOf (textN t) := ⟨_, rfl⟩
  rw [← hP]
  have HP : Hid (P = strOf (textN t)) := hP
  clear hP
  go_enter Tryz.func22, Tryz.ntmps22
  go_wp2
  go_loopw [3, 4] (fun s i wr => ∃ (k : Nat) (acc : ByteArray), k ≤ n ∧ i = .int .i64 k ∧ s = .string acc ∧ acc = strOf (textN (t.take k)) ∧ Below w.heap.size w wr) (fun _ i _ => n - (intOf i).toNat)
  case atStart => exact ⟨0, _, Nat.zero_le _, rfl, rfl, rfl, Below.refl _ _⟩
  case round =>
    obtain ⟨k, acc, hk, rfl, rfl, hacc, hbel⟩ := hrel
    have HB : Hid (Below w.heap.size w wr) := hbel
    by_cases hlt : k < n
    · obtain ⟨s, hs⟩ : ∃ s, s = t.getD k 0 := ⟨_, rfl⟩
      have hkt : k < t.length := by rw [← HN.out]; exact hlt
      have hcell : wr.cell? ⟨B, off + k, none⟩ = some (.int .i64 s) := by rw [hs, hbel.cell HL.out.1]; exact HL.out.2 k hkt
      have hsg : signB s = true := by
        refine List.all_eq_true.1 HS.out s ?_
        rw [hs, List.getD_eq_getElem?_getD, List.getElem?_eq_getElem hkt]; exact List.getElem_mem hkt
      have HT : Hid (acc ++ strOf [byteOf s] = strOf (textN (t.take (k + 1)))) := by unfold Hid; rw [text_step t hkt, ← hs, ← hacc]
      have hsz : acc.size ≤ 12 := by
        rw [hacc]
        have : (strOf (textN (t.take k))).size = (t.take k).length := by simp [strOf, ByteArray.size, textN]
        rw [this, List.length_take]; omega
      have hlt' : (k : Int) < (n : Int) := by omega
      clear hs hkt hbel hacc
      rcases nine hsg with rfl | rfl | rfl | rfl | rfl | rfl | rfl | rfl | rfl
      all_goals
        clear hsg
        go_wp2_with fail
        go_quiet (fail)
        go_wp2
        go_roundw
        case rel => exact ⟨k + 1, _, by omega, by go_num, rfl, HT.out, HB.out.trans ((below_drewNs _ _).mono HB.out.size)⟩
        case measure => simp [intOf]; omega
    · have HE : Hid (acc = P) := by
        unfold Hid; rw [hacc, HP.out, List.take_of_length_le (by have := HN.out; omega)]
      clear hacc hbel
      go_wp2
      go_ret
      exact ⟨back_s HE.out, HB.out⟩
end Go.Proofs.YtenmheenieifpabGreatDoor

namespace Go.Proofs.YtenmheenieifpabGreatDoor
open Go.ChangeShapes Go.WideShapes Go.ChangeAt Go.RowKit
set_option maxRecDepth 100000

theorem letter_eq (j : Nat) (hj : j < 9) (b : UInt8) : (((((ByteArray.mk #[65, 66, 67, 48, 49, 43, 42, 45, 126])[j]'(by show j < 9; exact hj)).toNat : Nat) : Int) == ((b.toNat : Nat) : Int)) = decide (signOf b = (j : Int)) := by
  have h : ∀ j : Fin 9, ∀ n : Fin 256, (((((ByteArray.mk #[65, 66, 67, 48, 49, 43, 42, 45, 126])[j.val]'(by show j.val < 9; exact j.isLt)).toNat : Nat) : Int) == (((⟨⟨n⟩⟩ : UInt8).toNat : Nat) : Int)) = decide (signOf ⟨⟨n⟩⟩ = (j.val : Int)) := by decide +kernel
  exact h ⟨j, hj⟩ b.toBitVec.toFin
/-- what has been found of a byte among the first j letters. -/
def part (b : UInt8) (j : Nat) : Int := if 0 ≤ signOf b ∧ signOf b < j then signOf b else -1
theorem part_zero (b : UInt8) : part b 0 = -1 := by unfold part; rw [if_neg (by omega)]
theorem part_hit {b : UInt8} {j : Nat} (h : signOf b = j) : part b (j + 1) = j := by unfold part; rw [if_pos (by omega), h]
theorem part_miss {b : UInt8} {j : Nat} (h : ¬ signOf b = j) : part b (j + 1) = part b j := by
  unfold part
  by_cases h' : 0 ≤ signOf b ∧ signOf b < (j : Int)
  · rw [if_pos h', if_pos (by omega)]
  · rw [if_neg h', if_neg (by omega)]
theorem part_nine (b : UInt8) : part b 9 = signOf b := by
  unfold part
  rcases byte_all b with h | h
  · rw [h]; rfl
  · have := signB_iff.1 h.1
    rw [if_pos (by omega)]

theorem own_ints_big {w : World} {base : Nat} {e : TypeId} {v : Value} {n : Nat} {xs : List Value} {t : List Int} (h : w.ownsRow base e 1 v n xs) (hx : xs = t.map (Value.int .i64)) (hm : n ≤ 9223372036854775807) : Reads w v t := by
  have hn : t.length = n := by have := h.1; rw [hx] at this; simpa using this
  rcases h.2 with ⟨rfl, h0⟩ | ⟨g, cap, cur, rfl, _⟩
  · exact Or.inl ⟨_, _, rfl, List.eq_nil_of_length_eq_zero (by omega)⟩
  · rcases Nat.eq_zero_or_pos n with h0 | h0
    · exact Or.inl ⟨_, cap, by rw [h0], List.eq_nil_of_length_eq_zero (by omega)⟩
    · refine Or.inr ⟨g, 0, cap, by rw [hn], (ownsRow_block h).2.1, by omega, ⟨by omega, by have := (ownsRow_block h).2.2; omega⟩, fun k hk => ?_⟩
      rw [Nat.zero_add, h.cellAt k (by omega), hx]
      simp [List.getElem?_eq_getElem hk]
theorem one_new (W : World) (X : Int) : ∀ j y, [Value.int .i64 X][j]? = some y → (W.alloc (.cells #[.int .i64 X] 3)).cell? ((⟨W.heap.size, 0, none⟩ : Addr).add j) = some y := by
  intro j y hj
  match j, hj with
  | 0, hj => simp at hj; subst hj; simp [Addr.add]
theorem one_cell (X : Int) : ∀ y ∈ [Value.int .i64 X], y.oneCell' = true := by
  intro y hy; simp at hy; subst hy; rfl
theorem take_bytes (s : ByteArray) {k : Nat} (h : k < s.size) : s.data.toList.take (k + 1) = s.data.toList.take k ++ [s[k]'h] := by
  have hk' : k < s.data.toList.length := by rw [Array.length_toList]; exact h
  rw [List.take_add_one, List.getElem?_eq_getElem hk']
  rfl
theorem letters_stop (s : ByteArray) {k : Nat} (h : k < s.size) (hb : signOf (s[k]'h) = -1) : lettersB s.data.toList = false := by
  have hk' : k < s.data.toList.length := by rw [Array.length_toList]; exact h
  have : ¬ lettersB s.data.toList = true := by
    intro hl
    have := List.all_eq_true.1 hl (s[k]'h) (List.getElem_mem hk')
    rw [hb] at this; exact absurd this (by decide)
  simpa using this

/-- a slice whose row lies in K or behind, or nowhere. -/
def NewV (K : Nat) (v : Value) : Prop := ∃ ao n c, v = .slice ao n c ∧ ∀ p, ao = some p → K ≤ p.block
theorem newV_own {w : World} {base : Nat} {e : TypeId} {v : Value} {n : Nat} {xs : List Value} (h : w.ownsRow base e 1 v n xs) : NewV base v := by
  rcases h.2 with ⟨rfl, h0⟩ | ⟨g, cap, cur, rfl, hg, _⟩
  · exact ⟨_, _, _, rfl, fun p hp => by cases hp⟩
  · exact ⟨_, _, _, rfl, fun p hp => by cases hp; exact hg⟩
set_option maxRecDepth 100000 in
set_option maxHeartbeats 8000000 in
theorem readTerm_fresh (s : ByteArray) (hz : s.size ≤ 1048576) (w : World) :
    Calls Tryz.prog 32 #[.string s] w fun e w' => (lettersB s.data.toList = true → ∃ v, e = .returned (.tuple #[v, .bool true]) ∧ Reads w' v (readN s.data.toList) ∧ NewV w.heap.size v) ∧ (lettersB s.data.toList = false → e = .returned (.tuple #[.slice none 0 0, .bool false])) ∧ Below w.heap.size w w' := by
  obtain ⟨i0, hi, hz0, hz1, hz2⟩ := info_parts infoInt
  obtain ⟨K, hK⟩ : ∃ K, K = w.heap.size := ⟨_, rfl⟩
  have HK : Hid (K = w.heap.size) := hK
  clear hK
  obtain ⟨QL, hQL⟩ : ∃ QL : Ending → World → Prop, QL = fun e w' => (lettersB s.data.toList = true → ∃ v, e = .returned (.tuple #[v, .bool true]) ∧ Reads w' v (readN s.data.toList) ∧ NewV w.heap.size v) ∧ (lettersB s.data.toList = false → e = .returned (.tuple #[.slice none 0 0, .bool false])) ∧ Below w.heap.size w w' := ⟨_, rfl⟩
  have HQ : Hid (∀ e w', ((lettersB s.data.toList = true → ∃ v, e = .returned (.tuple #[v, .bool true]) ∧ Reads w' v (readN s.data.toList) ∧ NewV w.heap.size v) ∧ (lettersB s.data.toList = false → e = .returned (.tuple #[.slice none 0 0, .bool false])) ∧ Below w.heap.size w w') → QL e w') := fun e w' h => by rw [hQL]; exact h
  have hgoal : Calls Tryz.prog 32 #[.string s] w QL := by
    clear hQL
    go_enter Tryz.func32, Tryz.ntmps32
    go_wp2
    go_loopw [4, 5] (fun v i wr => ∃ k : Nat, k ≤ s.size ∧ i = .int .i64 k ∧ wr.ownsRow K 3 1 v k ((readN (s.data.toList.take k)).map (Value.int .i64)) ∧ Below K w wr ∧ K ≤ wr.heap.size ∧ lettersB (s.data.toList.take k) = true) (fun _ i _ => s.size - (intOf i).toNat)
    case atStart => exact ⟨0, Nat.zero_le _, rfl, World.ownsRow_nil _ _ _ _, Below.refl _ _, by rw [HK.out]; exact Nat.le_refl _, rfl⟩
    case round =>
      obtain ⟨k, hk, rfl, hown, hbel, hKw, hlet⟩ := hrel
      by_cases hlt : k < s.size
      · have hlt' : (k : Int) < (s.size : Int) := by omega
        have HOW : Hid (wr.ownsRow K 3 1 _ k ((readN (s.data.toList.take k)).map (Value.int .i64))) := hown
        have HBE : Hid (Below K w wr ∧ K ≤ wr.heap.size) := ⟨hbel, hKw⟩
        have HLT : Hid (lettersB (s.data.toList.take k) = true) := hlet
        clear hown hbel hKw hlet
        go_wp2_with fail
        go_loopw [6, 7] (fun kk jj wx => ∃ j : Nat, j ≤ 9 ∧ jj = .int .i64 j ∧ kk = .int .i64 (part (s[k]'hlt) j) ∧ Below wr.heap.size wr wx) (fun _ j _ => 9 - (intOf j).toNat)
        case atStart => exact ⟨0, Nat.zero_le _, rfl, by rw [part_zero], Below.refl _ _⟩
        case round =>
          obtain ⟨j, hj, rfl, rfl, hbx⟩ := hrel
          have HBX : Hid (Below _ _ wr) := hbx
          clear hbx
          by_cases hj9 : j < 9
          · by_cases hq : signOf (s[k]'hlt) = (j : Int)
            · have HP : Hid (part (s[k]'hlt) (j + 1) = j) := part_hit hq
              have hle := letter_eq j hj9 (s[k]'hlt)
              rw [decide_eq_true hq] at hle
              clear hq
              obtain ⟨pp, hpp⟩ : ∃ pp, pp = part (s[k]'hlt) j := ⟨_, rfl⟩
              rw [← hpp]
              clear hpp
              have hj' : j = 0 ∨ j = 1 ∨ j = 2 ∨ j = 3 ∨ j = 4 ∨ j = 5 ∨ j = 6 ∨ j = 7 ∨ j = 8 := by omega
              clear hj
              rcases hj' with rfl | rfl | rfl | rfl | rfl | rfl | rfl | rfl | rfl
              all_goals
                go_wp2_with fail
                go_quiet (fail)
                go_wp2
                go_roundw
                case rel => refine ⟨_, ?_, ?_, congrArg (Value.int .i64) HP.out.symm, HBX.out.trans ((below_drewNs _ _).mono HBX.out.size)⟩; decide; go_num
                case measure => simp [intOf]
            · have HP : Hid (part (s[k]'hlt) (j + 1) = part (s[k]'hlt) j) := part_miss hq
              have hle := letter_eq j hj9 (s[k]'hlt)
              rw [decide_eq_false hq] at hle
              clear hq
              have hj' : j = 0 ∨ j = 1 ∨ j = 2 ∨ j = 3 ∨ j = 4 ∨ j = 5 ∨ j = 6 ∨ j = 7 ∨ j = 8 := by omega
              clear hj
              rcases hj' with rfl | rfl | rfl | rfl | rfl | rfl | rfl | rfl | rfl
              all_goals
                go_wp2_with fail
                go_quiet (fail)
                go_wp2
                go_roundw
                case rel => refine ⟨_, ?_, ?_, congrArg (Value.int .i64) HP.out.symm, HBX.out.trans ((below_drewNs _ _).mono HBX.out.size)⟩; decide; go_num
                case measure => simp [intOf]
          · obtain rfl : j = 9 := by omega
            rw [part_nine]
            clear hj hj9
            obtain ⟨S, hS⟩ : ∃ S, S = signOf (s[k]'hlt) := ⟨_, rfl⟩
            rw [← hS]
            have HOX := ownsRow_below HOW.out HBX.out
            have HO2 : Hid (wr.ownsRow K 3 1 _ k ((readN (s.data.toList.take k)).map (Value.int .i64))) := HOX
            have HB2 : Hid (Below K w wr ∧ K ≤ wr.heap.size) := ⟨HBE.out.1.trans (HBX.out.mono HBE.out.2), Nat.le_trans HBE.out.2 HBX.out.size⟩
            clear HOX
            by_cases hneg : S < 0
            · have HNo : Hid (lettersB s.data.toList = false) := letters_stop s hlt (by rw [← hS]; rcases byte_all (s[k]'hlt) with h | h
                                                                                        · rw [hS]; exact h
                                                                                        · have := signB_iff.1 h.1; omega)
              clear hS
              go_wp2
              try go_ret2
              refine HQ.out _ _ ⟨fun h => ?_, fun _ => rfl, ?_⟩
              · rw [HNo.out] at h; cases h
              · rw [← HK.out]; exact HB2.out.1
            · have HYes : Hid (lettersB (s.data.toList.take (k + 1)) = true ∧ readN (s.data.toList.take (k + 1)) = readN (s.data.toList.take k) ++ [S]) := by
                refine ⟨?_, ?_⟩
                · rw [take_bytes s hlt]; unfold lettersB; rw [List.all_append]
                  have h1 := HLT.out
                  unfold lettersB at h1
                  rw [h1]
                  simp only [List.all_cons, List.all_nil, Bool.and_true, Bool.true_and, bne_iff_ne, ne_eq]
                  rw [← hS]; omega
                · rw [take_bytes s hlt]; unfold readN; rw [List.map_append]; simp [hS]
              clear hS
              go_wp2_with (first | (at_builtin; refine wpList_append_own _ rfl (.tmp 27) (.tmp 29) 22 rfl K 3 i0 (.int .i64 0) 1 8 Tryz.underlying22 hi hz0 hz1 hz2 rfl (by decide) _ k _ rfl (HO2.out.alloc _) ⟨wr.heap.size, 0, none⟩ 1 1 [.int .i64 S] rfl rfl (one_new _ _) (one_cell _) ?p3 ?p4 ?p5 ?_))
              case p3 => unfold maxLen; omega
              case p4 => omega
              case p5 => have := HB2.out.2; simp; omega
              intro v' w2 hown' hgrow _
              have HR : Hid (w2.ownsRow K 3 1 v' (k + 1) ((readN (s.data.toList.take (k + 1))).map (Value.int .i64)) ∧ Below K w w2 ∧ K ≤ w2.heap.size) := by
                refine ⟨?_, ?_, ?_⟩
                · rw [HYes.out.2, List.map_append]; exact hown'
                · exact (HB2.out.1.alloc HB2.out.2 _).grown hgrow (by have := HB2.out.2; simp; omega) (fun g hg => (HO2.out.lt g hg).1)
                · have := hgrow.size; have := HB2.out.2; simp at *; omega
              clear hown' hgrow
              go_wp2
              go_roundw
              case rel => exact ⟨k + 1, by omega, by go_num, HR.out.1, HR.out.2.1, HR.out.2.2, HYes.out.1⟩
              case measure => simp [intOf]; omega
      · have hkn : k = s.size := by omega
        have hlen : s.data.toList.length = s.size := Array.length_toList
        have HAll : Hid (lettersB s.data.toList = true) := by
          rw [List.take_of_length_le (by omega)] at hlet; exact hlet
        have hnv := newV_own hown
        rw [HK.out] at hnv
        have HNv : Hid (NewV w.heap.size _) := hnv
        clear hnv
        have hrd := own_ints_big hown rfl (by omega)
        rw [List.take_of_length_le (by omega)] at hrd
        have HRd : Hid (Reads wr _ (readN s.data.toList)) := hrd
        clear hrd
        have HBw : Hid (Below w.heap.size w wr) := by unfold Hid; rw [← HK.out]; exact hbel
        have hge : ¬ (k : Int) < (s.size : Int) := by omega
        clear hown hbel hKw hlet hkn hlen
        go_wp2
        try go_ret2
        refine HQ.out _ _ ⟨fun _ => ⟨_, rfl, HRd.out, HNv.out⟩, fun h => ?_, HBw.out⟩
        rw [HAll.out] at h; cases h
  rw [hQL] at hgoal
  exact hgoal
/-- ReadTerm, without the place of what it lays. -/
theorem readTerm_any (s : ByteArray) (hz : s.size ≤ 1048576) (w : World) :
    Calls Tryz.prog 32 #[.string s] w fun e w' => (lettersB s.data.toList = true → ∃ v, e = .returned (.tuple #[v, .bool true]) ∧ Reads w' v (readN s.data.toList)) ∧ (lettersB s.data.toList = false → e = .returned (.tuple #[.slice none 0 0, .bool false])) ∧ Below w.heap.size w w' :=
  (readTerm_fresh s hz w).mono fun _ _ h => ⟨fun hl => by obtain ⟨v, h1, h2, _⟩ := h.1 hl; exact ⟨v, h1, h2⟩, h.2.1, h.2.2⟩
end Go.Proofs.YtenmheenieifpabGreatDoor
