/-
  Proved: what the reference's Term and World return, of any row of signs and any world; what was in memory is as it was (contracts that the statements lean on).
  Proved: what the reference's in and In return, of a right term and a right world; what was in memory is as it was (contracts that the statements lean on).
  Proved: what the reference's functions of chapter 1 (Size, Do) return, and that they leave memory as it was.
  Proved: what the reference's Value returns, of a right term and a right world; what was in memory is as it was (contracts that the statements lean on).
  Proved: what the reference's TermText and ReadTerm return, of a right term and of a text that is not too long; what was in memory is as it was (contracts that the statements lean on).
-/
import Derived.Test.YtfnkbbpjfjendaiGreatDoorLibTX2
import Derived.Test.YtfnkbbpjfjendaiGreatDoorLibTX3
import Derived.Test.YtfnkbbpjfjendaiGreatDoorLibTX11
import Derived.WalkKit
import Derived.ProofKit
import Derived.OpenShut
import Derived.Test.YtfnkbbpjfjendaiGreatDoorLibTX4
namespace Go.Proofs.YtfnkbbpjfjendaiGreatDoor
open Go.ChangeShapes Go.WideShapes Go.ChangeAt Go.RowKit
set_option maxRecDepth 100000

theorem all_take_succ (t : List Int) {k : Nat} (h : k < t.length) : (t.take (k + 1)).all signB = ((t.take k).all signB && signB (t.getD k 0)) := by
  rw [take_succ_getD t h]; simp
theorem all_false_of {t : List Int} {k : Nat} (h : k < t.length) (hs : signB (t.getD k 0) = false) : ¬ t.all signB = true := by
  intro ha
  have := List.all_eq_true.1 ha (t.getD k 0) (by rw [List.getD_eq_getElem?_getD, List.getElem?_eq_getElem h]; exact List.getElem_mem h)
  rw [hs] at this; cases this

set_option maxRecDepth 100000 in
set_option maxHeartbeats 4000000 in
theorem refTerm_mid (b off cap : Nat) (t : List Int) (w : World) (h0 : 0 < t.length) (hl : t.length ≤ 12) (hc : ∀ k, k < t.length → w.cell? ⟨b, off + k, none⟩ = some (.int .i64 (t.getD k 0))) :
    Calls Tryz.prog 35 #[.slice (some ⟨b, off, none⟩) t.length cap] w fun e w' => e = .returned (.int .i64 (faultN t)) ∧ w = w' := by
  have HC : Hid (∀ k, k < t.length → w.cell? ⟨b, off + k, none⟩ = some (.int .i64 (t.getD k 0))) := hc
  clear hc
  obtain ⟨n, hn⟩ : ∃ n, n = t.length := ⟨_, rfl⟩
  rw [← hn] at h0 hl ⊢
  have HN : Hid (n = t.length) := hn
  obtain ⟨F, hF⟩ : ∃ F, F = faultN t := ⟨_, rfl⟩
  rw [← hF]
  have HF : Hid (F = if t.all signB = true then (if cnt t 0 = some 1 then 0 else 3) else 1) := by
    unfold Hid; rw [hF]; unfold faultN; rw [if_neg (by omega), if_neg (by omega)]
  clear hn hF
  go_enter Tryz.func35, Tryz.ntmps35
  go_wp2
  go_loop [3] (fun i => ∃ k : Nat, k ≤ n ∧ i = .int .i64 k ∧ (t.take k).all signB = true) (fun i => n - (intOf i).toNat)
  case atStart => exact ⟨0, Nat.zero_le _, rfl, by simp⟩
  case round =>
    obtain ⟨k, hk, rfl, hall⟩ := hrel
    have HA : Hid ((t.take k).all signB = true) := hall
    clear hall
    by_cases hlt : k < n
    · obtain ⟨s, hs⟩ : ∃ s, s = t.getD k 0 := ⟨_, rfl⟩
      have hkt : k < t.length := by rw [← HN.out]; exact hlt
      have hc := HC.out k hkt
      rw [← hs] at hc
      by_cases hlo : s < 0
      · have HE : Hid (1 = F) := by
          have := all_false_of hkt (by rw [← hs]; simp [signB]; omega)
          unfold Hid; rw [HF.out, if_neg this]
        clear hs hkt
        go_wp2
        go_ret
        exact ⟨back_i HE.out, rfl⟩
      by_cases hhi : 8 < s
      · have HE : Hid (1 = F) := by
          have := all_false_of hkt (by rw [← hs]; simp [signB]; omega)
          unfold Hid; rw [HF.out, if_neg this]
        clear hs hkt
        go_wp2
        go_ret
        exact ⟨back_i HE.out, rfl⟩
      have HA2 : Hid ((t.take (k + 1)).all signB = true) := by
        have : signB s = true := by simp [signB]; omega
        unfold Hid; rw [all_take_succ t hkt, HA.out, ← hs, this]; rfl
      clear hs hkt
      go_wp2
      go_round
      case rel => exact ⟨k + 1, by omega, by go_num, HA2.out⟩
      case measure => simp [intOf]; omega
    · have HAll : Hid (t.all signB = true) := by
        have := HA.out
        rw [List.take_of_length_le (by have := HN.out; omega)] at this
        exact this
      clear HA
      go_wp2
      go_loop [4, 5] (fun c i => ∃ (k : Nat) (m : Int), k ≤ n ∧ i = .int .i64 k ∧ c = .int .i64 m ∧ cnt (t.take k) 0 = some m) (fun _ i => n - (intOf i).toNat)
      case atStart => exact ⟨0, 0, Nat.zero_le _, rfl, rfl, rfl⟩
      case round =>
        clear hlt hk
        obtain ⟨k, m, hk, rfl, rfl, hm⟩ := hrel
        have HM : Hid (cnt (t.take k) 0 = some m) := hm
        have hm0 : 0 ≤ m ∧ m ≤ 12 := by
          have := cnt_nonneg (Int.le_refl 0) hm
          simp at this
          omega
        clear hm
        by_cases hlt : k < n
        · obtain ⟨s, hs⟩ : ∃ s, s = t.getD k 0 := ⟨_, rfl⟩
          have hkt : k < t.length := by rw [← HN.out]; exact hlt
          have hc := HC.out k hkt
          rw [← hs] at hc
          have hsg : 0 ≤ s ∧ s ≤ 8 := by
            refine signB_iff.1 (List.all_eq_true.1 HAll.out s ?_)
            rw [hs, List.getD_eq_getElem?_getD, List.getElem?_eq_getElem hkt]; exact List.getElem_mem hkt
          have HD : Hid (cnt (t.take (k + 1)) 0 = if m < takesN s then none else some (m + 1 - takesN s)) := by
            have := cnt_take_succ t hkt HM.out
            rw [← hs] at this; exact this
          have HNo : Hid (m < takesN s → 3 = F) := fun hb => by
            have h1 := HD.out
            rw [if_pos hb] at h1
            have h2 := cnt_take_none t (k + 1) h1
            rw [HF.out, if_pos HAll.out, if_neg (by rw [h2]; simp)]
          have HYes : Hid (¬ m < takesN s → cnt (t.take (k + 1)) 0 = some (m + 1 - takesN s)) := fun hb => by
            have h1 := HD.out
            rw [if_neg hb] at h1; exact h1
          clear hs hkt HD
          by_cases h5 : s < 5
          · have HE : Hid (cnt (t.take (k + 1)) 0 = some (m + 1)) := by
              have := HYes.out (by rw [takes5 s h5]; omega)
              rw [takes5 s h5] at this; rw [show m + 1 = m + 1 - 0 by omega]; exact this
            go_wp2
            go_round
            case rel => exact ⟨k + 1, _, by omega, by go_num, rfl, HE.out⟩
            case measure => simp [intOf]; omega
          by_cases h8 : s < 8
          · have ht := takes2 s (by omega) (by omega)
            by_cases hb : m < 2
            · have HE : Hid (3 = F) := HNo.out (by rw [ht]; exact hb)
              clear ht
              by_cases hb1 : m < 1
              · go_wp2
                go_ret
                exact ⟨back_i HE.out, rfl⟩
              · go_wp2
                go_ret
                exact ⟨back_i HE.out, rfl⟩
            · have HE : Hid (cnt (t.take (k + 1)) 0 = some (m - 1)) := by
                have := HYes.out (by rw [ht]; omega)
                rw [ht] at this; rw [show m - 1 = m + 1 - 2 by omega]; exact this
              have hb1 : ¬ m < 1 := by omega
              clear ht
              go_wp2
              go_round
              case rel => exact ⟨k + 1, _, by omega, by go_num, rfl, HE.out⟩
              case measure => simp [intOf]; omega
          · obtain rfl : s = 8 := by omega
            by_cases hb : m < 1
            · have HE : Hid (3 = F) := HNo.out (by rw [takes1]; exact hb)
              go_wp2
              go_ret
              exact ⟨back_i HE.out, rfl⟩
            · have HE : Hid (cnt (t.take (k + 1)) 0 = some m) := by
                have := HYes.out (by rw [takes1]; exact hb)
                rw [takes1] at this; rw [show m = m + 1 - 1 by omega]; exact this
              go_wp2
              go_round
              case rel => exact ⟨k + 1, _, by omega, by go_num, rfl, HE.out⟩
              case measure => simp [intOf]; omega
        · have HE : Hid (cnt t 0 = some m) := by
            have h1 := HM.out
            rw [List.take_of_length_le (by have := HN.out; omega)] at h1; exact h1
          by_cases h1 : m = 1
          · have HG : Hid (0 = F) := by unfold Hid; rw [HF.out, if_pos HAll.out, HE.out, if_pos (by rw [h1])]
            subst h1
            go_wp2
            go_ret
            exact ⟨back_i HG.out, rfl⟩
          · have HG : Hid (3 = F) := by unfold Hid; rw [HF.out, if_pos HAll.out, HE.out, if_neg (by simpa using h1)]
            have h1' : (m != 1) = true := by simpa using h1
            clear h1
            go_wp2
            go_ret
            exact ⟨back_i HG.out, rfl⟩

theorem refTerm_any (t : List Int) (v : Value) (w : World) (h : Reads w v t) :
    Calls Tryz.prog 35 #[v] w fun e w' => e = .returned (.int .i64 (faultN t)) ∧ w = w' := by
  rcases h with ⟨ao, cap, rfl, rfl⟩ | ⟨b, off, cap, rfl, -, h0, ⟨hl, _⟩, hc⟩
  · go_enter Tryz.func35, Tryz.ntmps35
    go_wp2
    go_ret
    exact ⟨rfl, rfl⟩
  · by_cases h12 : 12 < t.length
    · have e : faultN t = 4 := by unfold faultN; rw [if_neg (by omega), if_pos h12]
      rw [e]
      clear e hc
      obtain ⟨n, hn⟩ : ∃ n, n = t.length := ⟨_, rfl⟩
      rw [← hn] at h0 hl h12 ⊢
      clear hn
      go_enter Tryz.func35, Tryz.ntmps35
      go_wp2
      go_ret
      exact ⟨rfl, rfl⟩
    · exact refTerm_mid b off cap t w h0 (by omega) hc

end Go.Proofs.YtfnkbbpjfjendaiGreatDoor

namespace Go.Proofs.YtfnkbbpjfjendaiGreatDoor
open Go.ChangeShapes Go.WideShapes Go.ChangeAt Go.RowKit
set_option maxRecDepth 100000

/-- the row q lies in w at a place. -/
def Lies (w : World) (B off : Nat) (q : List Int) : Prop := B < w.heap.size ∧ ∀ k, k < q.length → w.cell? ⟨B, off + k, none⟩ = some (.int .i64 (q.getD k 0))
theorem Lies.below {w w' : World} {B off : Nat} {q : List Int} (h : Lies w B off q) (hb : Below w.heap.size w w') : Lies w' B off q :=
  ⟨Nat.lt_of_lt_of_le h.1 hb.size, fun k hk => by rw [hb.cell h.1]; exact h.2 k hk⟩
theorem Lies.front {w : World} {B off : Nat} {q l : List Int} (h : Lies w B off (q ++ l)) : Lies w B off q :=
  ⟨h.1, fun k hk => by
    rw [h.2 k (by rw [List.length_append]; omega)]
    simp [List.getElem?_append_left hk]⟩
theorem Lies.last {w : World} {B off : Nat} {q : List Int} {s : Int} (h : Lies w B off (q ++ [s])) : w.cell? ⟨B, off + q.length, none⟩ = some (.int .i64 s) := by
  rw [h.2 q.length (by simp)]; simp
theorem name_le {w : Wd} (h : w.ok = true) (s : Int) : 0 ≤ w.name s ∧ w.name s < 64 := by
  obtain ⟨_, _, h1, h2⟩ := okB_lt (ok_name h s); exact ⟨h1, h2⟩
theorem back_bs {a b : Bool} {v : Value} (h : a = b) : Ending.returned (.tuple #[.bool a, v]) = .returned (.tuple #[.bool b, v]) := by rw [h]

end Go.Proofs.YtfnkbbpjfjendaiGreatDoor

namespace Go.Proofs.YtfnkbbpjfjendaiGreatDoor
open Go.ChangeShapes Go.WideShapes Go.ChangeAt Go.RowKit
set_option maxRecDepth 100000

theorem in5 (x y : Bool) : inB 5 x y = (x || y) := rfl
theorem in6 (x y : Bool) : inB 6 x y = (x && y) := rfl
theorem in7 (x y : Bool) : inB 7 x y = (x && !y) := rfl
theorem in8 (x y : Bool) : inB 8 x y = !x := rfl

end Go.Proofs.YtfnkbbpjfjendaiGreatDoor

namespace Go.Proofs.YtfnkbbpjfjendaiGreatDoor
open Go.ChangeShapes Go.WideShapes Go.ChangeAt Go.RowKit
set_option maxRecDepth 100000

end Go.Proofs.YtfnkbbpjfjendaiGreatDoor

namespace Go.Proofs.YtfnkbbpjfjendaiGreatDoor
open Go.ChangeShapes Go.WideShapes Go.ChangeAt Go.RowKit
set_option maxRecDepth 100000

theorem text_step (t : List Int) {k : Nat} (h : k < t.length) : strOf (textN (t.take (k + 1))) = strOf (textN (t.take k)) ++ strOf [byteOf (t.getD k 0)] := by
  rw [take_succ_getD t h]
  unfold strOf textN
  apply ByteArray.ext
  simp [ByteArray.data_append]
theorem back_s {a b : ByteArray} (h : a = b) : Ending.returned (.string a) = .returned (.string b) := by rw [h]

set_option maxRecDepth 100000 in
set_option maxHeartbeats 4000000 in
theorem refText_any (t : List Int) (B off cap : Nat) (w : World) (hf : faultN t = 0) (hL : Lies w B off t) :
    Calls Tryz.prog 36 #[.slice (some ⟨B, off, none⟩) t.length cap] w fun e w' => e = .returned (.string (strOf (textN t))) ∧ Below w.heap.size w w' := by
  obtain ⟨f1, f2, f3, f4⟩ := fault_zero.1 hf
  have HS : Hid (t.all signB = true) := f3
  have HL : Hid (Lies w B off t) := hL
  clear hL f1 f3 f4 hf
  obtain ⟨n, hn⟩ : ∃ n, n = t.length := ⟨_, rfl⟩
  rw [← hn] at f2 ⊢
  have HN : Hid (n = t.length) := hn
  clear hn
  obtain ⟨P, hP⟩ : ∃ P, P = strOf (textN t) := ⟨_, rfl⟩
  rw [← hP]
  have HP : Hid (P = strOf (textN t)) := hP
  clear hP
  go_enter Tryz.func36, Tryz.ntmps36
  go_wp2
  go_loopw [3, 4] (fun s i wr => ∃ (k : Nat) (acc : ByteArray), k ≤ n ∧ i = .int .i64 k ∧ s = .string acc ∧ acc = strOf (textN (t.take k)) ∧ Below w.heap.size w wr) (fun _ i _ => n - (intOf i).toNat)
  case atStart => exact ⟨0, _, Nat.zero_le _, rfl, rfl, rfl, Below.refl _ _⟩
  case round =>
    obtain ⟨k, acc, hk, rfl, rfl, hacc, hbel⟩ := hrel
    have HB : Hid (Below w.heap.size w wr) := hbel
    by_cases hlt : k < n
    · obtain ⟨s, hs⟩ : ∃ s, s = t.getD k 0 := ⟨_, rfl⟩
      have hkt : k < t.length := by rw [← HN.out]; exact hlt
      have hcell : wr.cell? ⟨B, off + k, none⟩ = some (.int .i64 s) := by rw [hs, hbel.cell HL.out.1]; exact HL.out.2 k hkt
      have hsg : signB s = true := by
        refine List.all_eq_true.1 HS.out s ?_
        rw [hs, List.getD_eq_getElem?_getD, List.getElem?_eq_getElem hkt]; exact List.getElem_mem hkt
      have HT : Hid (acc ++ strOf [byteOf s] = strOf (textN (t.take (k + 1)))) := by unfold Hid; rw [text_step t hkt, ← hs, ← hacc]
      have hsz : acc.size ≤ 12 := by
        rw [hacc]
        have : (strOf (textN (t.take k))).size = (t.take k).length := by simp [strOf, ByteArray.size, textN]
        rw [this, List.length_take]; omega
      have hlt' : (k : Int) < (n : Int) := by omega
      clear hs hkt hbel hacc
      rcases nine hsg with rfl | rfl | rfl | rfl | rfl | rfl | rfl | rfl | rfl
      all_goals
        clear hsg
        go_wp2_with fail
        go_quiet (fail)
        go_wp2
        go_roundw
        case rel => exact ⟨k + 1, _, by omega, by go_num, rfl, HT.out, HB.out.trans ((below_drewNs _ _).mono HB.out.size)⟩
        case measure => simp [intOf]; omega
    · have HE : Hid (acc = P) := by
        unfold Hid; rw [hacc, HP.out, List.take_of_length_le (by have := HN.out; omega)]
      clear hacc hbel
      go_wp2
      go_ret
      exact ⟨back_s HE.out, HB.out⟩
end Go.Proofs.YtfnkbbpjfjendaiGreatDoor
