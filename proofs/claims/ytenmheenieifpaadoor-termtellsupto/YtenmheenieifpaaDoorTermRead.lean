/-
  Proved: what the reference's TermText and ReadTerm return, of a right term and of a text that is not too long; what was in memory is as it was (contracts that the statements lean on).
-/
import Derived.Test.YtenmheenieifpaaDoorTermIn
import Derived.Test.YtenmheenieifpaaDoorTermParse
import Derived.Test.YtenmheenieifpaaDoorTermPrint
namespace Go.Proofs.YtenmheenieifpaaDoor
open Go.ChangeShapes Go.WideShapes Go.ChangeAt Go.RowKit
set_option maxRecDepth 100000

theorem text_step (t : List Int) {k : Nat} (h : k < t.length) : strOf (textN (t.take (k + 1))) = strOf (textN (t.take k)) ++ strOf [byteOf (t.getD k 0)] := by
  rw [take_succ_getD t h]
  unfold strOf textN
  apply ByteArray.ext
  simp [ByteArray.data_append]
theorem back_s {a b : ByteArray} (h : a = b) : Ending.returned (.string a) = .returned (.string b) := by rw [h]

set_option maxRecDepth 100000 in
set_option maxHeartbeats 4000000 in
theorem refText_any (t : List Int) (B off cap : Nat) (w : World) (hf : faultN t = 0) (hL : Lies w B off t) :
    Calls Tryd.prog 17 #[.slice (some ⟨B, off, none⟩) t.length cap] w fun e w' => e = .returned (.string (strOf (textN t))) ∧ Below w.heap.size w w' := by
  obtain ⟨f1, f2, f3, f4⟩ := fault_zero.1 hf
  have HS : Hid (t.all signB = true) := f3
  have HL : Hid (Lies w B off t) := hL
  clear hL f1 f3 f4 hf
  obtain ⟨n, hn⟩ : ∃ n, n = t.length := ⟨_, rfl⟩
  rw [← hn] at f2 ⊢
  have HN : Hid (n = t.length) := hn
  clear hn
  obtain ⟨P, hP⟩ : ∃ P, P = strOf (textN t) := ⟨_, rfl⟩
  rw [← hP]
  have HP : Hid (P = strOf (textN t)) := hP
  clear hP
  go_enter Tryd.func17, Tryd.ntmps17
  go_wp2
  go_loopw [3, 4] (fun s i wr => ∃ (k : Nat) (acc : ByteArray), k ≤ n ∧ i = .int .i64 k ∧ s = .string acc ∧ acc = strOf (textN (t.take k)) ∧ Below w.heap.size w wr) (fun _ i _ => n - (intOf i).toNat)
  case atStart => exact ⟨0, _, Nat.zero_le _, rfl, rfl, rfl, Below.refl _ _⟩
  case round =>
    obtain ⟨k, acc, hk, rfl, rfl, hacc, hbel⟩ := hrel
    have HB : Hid (Below w.heap.size w wr) := hbel
    by_cases hlt : k < n
    · obtain ⟨s, hs⟩ : ∃ s, s = t.getD k 0 := ⟨_, rfl⟩
      have hkt : k < t.length := by rw [← HN.out]; exact hlt
      have hcell : wr.cell? ⟨B, off + k, none⟩ = some (.int .i64 s) := by rw [hs, hbel.cell HL.out.1]; exact HL.out.2 k hkt
      have hsg : signB s = true := by
        refine List.all_eq_true.1 HS.out s ?_
        rw [hs, List.getD_eq_getElem?_getD, List.getElem?_eq_getElem hkt]; exact List.getElem_mem hkt
      have HT : Hid (acc ++ strOf [byteOf s] = strOf (textN (t.take (k + 1)))) := by unfold Hid; rw [text_step t hkt, ← hs, ← hacc]
      have hsz : acc.size ≤ 12 := by
        rw [hacc]
        have : (strOf (textN (t.take k))).size = (t.take k).length := by simp [strOf, ByteArray.size, textN]
        rw [this, List.length_take]; omega
      have hlt' : (k : Int) < (n : Int) := by omega
      clear hs hkt hbel hacc
      rcases nine hsg with rfl | rfl | rfl | rfl | rfl | rfl | rfl | rfl | rfl
      all_goals
        clear hsg
        go_wp2_with fail
        go_quiet (fail)
        go_wp2
        go_roundw
        case rel => exact ⟨k + 1, _, by omega, by go_num, rfl, HT.out, HB.out.trans ((below_drewNs _ _).mono HB.out.size)⟩
        case measure => simp [intOf]; omega
    · have HE : Hid (acc = P) := by
        unfold Hid; rw [hacc, HP.out, List.take_of_length_le (by have := HN.out; omega)]
      clear hacc hbel
      go_wp2
      go_ret
      exact ⟨back_s HE.out, HB.out⟩
end Go.Proofs.YtenmheenieifpaaDoor
