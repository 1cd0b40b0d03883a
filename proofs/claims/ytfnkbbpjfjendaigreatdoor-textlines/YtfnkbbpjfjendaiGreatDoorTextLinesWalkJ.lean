/-
  Proved: vennlaw4.TextLines returns true, of any formula, where text.Print and text.Parse answer as chapter 17 says; what was in memory is as it was (the walk that the statement leans on).
-/
import Derived.Test.YtfnkbbpjfjendaiGreatDoorTextTellsWalkJ
import Derived.Test.YtfnkbbpjfjendaiGreatDoorLibTX30
import Derived.Test.YtfnkbbpjfjendaiGreatDoorLibTX14
namespace Go.Proofs.YtfnkbbpjfjendaiGreatDoor
open Go.ChangeShapes Go.WideShapes Go.ChangeAt Go.RowKit
set_option maxRecDepth 100000

theorem ends_step {l : List UInt8} {k : Nat} (h : k < l.length) : endsN (l.take (k + 1)) = endsN (l.take k) + if l.getD k 0 = 10 then 1 else 0 := by
  rw [List.take_succ_eq_append_getElem h, ends_app, List.getD_eq_getElem?_getD, List.getElem?_eq_getElem h]
  unfold endsN
  by_cases hb : l[k] = 10
  · rw [if_pos (by simpa using hb)]; simp [hb]
  · rw [if_neg (by simpa using hb)]; simp [hb]
theorem ends_le (l : List UInt8) : endsN l ≤ l.length := List.length_filter_le _ _
theorem lines_fact : formTextFault [99, 111, 100, 101, 32, 48, 10] = 5 := by decide +kernel

set_option maxHeartbeats 8000000 in
theorem textLines_in (ao : Option Addr) (al acap : Nat) (co : Option Addr) (cl ccap : Nat) (P : ByteArray) (EV : Value) (w : World)
    (HPr : Hid (∀ W, Below w.heap.size w W → Calls Tryz.prog 8 #[.agg #[.slice ao al acap, .slice co cl ccap]] W fun e w' => e = .returned (.tuple #[.string P, EV]) ∧ Below W.heap.size W w'))
    (HEV : Hid ((∃ m, EV = .iface 55 (.int .i64 m)) ∨ (EV = .nilIface ∧ endsN P.data.toList = al + 1 ∧ P.size ≤ 800 ∧ al ≤ 6)))
    (HPa : Hid (∀ W, Below w.heap.size w W → Calls Tryz.prog 11 #[.string ⟨#[99, 111, 100, 101, 32, 48, 10]⟩] W fun e w' => (∃ o1 l1 q1 o2 l2 q2, e = .returned (.tuple #[.agg #[.slice o1 l1 q1, .slice o2 l2 q2], errV 5])) ∧ Below W.heap.size W w'))
    (HEr : Hid (∀ n W, Below w.heap.size w W → Calls Tryz.prog 9 #[errV n, .int .i64 n] W fun e w' => e = .returned (.bool true) ∧ Below W.heap.size W w')) :
    Calls Tryz.prog 5 #[.agg #[.slice ao al acap, .slice co cl ccap]] w fun e w' => e = .returned (.bool true) ∧ Below w.heap.size w w' := by
  obtain ⟨w1, hw1⟩ : ∃ w1, w1 = w.alloc (.cells #[.slice ao al acap, .slice co cl ccap] 25) := ⟨_, rfl⟩
  have B1 : Hid (Below w.heap.size w w1) := by unfold Hid; rw [hw1]; exact below_alloc1 _ _
  have kF1 : Hid (Blk w1 w.heap.size 25 #[.slice ao al acap, .slice co cl ccap]) := by unfold Hid; rw [hw1]; exact Blk.new _ _ _
  have x0 : w1.cell? ⟨w.heap.size, 0, none⟩ = some (.slice ao al acap) := kF1.out.cell 0
  have x1 : w1.cell? ⟨w.heap.size, 1, none⟩ = some (.slice co cl ccap) := kF1.out.cell 1
  go_enter Tryz.func5, Tryz.ntmps5
  go_upto_region 1 with fail
  rw [← hw1]
  clear hw1
  go_wp2_with fail
  go_at_call 8
  refine (HPr.out _ B1.out).mono ?_
  rintro e w2 ⟨rfl, hb⟩
  have B2 : Hid (Below w.heap.size w w2) := B1.out.trans (hb.mono B1.out.size)
  have kF2 : Hid (Blk w2 w.heap.size 25 #[.slice ao al acap, .slice co cl ccap]) := kF1.out.below hb
  clear hb x0 x1
  rcases HEV.out with ⟨m, rfl⟩ | ⟨rfl, hE, hz, ha6⟩
  · clear HEV
    go_wp2_with fail
    go_at_call 11
    refine (HPa.out _ B2.out).mono ?_
    rintro e w3 ⟨⟨o1, l1, q1, o2, l2, q2, rfl⟩, hb⟩
    have B3 : Hid (Below w.heap.size w w3) := B2.out.trans (hb.mono B2.out.size)
    clear hb
    obtain ⟨w4, hw4⟩ : ∃ x, x = w3.alloc (.cells #[.slice o1 l1 q1, .slice o2 l2 q2] 25) := ⟨_, rfl⟩
    have B4 : Hid (Below w.heap.size w w4) := by unfold Hid; rw [hw4]; exact B3.out.alloc B3.out.size _
    go_upto_region 4 with fail
    rw [← hw4]
    clear hw4
    go_wp2_with fail
    go_at_call 9
    refine (HEr.out 5 _ B4.out).mono ?_
    rintro e w5 ⟨rfl, hb⟩
    have B5 : Hid (Below w.heap.size w w5) := B4.out.trans (hb.mono B4.out.size)
    clear hb
    go_wp2
    go_ret
    exact ⟨rfl, B5.out⟩
  · clear HEV
    obtain ⟨l, hl⟩ : ∃ l, l = P.data.toList := ⟨_, rfl⟩
    have HE : Hid (endsN l = al + 1) := by unfold Hid; rw [hl]; exact hE
    have HL : Hid (l = P.data.toList ∧ l.length = P.size) := ⟨hl, by rw [hl]; exact Array.length_toList⟩
    clear hE hl
    go_wp2_with fail
    go_loop [7, 8] (fun n i => ∃ k : Nat, k ≤ P.size ∧ i = .int .i64 k ∧ n = .int .i64 ((endsN (l.take k) : Nat) : Int)) (fun _ i => P.size - (intOf i).toNat)
    case atStart => exact ⟨0, Nat.zero_le _, rfl, by simp [endsN]⟩
    case round =>
      obtain ⟨k, hk, rfl, rfl⟩ := hrel
      have hle : endsN (l.take k) ≤ 800 := by
        have h1 := ends_le (l.take k)
        rw [List.length_take] at h1
        omega
      by_cases hlt : k < P.size
      · have hlt' : (k : Int) < (P.size : Int) := by omega
        have k0 : (0 : Int) ≤ (k : Int) := by omega
        have hkl : k < l.length := by rw [HL.out.2]; exact hlt
        have HGD : Hid (l.getD k 0 = P[k]'hlt) := by
          unfold Hid
          have hk' : k < P.data.toList.length := by rw [Array.length_toList]; exact hlt
          rw [HL.out.1, List.getD_eq_getElem?_getD, List.getElem?_eq_getElem hk']
          rfl
        have HST : Hid (endsN (l.take (k + 1)) = endsN (l.take k) + if l.getD k 0 = 10 then 1 else 0) := ends_step hkl
        obtain ⟨E, hEe⟩ : ∃ E, E = endsN (l.take k) := ⟨_, rfl⟩
        rw [← hEe] at hle HST ⊢
        clear hEe hkl
        by_cases hb : P[k]'hlt = 10
        · have hb' : (((P[k]'hlt).toNat : Int) == 10) = true := by rw [hb]; decide
          have HS1 : Hid (endsN (l.take (k + 1)) = E + 1) := by unfold Hid; rw [HST.out, HGD.out, if_pos hb]
          clear hb HGD HST
          go_wp2
          go_round
          case rel => exact ⟨k + 1, by omega, by go_num, by rw [HS1.out]; go_num⟩
          case measure => simp [intOf]; omega
        · have hb' : (((P[k]'hlt).toNat : Int) == 10) = false := by
            simp only [beq_eq_false_iff_ne, ne_eq]
            intro h
            exact hb (UInt8.toNat_inj.1 (by have h2 : (P[k]'hlt).toNat = 10 := by omega
                                            rw [h2]; rfl))
          have HS1 : Hid (endsN (l.take (k + 1)) = E) := by unfold Hid; rw [HST.out, HGD.out, if_neg hb]; rfl
          clear hb HGD HST
          go_wp2
          go_round
          case rel => exact ⟨k + 1, by omega, by go_num, by rw [HS1.out]⟩
          case measure => simp [intOf]; omega
      · have hF : endsN (l.take k) = al + 1 := by rw [List.take_of_length_le (by rw [HL.out.2]; omega)]; exact HE.out
        rw [hF]
        clear hF hle
        have x0 : w2.cell? ⟨w.heap.size, 0, none⟩ = some (.slice ao al acap) := kF2.out.cell 0
        have hq : (((al + 1 : Nat) : Int) == (al : Int) + 1) = true := by simp
        go_wp2
        go_ret
        exact ⟨rfl, B2.out⟩
theorem textLines_of (va vc : Value) (ats : List At) (c : List Int) (w : World) (hA : ReadsA w va ats) (hC : Reads w vc c) (hg : Laid w)
    (cPr : ∀ (va vc : Value) (ats : List At) (c : List Int) (W : World), Below w.heap.size w W → ReadsA W va ats → Reads W vc c → Calls Tryz.prog 8 #[.agg #[va, vc]] W fun e w' => e = .returned (.tuple #[.string (printF ats c), errV (formFault ats c)]) ∧ Below W.heap.size W w')
    (cPa : ∀ (s : ByteArray) (W : World), s.size ≤ 1048576 → Below w.heap.size w W → Calls Tryz.prog 11 #[.string s] W fun e w' => (∃ va vc, e = .returned (.tuple #[.agg #[va, vc], errV (formTextFault s.data.toList)]) ∧ ReadsA w' va (readA s.data.toList) ∧ Reads w' vc (readC s.data.toList)) ∧ Below W.heap.size W w') :
    Calls Tryz.prog 5 #[.agg #[va, vc]] w fun e w' => e = .returned (.bool true) ∧ Below w.heap.size w w' := by
  have hPr := fun W hW => cPr va vc ats c W hW (hA.below hW) (hC.below hW)
  obtain ⟨ao, acap, rfl, _⟩ := hA.slice
  obtain ⟨co, ccap, rfl, _⟩ := hC.slice
  refine textLines_in ao _ acap co _ ccap (printF ats c) (errV (formFault ats c)) w hPr ?_ (fun W hW => ?_) (fun n W hW => merr_any n W (hg.below hW))
  · by_cases h0 : formFault ats c = 0
    · right
      have hP : printF ats c = strOf (formText ats c) := by unfold printF; rw [if_pos h0]
      rw [hP, strOf_list, strOf_size]
      exact ⟨by rw [h0]; rfl, ends_text h0, text_len h0, (formFault_zero.1 h0).1.2⟩
    · exact Or.inl ⟨_, errV_no h0⟩
  · refine (cPa ⟨#[99, 111, 100, 101, 32, 48, 10]⟩ W (by decide) hW).mono ?_
    rintro e w' ⟨⟨va, vc, rfl, h1, h2⟩, hb⟩
    have hf : formTextFault (⟨#[99, 111, 100, 101, 32, 48, 10]⟩ : ByteArray).data.toList = 5 := lines_fact
    rw [hf]
    obtain ⟨o1, q1, rfl, _⟩ := h1.slice
    obtain ⟨o2, q2, rfl, _⟩ := h2.slice
    exact ⟨⟨_, _, _, _, _, _, rfl⟩, hb⟩
end Go.Proofs.YtfnkbbpjfjendaiGreatDoor
