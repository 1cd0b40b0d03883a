/-
  Facts and contracts that the statement leans on.
-/
import Derived.Test.YtnoohlibgaeklaaGreatDoorLibQ10
import Derived.Test.YtnoohlibgaeklaaGreatDoorLibQ11
import Derived.Test.YtnoohlibgaeklaaGreatDoorLibQ13
import Derived.Test.YtnoohlibgaeklaaGreatDoorLibQ14
import Derived.Test.YtnoohlibgaeklaaGreatDoorLibQ16
import Derived.Test.YtnoohlibgaeklaaGreatDoorLibQ17
import Derived.Lib.IndexLaws
import Derived.Deep.CutRange
import Derived.Deep.CutBlock
import Derived.Laws.AppendOwnNone
import Derived.Test.YtnoohlibgaeklaaGreatDoorLibQ8
import Derived.Test.YtnoohlibgaeklaaGreatDoorLibQ2
namespace Go.Proofs.YtnoohlibgaeklaaGreatDoor
open Go.ChangeShapes Go.WideShapes Go.ChangeAt Go.RowKit
set_option maxRecDepth 100000
set_option maxHeartbeats 16000000
theorem word_step {L : List UInt8} {i : Nat} (hi : i < L.length) (h : (L.take i).all (· != 32) = true) : (L.getD i 0 = 32 → moreB L = true ∧ wordL L = L.take i ∧ restL L = L.drop (i + 1)) ∧ (¬ L.getD i 0 = 32 → (L.take (i + 1)).all (· != 32) = true) := by
 have ed : L = L.take i ++ L.getD i 0 :: L.drop (i + 1) := by
  have hg : L.getD i 0 = L[i] := by rw [List.getD_eq_getElem?_getD, List.getElem?_eq_getElem hi]; rfl
  rw [hg]
  have := List.take_append_drop i L
  rw [List.drop_eq_getElem_cons hi] at this
  exact this.symm
 constructor
 ·intro hb
  have e3 : L = L.take i ++ 32 :: L.drop (i + 1) := by rw [hb] at ed; exact ed
  have hw : wordL L = L.take i := by
   have e2 : (L.take i ++ 32 :: L.drop (i + 1)).takeWhile (· != 32) = L.take i := by
    rw [List.takeWhile_append_of_pos (fun a ha => List.all_eq_true.1 h a ha)]
    simp
   unfold wordL
   exact (congrArg (List.takeWhile (· != 32)) e3).trans e2
  refine ⟨?_, hw, ?_⟩
  ·unfold moreB
   rw [List.any_eq_true]
   refine ⟨32, ?_, by decide⟩
   rw [e3]; simp
  ·unfold restL
   rw [hw, List.length_take, Nat.min_eq_left (Nat.le_of_lt hi)]
 ·intro hb
  rw [List.take_add_one, List.all_append, h]
  rw [List.getD_eq_getElem?_getD] at hb
  cases hq : L[i]? with
  | none => rfl
  | some a =>
   rw [hq] at hb
   have hb : ¬ a = 32 := hb
   simp [hb]
theorem word_none {L : List UInt8} (h : L.all (· != 32) = true) : moreB L = false := by
 unfold moreB
 rw [List.any_eq_false]
 intro a ha
 have := List.all_eq_true.1 h a ha
 simpa using this
theorem word_three {x : List UInt8} (h : x = sayW ∨ x = denyW ∨ x = askW) : ∃ a b c : Bool, ((strOf x).toList == [115, 97, 121]) = a ∧ ((strOf x).toList == [100, 101, 110, 121]) = b ∧ ((strOf x).toList == [97, 115, 107]) = c ∧ a = decide (x = sayW) ∧ ((a = false ∧ b = false ∧ c = true ∧ x = askW) ∨ ((c = false ∧ ¬ x = askW ∧ (x = sayW ∨ x = denyW)) ∧ ((a = true ∧ b = false) ∨ (a = false ∧ b = true)))) := by
 rcases h with rfl | rfl | rfl
 ·exact ⟨_, _, _, wq_yes _, wq_no (by decide), wq_no (by decide), by decide, by decide⟩
 ·exact ⟨_, _, _, wq_no (by decide), wq_yes _, wq_no (by decide), by decide, by decide⟩
 ·exact ⟨_, _, _, wq_no (by decide), wq_no (by decide), wq_yes _, by decide, by decide⟩
theorem name_full (w : World) : Calls Tryz.prog 30 #[.int .i64 4] w (Bk w (.string (txtOf fullW))) := by
 go_enter Tryz.func30, Tryz.ntmps30
 go_wp2
 go_ret
 exact ⟨rfl, below_alloc1 _ _⟩
theorem name_clash (w : World) : Calls Tryz.prog 30 #[.int .i64 7] w (Bk w (.string (txtOf clashW))) := by
 go_enter Tryz.func30, Tryz.ntmps30
 go_wp2
 go_ret
 exact ⟨rfl, below_alloc1 _ _⟩
theorem spanSo_step (fs : List Fm) (t : List Int) {L : List Wd} {k : Nat} {D : Wd} (h : L[k]? = some D) : spanSoOver fs t (L.take (k + 1)) = spanSoStep fs t (spanSoOver fs t (L.take k)) D := by
 rw [List.take_add_one, h]
 unfold spanSoOver
 rw [List.foldl_append]
 rfl
theorem refLine_any (fs : List Fm) (hs : SaidOk fs) (v : Value) (L : List UInt8) (hz : L.length ≤ 1048576) (w : World) (hF : SaidAt w v fs) :
    Calls Tryz.prog 8 #[v, .string (strOf L)] w fun e w' => ∃ v', e = .returned (.tuple #[.string (txtOf (lineT fs L)), v']) ∧ SaidAt w' v' (lineS fs L) ∧ Bw w w' := by
 obtain ⟨vo, n, vc, hv, hn⟩ : ∃ vo n vc, v = .slice vo n vc ∧ n = fs.length := by
  obtain ⟨xs, h1, _⟩ := hF
  obtain ⟨o, c, h2⟩ := h1.slice
  exact ⟨o, _, c, h2, rfl⟩
 subst hv
 obtain ⟨T0, hT0⟩ := nm (txtOf (lineT fs L))
 obtain ⟨FX, hFX⟩ := nm (lineS fs L)
 have HX : Hid (T0 = txtOf (lineT fs L) ∧ FX = lineS fs L) := ⟨hT0, hFX⟩
 have HF0 := hide hF
 have HN : Hid (n = fs.length ∧ SaidOk fs) := ⟨hn, hs⟩
 have HZ : Hid ((strOf (restL L)).size ≤ 1048576) := by unfold Hid restL; rw [strOf_size, List.length_drop]; omega
 -- an answer that leaves what was said as it was
 have HKeep : Hid (∀ (T : ByteArray) (W : World), Bw w W → T = txtOf (lineT fs L) → lineS fs L = fs → ∃ v', Ending.returned (.tuple #[.string T, .slice vo n vc]) = .returned (.tuple #[.string T0, v']) ∧ SaidAt W v' FX ∧ Bw w W) := fun T W hb h1 h2 => ⟨.slice vo n vc, by rw [h1, hT0], by rw [hFX, h2]; exact hF.below hb, hb⟩
 rw [← hT0, ← hFX]
 obtain ⟨s, hsL⟩ := nm (strOf L)
 have HL : Hid (s = strOf L ∧ L.length = s.size) := ⟨hsL, by rw [hsL, strOf_size]⟩
 rw [← hsL]
 have hz' : s.size ≤ 1048576 := by rw [hsL, strOf_size]; exact hz
 clear hsL hz hn hs hF hT0 hFX
 go_enter Tryz.func8, Tryz.ntmps8
 go_upto_block 0 with fail
 go_cut [6, 7, 8, 9] from 31 (fun wv rv mv _ wx => ((moreB L = false ∧ wv = .string s ∧ mv = .bool false) ∨ (moreB L = true ∧ wv = .string (strOf (wordL L)) ∧ rv = .string (strOf (restL L)) ∧ mv = .bool true)) ∧ w = wx)
 case first =>
  go_wp2
  go_loop [6, 7, 8, 9] (fun wv rv mv iv => ∃ i : Nat, i ≤ s.size ∧ iv = .int .i64 i ∧ ((mv = .bool false ∧ wv = .string s ∧ (L.take i).all (· != 32) = true) ∨ (mv = .bool true ∧ wv = .string (strOf (wordL L)) ∧ rv = .string (strOf (restL L)) ∧ moreB L = true))) (fun _ _ _ iv => s.size - (intOf iv).toNat)
  case atStart => exact ⟨0, Nat.zero_le _, rfl, Or.inl ⟨rfl, rfl, rfl⟩⟩
  case round =>
   obtain ⟨i, hi, rfl, hcase⟩ := hrel
   rcases hcase with ⟨rfl, rfl, hpl⟩ | ⟨rfl, rfl, rfl, hmo⟩
   ·have HPl := hide hpl
    clear hpl
    by_cases hlt : i < s.size
    ·have hlt' : (i : Int) < (s.size : Int) := by omega
     obtain ⟨st1, st2⟩ := word_step (L := L) (i := i) (by rw [HL.out.2]; exact hlt) HPl.out
     have HGD : Hid (L.getD i 0 = s[i]'hlt) := by
      unfold Hid
      have e : s.data.toList = L := by rw [HL.out.1]; unfold strOf; simp
      have hk' : i < s.data.toList.length := by rw [Array.length_toList]; exact hlt
      rw [← e, List.getD_eq_getElem?_getD, List.getElem?_eq_getElem hk']
      rfl
     have HS1 := hide st1
     have HS2 := hide st2
     clear st1 st2
     by_cases hb : s[i]'hlt = 32
     ·have hb' : (((s[i]'hlt).toNat : Int) == 32) = true := by rw [hb]; decide
      obtain ⟨q1, q2, q3⟩ := HS1.out (by rw [HGD.out]; exact hb)
      have HX1 : Hid (s.extract 0 i = strOf (wordL L)) := by
       unfold Hid
       rw [q2, HL.out.1, strOf_take]
      have HX2 : Hid (s.extract (i + 1) s.size = strOf (restL L)) := by
       unfold Hid
       rw [q3, ← HL.out.2, HL.out.1]
       exact strOf_drop L _ _ rfl
      have HMo := hide q1
      clear hb q1 q2 q3 HS1 HS2 HGD
      have h0 : (0 : Int) ≤ (i : Int) := by omega
      have h1 : (i : Int) ≤ (s.size : Int) := by omega
      have h2 : (i : Int) + 1 ≤ (s.size : Int) := by omega
      go_wp2
      go_round
      case rel => exact ⟨i + 1, by omega, by go_num, Or.inr ⟨rfl, by rw [← HX1.out], by rw [← HX2.out], HMo.out⟩⟩
      case measure => simp [intOf]; omega
     ·have hb' : (((s[i]'hlt).toNat : Int) == 32) = false := by
       simp only [beq_eq_false_iff_ne, ne_eq]
       intro h
       exact hb (UInt8.toNat_inj.1 (by show _ = 32; omega))
      have HPn : Hid ((L.take (i + 1)).all (· != 32) = true) := HS2.out (by rw [HGD.out]; exact hb)
      clear hb HS1 HS2 HGD
      go_wp2
      go_round
      case rel => exact ⟨i + 1, by omega, by go_num, Or.inl ⟨rfl, rfl, HPn.out⟩⟩
      case measure => simp [intOf]; omega
    ·have hlt' : ¬ (i : Int) < (s.size : Int) := by omega
     have HNo : Hid (moreB L = false) := word_none (by have h := HPl.out; rw [List.take_of_length_le (by have := HL.out.2; omega)] at h; exact h)
     go_wp2_with fail
     go_meet
     case rel => exact ⟨Or.inl ⟨HNo.out, rfl, rfl⟩, rfl⟩
   ·have HMo := hide hmo
    clear hmo
    by_cases hlt : i < s.size
    ·have hlt' : (i : Int) < (s.size : Int) := by omega
     go_wp2_with fail
     go_meet
     case rel => exact ⟨Or.inr ⟨HMo.out, rfl, rfl, rfl⟩, rfl⟩
    ·have hlt' : ¬ (i : Int) < (s.size : Int) := by omega
     go_wp2_with fail
     go_meet
     case rel => exact ⟨Or.inr ⟨HMo.out, rfl, rfl, rfl⟩, rfl⟩
 case rest =>
 obtain ⟨hcase, hwc⟩ := hcut
 subst hwc
 rcases hcase with ⟨hmo, rfl, rfl⟩ | ⟨hmo, rfl, rfl, rfl⟩
 ·have HM := hide hmo
  have HS : Hid (lineS fs L = fs) := lineS_same fun h => by rw [HM.out] at h; exact absurd h.1 (by decide)
  clear hmo
  by_cases h1 : L = manyW
  ·have q1 : (s.toList == [109, 97, 110, 121]) = true := by rw [HL.out.1, h1]; exact wq_yes _
   have HT : Hid (lineT fs L = decT n) := by unfold Hid lineT; rw [if_pos HM.out, if_pos h1, HN.out.1]
   have HDg := hide fun (W : World) => refDigits_any n (by have := HN.out.2.n6; have := HN.out.1; omega) W
   clear h1
   go_wp2_with fail
   go_at_call 9
   refine (HDg.out _).mono ?_
   rintro e w1 ⟨rfl, rfl⟩
   go_wp2
   go_ret2
   exact HKeep.out _ _ (Below.refl _ _) (by rw [HT.out]) HS.out
  have q1 : (s.toList == [109, 97, 110, 121]) = false := by rw [HL.out.1]; exact wq_no h1
  by_cases h2 : L = worldsW
  ·have q2 : (s.toList == [119, 111, 114, 108, 100, 115]) = true := by rw [HL.out.1, h2]; exact wq_yes _
   have HT : Hid (lineT fs L = decT (worldsSo fs).toNat) := by unfold Hid lineT; rw [if_pos HM.out, if_neg h1, if_pos h2]
   clear h1 h2
   obtain ⟨A, hA⟩ := nm (everyC 4)
   obtain ⟨p, hp⟩ : ∃ p : (Nat → Int) → Bool, p = fun N => (madeN N 8).so fs := ⟨_, rfl⟩
   have HA := hide hA
   have HP : Hid (∀ N, p N = (madeN N 8).so fs) := fun N => by rw [hp]
   have hl : ∀ N ∈ A, 1 ≤ likeN N := fun N hN => like_pos (u := 4) (by decide) (by rw [← hA]; exact hN)
   have hr := sumL_range hl p
   have e4 : sumL (fun _ => true) A = 4096 := by rw [hA, (like_facts 4 (by decide)).2]; decide
   rw [e4] at hr
   have HR : Hid (∀ (k : Nat) (N : Nat → Int), A[k]? = some N → 0 ≤ likeN N ∧ likeN N ≤ 262144 ∧ 0 ≤ sumL p (A.take k) ∧ sumL p (A.take k) ≤ 262144) := fun k N hN => by
    have hmem := List.mem_of_getElem? hN
    have h3 := hl N hmem
    have h4 := sumL_has hl (p := fun _ => true) hmem rfl
    rw [e4] at h4
    have h5 := sumL_range (A := A.take k) (fun N hN => hl N (List.mem_of_mem_take hN)) p
    have h6 := sumL_part (A := A) (fun N hN => Int.le_trans (by decide) (hl N hN)) (p := p) k
    omega
   have HC : Hid (∀ N, N ∈ A → countsFault N = 0) := fun N hN => everyC_right (u := 4) (by decide) (by rw [← hA]; exact hN)
   have hA63 : A.length ≤ 1716 := by rw [hA]; exact length_everyC (by decide)
   have e0 : ((worldsSo fs).toNat : Int) = sumL p A := by rw [hA, hp]; unfold worldsSo; rw [hA, hp] at hr; exact Int.toNat_of_nonneg hr.1
   have HDg : Hid (∀ W, Calls Tryz.prog 9 #[.int .i64 (sumL p A)] W (Sk W (.string T0))) := fun W => by
    rw [← e0, HX.out.1, HT.out]
    exact refDigits_any _ (by omega) W
   have HAll := hide (refAll_any 4 (by decide) w)
   rw [← hA] at HAll
   clear hA hp hl hr e4 e0
   go_wp2_with fail
   go_at_call 17
   refine HAll.out.mono ?_
   rintro e w1 ⟨u, rfl, hu, _, hb⟩
   have HB1 := hide hb
   rcases hu with ⟨_, _, _, h0⟩ | ⟨b, off, cap, rfl, hbl, _, _, hat⟩
   ·exact absurd (HA.out.symm.trans h0) (allF_ne 7 4 _)
   have HAt := hide hat
   have Hbl := hide hbl
   clear hb hat hbl HAll
   go_wp2
   go_loopw [11, 12, 13] (fun nv iv _ wr => ∃ k : Nat, k ≤ A.length ∧ iv = .int .i64 k ∧ nv = .int .i64 (sumL p (A.take k)) ∧ Below w1.heap.size w1 wr) (fun _ iv _ _ => A.length - (intOf iv).toNat)
   case atStart => exact ⟨0, Nat.zero_le _, rfl, rfl, Below.refl _ _⟩
   case round =>
    obtain ⟨k, hk, rfl, rfl, hbr⟩ := hrel
    have HBr := hide hbr
    clear hbr
    by_cases hlt : k < A.length
    ·obtain ⟨N, hN⟩ : ∃ N, A[k]? = some N := ⟨_, List.getElem?_eq_getElem hlt⟩
     have HCe : Hid (∀ W, Below w1.heap.size w1 W → W.cell? ⟨b, off + k * 8, none⟩ = some (.int .i64 (N 0)) ∧ W.cell? ⟨b, off + k * 8 + 1, none⟩ = some (.int .i64 (N 1)) ∧ W.cell? ⟨b, off + k * 8 + 2, none⟩ = some (.int .i64 (N 2)) ∧ W.cell? ⟨b, off + k * 8 + 3, none⟩ = some (.int .i64 (N 3)) ∧ W.cell? ⟨b, off + k * 8 + 4, none⟩ = some (.int .i64 (N 4)) ∧ W.cell? ⟨b, off + k * 8 + 5, none⟩ = some (.int .i64 (N 5)) ∧ W.cell? ⟨b, off + k * 8 + 6, none⟩ = some (.int .i64 (N 6)) ∧ W.cell? ⟨b, off + k * 8 + 7, none⟩ = some (.int .i64 (N 7))) := fun W hW => by
      have h := fun f hf => (hW.cell Hbl.out).trans (HAt.out k N hN f hf)
      exact ⟨h 0 (by omega), h 1 (by omega), h 2 (by omega), h 3 (by omega), h 4 (by omega), h 5 (by omega), h 6 (by omega), h 7 (by omega)⟩
     have HNc : Hid (countsFault N = 0) := HC.out N (List.mem_of_getElem? hN)
     have HMk : Hid (∀ W, Calls Tryz.prog 19 #[.agg #[.int .i64 (N 0), .int .i64 (N 1), .int .i64 (N 2), .int .i64 (N 3), .int .i64 (N 4), .int .i64 (N 5), .int .i64 (N 6), .int .i64 (N 7)]] W (Bk W (.agg #[.int .i64 (madeN N 8).u, .int .i64 (madeN N 8).a, .int .i64 (madeN N 8).b, .int .i64 (madeN N 8).c]))) := fun W => refMade_right N W HNc.out
     have HSk := hide fun (W : World) (hW : Bw w W) => refSo_any (.slice vo n vc) fs HN.out.2.fault (madeN N 8) (made_ok HNc.out) W ((HF0.out.below hW).reads HN.out.2.n6)
     have HWk := hide fun (W : World) => ways_right N W HNc.out
     have HT : Hid (sumL p (A.take (k + 1)) = sumL p (A.take k) + (if p N = true then likeN N else 0)) := sumL_take hN
     obtain ⟨r1, r2, r3, r4⟩ := HR.out k N hN
     obtain ⟨q, hq⟩ := nm (p N)
     obtain ⟨m, hm⟩ := nm (sumL p (A.take k))
     obtain ⟨l, hl⟩ := nm (likeN N)
     rw [← HP.out N, ← hq] at HSk
     rw [← hq, ← hm, ← hl] at HT
     rw [← hm] at r3 r4 ⊢
     rw [← hl] at HWk r1 r2
     clear hq hm hl hN
     have hltz : (k : Int) < (A.length : Int) := by omega
     obtain ⟨c0, c1, c2, c3, c4, c5, c6, c7⟩ := HCe.out wr HBr.out
     go_wp2_with fail
     go_at_call 19
     refine (HMk.out _).mono ?_
     rintro e w2 ⟨rfl, hb⟩
     have HB2 := bt HBr hb
     clear hb c0 c1 c2 c3 c4 c5 c6 c7
     go_wp2_with fail
     go_at_call 18
     refine (HSk.out _ (HB1.out.trans (HB2.out.mono HB1.out.size))).mono ?_
     rintro e w3 ⟨rfl, hb⟩
     have HB3 := bt HB2 hb
     clear hb
     cases q with
     | true =>
      have HT1 : Hid (sumL p (A.take (k + 1)) = m + l) := HT.out
      obtain ⟨c0, c1, c2, c3, c4, c5, c6, c7⟩ := HCe.out w3 HB3.out
      go_wp2_with fail
      go_at_call 20
      refine (HWk.out _).mono ?_
      rintro e w4 ⟨rfl, hb⟩
      have HB4 := bt HB3 hb
      clear hb c0 c1 c2 c3 c4 c5 c6 c7
      go_wp2
      go_roundw
      case rel => exact ⟨k + 1, by omega, by go_num, by rw [HT1.out], HB4.out⟩
      case measure => first | (simp [intOf]; done) | (simp [intOf]; omega)
     | false =>
      have HT1 : Hid (sumL p (A.take (k + 1)) = m) := by unfold Hid; rw [HT.out, if_neg (by decide), Int.add_zero]
      go_wp2
      go_roundw
      case rel => exact ⟨k + 1, by omega, by go_num, by rw [HT1.out], HB3.out⟩
      case measure => first | (simp [intOf]; done) | (simp [intOf]; omega)
    ·obtain rfl : k = A.length := by omega
     have hltz : ¬ (A.length : Int) < (A.length : Int) := by omega
     rw [List.take_length]
     go_wp2_with fail
     go_at_call 9
     refine (HDg.out _).mono ?_
     rintro e w2 ⟨rfl, rfl⟩
     go_wp2
     go_ret2
     exact HKeep.out _ _ (HB1.out.trans (HBr.out.mono HB1.out.size)) HX.out.1 HS.out
  have q2 : (s.toList == [119, 111, 114, 108, 100, 115]) = false := by rw [HL.out.1]; exact wq_no h2
  have HT : Hid (lineT fs L = badW) := by unfold Hid lineT; rw [if_pos HM.out, if_neg h1, if_neg h2]
  clear h1 h2
  go_wp2
  go_ret2
  exact HKeep.out _ _ (Below.refl _ _) (by rw [HT.out]; rfl) HS.out
 have HM : Hid (moreB L = true ∧ ¬ moreB L = false) := ⟨hmo, by rw [hmo]; decide⟩
 clear hmo
 by_cases hsp : wordL L = spanW
 ·have q1 : ((strOf (wordL L)).toList == [115, 112, 97, 110]) = true := by rw [hsp]; exact wq_yes _
  have HS : Hid (lineS fs L = fs) := lineS_same fun h => by rw [hsp] at h; exact absurd h.2.1 (by decide)
  have HRt := readTerm_any (strOf (restL L)) HZ.out w
  rw [strOf_list] at HRt
  replace HRt := hide HRt
  obtain ⟨t, ht⟩ := nm (readN (restL L))
  have HT : Hid (lineT fs L = if lettersB (restL L) = true ∧ faultN t = 0 then decT (spanSo fs t).1.toNat ++ (32 :: decT (spanSo fs t).2.toNat) else badW) := by unfold Hid lineT; rw [if_neg HM.out.2, if_pos hsp, ← ht]
  rw [← ht] at HRt
  clear hsp ht
  go_wp2_with fail
  go_at_call 21
  refine HRt.out.mono ?_
  rintro e w1 ⟨h1, h2, hb⟩
  have HB1 := hide hb
  by_cases hl : lettersB (restL L) = true
  rotate_left
  ·obtain rfl := h2 (by simpa using hl)
   have HT1 : Hid (lineT fs L = badW) := by unfold Hid; rw [HT.out, if_neg fun h => hl h.1]
   clear h1 h2 hl hb
   go_wp2
   go_ret2
   exact HKeep.out _ _ HB1.out (by rw [HT1.out]; rfl) HS.out
  obtain ⟨vt, rfl, hv⟩ := h1 hl
  have HV := hide hv
  have HTm := hide (refTerm_any t vt w1 hv)
  by_cases hf : faultN t = 0
  rotate_left
  ·have HT1 : Hid (lineT fs L = badW) := by unfold Hid; rw [HT.out, if_neg fun h => hf h.2]
   obtain ⟨F, hF⟩ := nm (faultN t)
   rw [← hF] at HTm hf
   have hFb : (F == 0) = false := by simpa using hf
   clear h1 h2 hl hb hv hf hF
   go_wp2_with fail
   go_at_call 22
   refine HTm.out.mono ?_
   rintro e w2 ⟨rfl, rfl⟩
   go_wp2
   go_ret2
   exact HKeep.out _ _ HB1.out (by rw [HT1.out]; rfl) HS.out
  rw [hf] at HTm
  have HG : Hid (lettersB (restL L) = true ∧ faultN t = 0) := ⟨hl, hf⟩
  obtain ⟨A, hA⟩ := nm (worldsL 4)
  obtain ⟨P, hP⟩ : ∃ P : Nat → Int × Int, P = fun k => spanSoOver fs t (A.take k) := ⟨_, rfl⟩
  have HP0 : Hid (P 0 = (100, 0)) := by unfold Hid; rw [hP]; rfl
  have HP1 : Hid (∀ (k : Nat) (D : Wd), A[k]? = some D → P (k + 1) = spanSoStep fs t (P k) D) := fun k D hD => by rw [hP]; exact spanSo_step fs t hD
  have hpe : P A.length = spanSo fs t := by
   rw [hP, hA]
   show spanSoOver fs t ((worldsL 4).take (worldsL 4).length) = _
   rw [List.take_length]; rfl
  have hr : (0 ≤ (spanSo fs t).1 ∧ (spanSo fs t).1 ≤ 100) ∧ 0 ≤ (spanSo fs t).2 ∧ (spanSo fs t).2 ≤ 100 := spanSo_range fs t (worldsL 4)
  have e1 : (((spanSo fs t).1.toNat : Nat) : Int) = (P A.length).1 := by rw [hpe]; exact Int.toNat_of_nonneg hr.1.1
  have e2 : (((spanSo fs t).2.toNat : Nat) : Int) = (P A.length).2 := by rw [hpe]; exact Int.toNat_of_nonneg hr.2.1
  obtain ⟨T1, hT1⟩ := nm (txtOf (decT (spanSo fs t).1.toNat))
  obtain ⟨T2, hT2⟩ := nm (txtOf (decT (spanSo fs t).2.toNat))
  have HTT : Hid (T1 ++ txtOf [32] ++ T2 = txtOf (lineT fs L)) := by unfold Hid; rw [hT1, hT2, txt_append, txt_append, HT.out, if_pos ⟨hl, hf⟩, List.append_assoc]; rfl
  have z1 : T1.size ≤ 9 := by rw [hT1]; exact decT_size _
  have z2 : T2.size ≤ 9 := by rw [hT2]; exact decT_size _
  have hA63 : A.length ≤ 1716 := by rw [hA, worldsL_length]; exact length_everyC (by decide)
  have HD1 : Hid (∀ W, Calls Tryz.prog 9 #[.int .i64 (P A.length).1] W (Sk W (.string T1))) := fun W => by rw [← e1, hT1]; exact refDigits_any _ (by omega) W
  have HD2 : Hid (∀ W, Calls Tryz.prog 9 #[.int .i64 (P A.length).2] W (Sk W (.string T2))) := fun W => by rw [← e2, hT2]; exact refDigits_any _ (by omega) W
  have HWl := hide fun (W : World) => refWorlds_any 4 (by decide) W
  have HOk : Hid (∀ D, D ∈ A → D.ok = true) := fun D hD => worldsL_ok (by decide : 4 ≤ 6) (by rw [← hA]; exact hD)
  rw [← hA] at HWl
  have HVa : Hid (∀ (D : Wd) (W : World), D ∈ A → Below w1.heap.size w1 W → Calls Tryz.prog 25 #[vt, .agg #[.int .i64 D.u, .int .i64 D.a, .int .i64 D.b, .int .i64 D.c]] W (Bk W (.int .i64 (D.val t)))) := fun D W hD hW => by
   rcases HV.out.below hW with ⟨_, _, _, h0⟩ | ⟨b, off, cap, rfl, hbl, hp, hle, hc⟩
   ·rw [h0] at hf; exact absurd hf (by decide)
   ·exact refValue_any t hf D.u D.a D.b D.c (HOk.out D hD) b off cap hle.2 W ⟨hbl, fun k hk => hc k hk⟩
  clear h1 h2 hl hb hv hf hA hP hpe hr e1 e2 hT1 hT2
  go_wp2_with fail
  go_at_call 22
  refine HTm.out.mono ?_
  rintro e w2 ⟨rfl, rfl⟩
  go_wp2_with fail
  go_at_call 23
  refine (HWl.out _).mono ?_
  rintro e w3 ⟨b, cap, rfl, hbl, hat, hb⟩
  have HB3 := hide hb
  have HAt := hide hat
  have Hbl := hide hbl
  clear hb hat hbl HWl
  go_wp2
  go_loopw [16, 17, 19, 20, 21] (fun lv mv iv _ _ wr => ∃ k : Nat, k ≤ A.length ∧ iv = .int .i64 k ∧ lv = .int .i64 (P k).1 ∧ mv = .int .i64 (P k).2 ∧ Bw w3 wr) (fun _ _ iv _ _ _ => A.length - (intOf iv).toNat)
  case atStart => exact ⟨0, Nat.zero_le _, rfl, by rw [HP0.out], by rw [HP0.out], Below.refl _ _⟩
  case round =>
   obtain ⟨k, hk, rfl, rfl, rfl, hbr⟩ := hrel
   have HBr := hide hbr
   clear hbr
   by_cases hlt : k < A.length
   ·obtain ⟨D, hD⟩ : ∃ D, A[k]? = some D := ⟨_, List.getElem?_eq_getElem hlt⟩
    have hmem := List.mem_of_getElem? hD
    have HCe : Hid (∀ W, Bw w3 W → WdAt W b (k * 4) D) := fun W hW => (HAt.out k D hD).at hW Hbl.out
    have HSk := hide fun (W : World) (hW : Bw w W) => refSo_any (.slice vo n vc) fs HN.out.2.fault D (HOk.out D hmem) W ((HF0.out.below hW).reads HN.out.2.n6)
    have HVk := hide fun (W : World) (hW : Below w1.heap.size w1 W) => HVa.out D W hmem hW
    have HPk := hide (HP1.out k D hD)
    obtain ⟨u0, u6, s0, s1⟩ := okB_iff.1 (ok_val (HOk.out D hmem) t)
    have h63 := allN_le u0 u6
    have HSz := hide fun (X : World) => refSize_any (D.val t) s0 (by omega) X
    unfold spanSoStep at HPk
    obtain ⟨s0, hs0⟩ := nm (D.so fs)
    obtain ⟨zz, hzz⟩ := nm (pcN (D.val t))
    obtain ⟨x, hx⟩ := nm (D.val t)
    obtain ⟨lo, hlo⟩ := nm ((P k).1)
    obtain ⟨hi, hhi⟩ := nm ((P k).2)
    rw [← hs0, ← hzz, ← hlo, ← hhi] at HPk
    rw [← hs0] at HSk
    rw [← hzz, ← hx] at HSz
    rw [← hx] at HVk
    rw [← hlo, ← hhi]
    clear hs0 hzz hx hlo hhi hD hmem u0 u6 s1 h63
    have hltz : (k : Int) < (A.length : Int) := by omega
    obtain ⟨c0, c1, c2, c3⟩ := HCe.out wr HBr.out
    go_wp2_with fail
    go_at_call 18
    refine (HSk.out _ ((HB1.out.trans (HB3.out.mono HB1.out.size)).trans (HBr.out.mono (Nat.le_trans HB1.out.size HB3.out.size)))).mono ?_
    rintro e w4 ⟨rfl, hb⟩
    have HB4 := bt HBr hb
    clear hb c0 c1 c2 c3
    obtain ⟨c0, c1, c2, c3⟩ := HCe.out w4 HB4.out
    go_wp2_with fail
    go_at_call 25
    refine (HVk.out _ (HB3.out.trans (HB4.out.mono HB3.out.size))).mono ?_
    rintro e w5 ⟨rfl, hb⟩
    have HB5 := bt HB4 hb
    clear hb c0 c1 c2 c3
    go_wp2_with fail
    go_at_call 24
    refine (HSz.out _).mono ?_
    rintro e w6 ⟨rfl, rfl⟩
    cases s0 <;> by_cases g1 : zz < lo <;> by_cases g2 : hi < zz
    all_goals
     go_wp2
     go_roundw
     case rel => exact ⟨k + 1, by omega, by go_num, by simp [HPk.out, g1, g2] <;> omega, by simp [HPk.out, g1, g2] <;> omega, HB5.out⟩
     case measure => first | (simp [intOf]; done) | (simp [intOf]; omega)
   ·obtain rfl : k = A.length := by omega
    have hltz : ¬ (A.length : Int) < (A.length : Int) := by omega
    go_wp2_with fail
    go_at_call 9
    refine (HD1.out _).mono ?_
    rintro e w4 ⟨rfl, rfl⟩
    go_wp2_with fail
    go_at_call 9
    refine (HD2.out _).mono ?_
    rintro e w4 ⟨rfl, rfl⟩
    have hs1 : (T1 ++ (⟨#[32]⟩ : ByteArray)).size ≤ 20 := by rw [ByteArray.size_append]; show T1.size + 1 ≤ 20; omega
    have hs0 : T1.size ≤ 20 := by omega
    have hs2 : T2.size ≤ 20 := by omega
    go_wp2
    go_ret2
    exact HKeep.out _ _ ((HB1.out.trans (HB3.out.mono HB1.out.size)).trans (HBr.out.mono (Nat.le_trans HB1.out.size HB3.out.size))) HTT.out HS.out
 have q0 : ((strOf (wordL L)).toList == [115, 112, 97, 110]) = false := wq_no hsp
 by_cases hw : wordL L = sayW ∨ wordL L = denyW ∨ wordL L = askW
 rotate_left
 ·have q1 : ((strOf (wordL L)).toList == [115, 97, 121]) = false := wq_no fun h => hw (Or.inl h)
  have q2 : ((strOf (wordL L)).toList == [100, 101, 110, 121]) = false := wq_no fun h => hw (Or.inr (Or.inl h))
  have q3 : ((strOf (wordL L)).toList == [97, 115, 107]) = false := wq_no fun h => hw (Or.inr (Or.inr h))
  have HT : Hid (lineT fs L = badW ∧ lineS fs L = fs) := ⟨by unfold lineT; rw [if_neg HM.out.2, if_neg hsp, if_neg hw], lineS_same fun h => hw (h.2.1.elim Or.inl fun h => Or.inr (Or.inl h))⟩
  clear hsp hw
  go_wp2
  go_ret2
  exact HKeep.out _ _ (Below.refl _ _) (by rw [HT.out.1]; rfl) HT.out.2
 have HRa := readAtom_new (strOf (restL L)) HZ.out w
 rw [strOf_list] at HRa
 have HTe : Hid (lineT fs L = if lineFault (restL L) = 0 then (if wordL L = askW then answerW (answerN (askP fs [atOf (restL L)] [0] 4)) else if 6 ≤ fs.length then fullW else if openN (fs ++ [aloneF (atOf (restL L)) (decide (wordL L = sayW))]) 4 = true then okW else clashW) else badW) := by unfold Hid lineT; rw [if_neg HM.out.2, if_neg hsp, if_pos hw]
 obtain ⟨k1, k2, k3, q1, q2, q3, hk1, hk⟩ := word_three hw
 by_cases hl : lineFault (restL L) = 0
 rotate_left
 ·have HT : Hid (lineT fs L = badW ∧ lineS fs L = fs) := ⟨by rw [HTe.out, if_neg hl], lineS_same fun h => hl h.2.2.1⟩
  obtain ⟨F, hF⟩ := nm (lineFault (restL L))
  have HR : Hid (Calls Tryz.prog 26 #[.string (strOf (restL L))] w (Bk w (.tuple #[.agg #[.int .i64 0, .slice none 0 0, .slice none 0 0, .int .i64 0], .int .i64 F]))) := HRa.mono fun e w' ⟨a, h1, _, h3, h4⟩ => ⟨by rw [h1, h3 hl, hF]; rfl, h4⟩
  rw [← hF] at hl
  have hFb : (F == 0) = false := by simpa using hl
  clear hsp hw HRa hk1 hl hF
  rcases hk with ⟨rfl, rfl, rfl, -⟩ | ⟨⟨rfl, -, -⟩, ⟨rfl, rfl⟩ | ⟨rfl, rfl⟩⟩
  all_goals
   go_wp2_with fail
   go_at_call 26
   refine HR.out.mono ?_
   rintro e w1 ⟨rfl, hb⟩
   have HB1 := hide hb
   clear hb
   go_wp2
   go_ret2
   exact HKeep.out _ _ (HB1.out.alloc HB1.out.size _) (by rw [HT.out.1]; rfl) HT.out.2
 obtain ⟨a, ha⟩ := nm (atOf (restL L))
 have hal : a.fault = 0 := by rw [ha]; exact (words_ok hl).2.2
 have HRg : Hid (Calls Tryz.prog 26 #[.string (strOf (restL L))] w fun e w' => ∃ so sn sc tto tn tc, e = .returned (.tuple #[.agg #[.int .i64 a.k, .slice so sn sc, .slice tto tn tc, .int .i64 a.n], .int .i64 0]) ∧ Reads w' (.slice so sn sc) a.s ∧ Reads w' (.slice tto tn tc) a.t ∧ Bw w w') := HRa.mono fun e w' ⟨x, h1, h2, _, h4⟩ => by
  obtain ⟨v0, v1, hx, r0, r1, _⟩ := h2 hl
  have e0 : wordsFault (cutL (restL L)) = 0 := hl
  rw [e0, hx] at h1
  subst ha
  obtain ⟨s1, s3, rfl, _⟩ := r0.slice
  obtain ⟨t1, t3, rfl, _⟩ := r1.slice
  exact ⟨s1, _, s3, t1, _, t3, h1, r0, r1, h4⟩
 obtain ⟨ak, hak⟩ := nm a.k
 obtain ⟨an, han⟩ := nm a.n
 rw [← hak, ← han] at HRg
 clear HRa
 rcases hk with ⟨rfl, rfl, rfl, h⟩ | ⟨⟨rfl, hna, hw2⟩, hk⟩
 ·obtain ⟨p, hp⟩ := nm (askP fs [a] [0] 4)
  have HT : Hid (lineT fs L = answerW (answerN p) ∧ lineS fs L = fs) := ⟨by rw [HTe.out, if_pos hl, if_pos h, hp, ha], lineS_same fun c => by rw [h] at c; exact absurd c.2.1 (by decide)⟩
  obtain ⟨A, hA⟩ := nm (answerN p)
  have HAn := hide fun (W : World) => refAnswer_any p.1 p.2 W
  have hAr : A = 1 ∨ A = -1 ∨ A = 0 := by
   rw [hA]
   unfold answerN
   split
   ·exact Or.inl rfl
   ·split
    ·exact Or.inr (Or.inl rfl)
    ·exact Or.inr (Or.inr rfl)
  rw [show answerN (p.1, p.2) = A from hA.symm] at HAn
  rw [← hA] at HT
  have HAs := hide fun (xa xc : Value) (W : World) (hW : Bw w W) => refAsk_any (.slice vo n vc) xa xc fs [a] [0] 4 (by decide) HN.out.2.fault (alone_right hal true) W ((HF0.out.below hW).reads HN.out.2.n6)
  rw [← hp] at HAs
  have HK : Hid (ak = a.k ∧ an = a.n) := ⟨hak, han⟩
  clear hsp hw hk1 hl hal ha h hp hA hak han
  go_wp2_with fail
  go_at_call 26
  refine HRg.out.mono ?_
  rintro e w1 ⟨so, sn, sc, tto, tn, tc, rfl, hs, ht, hb⟩
  have HB1 := hide hb
  have HAl := hide fun (W : World) (hW : Below w1.heap.size w1 W) => refAlone_any a true (.slice so sn sc) (.slice tto tn tc) W (hs.below hW) (ht.below hW)
  rw [← HK.out.1, ← HK.out.2] at HAl
  clear hb hs ht HRg
  go_wp2_with fail
  go_at_call 28
  refine (HAl.out _ (below_alloc1 _ _)).mono ?_
  rintro e w2 ⟨o1, l1, c1, o2, l2, c2, rfl, hr, hb⟩
  have HB2 : Hid (Bw w w2) := (HB1.out.alloc HB1.out.size _).trans (hb.mono (by have := HB1.out.size; simp; omega))
  have HR2 := hide hr
  clear hb hr HAl
  go_wp2_with fail
  go_at_call 27
  refine (HAs.out _ _ _ HB2.out HR2.out.1 HR2.out.2).mono ?_
  rintro e w3 ⟨rfl, hb⟩
  have HB3 := bt HB2 hb
  clear hb
  go_wp2_with fail
  go_at_call 29
  refine (HAn.out _).mono ?_
  rintro e w4 ⟨rfl, rfl⟩
  rcases hAr with rfl | rfl | rfl
  all_goals
   go_wp2
   go_ret2
   exact HKeep.out _ _ HB3.out (by rw [HT.out.1]; rfl) HT.out.2
 by_cases h6 : 6 ≤ n
 ·have HT : Hid (lineT fs L = fullW ∧ lineS fs L = fs) := ⟨by rw [HTe.out, if_pos hl, if_neg hna, if_pos (by rw [← HN.out.1]; exact h6)], lineS_same fun c => by have := c.2.2.2.1; have := HN.out.1; omega⟩
  have h6z : (6 : Int) ≤ (n : Int) := by omega
  clear hsp hw hk1 hl hal ha hna hw2 h6 hak han
  rcases hk with ⟨rfl, rfl⟩ | ⟨rfl, rfl⟩
  all_goals
   go_wp2_with fail
   go_at_call 26
   refine HRg.out.mono ?_
   rintro e w1 ⟨so, sn, sc, tto, tn, tc, rfl, _, _, hb⟩
   have HB1 := hide hb
   clear hb
   go_wp2_with fail
   go_at_call 30
   refine (name_full _).mono ?_
   rintro e w2 ⟨rfl, hb⟩
   have HB2 : Hid (Bw w w2) := (HB1.out.alloc HB1.out.size _).trans (hb.mono (by have := HB1.out.size; simp; omega))
   clear hb
   go_wp2
   go_ret2
   exact HKeep.out _ _ HB2.out (by rw [HT.out.1]) HT.out.2
 have h6z : ¬ (6 : Int) ≤ (n : Int) := by omega
 obtain ⟨g, hg⟩ := nm (aloneF a k1)
 have HG : Hid (g.fault = 0) := by unfold Hid; rw [hg]; exact alone_right hal _
 have HT : Hid (lineT fs L = (if openN (fs ++ [g]) 4 = true then okW else clashW) ∧ lineS fs L = if openN (fs ++ [g]) 4 = true then fs ++ [g] else fs) := by
  refine ⟨by rw [HTe.out, if_pos hl, if_neg hna, if_neg (by rw [← HN.out.1]; exact h6), ← ha, ← hk1, ← hg], ?_⟩
  unfold lineS
  rw [← ha, ← hk1, ← hg]
  by_cases ho : openN (fs ++ [g]) 4 = true
  ·rw [if_pos ho, if_pos ⟨HM.out.1, hw2, hl, by have := HN.out.1; omega, ho⟩]
  ·rw [if_neg ho, if_neg (fun q => ho q.2.2.2.2)]
 obtain ⟨xs, hrow, hcel⟩ := HF0.out
 rw [← HN.out.1] at hrow
 have HXs : Hid (xs.length = n * 2 ∧ ((n = 0 ∧ vo = none ∧ vc = 0) ∨ ∃ bd, vo = some ⟨bd, 0, none⟩ ∧ bd < w.heap.size ∧ ∀ j v, xs[j]? = some v → w.cell? ⟨bd, j, none⟩ = some v)) := by
  refine ⟨hrow.1, ?_⟩
  rcases hrow.2 with ⟨h0, hv⟩ | ⟨bd, c, hv, _, _, hbl, hcell⟩
  ·obtain ⟨q1, _, q3⟩ := Value.slice.inj hv
   exact Or.inl ⟨h0, q1, q3⟩
  ·obtain ⟨q1, _, _⟩ := Value.slice.inj hv
   exact Or.inr ⟨bd, q1, hbl, hcell⟩
 have HCel := hide hcel
 have HGd : Hid (∀ f ∈ fs ++ [g], f.fault = 0) := fun f hf => by
  rcases List.mem_append.1 hf with hf | hf
  ·exact HN.out.2.fault f hf
  ·obtain rfl : f = g := by simpa using hf
   exact HG.out
 have HAl := fun (vs vt : Value) (W : World) (S : Nat → Prop) => refAlone_kp a k1 vs vt W S
 rw [← hg, ← hak, ← han] at HAl
 replace HAl := hide HAl
 have HLen : Hid (n + 1 = (fs ++ [g]).length ∧ n < 6) := ⟨by rw [List.length_append, ← HN.out.1]; rfl, by omega⟩
 clear hrow hcel hg hsp hw hk1 hl hal ha hna hw2 h6 hak han
 rcases hk with ⟨rfl, rfl⟩ | ⟨rfl, rfl⟩
 all_goals
  go_wp2_with fail
  go_at_call 26
  refine HRg.out.mono ?_
  rintro e w1 ⟨so, sl, sc, tto, tl, tc, rfl, hs, ht, hb⟩
  obtain ⟨w2, hw2⟩ := nm (w1.alloc (.cells #[.int .i64 ak, .slice so sl sc, .slice tto tl tc, .int .i64 an] 71))
  obtain ⟨G, hG⟩ := nm w1.heap.size
  have hb2 : Below w1.heap.size w1 w2 := by rw [hw2]; exact below_alloc1 _ _
  have HB2 := hide (hb.trans (hb2.mono hb.size))
  have HK2 : Hid (Blk w2 G 71 #[.int .i64 ak, .slice so sl sc, .slice tto tl tc, .int .i64 an]) := by unfold Hid; rw [hw2, hG]; exact Blk.new _ _ _
  have HAlo := hide fun (W : World) (S : Nat → Prop) (hW : Bw w2 W) (hge : ∀ b, S b → w2.heap.size ≤ b) (hlt : ∀ b, S b → b < W.heap.size) => HAl.out (.slice so sl sc) (.slice tto tl tc) W S hlt (fun X hX => (hs.below hb2).below (hX.old hge hW)) (fun X hX => (ht.below hb2).below (hX.old hge hW))
  clear hs ht hb hb2 HRg HAl
  go_upto_region 47 with fail
  rw [← hw2, ← hG]
  clear hw2 hG
  go_upto_region 60 with fail
  go_cut [28] from 52 (fun x wx => Bw w2 wx ∧ wx.ownsRow w2.heap.size 78 2 x n xs)
  case first =>
   obtain ⟨hxl, hcase⟩ := HXs.out
   rcases hcase with ⟨h0, rfl, rfl⟩ | ⟨bd, rfl, hbl, hcell⟩
   ·have HX0 : Hid (n = 0 ∧ xs = []) := ⟨h0, List.eq_nil_of_length_eq_zero (by rw [hxl, h0])⟩
    clear hxl h0
    obtain ⟨i1, hi1⟩ : ∃ i, Tryz.prog.info? 78 = some i := Option.isSome_iff_exists.1 infoFe
    go_wp2_with (at_builtin; refine wpList_append_own_none rfl _ _ 25 rfl w2.heap.size 78 i1 2 Tryz.underlying25 hi1 (.slice none 0 0) 0 [] rfl (World.ownsRow_nil _ _ _ _) (by first | rfl | (show Value.slice none _ 0 = _; rw [HX0.out.1])) ?_)
    go_wp2_with fail
    go_meet
    case rel => exact ⟨Below.refl _ _, by rw [HX0.out.1, HX0.out.2]; exact World.ownsRow_nil _ _ _ _⟩
   ·have HCe : Hid (∀ j v, xs[j]? = some v → w2.cell? ⟨bd, 0 + j, none⟩ = some v) := fun j v hj => by rw [Nat.zero_add]; exact (HB2.out.cell hbl).trans (hcell j v hj)
    have HXl := hide hxl
    have HOc := hide (HCel.out.2.1)
    clear hcell hxl hbl
    go_wp2_with (at_builtin; refine append_forms rfl _ _ rfl w2.heap.size (.slice none 0 0) rfl 0 [] xs n vc bd 0 rfl (World.ownsRow_nil _ _ _ _) HXl.out HOc.out HCe.out (Nat.le_refl _) (by omega) ?_)
    intro v9 w9 hown hgrow
    have HOn : Hid (w9.ownsRow w2.heap.size 78 2 v9 n xs) := by first | exact hown | (have h := hown; rw [Nat.zero_add, List.nil_append] at h; exact h)
    have HB9 : Hid (Bw w2 w9) := ⟨hgrow.os, hgrow.tape, hgrow.output, hgrow.size, fun b hb => hgrow.block b hb (by simp [Value.ownBlock])⟩
    clear hown hgrow
    go_wp2_with fail
    go_meet
    case rel => exact ⟨HB9.out, HOn.out⟩
  case rest =>
  obtain ⟨hb, hown⟩ := hcut
  obtain ⟨w3, hw3⟩ := nm wc
  subst hw3
  have HB3 := hide hb
  have HOn := hide hown
  have HK3 := hide (HK2.out.below hb)
  clear hb hown HXs HK2
  have a0 : w3.cell? ⟨G, 0, none⟩ = some (.int .i64 ak) := HK3.out.cell 0
  have a1 : w3.cell? ⟨G, 1, none⟩ = some (.slice so sl sc) := HK3.out.cell 1
  have a2 : w3.cell? ⟨G, 2, none⟩ = some (.slice tto tl tc) := HK3.out.cell 2
  have a3 : w3.cell? ⟨G, 3, none⟩ = some (.int .i64 an) := HK3.out.cell 3
  go_wp2_with fail
  go_at_call 28
  refine (HAlo.out w3 (fun b => Value.ownBlock u28 = some b) HB3.out (fun b e => (HOn.out.lt b e).1) (fun b e => (HOn.out.lt b e).2)).mono ?_
  rintro e w4 ⟨o1, p1, r1, o2, p2, r2, rfl, hkp, hb⟩
  have HB4 := hide hb
  have HKp4 := hide hkp
  have HO4 : Hid (w4.ownsRow w2.heap.size 78 2 u28 n xs) := own_keep HOn.out fun b e => hb.block b (HOn.out.lt b e).2
  have HS4 : Hid (w2.heap.size ≤ w4.heap.size) := Nat.le_trans HB3.out.size hb.size
  clear hb hkp a0 a1 a2 a3 HAlo
  go_wp2_with (at_builtin; refine append_forms rfl _ _ rfl w2.heap.size u28 rfl n xs [.slice o1 p1 r1, .slice o2 p2 r2] 1 1 w4.heap.size 0 rfl (HO4.out.alloc _) rfl (by intro v hv; simp at hv; rcases hv with rfl | rfl <;> rfl) (fun j v hj => ?hcell) (by have := HS4.out; simp; omega) (by omega) ?_)
  case hcell =>
   have hk : Blk (w4.alloc (.cells #[.slice o1 p1 r1, .slice o2 p2 r2] 78)) w4.heap.size 78 #[.slice o1 p1 r1, .slice o2 p2 r2] := Blk.new _ _ _
   have := hk.cell (0 + j)
   rw [← Array.getElem?_toList, Nat.zero_add] at this
   rw [Nat.zero_add]
   exact this.trans hj
  intro v9 w9 hown hgrow
  have hvb : ∀ b, Value.ownBlock u28 = some b → w2.heap.size ≤ b := fun b e => (HOn.out.lt b e).1
  have HB9 : Hid (Bw w w9) := by
   have hq : Bw w2 w4 := HB3.out.trans (HB4.out.mono HB3.out.size)
   have h9 : Bw w2 w9 := (hq.alloc HS4.out _).grown hgrow (by simp; have := HS4.out; omega) hvb
   exact HB2.out.trans (h9.mono HB2.out.size)
  have HRd9 : Hid (ReadsA w9 (.slice o1 p1 r1) (g).ats ∧ Reads w9 (.slice o2 p2 r2) (g).c) := by
   refine HKp4.out w9 ⟨hgrow.os, hgrow.tape, hgrow.output, Nat.le_trans (by simp) hgrow.size, fun b hb hs => ?_⟩
   exact (hgrow.block b (by simp; omega) fun e => hs e.symm).trans (Below.heap_alloc _ _ _ hb)
  have HSd : Hid (SaidAt w9 v9 (fs ++ [g])) := by
   have hr := (own_rowF (S := fun _ => False) hown (fun _ h => h.elim)).now
   rw [HLen.out.1] at hr
   exact ⟨_, hr, (HCel.out.below HB9.out).append (CellsF.one rfl rfl HRd9.out.1 HRd9.out.2)⟩
  have HOp := hide (refOpen_any v9 _ HGd.out 4 (by decide) w9 (HSd.out.reads (by rw [← HLen.out.1]; exact HLen.out.2)))
  clear hown hgrow hvb HKp4 HO4 HOn HRd9
  go_wp2_with fail
  go_at_call 31
  refine HOp.out.mono ?_
  rintro e w10 ⟨rfl, hb⟩
  have HB10 := bt HB9 hb
  have HSd10 := hide (HSd.out.below hb)
  clear hb HOp
  have HT2 := hide HT.out
  obtain ⟨ob, hob⟩ := nm (openN (fs ++ [g]) 4)
  rw [← hob] at HT2 ⊢
  clear hob
  cases ob with
  | true =>
   go_wp2
   go_ret2
   exact ⟨_, by rw [HX.out.1, HT2.out.1]; rfl, by rw [HX.out.2, HT2.out.2]; exact HSd10.out, HB10.out⟩
  | false =>
   go_wp2_with fail
   go_at_call 30
   refine (name_clash _).mono ?_
   rintro e w11 ⟨rfl, hb⟩
   have HB11 := bt HB10 hb
   clear hb
   go_wp2
   go_ret2
   exact HKeep.out _ _ HB11.out (by rw [HT2.out.1]; rfl) HT2.out.2
end Go.Proofs.YtnoohlibgaeklaaGreatDoor
namespace Go.Proofs.YtnoohlibgaeklaaGreatDoor
open Go.RowKit
set_option maxRecDepth 100000
set_option maxHeartbeats 16000000
theorem lineT_short (fs : List Fm) (s : List UInt8) : (lineT fs s).length ≤ 19 := by
 have hd : ∀ u, (decT u).length ≤ 9 := fun u => decF_length 8 u
 unfold lineT
 split
 ·split
  ·exact Nat.le_trans (hd _) (by decide)
  ·split
   ·exact Nat.le_trans (hd _) (by decide)
   ·decide
 ·split
  ·split
   ·rw [List.length_append, List.length_cons]
    have h1 := hd (spanSo fs (readN (restL s))).1.toNat
    have h2 := hd (spanSo fs (readN (restL s))).2.toNat
    omega
   ·decide
  ·split
   ·split
    ·split
     ·unfold answerW
      split
      ·decide
      ·split <;> decide
     ·split
      ·decide
      ·split <;> decide
    ·decide
   ·decide
def saidF (fs : List Fm) (ls : List (List UInt8)) : List Fm := ls.foldl lineS fs
theorem runF_append (fs : List Fm) (a b : List (List UInt8)) : runF fs (a ++ b) = runF fs a ++ runF (saidF fs a) b := by
 induction a generalizing fs with
 | nil => rfl
 | cons s r ih =>
  show lineT fs s ++ (10 :: runF (lineS fs s) (r ++ b)) = (lineT fs s ++ (10 :: runF (lineS fs s) r)) ++ runF (saidF (lineS fs s) r) b
  rw [ih, List.append_assoc]
  rfl
theorem runF_short (fs : List Fm) (ls : List (List UInt8)) : (runF fs ls).length ≤ 20 * ls.length := by
 induction ls generalizing fs with
 | nil => exact Nat.zero_le _
 | cons s r ih =>
  show (lineT fs s ++ (10 :: runF (lineS fs s) r)).length ≤ 20 * (r.length + 1)
  rw [List.length_append, List.length_cons]
  have h1 := lineT_short fs s
  have h2 := ih (lineS fs s)
  omega
theorem runL_part (t : List UInt8) : ∃ m, m ≤ (cutB 10 t).length ∧ runL t = (cutB 10 t).take m ∧ ((m = (cutB 10 t).length ∧ ¬ (cutB 10 t).getLast? = some []) ∨ (m + 1 = (cutB 10 t).length ∧ (cutB 10 t).getLast? = some [])) := by
 have hne := cutB_ne 10 t
 have hpos : 0 < (cutB 10 t).length := List.length_pos_iff.2 hne
 unfold runL
 by_cases h : (cutB 10 t).getLast? = some []
 ·rw [if_pos h]
  exact ⟨(cutB 10 t).length - 1, by omega, by rw [List.dropLast_eq_take], Or.inr ⟨by omega, h⟩⟩
 ·rw [if_neg h]
  exact ⟨_, Nat.le_refl _, by rw [List.take_length], Or.inl ⟨rfl, h⟩⟩
theorem cutB_small (c : UInt8) : ∀ (n : Nat) (l : List UInt8), l.length ≤ n → (cutB c l).length ≤ l.length + 1 ∧ ∀ x ∈ cutB c l, x.length ≤ l.length := by
 intro n
 induction n with
 | zero =>
  intro l hl
  have : l = [] := List.length_eq_zero_iff.1 (by omega)
  subst this
  refine ⟨Nat.le_refl 1, fun x hx => ?_⟩
  have e : x = [] := by simpa [cutB] using hx
  rw [e]
  exact Nat.le_refl _
 | succ n ih =>
  intro l hl
  rcases cut_parts c l with h | ⟨x, r, rfl, h⟩
  ·rw [cutB_miss h]
   refine ⟨by simp, fun y hy => ?_⟩
   have e : y = l := by simpa using hy
   rw [e]
   exact Nat.le_refl _
  ·rw [cutB_hit h]
   have hr := ih r (by simp at hl; omega)
   refine ⟨?_, fun y hy => ?_⟩
   ·rw [List.length_cons]; simp; omega
   ·rcases List.mem_cons.1 hy with rfl | hy
    ·simp
    ·have := hr.2 y hy; simp; omega
def partsAt (t : List UInt8) (k : Nat) : Prop := k = t.length ∨ k = 0 ∨ ∃ x, t.take k = x ++ [10]
end Go.Proofs.YtnoohlibgaeklaaGreatDoor
namespace Go.Proofs.YtnoohlibgaeklaaGreatDoor
open Go.ChangeShapes Go.WideShapes Go.ChangeAt Go.RowKit
set_option maxRecDepth 100000
set_option maxHeartbeats 16000000
theorem lines_len {ats : List At} (h : ∀ a ∈ ats, a.fault = 0) : (linesOf ats).length ≤ 101 * ats.length := by
 induction ats with
 | nil => simp [linesOf]
 | cons a ats ih =>
  have h1 := ih fun b hb => h b (List.mem_cons_of_mem _ hb)
  have h2 : a.text.length ≤ 100 := atomText_size (h a List.mem_cons_self)
  unfold linesOf at h1 ⊢
  rw [List.map_cons, List.flatten_cons, List.length_append, List.length_append, List.length_cons]
  simp only [List.length_cons, List.length_nil]
  omega
def printF (ats : List At) (c : List Int) : ByteArray := if formFault ats c = 0 then strOf (formText ats c) else ⟨#[]⟩
def readA (t : List UInt8) : List At := if formTextFault t = 0 then textAts t else []
def readC (t : List UInt8) : List Int := if formTextFault t = 0 then textCode t else []
def linesT (L : List (List UInt8)) : List UInt8 := (L.map fun x => x ++ [10]).flatten
def encL (x : List UInt8) : Array Value := #[.string (strOf (x ++ [10]))]
theorem lines_drop {L : List (List UInt8)} {k : Nat} {x : List UInt8} (h : L[k]? = some x) : linesT (L.drop k) = (x ++ [10]) ++ linesT (L.drop (k + 1)) := by
 obtain ⟨hk, rfl⟩ := List.getElem?_eq_some_iff.1 h
 rw [List.drop_eq_getElem_cons hk]
 rfl
theorem ten_at {x : List UInt8} (h : plainC 10 x = true) (r : List UInt8) : Lib.indexByte (x ++ 10 :: r) 10 = x.length := by
 induction x with
 | nil => rfl
 | cons b x ih =>
  simp [plainC] at h
  have hi : Lib.indexByte (x ++ 10 :: r) 10 = (x.length : Int) := ih (by simp [plainC]; exact h.2)
  show Lib.indexByte (b :: (x ++ 10 :: r)) 10 = _
  rw [Lib.indexByte, if_neg (by simpa using h.1), hi, if_neg (by simp)]
  simp
theorem lines_made (s : ByteArray) (w : World) : Calls Tryz.prog 11 #[.string s] w fun e w' => e = .returned (.func (.func 33) #[] #[.pointer (some ⟨w.heap.size, 0, none⟩)]) ∧ w' = w.alloc (.cells #[.string s] 9) := by
 go_enter Tryz.func11, Tryz.ntmps11
 go_wp2
 go_ret
 exact ⟨rfl, rfl⟩
def pieces (L : List (List UInt8)) (c : List UInt8) : List (List UInt8) := L.map (fun x => x ++ [10]) ++ (if c = [] then [] else [c])
def encP (x : List UInt8) : Array Value := #[.string (strOf x)]
def restP (L : List (List UInt8)) (c : List UInt8) (k : Nat) : List UInt8 := if k ≤ L.length then linesT (L.drop k) ++ c else []
theorem pieces_length (L : List (List UInt8)) (c : List UInt8) : (pieces L c).length = L.length + (if c = [] then 0 else 1) := by
 unfold pieces; split <;> simp
theorem pieces_hit {L : List (List UInt8)} {c : List UInt8} {k : Nat} {x : List UInt8} (h : (pieces L c)[k]? = some x) (hk : k < L.length) : ∃ y, L[k]? = some y ∧ x = y ++ [10] := by
 unfold pieces at h
 rw [List.getElem?_append_left (by simpa using hk), List.getElem?_map, List.getElem?_eq_getElem hk] at h
 exact ⟨L[k], List.getElem?_eq_getElem hk, by simpa using h.symm⟩
theorem pieces_last {L : List (List UInt8)} {c : List UInt8} {k : Nat} {x : List UInt8} (h : (pieces L c)[k]? = some x) (hk : ¬ k < L.length) : k = L.length ∧ x = c ∧ c ≠ [] := by
 unfold pieces at h
 rw [List.getElem?_append_right (by simp; omega)] at h
 by_cases hc : c = []
 ·rw [if_pos hc] at h; simp at h
 ·rw [if_neg hc] at h
  have h0 : k - (L.map fun x => x ++ [10]).length = 0 := by
   rcases Nat.eq_zero_or_pos (k - (L.map fun x => x ++ [10]).length) with h1 | h1
   ·exact h1
   ·rw [List.getElem?_eq_none (by simp at h1 ⊢; omega)] at h; cases h
  rw [h0] at h
  simp at h0
  exact ⟨by omega, by simpa using h.symm, hc⟩
theorem ten_none {x : List UInt8} (h : plainC 10 x = true) : Lib.indexByte x 10 < 0 := by
 induction x with
 | nil => decide
 | cons b x ih =>
  simp [plainC] at h
  have hi : Lib.indexByte x 10 < 0 := ih (by simp [plainC]; exact h.2)
  have hg := Lib.indexByte_ge x 10
  rw [Lib.indexByte, if_neg (by simpa using h.1), if_pos (by simp; omega)]
  decide
theorem lines_any (L : List (List UInt8)) (c : List UInt8) (hL : ∀ x ∈ L, plainC 10 x = true) (hc : plainC 10 c = true) (hz : (linesT L ++ c).length ≤ 9223372036854775806) (n : Nat) (hn : 1 ≤ n) (Bu : Nat) (W : World) (hB : Blk W Bu 9 #[.string (strOf (linesT L ++ c))]) :
    SeqS n Tryz.prog 33 #[.pointer (some ⟨Bu, 0, none⟩)] encP (pieces L c) (fun b => b = Bu) W := by
 intro l J Jx hJ hY h0
 have HY : Hid (∀ (k : Nat) (x : List UInt8) (R : Nat → Prop) (W1 : World), (pieces L c)[k]? = some x → J k R W1 → YieldAt Fence.wide (n - 1) Tryz.prog l #[.string (strOf x)] W1 fun e W' =>
     (e = .returned (.bool true) ∧ ∃ R', J (k + 1) R' W' ∧ OverS R (fun b => b = Bu) W.heap.size W1 W' ∧ ∀ b, R' b → R b ∨ W1.heap.size ≤ b) ∨ (e = .returned (.bool false) ∧ Jx (k + 1) W')) := hY
 have HJ := hide hJ
 -- a line that is ended
 have HLk : Hid (∀ (k : Nat) (x : List UInt8), L[k]? = some x → ∃ s : ByteArray, s = strOf (restP L c k) ∧ (0 : Int) < (s.size : Int) ∧ (x.length : Int) + 1 ≤ (s.size : Int) ∧ (s.size : Int) ≤ 9223372036854775806 ∧ s.extract 0 (x.length + 1) = strOf (x ++ [10]) ∧ s.extract (x.length + 1) s.size = strOf (restP L c (k + 1)) ∧ ∀ W, Calls Tryz.prog 34 #[.string s, .int .u8 10] W (Sk W (.int .i64 (x.length : Int)))) := fun k x hx => by
  have hkl : k < L.length := (List.getElem?_eq_some_iff.1 hx).1
  have e : restP L c k = (x ++ [10]) ++ restP L c (k + 1) := by
   unfold restP
   rw [if_pos (by omega), if_pos (by omega), lines_drop hx, List.append_assoc]
  have hpl : plainC 10 x = true := hL x (List.mem_of_getElem? hx)
  have hlen : (restP L c k).length ≤ (linesT L ++ c).length := by
   unfold restP
   rw [if_pos (by omega)]
   unfold linesT
   rw [List.map_drop, List.length_append, List.length_append]
   have h2 : ((L.map fun x => x ++ [10]).flatten).length = (((L.map fun x => x ++ [10]).take k).flatten).length + (((L.map fun x => x ++ [10]).drop k).flatten).length := by
    rw [← List.length_append, ← List.flatten_append, List.take_append_drop]
   omega
  have hs : (strOf (restP L c k)).size = x.length + 1 + (restP L c (k + 1)).length := by rw [strOf_size, e, List.length_append, List.length_append]; rfl
  have hs2 : (strOf (restP L c k)).size = (restP L c k).length := strOf_size _
  have hx1 : (x ++ [10]).length = x.length + 1 := by simp
  refine ⟨_, rfl, by omega, by omega, by omega, ?_, ?_, fun W => ?_⟩
  ·rw [strOf_take, e, ← hx1, List.take_left]
  ·rw [strOf_drop _ _ _ (strOf_size _), e, ← hx1, List.drop_left]
  ·have h := indexByte_any (strOf (restP L c k)) 10 W
   have e2 : Lib.indexByte (strOf (restP L c k)).data.toList (Int.toNat 10).toUInt8 = (x.length : Int) := by
    rw [strOf_list, e, List.append_assoc]
    exact ten_at hpl _
   rw [e2] at h
   exact h
 -- the last one, that is not
 have HLe : Hid (c ≠ [] → ∃ s : ByteArray, s = strOf c ∧ strOf (restP L c L.length) = s ∧ (0 : Int) < (s.size : Int) ∧ (s.size : Int) ≤ 9223372036854775806 ∧ ∃ m : Int, m < 0 ∧ ∀ W, Calls Tryz.prog 34 #[.string s, .int .u8 10] W (Sk W (.int .i64 m))) := fun h => by
  have hs : (strOf c).size = c.length := strOf_size _
  have hp : 0 < c.length := List.length_pos_iff.2 h
  have e : restP L c L.length = c := by unfold restP; rw [if_pos (Nat.le_refl _), List.drop_eq_nil_of_le (Nat.le_refl _)]; rfl
  rw [List.length_append] at hz
  refine ⟨_, rfl, by rw [e], by omega, by omega, Lib.indexByte c 10, ten_none hc, fun W => ?_⟩
  have h := indexByte_any (strOf c) 10 W
  rw [strOf_list] at h
  exact h
 have HEnd : Hid (∀ k : Nat, ¬ k < L.length → ¬ (k = L.length ∧ c ≠ []) → k ≤ (pieces L c).length → strOf (restP L c k) = ⟨#[]⟩ ∧ k = (pieces L c).length) := fun k h1 h2 h3 => by
  rw [pieces_length] at h3 ⊢
  by_cases hc0 : c = []
  ·rw [if_pos hc0] at h3 ⊢
   obtain rfl : k = L.length := by omega
   refine ⟨?_, by omega⟩
   unfold restP
   rw [if_pos (Nat.le_refl _), List.drop_eq_nil_of_le (Nat.le_refl _), hc0]; rfl
  ·rw [if_neg hc0] at h3 ⊢
   have : k ≠ L.length := fun e => h2 ⟨e, hc0⟩
   refine ⟨?_, by omega⟩
   unfold restP
   rw [if_neg (by omega)]; rfl
 have HP1 : Hid (∀ (k : Nat) (x : List UInt8), L[k]? = some x → (pieces L c)[k]? = some (x ++ [10])) := fun k x hx => by
  have hkl : k < L.length := (List.getElem?_eq_some_iff.1 hx).1
  unfold pieces
  rw [List.getElem?_append_left (by simpa using hkl), List.getElem?_map, hx]; rfl
 have HP2 : Hid (c ≠ [] → (pieces L c)[L.length]? = some c ∧ (pieces L c).length = L.length + 1 ∧ strOf (restP L c (L.length + 1)) = ⟨#[]⟩) := fun h => by
  refine ⟨?_, by rw [pieces_length, if_neg h], ?_⟩
  ·unfold pieces
   rw [List.getElem?_append_right (by simp), if_neg h]; simp
  ·unfold restP; rw [if_neg (by omega)]; rfl
 have HPl : Hid (L.length ≤ (pieces L c).length) := by unfold Hid; rw [pieces_length]; omega
 have H0 := hide h0
 have HB : Hid (Blk W Bu 9 #[.string (strOf (restP L c 0))]) := by
  unfold Hid restP; rw [if_pos (Nat.zero_le _), List.drop_zero]; exact hB
 have HBl := hide (hB.lt)
 clear hY hJ h0 hB hL hz hc
 obtain ⟨P, hP⟩ := nm (pieces L c)
 rw [← hP] at HY HEnd HP1 HP2 HPl ⊢
 clear hP
 refine callsIn_of_wp Tryz.func33 rfl trivial ?_ rfl
 simp only [Tryz.ntmps33, List.size_toArray, List.length_cons, List.length_nil, Nat.reduceAdd, Nat.reduceSub, Array.replicate_succ, Array.replicate_zero, List.push_toArray, List.append_toArray, List.nil_append, List.cons_append]
 gi_wp2_with fail
 gi_loopg [] (P.length + 1) (fun gk wr => ∃ (k : Nat) (R : Nat → Prop), k ≤ P.length ∧ gk + k = P.length + 1 ∧ (J k R wr ∧ ¬ R Bu) ∧ Blk wr Bu 9 #[.string (strOf (restP L c k))])
 case atStart => exact ⟨0, _, Nat.zero_le _, rfl, ⟨H0.out, fun h => h⟩, HB.out⟩
 case round =>
  obtain ⟨k, R, hk, hg, ⟨hj, hr⟩, hb⟩ := hrel
  have HG := hide hg
  have HJk := hide hj
  have HR := hide hr
  have HBk : Hid (Blk wr Bu 9 #[.string (strOf (restP L c k))]) := hb
  clear hg hj hr hb
  by_cases hlt : k < L.length
  ·obtain ⟨x, hx⟩ : ∃ x, L[k]? = some x := ⟨_, List.getElem?_eq_getElem hlt⟩
   have HX := hide (HP1.out k x hx)
   obtain ⟨s, hs, s0, s1, s2, e1, e2, hI⟩ := HLk.out k x hx
   have HI := hide hI
   have HE : Hid (s.extract 0 (x.length + 1) = strOf (x ++ [10]) ∧ s.extract (x.length + 1) s.size = strOf (restP L c (k + 1))) := ⟨e1, e2⟩
   have HkP : Hid (k < P.length) := Nat.lt_of_lt_of_le hlt HPl.out
   rw [← hs] at HBk
   obtain ⟨j, hj⟩ := nm x.length
   rw [← hj] at s1 HI HE
   clear hs e1 e2 hI hx hj hlt
   have c0 : wr.cell? ⟨Bu, 0, none⟩ = some (.string s) := HBk.out.cell 0
   have c1 : wr.drew.cell? ⟨Bu, 0, none⟩ = some (.string s) := c0
   have f1 : wr.drew.frozen? ⟨Bu, 0, none⟩ = false := HBk.out.frozen 0
   obtain ⟨W5, hW5⟩ := nm ((wr.drew.setCell ⟨Bu, 0, none⟩ (.string (s.extract (j + 1) s.size))))
   gi_wp2_with fail
   refine ⟨trivial, ?_⟩
   gi_at_call 34
   refine (callsIn_wide.2 (HI.out _)).mono ?_
   rintro e w8 ⟨rfl, rfl⟩
   have d0 : (0 : Int) ≤ (j : Int) + 1 := by omega
   have d1 : (0 : Int) ≤ (j : Int) := by omega
   gi_upto_region 4 with fail
   gi_cut [3] from 5 (fun line wc => line = .string (strOf (x ++ [10])) ∧ wc = W5)
   case first =>
    gi_region
    all_goals (try gi_wp2)
    all_goals gi_meet
    all_goals exact ⟨by rw [← HE.out.1], hW5.symm⟩
   case rest =>
   obtain ⟨rfl, rfl⟩ := hcut
   have hb5 : Blk wc Bu 9 #[.string (strOf (restP L c (k + 1)))] := by
    rw [hW5, ← HE.out.2]
    exact (HBk.out.drew).set 0 _
   have hk5 : KeepS R (fun b => b = Bu) W.heap.size wr wc := by
    rw [hW5]
    refine ⟨(Below.drew (Below.refl _ _)).setCell (Nat.zero_le _) _, fun b _ hb => Below.heap_setCell _ _ _ _ hb, fun b hb _ => Below.heap_setCell _ _ _ _ fun e => HR.out (by have e2 : b = Bu := e; rw [e2] at hb; exact hb)⟩
   obtain ⟨fn, tmps, assign, body, hy, hRn⟩ := HY.out k _ R wc HX.out (HJ.out _ _ _ _ HJk.out hk5)
   have HB5 : Hid (Blk wc Bu 9 #[.string (strOf (restP L c (k + 1)))]) := hb5
   clear hW5 hb5 hk5 c0 c1 f1 d0 d1
   gi_wp2
   refine hRn.mono ?_
   rintro e W6 (⟨rfl, R', hJ6, hO6, hR6⟩ | ⟨rfl, hJx6⟩)
   ·have HJ6 := hide hJ6
    have HB6 : Hid (Blk W6 Bu 9 #[.string (strOf (restP L c (k + 1)))]) := by
     unfold Hid Blk; rw [hO6.same _ (Or.inr rfl) HB5.out.lt HR.out]; exact HB5.out
    have HR6 : Hid (¬ R' Bu) := fun h => by
     rcases hR6 _ h with h | h
     ·exact HR.out h
     ·have := HB5.out.lt; omega
    clear hJ6 hO6 hR6 hy hRn
    gi_wp2
    gi_roundg (P.length - k)
    case rel => exact ⟨k + 1, R', by have := HkP.out; omega, by have := HkP.out; omega, ⟨HJ6.out, HR6.out⟩, HB6.out⟩
    case measure => have := HG.out; omega
   ·gi_wp2
    exact bodyPost_ret (results_none rfl _ _ _) rfl ⟨⟨_, rfl⟩, .inr ⟨k, HkP.out, hJx6⟩⟩
  ·by_cases hlast : k = L.length ∧ c ≠ []
   ·obtain ⟨hk1, hc0⟩ := hlast
    obtain ⟨s, hs, hs1, s0, s2, m, hm, hI⟩ := HLe.out hc0
    obtain ⟨p1, p2, p3⟩ := HP2.out hc0
    have HI := hide hI
    rw [← hk1] at p1 p2 p3 hs1
    have HX := hide p1
    have Hp2 := hide p2
    have Hp3 := hide p3
    have Hsc := hide hs
    rw [hs1] at HBk
    clear hs hs1 p1 p2 p3 hI hlt hk1 hc0
    have c0 : wr.cell? ⟨Bu, 0, none⟩ = some (.string s) := HBk.out.cell 0
    have f0 : wr.frozen? ⟨Bu, 0, none⟩ = false := HBk.out.frozen 0
    have hm0 : ¬ (0 : Int) ≤ m := by omega
    gi_wp2_with fail
    refine ⟨trivial, ?_⟩
    gi_at_call 34
    refine (callsIn_wide.2 (HI.out _)).mono ?_
    rintro e w8 ⟨rfl, rfl⟩
    obtain ⟨W5, hW5⟩ := nm (wr.setCell ⟨Bu, 0, none⟩ (.string ⟨#[]⟩))
    have HB5 : Hid (Blk W5 Bu 9 #[.string (strOf (restP L c (k + 1)))]) := by
     unfold Hid; rw [hW5, Hp3.out]
     exact HBk.out.set 0 _
    have hk5 : KeepS R (fun b => b = Bu) W.heap.size wr W5 := by
     rw [hW5]
     refine ⟨(Below.refl _ _).setCell (Nat.zero_le _) _, fun b _ hb => Below.heap_setCell _ _ _ _ hb, fun b hb _ => Below.heap_setCell _ _ _ _ fun e => HR.out (by have e2 : b = Bu := e; rw [e2] at hb; exact hb)⟩
    obtain ⟨fn, tmps, assign, body, hy, hRn⟩ := HY.out k _ R W5 HX.out (HJ.out _ _ _ _ HJk.out hk5)
    rw [← Hsc.out] at hy
    clear hk5
    gi_upto_region 6 with fail
    rw [← hW5]
    clear hW5 c0 f0
    gi_wp2
    refine hRn.mono ?_
    rintro e W6 (⟨rfl, R', hJ6, hO6, hR6⟩ | ⟨rfl, hJx6⟩)
    ·have HJ6 := hide hJ6
     have HB6 : Hid (Blk W6 Bu 9 #[.string (strOf (restP L c (k + 1)))]) := by
      unfold Hid Blk; rw [hO6.same _ (Or.inr rfl) HB5.out.lt HR.out]; exact HB5.out
     have HR6 : Hid (¬ R' Bu) := fun h => by
      rcases hR6 _ h with h | h
      ·exact HR.out h
      ·have := HB5.out.lt; omega
     clear hJ6 hO6 hR6 hy hRn
     gi_wp2
     gi_roundg (P.length - k)
     case rel => exact ⟨k + 1, R', by have := Hp2.out; omega, by have := Hp2.out; omega, ⟨HJ6.out, HR6.out⟩, HB6.out⟩
     case measure => have := HG.out; omega
    ·gi_wp2
     exact bodyPost_ret (results_none rfl _ _ _) rfl ⟨⟨_, rfl⟩, .inr ⟨k, by have := Hp2.out; omega, hJx6⟩⟩
   ·obtain ⟨e1, e2⟩ := HEnd.out k hlt hlast hk
    rw [e1] at HBk
    have c0 : wr.cell? ⟨Bu, 0, none⟩ = some (.string ⟨#[]⟩) := HBk.out.cell 0
    have HJk : Hid (J P.length R wr) := by unfold Hid; rw [← e2]; exact HJk.out
    clear e1 e2 hlt hlast
    gi_wp2
    go_end0
    exact ⟨⟨_, rfl⟩, .inl ⟨R, HJk.out⟩⟩
theorem SeqS.map {α β : Type} {n : Nat} {P : Program} {g : Nat} {lb : Array Value} {encs : α → Array Value} {f : β → α} {A : List β} {S : Nat → Prop} {W : World} (h : SeqS n P g lb encs (A.map f) S W) : SeqS n P g lb (fun x => encs (f x)) A S W := by
 intro l J Jx hJ hY h0
 have h1 := h l J Jx hJ (fun k y R W1 hy hj => by
  rw [List.getElem?_map] at hy
  cases hx : A[k]? with
  | none => rw [hx] at hy; cases hy
  | some x => rw [hx] at hy; obtain rfl := Option.some.inj hy; exact hY k x R W1 hx hj) h0
 rw [List.length_map] at h1
 exact h1
theorem lines_iter (L : List (List UInt8)) (hL : ∀ x ∈ L, plainC 10 x = true) (hz : (linesT L).length ≤ 9223372036854775806) (n : Nat) (hn : 1 ≤ n) (Bu : Nat) (W : World) (hB : Blk W Bu 9 #[.string (strOf (linesT L))]) :
    SeqS n Tryz.prog 33 #[.pointer (some ⟨Bu, 0, none⟩)] encL L (fun b => b = Bu) W := by
 have h := lines_any L [] hL rfl (by rw [List.append_nil]; exact hz) n hn Bu W (by rw [List.append_nil]; exact hB)
 rw [show pieces L [] = L.map (fun x => x ++ [10]) by unfold pieces; rw [if_pos rfl, List.append_nil]] at h
 exact h.map
end Go.Proofs.YtnoohlibgaeklaaGreatDoor
