/-
  Facts and contracts that the statement leans on.
-/
import Derived.Test.YtnoohlibgaeklaaGreatDoorLibQ29
import Derived.Test.YtnoohlibgaeklaaGreatDoorLibQ24
import Derived.Test.YtnoohlibgaeklaaGreatDoorLibQ17
import Derived.Test.YtnoohlibgaeklaaGreatDoorLibQ28
import Derived.Test.YtnoohlibgaeklaaGreatDoorLibQ3
import Derived.Test.YtnoohlibgaeklaaGreatDoorLibQ4
import Derived.Test.YtnoohlibgaeklaaGreatDoorLibQ9
import Derived.Test.YtnoohlibgaeklaaGreatDoorLibQ21
import Derived.Test.YtnoohlibgaeklaaGreatDoorLibQ22
import Derived.Test.YtnoohlibgaeklaaGreatDoorLibQ23
import Derived.Laws.ResultCell
import Derived.Test.YtnoohlibgaeklaaGreatDoorLibQ20
namespace Go.Proofs.YtnoohlibgaeklaaGreatDoor
open Go.ChangeShapes Go.WideShapes Go.ChangeAt Go.RowKit
set_option maxRecDepth 100000
set_option maxHeartbeats 16000000
attribute [local go_sem] Oper.semAt_some
theorem itoa_digits {u : Nat} (hu : u < 1000000000) (w : World) (hL : LibLaid w) :
    Calls Tryz.prog 36 #[.int .i64 (u : Int)] w (Bk w (.string (strOf (decT u)))) := by
 refine (Any.strconv_Itoa Tryz.laysM171 (u : Int) (by omega) (by omega) w hL.1).mono ?_
 rintro e w' ⟨he, k, os, rfl⟩
 refine ⟨?_, Lib.below_grow _ _ (Nat.le_refl _) _ _⟩
 rw [he, itoa_dec hu]
 rfl
theorem worlds_any {b : Nat} {l : Lg} {fs : List Fm} {w : World} (w0 : World) (hK : KindsLaid w) (hL : LibLaid w) (hW : Bw w w0) (hlg : LogAt b l w0) (hr : LgRun l fs) :
    Calls Tryz.prog 35 #[.agg #[.pointer (some ⟨b, 0, none⟩)]] w0 (Bk w0 (.tuple #[.string (strOf (decT (worldsSo fs).toNat)), .nilIface])) := by
 have hW0 : w.heap.size ≤ w0.heap.size := hW.size
 have hbl := hlg.lt
 obtain ⟨w1, hw1⟩ := nm (w0.alloc (.cells #[.pointer (some ⟨b, 0, none⟩)] 38))
 have b1 : Bw w0 w1 := by rw [hw1]; exact below_alloc1 _ _
 have HB1 := hide b1
 have d1 : Blk w1 w0.heap.size 38 #[.pointer (some ⟨b, 0, none⟩)] := by rw [hw1]; exact Blk.new _ _ _
 have c0 : w1.cell? ⟨w0.heap.size, 0, none⟩ = some (.pointer (some ⟨b, 0, none⟩)) := d1.cell 0
 have HTo : Hid (Calls Tryz.prog 55 #[.agg #[.pointer (some ⟨b, 0, none⟩)]] w1 fun e w' => ∃ o1 l1 c1 o2 l2 c2 g, e = .returned (.tuple #[.agg #[.slice o1 l1 c1, .slice o2 l2 c2], .nilIface]) ∧ ReadsA w' (.slice o1 l1 c1) g.ats ∧ Reads w' (.slice o2 l2 c2) g.c ∧ SaysAll fs g ∧ Bw w1 w') := together_any w1 hK hL (hW.trans (b1.mono hW0)) (hlg.keep (b1.block _ hbl)) hr
 have HKd : Hid (KindsLaid w0 ∧ LibLaid w0) := ⟨hK.below hW, hL.below hW⟩
 obtain ⟨N, hN⟩ := nm ((worldsSo fs).toNat)
 have HN : Hid (N < 1000000000 ∧ (N : Int) = worldsSo fs) := by
  have hrg := worldsSo_range fs
  unfold Hid
  rw [hN, Int.toNat_of_nonneg hrg.1]
  omega
 rw [← hN]
 clear b1 d1 hK hL hW hW0 hlg hr hN
 go_enter Tryz.func35, Tryz.ntmps35
 go_upto_region 1 with fail
 rw [← hw1]
 clear hw1
 go_wp2_with fail
 go_at_call 55
 refine HTo.out.mono ?_
 rintro e w2 ⟨o1, l1, c1, o2, l2, c2, g, rfl, hA, hC, hsay, hb2⟩
 have HB2 := bt HB1 hb2
 obtain ⟨w3, hw3⟩ := nm (w2.alloc (.cells #[.slice o1 l1 c1, .slice o2 l2 c2] 78))
 obtain ⟨G, hG⟩ := nm w2.heap.size
 have b3 : Below w2.heap.size w2 w3 := by rw [hw3]; exact below_alloc1 _ _
 have HB3 := bt HB2 b3
 have F3 : Blk w3 G 78 #[.slice o1 l1 c1, .slice o2 l2 c2] := by rw [hw3, hG]; exact Blk.new _ _ _
 have y0 : w3.cell? ⟨G, 0, none⟩ = some (.slice o1 l1 c1) := F3.cell 0
 have y1 : w3.cell? ⟨G, 1, none⟩ = some (.slice o2 l2 c2) := F3.cell 1
 have HWo : Hid (Calls Tryz.prog 56 #[.agg #[.slice o1 l1 c1, .slice o2 l2 c2], .int .i64 4] w3 (Bk w3 (.tuple #[.int .i64 (N : Int), .nilIface]))) := by
  obtain ⟨s1, s2⟩ := says_worlds hsay
  have h := worldsOf_any (.slice o1 l1 c1) (.slice o2 l2 c2) g.ats g.c 4 w3 (hA.below b3) (hC.below b3) (HKd.out.1.below HB3.out)
  rw [s1, s2] at h
  rw [HN.out.2]
  exact h
 clear hA hC hsay hb2 b3 F3 c0
 go_upto_region 2 with fail
 rw [← hw3, ← hG]
 clear hw3 hG
 go_wp2_with fail
 go_at_call 56
 refine HWo.out.mono ?_
 rintro e w4 ⟨rfl, hb4⟩
 have HB4 := bt HB3 hb4
 clear hb4 y0 y1
 have HIt : Hid (Calls Tryz.prog 36 #[.int .i64 (N : Int)] w4 (Bk w4 (.string (strOf (decT N))))) := itoa_digits HN.out.1 w4 (HKd.out.2.below HB4.out)
 go_wp2_with fail
 go_at_call 36
 refine HIt.out.mono ?_
 rintro e w5 ⟨rfl, hb5⟩
 have HB5 := bt HB4 hb5
 clear hb5
 go_wp2
 go_ret2
 exact ⟨rfl, HB5.out⟩
theorem two_texts (a b : List UInt8) : strOf a ++ ⟨#[32]⟩ ++ strOf b = strOf (a ++ 32 :: b) := by
 apply strOf_same
 rw [strOf_list, ByteArray.data_append, ByteArray.data_append]
 simp [strOf_list]
def spanL (fs : List Fm) (t : List UInt8) : List UInt8 := if lettersB t = true ∧ faultN (readN t) = 0 then decT (spanSo fs (readN t)).1.toNat ++ (32 :: decT (spanSo fs (readN t)).2.toNat) else badW
theorem text_zero {t : List UInt8} : textFault t = 0 ↔ lettersB t = true ∧ faultN (readN t) = 0 := by
 unfold textFault
 by_cases h : lettersB t = true
 ·rw [if_pos h]; exact ⟨fun h' => ⟨h, h'⟩, fun h' => h'.2⟩
 ·rw [if_neg h]; exact ⟨fun h' => absurd h' (by decide), fun h' => absurd h'.1 h⟩
theorem span_any {b : Nat} {l : Lg} {fs : List Fm} {w : World} (w0 : World) (hK : KindsLaid w) (hL : LibLaid w) (hW : Bw w w0) (hlg : LogAt b l w0) (hr : LgRun l fs) (t : List UInt8) (hz : t.length ≤ 3000) :
    Calls Tryz.prog 41 #[.agg #[.pointer (some ⟨b, 0, none⟩)], .string (strOf t)] w0 fun e w' => ∃ s E, e = .returned (.tuple #[.string s, E]) ∧ LineEnd (spanL fs t) s E ∧ Bw w0 w' := by
 have hW0 : w.heap.size ≤ w0.heap.size := hW.size
 have hbl := hlg.lt
 have HOp := hide (hr.ok)
 obtain ⟨w1, hw1⟩ := nm (w0.alloc (.cells #[.pointer (some ⟨b, 0, none⟩)] 38))
 have b1 : Bw w0 w1 := by rw [hw1]; exact below_alloc1 _ _
 have HB1 := hide b1
 have d1 : Blk w1 w0.heap.size 38 #[.pointer (some ⟨b, 0, none⟩)] := by rw [hw1]; exact Blk.new _ _ _
 have HD1 : Hid (Blk w1 w0.heap.size 38 #[.pointer (some ⟨b, 0, none⟩)]) := d1
 have HPa : Hid (Calls Tryz.prog 66 #[.string (strOf t)] w1 fun e w' => ∃ v, e = .returned (.tuple #[v, errV (textFault t)]) ∧ (textFault t = 0 → Reads w' v (readN t)) ∧ (¬ textFault t = 0 → v = .slice none 0 0) ∧ Bw w1 w') := by
  have h := parse_any (strOf t) (by rw [strOf_size]; omega) w1
  rw [strOf_list] at h
  exact h
 have HTo : Hid (∀ W, Bw w0 W → Calls Tryz.prog 55 #[.agg #[.pointer (some ⟨b, 0, none⟩)]] W fun e w' => ∃ o1 l1 c1 o2 l2 c2 g, e = .returned (.tuple #[.agg #[.slice o1 l1 c1, .slice o2 l2 c2], .nilIface]) ∧ ReadsA w' (.slice o1 l1 c1) g.ats ∧ Reads w' (.slice o2 l2 c2) g.c ∧ SaysAll fs g ∧ Bw W w') := fun W hB => together_any W hK hL (hW.trans (hB.mono hW0)) (hlg.keep (hB.block _ hbl)) hr
 have HKd : Hid (KindsLaid w0 ∧ LibLaid w0) := ⟨hK.below hW, hL.below hW⟩
 clear b1 d1 hK hL hW hW0 hlg hr
 go_enter Tryz.func41, Tryz.ntmps41
 go_upto_region 1 with fail
 rw [← hw1]
 clear hw1
 go_wp2_with fail
 go_at_call 66
 refine HPa.out.mono ?_
 rintro e w2 ⟨v, rfl, hv1, hv2, hb2⟩
 have HB2 := bt HB1 hb2
 have HD2 := hide (HD1.out.below hb2)
 clear hb2
 by_cases hf : textFault t = 0
 ·have HT2 := hide (hv1 hf)
  obtain ⟨to_, tc, rfl, _⟩ := HT2.out.slice
  obtain ⟨tn, htn⟩ := nm ((readN t).length)
  rw [← htn] at HT2 ⊢
  have HF := hide hf
  rw [hf, show errV 0 = .nilIface from rfl]
  have c0 : w2.cell? ⟨w0.heap.size, 0, none⟩ = some (.pointer (some ⟨b, 0, none⟩)) := HD2.out.cell 0
  clear hv1 hv2 hf htn
  go_wp2_with fail
  go_at_call 55
  refine (HTo.out _ HB2.out).mono ?_
  rintro e w3 ⟨o1, l1, c1, o2, l2, c2, g, rfl, hA, hC, hsay, hb3⟩
  have HB3 := bt HB2 hb3
  obtain ⟨w4, hw4⟩ := nm (w3.alloc (.cells #[.slice o1 l1 c1, .slice o2 l2 c2] 78))
  obtain ⟨G, hG⟩ := nm w3.heap.size
  have b4 : Below w3.heap.size w3 w4 := by rw [hw4]; exact below_alloc1 _ _
  have HB4 := bt HB3 b4
  have F4 : Blk w4 G 78 #[.slice o1 l1 c1, .slice o2 l2 c2] := by rw [hw4, hG]; exact Blk.new _ _ _
  have y0 : w4.cell? ⟨G, 0, none⟩ = some (.slice o1 l1 c1) := F4.cell 0
  have y1 : w4.cell? ⟨G, 1, none⟩ = some (.slice o2 l2 c2) := F4.cell 1
  have HSp : Hid (∃ N M : Nat, (N < 1000000000 ∧ M < 1000000000) ∧ spanL fs t = decT N ++ (32 :: decT M) ∧ Calls Tryz.prog 67 #[.agg #[.slice o1 l1 c1, .slice o2 l2 c2], .slice to_ tn tc, .int .i64 4] w4 (Bk w4 (.tuple #[.agg #[.int .i64 (N : Int), .int .i64 (M : Int)], .nilIface]))) := by
   obtain ⟨f1, f2⟩ := text_zero.1 HF.out
   obtain ⟨s0, s1, s2⟩ := says_span hsay HOp.out.op f2
   have hrg := spanSo_range fs (readN t) (worldsL 4)
   have h := spanOf_any (.slice o1 l1 c1) (.slice o2 l2 c2) (.slice to_ tn tc) g.ats g.c (readN t) 4 w4 (hA.below b4) (hC.below b4) ((HT2.out.below hb3).below b4) (HKd.out.1.below HB4.out)
   rw [s0, s1, s2] at h
   have hr1 : 0 ≤ (spanSo fs (readN t)).1 ∧ (spanSo fs (readN t)).1 ≤ 100 := hrg.1
   have hr2 : 0 ≤ (spanSo fs (readN t)).2 ∧ (spanSo fs (readN t)).2 ≤ 100 := hrg.2
   refine ⟨(spanSo fs (readN t)).1.toNat, (spanSo fs (readN t)).2.toNat, ⟨by omega, by omega⟩, by unfold spanL; rw [if_pos ⟨f1, f2⟩], ?_⟩
   rw [Int.toNat_of_nonneg hr1.1, Int.toNat_of_nonneg hr2.1]
   exact h
  obtain ⟨N, M, hNM, hsl, hSp⟩ := HSp.out
  have HN : Hid ((N < 1000000000 ∧ M < 1000000000) ∧ spanL fs t = decT N ++ (32 :: decT M)) := ⟨hNM, hsl⟩
  have HSc := hide hSp
  clear hA hC hsay hb3 b4 F4 HSp hNM hsl hSp c0
  go_upto_region 5 with fail
  rw [← hw4, ← hG]
  clear hw4 hG
  go_wp2_with fail
  go_at_call 67
  refine HSc.out.mono ?_
  rintro e w5 ⟨rfl, hb5⟩
  have HB5 := bt HB4 hb5
  clear hb5 y0 y1
  obtain ⟨w6, hw6⟩ := nm (w5.alloc (.cells #[.int .i64 (N : Int), .int .i64 (M : Int)] 117))
  obtain ⟨G6, hG6⟩ := nm w5.heap.size
  have HB6 : Hid (Bw w0 w6) := by unfold Hid; rw [hw6]; exact HB5.out.trans ((below_alloc1 _ _).mono HB5.out.size)
  have F6 : Blk w6 G6 117 #[.int .i64 (N : Int), .int .i64 (M : Int)] := by rw [hw6, hG6]; exact Blk.new _ _ _
  have HF6 : Hid (Blk w6 G6 117 #[.int .i64 (N : Int), .int .i64 (M : Int)]) := F6
  clear F6
  go_upto_region 8 with fail
  rw [← hw6, ← hG6]
  clear hw6 hG6
  have HI1 : Hid (∀ W, Bw w6 W → Calls Tryz.prog 36 #[.int .i64 (N : Int)] W fun e w' => e = .returned (.string (strOf (decT N))) ∧ Bw w6 w' ∧ w'.cell? ⟨G6, 0, none⟩ = some (.int .i64 (N : Int)) ∧ w'.cell? ⟨G6, 1, none⟩ = some (.int .i64 (M : Int))) := fun W hB =>
   (itoa_digits HN.out.1.1 W (HKd.out.2.below (HB6.out.trans (hB.mono HB6.out.size)))).mono fun e w' ⟨h1, h2⟩ => ⟨h1, hB.trans (h2.mono hB.size), (HF6.out.below (hB.trans (h2.mono hB.size))).cell 0, (HF6.out.below (hB.trans (h2.mono hB.size))).cell 1⟩
  have HI2 : Hid (∀ W, Bw w6 W → Calls Tryz.prog 36 #[.int .i64 (M : Int)] W fun e w' => e = .returned (.string (strOf (decT M))) ∧ Bw w6 w' ∧ w'.cell? ⟨G6, 0, none⟩ = some (.int .i64 (N : Int)) ∧ w'.cell? ⟨G6, 1, none⟩ = some (.int .i64 (M : Int))) := fun W hB =>
   (itoa_digits HN.out.1.2 W (HKd.out.2.below (HB6.out.trans (hB.mono HB6.out.size)))).mono fun e w' ⟨h1, h2⟩ => ⟨h1, hB.trans (h2.mono hB.size), (HF6.out.below (hB.trans (h2.mono hB.size))).cell 0, (HF6.out.below (hB.trans (h2.mono hB.size))).cell 1⟩
  have c0 : w6.drew.cell? ⟨G6, 0, none⟩ = some (.int .i64 (N : Int)) := HF6.out.cell 0
  have c1 : w6.drew.cell? ⟨G6, 1, none⟩ = some (.int .i64 (M : Int)) := HF6.out.cell 1
  have z1 : (strOf (decT N)).size ≤ 9 := by rw [strOf_size]; exact decF_length 8 N
  have z2 : (strOf (decT M)).size ≤ 9 := by rw [strOf_size]; exact decF_length 8 M
  go_upto_region 10 with fail
  obtain ⟨T1, hT1⟩ := nm (strOf (decT N))
  obtain ⟨T2, hT2⟩ := nm (strOf (decT M))
  rw [← hT1] at HI1 z1
  rw [← hT2] at HI2 z2
  have HTx : Hid (T1 = strOf (decT N) ∧ T2 = strOf (decT M)) := ⟨hT1, hT2⟩
  clear hT1 hT2
  go_region_with (first
   | (go_at_call 36; refine (HI1.out _ (by first | exact Below.drew (Below.refl _ _) | exact Below.refl _ _ | assumption)).mono ?_; rintro e w7 ⟨rfl, hb7, d0, d1⟩)
   | (go_at_call 36; refine (HI2.out _ (by first | assumption | exact Below.drew (Below.refl _ _) | exact Below.refl _ _)).mono ?_; rintro e w8 ⟨rfl, hb8, d2, d3⟩))
  all_goals
   go_wp2
   go_ret2
   refine ⟨_, _, rfl, Or.inl ⟨rfl, ?_⟩, HB6.out.trans (hb8.mono HB6.out.size)⟩
   obtain ⟨e1, e2⟩ := HTx.out
   rw [HN.out.2, e1, e2]
   exact two_texts _ _
 ·have HF := hide hf
  obtain rfl := hv2 hf
  rw [errV_no hf]
  clear hf hv1 hv2
  go_wp2
  go_ret2
  refine ⟨_, _, rfl, Or.inr (Or.inl ⟨?_, _, _, rfl⟩), HB2.out⟩
  unfold spanL
  rw [if_neg fun h => HF.out (text_zero.2 h)]
end Go.Proofs.YtnoohlibgaeklaaGreatDoor
namespace Go.Proofs.YtnoohlibgaeklaaGreatDoor
open Go.ChangeShapes Go.WideShapes Go.ChangeAt Go.RowKit
set_option maxRecDepth 100000
set_option maxHeartbeats 16000000
def askCheckN (fs : List Fm) (ats : List At) (c : List Int) (u : Int) : Int := if formsFault fs u = 0 then formFault ats c else formsFault fs u
theorem askcheck_forms (lo : Option Addr) (ln lcap : Nat) (ao : Option Addr) (al acap : Nat) (co : Option Addr) (cl ccap : Nat) (u m : Int) (w : World)
    (HF : Hid (∀ W, Bw w W → Calls Tryz.prog 141 #[.slice lo ln lcap, .int .i64 u] W (Bk W (.iface 91 (.int .i64 m))))) :
    Calls Tryz.prog 96 #[.slice lo ln lcap, .agg #[.slice ao al acap, .slice co cl ccap], .int .i64 u] w (Bk w (.iface 91 (.int .i64 m))) := by
 go_enter Tryz.func96, Tryz.ntmps96
 go_wp2_with fail
 go_at_call 141
 refine (HF.out _ (below_alloc1 _ _)).mono ?_
 rintro e w2 ⟨rfl, hb⟩
 have HB : Hid (Bw w w2) := (below_alloc1 w _).trans (hb.mono (by simp))
 clear hb
 go_wp2
 go_ret
 exact ⟨rfl, HB.out⟩
theorem askcheck_good (lo : Option Addr) (ln lcap : Nat) (ao : Option Addr) (al acap : Nat) (co : Option Addr) (cl ccap : Nat) (u : Int) (E : Value) (w : World)
    (HF : Hid (∀ W, Bw w W → Calls Tryz.prog 141 #[.slice lo ln lcap, .int .i64 u] W (Bk W .nilIface)))
    (HG : Hid (∀ W, Bw w W → Calls Tryz.prog 78 #[.agg #[.slice ao al acap, .slice co cl ccap]] W (Bk W E))) :
    Calls Tryz.prog 96 #[.slice lo ln lcap, .agg #[.slice ao al acap, .slice co cl ccap], .int .i64 u] w (Bk w E) := by
 obtain ⟨w1, hw1⟩ := nm (w.alloc (.cells #[.slice ao al acap, .slice co cl ccap] 78))
 have HB1 : Hid (Bw w w1) := by unfold Hid; rw [hw1]; exact below_alloc1 _ _
 have HQ : Hid (Blk w1 w.heap.size 78 #[.slice ao al acap, .slice co cl ccap]) := by unfold Hid; rw [hw1]; exact Blk.new _ _ _
 go_enter Tryz.func96, Tryz.ntmps96
 go_upto_region 1 with fail
 rw [← hw1]
 clear hw1
 go_wp2_with fail
 go_at_call 141
 refine (HF.out _ HB1.out).mono ?_
 rintro e w2 ⟨rfl, hb⟩
 have HB2 := bt HB1 hb
 have y0 : w2.cell? ⟨w.heap.size, 0, none⟩ = some (.slice ao al acap) := (HQ.out.below hb).cell 0
 have y1 : w2.cell? ⟨w.heap.size, 1, none⟩ = some (.slice co cl ccap) := (HQ.out.below hb).cell 1
 clear hb
 go_wp2_with fail
 go_at_call 78
 refine (HG.out _ HB2.out).mono ?_
 rintro e w3 ⟨rfl, hb⟩
 have HB3 := bt HB2 hb
 clear hb y0 y1
 go_wp2
 go_ret
 exact ⟨rfl, HB3.out⟩
theorem askCheck_any (v va vc : Value) (fs : List Fm) (ats : List At) (c : List Int) (u : Int) (w : World) (hF : ReadsF w v fs) (hA : ReadsA w va ats) (hC : Reads w vc c) (hK : KindsLaid w) :
    Calls Tryz.prog 96 #[v, .agg #[va, vc], .int .i64 u] w (Bk w (errV (askCheckN fs ats c u))) := by
 have hL := fun W (hW : Bw w W) => coreCheck_any v fs u W (hF.below hW) (hK.below hW)
 have hG := fun W (hW : Bw w W) => fcheck_any va vc ats c W (hA.below hW) (hC.below hW) (hK.below hW)
 obtain ⟨lo, lcap, rfl, _⟩ := hF.slice
 obtain ⟨ao, acap, rfl, _⟩ := hA.slice
 obtain ⟨co, ccap, rfl, _⟩ := hC.slice
 unfold askCheckN
 by_cases h : formsFault fs u = 0
 ·rw [if_pos h]
  rw [h] at hL
  exact askcheck_good lo _ lcap ao _ acap co _ ccap u _ w hL hG
 ·rw [if_neg h, errV_no h]
  rw [errV_no h] at hL
  exact askcheck_forms lo _ lcap ao _ acap co _ ccap u _ w hL
def seenN (h f : Bool) : Int := if h = true then (if f = true then 0 else 1) else (if f = true then -1 else 0)
def seenE (h f : Bool) : Int := if (h || f) = true then 0 else 6
theorem seenAnswer_any (h f : Bool) (w : World) : Calls Tryz.prog 98 #[.agg #[.bool h, .bool f]] w (Bk w (.tuple #[.int .i64 (seenN h f), errV (seenE h f)])) := by
 cases h <;> cases f
 ·show Calls _ _ _ _ fun e w' => e = .returned (.tuple #[.int .i64 0, .iface 91 (.int .i64 6)]) ∧ _
  go_enter Tryz.func98, Tryz.ntmps98
  go_wp2
  go_ret2
  exact ⟨rfl, below_alloc1 _ _⟩
 ·show Calls _ _ _ _ fun e w' => e = .returned (.tuple #[.int .i64 (-1), .nilIface]) ∧ _
  go_enter Tryz.func98, Tryz.ntmps98
  go_wp2
  go_ret2
  exact ⟨rfl, below_alloc1 _ _⟩
 ·show Calls _ _ _ _ fun e w' => e = .returned (.tuple #[.int .i64 1, .nilIface]) ∧ _
  go_enter Tryz.func98, Tryz.ntmps98
  go_wp2
  go_ret2
  exact ⟨rfl, below_alloc1 _ _⟩
 ·show Calls _ _ _ _ fun e w' => e = .returned (.tuple #[.int .i64 0, .nilIface]) ∧ _
  go_enter Tryz.func98, Tryz.ntmps98
  go_wp2
  go_ret2
  exact ⟨rfl, below_alloc1 _ _⟩
theorem seen_is {p : Int × Int} (h : 0 ≤ p.1 ∧ 0 ≤ p.2) : seenN (decide (¬ p.1 = 0)) (decide (¬ p.2 = 0)) = (if p.1 + p.2 = 0 then 0 else answerN p) ∧ seenE (decide (¬ p.1 = 0)) (decide (¬ p.2 = 0)) = if p.1 + p.2 = 0 then 6 else 0 := by
 unfold seenN seenE answerN
 by_cases h1 : p.1 = 0 <;> by_cases h2 : p.2 = 0 <;> simp [h1, h2] <;> omega
theorem allHold_any (v : Value) (fs : List Fm) (hgood : ∀ f ∈ fs, f.fault = 0) (D : Wd) (hok : D.ok = true) (w : World) (hF : ReadsF w v fs) (hK : KindsLaid w) :
    Calls Tryz.prog 142 #[v, .agg #[.int .i64 D.u, .int .i64 D.a, .int .i64 D.b, .int .i64 D.c]] w (Bk w (.tuple #[.bool (D.so fs), .nilIface])) := by
 obtain ⟨lo, lcap, rfl, hl63⟩ := hF.slice
 have HF := hide hF
 obtain ⟨L, hL⟩ : ∃ L : Nat → Bool, L = fun j => match fs[j]? with | some f => D.formIs f.ats f.c | none => false := ⟨_, rfl⟩
 have HHo : Hid (∀ (k : Nat) f va vc W, fs[k]? = some f → Bw w W → ReadsA W va f.ats → Reads W vc f.c → Calls Tryz.prog 122 #[.agg #[va, vc], .agg #[.int .i64 D.u, .int .i64 D.a, .int .i64 D.b, .int .i64 D.c]] W (Bk W (.tuple #[.bool (L k), .nilIface]))) := fun k f va vc W hf hW hA hC => by
  have h := fholds_any va vc f.ats f.c D.u D.a D.b D.c W hA hC (hK.below hW)
  have e : (Wd.mk D.u D.a D.b D.c).formFault f.ats f.c = 0 := wdForm_zero.2 ⟨hgood f (List.mem_of_getElem? hf), hok⟩
  rw [e] at h
  have eL : L k = D.formIs f.ats f.c := by rw [hL]; show (match fs[k]? with | some f => D.formIs f.ats f.c | none => false) = _; rw [hf]
  rw [eL]
  exact h
 have HNo : Hid (∀ k, k < fs.length → L k = false → D.so fs = false) := fun k hk h => by
  rw [hL] at h
  simp only [List.getElem?_eq_getElem hk] at h
  unfold Wd.so
  rw [List.all_eq_false]
  exact ⟨_, List.getElem_mem hk, by rw [h]; decide⟩
 have HYes : Hid ((∀ j, j < fs.length → L j = true) → D.so fs = true) := fun h => by
  unfold Wd.so
  rw [List.all_eq_true]
  intro f hf
  obtain ⟨i, hi⟩ := List.mem_iff_getElem?.1 hf
  have := h i (List.getElem?_eq_some_iff.1 hi).1
  rw [hL] at this
  simp only [hi] at this
  exact this
 obtain ⟨S, hS⟩ := nm (D.so fs)
 rw [← hS] at HNo HYes ⊢
 obtain ⟨n, hn⟩ := nm fs.length
 rw [← hn] at HF hl63 HNo HYes ⊢
 have HN := hide hn
 obtain ⟨w1, hw1⟩ := nm (w.alloc (.cells #[.int .i64 D.u, .int .i64 D.a, .int .i64 D.b, .int .i64 D.c] 58))
 have HB1 : Hid (Bw w w1) := by unfold Hid; rw [hw1]; exact below_alloc1 _ _
 have HQ1 : Hid (Blk w1 w.heap.size 58 (arrW D)) := by unfold Hid; rw [hw1]; exact Blk.new _ _ _
 clear hF hL hS hn hgood hok hK
 go_enter Tryz.func142, Tryz.ntmps142
 go_wp2
 rw [← hw1]
 clear hw1
 go_loopw [12] (fun i wr => ∃ k : Nat, k ≤ n ∧ i = .int .i64 k ∧ Bw w1 wr ∧ Hid (∀ j, j < k → L j = true)) (fun i _ => n - (intOf i).toNat)
 case atStart => exact ⟨0, Nat.zero_le _, rfl, Below.refl _ _, fun j hj => by omega⟩
 case round =>
  obtain ⟨k, hk, rfl, hbr, HSo⟩ := hrel
  have HBr := hide hbr
  have HBw := bt HB1 hbr
  clear hbr
  by_cases hlt : k < n
  ·obtain ⟨f, hf⟩ : ∃ f, fs[k]? = some f := ⟨_, List.getElem?_eq_getElem (by rw [← HN.out]; exact hlt)⟩
   obtain ⟨bL, oL, cL, hv⟩ := HF.out.place (by rw [← HN.out]; omega)
   obtain ⟨hlo, hx1, hx2⟩ := Value.slice.inj hv
   clear hx1 hx2
   subst hlo
   obtain ⟨hbL, va, vc, c0, c1, hA, hC⟩ := HF.out.at hf
   obtain ⟨ao, acap, rfl, _⟩ := hA.slice
   obtain ⟨co, ccap, rfl, _⟩ := hC.slice
   have x0 : wr.cell? ⟨bL, oL + k * 2, none⟩ = some (.slice ao f.ats.length acap) := (HBw.out.cell hbL).trans c0
   have x1 : wr.cell? ⟨bL, oL + k * 2 + 1, none⟩ = some (.slice co f.c.length ccap) := (HBw.out.cell hbL).trans c1
   have HH1 : Hid (∀ W, Bw wr W → Calls Tryz.prog 122 #[.agg #[.slice ao f.ats.length acap, .slice co f.c.length ccap], .agg #[.int .i64 D.u, .int .i64 D.a, .int .i64 D.b, .int .i64 D.c]] W (Bk w1 (.tuple #[.bool (L k), .nilIface]))) := fun W hW => by
    have hb' := HBw.out.trans (hW.mono HBw.out.size)
    have hb1 := HBr.out.trans (hW.mono HBr.out.size)
    exact (HHo.out k f _ _ W hf hb' (hA.below hb') (hC.below hb')).mono fun e w' ⟨he, hb⟩ => ⟨he, hb1.trans (hb.mono hb1.size)⟩
   obtain ⟨al, hal⟩ := nm f.ats.length
   obtain ⟨cl, hcl⟩ := nm f.c.length
   rw [← hal] at x0 HH1
   rw [← hcl] at x1 HH1
   obtain ⟨wf, hwf⟩ := nm (wr.alloc (.cells #[.slice ao al acap, .slice co cl ccap] 78))
   have HBf : Hid (Bw wr wf) := by unfold Hid; rw [hwf]; exact below_alloc1 _ _
   have HQf : Hid (Blk wf wr.heap.size 78 #[.slice ao al acap, .slice co cl ccap]) := by unfold Hid; rw [hwf]; exact Blk.new _ _ _
   have HH2 : Hid (Calls Tryz.prog 122 #[.agg #[.slice ao al acap, .slice co cl ccap], .agg #[.int .i64 D.u, .int .i64 D.a, .int .i64 D.b, .int .i64 D.c]] wf (Bk w1 (.tuple #[.bool (L k), .nilIface]))) := HH1.out _ HBf.out
   clear hf hv hbL c0 c1 hA hC hal hcl HH1
   have hkn : (k : Int) < (n : Int) := by omega
   obtain ⟨q, hq⟩ := nm (L k)
   have HQ := hide (hq.symm)
   rw [← hq] at HH2
   clear hq
   go_upto_region 4 with fail
   rw [← hwf]
   clear hwf x0 x1
   have y0 : wf.cell? ⟨wr.heap.size, 0, none⟩ = some (.slice ao al acap) := HQf.out.cell 0
   have y1 : wf.cell? ⟨wr.heap.size, 1, none⟩ = some (.slice co cl ccap) := HQf.out.cell 1
   obtain ⟨d0, d1, d2, d3⟩ := ((HQ1.out.below HBr.out).below HBf.out).cells4
   go_wp2_with fail
   go_at_call 122
   refine HH2.out.mono ?_
   rintro e w8 ⟨rfl, hb8⟩
   have HB8 := hide hb8
   clear hb8 y0 y1 d0 d1 d2 d3
   cases q with
   | true =>
    go_wp2
    go_roundw
    case rel =>
     refine ⟨k + 1, by omega, by go_num, HB8.out, fun j hj => ?_⟩
     by_cases e : j = k
     ·subst e; exact HQ.out
     ·exact HSo.out j (by omega)
    case measure => simp [intOf]; omega
   | false =>
    have HR := hide (HNo.out k hlt HQ.out)
    go_wp2
    go_ret2
    exact ⟨by first | (rw [HR.out]; done) | (rw [HR.out]; rfl), HB1.out.trans (HB8.out.mono HB1.out.size)⟩
  ·obtain rfl : k = n := by omega
   have HR := hide (HYes.out HSo.out)
   clear hlt
   go_wp2
   go_ret2
   exact ⟨by first | (rw [HR.out]; done) | (rw [HR.out]; rfl), HBw.out⟩
end Go.Proofs.YtnoohlibgaeklaaGreatDoor
namespace Go.Proofs.YtnoohlibgaeklaaGreatDoor
open Go.ChangeShapes Go.WideShapes Go.ChangeAt Go.RowKit
set_option maxRecDepth 100000
set_option maxHeartbeats 16000000
attribute [local go_sem] Oper.semAt_some
def arrS (p : Bool × Bool) : Array Value := #[.bool p.1, .bool p.2]
theorem putS_blk {w : World} {R : Nat} {T : TypeId} {q : Bool × Bool} (h : Blk w R T (arrS q)) (p : Bool × Bool) : Blk ((w.setCell ⟨R, 0, none⟩ (.bool p.1)).setCell ⟨R, 1, none⟩ (.bool p.2)) R T (arrS p) := by
 have := (h.set 0 (.bool p.1)).set 1 (.bool p.2)
 have e : ((arrS q).setIfInBounds 0 (.bool p.1)).setIfInBounds 1 (.bool p.2) = arrS p := by simp [arrS]
 rw [e] at this
 exact this
theorem loadSn {W : World} {R : Nat} {p : Bool × Bool} (h : Blk W R 161 (arrS p)) : (loadVar 161 ⟨R, 0, none⟩).run Tryz.prog W = .ok (.agg (arrS p)) W := by
 have hl := run_loadCells_list (P := Tryz.prog) W ⟨R, 0, none⟩ (arrS p).toList (fun j v hj => by
  have := h.cell j
  rw [← Array.getElem?_toList] at this
  rw [hj] at this
  have ha : (⟨R, 0, none⟩ : Addr).add j = ⟨R, j, none⟩ := by unfold Addr.add; split <;> simp_all
  rw [ha]; exact this)
 simp [loadVar, Tryz.isAgg161, Tryz.sizeOf161, Result.andThen, arrS] at hl ⊢
 simp [hl]
theorem look_right (lo : Option Addr) (ln lcap : Nat) (ao : Option Addr) (al acap : Nat) (co : Option Addr) (cl ccap : Nat) (n : Nat) (hn : n ≤ 6) (D : (Nat → Int) → Wd) (p q : (Nat → Int) → Bool) (P : Nat → Bool × Bool) (R : Bool × Bool) (w : World)
    (hC : ∀ (M : Nat → Int) W, M ∈ everyC n → Calls Tryz.prog 121 #[.agg #[.int .i64 (M 0), .int .i64 (M 1), .int .i64 (M 2), .int .i64 (M 3), .int .i64 (M 4), .int .i64 (M 5), .int .i64 (M 6), .int .i64 (M 7)]] W (Bk W (.tuple #[.agg #[.int .i64 (D M).u, .int .i64 (D M).a, .int .i64 (D M).b, .int .i64 (D M).c], .nilIface])))
    (hH : ∀ (M : Nat → Int) W, M ∈ everyC n → Bw w W → Calls Tryz.prog 142 #[.slice lo ln lcap, .agg #[.int .i64 (D M).u, .int .i64 (D M).a, .int .i64 (D M).b, .int .i64 (D M).c]] W (Bk W (.tuple #[.bool (p M), .nilIface])))
    (hQ : ∀ (M : Nat → Int) W, M ∈ everyC n → Bw w W → Calls Tryz.prog 122 #[.agg #[.slice ao al acap, .slice co cl ccap], .agg #[.int .i64 (D M).u, .int .i64 (D M).a, .int .i64 (D M).b, .int .i64 (D M).c]] W (Bk W (.tuple #[.bool (q M), .nilIface])))
    (h0 : P 0 = (false, false)) (h1 : ∀ (k : Nat) (M : Nat → Int), (everyC n)[k]? = some M → P (k + 1) = if p M = true then ((P k).1 || q M, (P k).2 || !q M) else P k)
    (hR : R = P (everyC n).length) :
    Calls Tryz.prog 97 #[.slice lo ln lcap, .agg #[.slice ao al acap, .slice co cl ccap], .int .i64 n] w (Bk w (.tuple #[.agg (arrS R), .nilIface])) := by
 obtain ⟨A, hA⟩ := nm (everyC n)
 have HC : Hid (∀ (k : Nat) (M : Nat → Int) W, A[k]? = some M → Calls Tryz.prog 121 #[.agg #[.int .i64 (M 0), .int .i64 (M 1), .int .i64 (M 2), .int .i64 (M 3), .int .i64 (M 4), .int .i64 (M 5), .int .i64 (M 6), .int .i64 (M 7)]] W (Bk W (.tuple #[.agg #[.int .i64 (D M).u, .int .i64 (D M).a, .int .i64 (D M).b, .int .i64 (D M).c], .nilIface]))) := fun k M W hM => hC M W (by rw [hA] at hM; exact List.mem_of_getElem? hM)
 have HF : Hid (∀ (k : Nat) (M : Nat → Int) W, A[k]? = some M → Bw w W → Calls Tryz.prog 142 #[.slice lo ln lcap, .agg #[.int .i64 (D M).u, .int .i64 (D M).a, .int .i64 (D M).b, .int .i64 (D M).c]] W (Bk W (.tuple #[.bool (p M), .nilIface]))) := fun k M W hM hW => hH M W (by rw [hA] at hM; exact List.mem_of_getElem? hM) hW
 have HQ : Hid (∀ (k : Nat) (M : Nat → Int) W, A[k]? = some M → Bw w W → Calls Tryz.prog 122 #[.agg #[.slice ao al acap, .slice co cl ccap], .agg #[.int .i64 (D M).u, .int .i64 (D M).a, .int .i64 (D M).b, .int .i64 (D M).c]] W (Bk W (.tuple #[.bool (q M), .nilIface]))) := fun k M W hM hW => hQ M W (by rw [hA] at hM; exact List.mem_of_getElem? hM) hW
 have HS : Hid (∀ Bu W, W.cell? ⟨Bu, 0, none⟩ = some (.int .i64 n) → SeqR 2 Tryz.prog 118 #[.pointer (some ⟨Bu, 0, none⟩)] enc8 A W) := fun Bu W hB => by rw [hA]; exact iter_any n hn 2 (by omega) Bu W hB
 have HP0 := hide h0
 rw [← hA] at h1 hR
 have HP1 := hide h1
 have HR := hide hR
 clear hA hC hH hQ h0 h1 hR
 obtain ⟨hs1, b0, b1, b2, b3, b4, hB1⟩ := five_new w (.cells #[.slice lo ln lcap] 25) (.cells #[.slice ao al acap, .slice co cl ccap] 78) (.cells #[.bool false, .bool false] 161) (.cells #[.nilIface] 34) (.cells #[.bool false, .bool false] 161)
 obtain ⟨w1, hw1⟩ := nm (((((w.alloc (.cells #[.slice lo ln lcap] 25)).alloc (.cells #[.slice ao al acap, .slice co cl ccap] 78)).alloc (.cells #[.bool false, .bool false] 161)).alloc (.cells #[.nilIface] 34)).alloc (.cells #[.bool false, .bool false] 161))
 rw [← hw1] at hs1 b0 b1 b2 b3 b4 hB1
 have HB1 := hide hB1
 have I0 : Hid (Blk w1 w.heap.size 25 #[.slice lo ln lcap]) := b0
 have I1 : Hid (Blk w1 (w.heap.size + 1) 78 #[.slice ao al acap, .slice co cl ccap]) := b1
 have I2 : Hid (Blk w1 (w.heap.size + 1 + 1) 161 (arrS (false, false))) := b2
 have I3 : Hid (Blk w1 (w.heap.size + 1 + 1 + 1) 34 #[.nilIface]) := b3
 have I4 : Hid (Blk w1 (w.heap.size + 1 + 1 + 1 + 1) 161 (arrS (P 0))) := by unfold Hid; rw [HP0.out]; exact b4
 obtain ⟨G, hG⟩ := nm w1.heap.size
 have HG : Hid (G = w.heap.size + 5) := by unfold Hid; rw [hG]; exact hs1
 clear hs1 b0 b1 b2 b3 b4 hB1
 refine (callsIn_wide (n := 3)).1 ?_
 refine callsIn_of_wp_marks Tryz.func97 rfl trivial ?_ rfl
 simp only [Tryz.ntmps97, List.size_toArray, List.length_cons, List.length_nil, Nat.reduceAdd, Nat.reduceSub, Array.replicate_succ, Array.replicate_zero, List.push_toArray, List.append_toArray, List.nil_append, List.cons_append]
 gi_upto_region 2 with fail
 rw [← hw1]
 clear hw1
 gi_wp2_with fail
 refine ⟨trivial, ?_⟩
 gi_at_call 80
 refine (callsIn_wide.2 (fitAll_any _ _)).mono ?_
 rintro e w4 ⟨rfl, rfl⟩
 gi_wp2_with fail
 obtain ⟨wl, hwl⟩ := nm (w1.alloc (.cells #[.int .i64 n] 3))
 have HB0 : Hid (Bw w wl) := by unfold Hid; rw [hwl]; exact HB1.out.alloc HB1.out.size _
 have Hsz : Hid (wl.heap.size = G + 1) := by unfold Hid; rw [hwl, hG, World.size_alloc]
 have H0 : Hid (Blk wl w.heap.size 25 #[.slice lo ln lcap]) := by unfold Hid; rw [hwl]; exact I0.out.old _
 have H1 : Hid (Blk wl (w.heap.size + 1) 78 #[.slice ao al acap, .slice co cl ccap]) := by unfold Hid; rw [hwl]; exact I1.out.old _
 have H2 : Hid (Blk wl (w.heap.size + 1 + 1) 161 (arrS (false, false))) := by unfold Hid; rw [hwl]; exact I2.out.old _
 have H3 : Hid (Blk wl (w.heap.size + 1 + 1 + 1) 34 #[.nilIface]) := by unfold Hid; rw [hwl]; exact I3.out.old _
 have H4 : Hid (Blk wl (w.heap.size + 1 + 1 + 1 + 1) 161 (arrS (P 0))) := by unfold Hid; rw [hwl]; exact I4.out.old _
 have H5 : Hid (Blk wl G 3 #[.int .i64 n]) := by unfold Hid; rw [hwl, hG]; exact Blk.new _ _ _
 rw [← hwl, ← hG]
 clear hwl hG I0 I1 I2 I3 I4
 refine wpIn_range_own (by omega) (gf := 118) (lb := #[.pointer (some ⟨G, 0, none⟩)]) rfl (enters_of Tryz.func118 (by kernel_rfl) rfl) (encs := enc8) (A := A)
  (fun W hW => HS.out _ W ((hW.cell (by rw [Hsz.out]; simp)).trans (H5.out.cell 0))) (fun _ => rfl)
  (fun k W => Bw w W ∧ Blk W w.heap.size 25 #[.slice lo ln lcap] ∧ Blk W (w.heap.size + 1) 78 #[.slice ao al acap, .slice co cl ccap] ∧ Blk W (w.heap.size + 1 + 1) 161 (arrS (false, false)) ∧ Blk W (w.heap.size + 1 + 1 + 1) 34 #[.nilIface] ∧ Blk W (w.heap.size + 1 + 1 + 1 + 1) 161 (arrS (P k)))
  (fun _ _ => False)
  (fun k X Y h hb => ⟨h.1.trans (hb.mono (by have := HG.out; rw [Hsz.out]; omega)), h.2.1.keep hb (by have := HG.out; rw [Hsz.out]; omega), h.2.2.1.keep hb (by have := HG.out; rw [Hsz.out]; omega), h.2.2.2.1.keep hb (by have := HG.out; rw [Hsz.out]; omega), h.2.2.2.2.1.keep hb (by have := HG.out; rw [Hsz.out]; omega), h.2.2.2.2.2.keep hb (by have := HG.out; rw [Hsz.out]; omega)⟩)
  (fun _ _ _ h _ => h) ⟨HB0.out, H0.out, H1.out, H2.out, H3.out, H4.out⟩ ?round ?done ?stop
 case round =>
  intro ln' k x W hx hl1 hl2 ⟨hB, c0, c1, c2, c3, c4⟩
  have HX := hide hx
  have Hl1 : Hid (w.heap.size + 6 ≤ ln') := by unfold Hid; have := HG.out; rw [Hsz.out] at hl1; omega
  have Hl2 := hide hl2
  have HBk := hide hB
  have C0 : Hid (Blk W w.heap.size 25 #[.slice lo ln lcap]) := c0
  have C1 : Hid (Blk W (w.heap.size + 1) 78 #[.slice ao al acap, .slice co cl ccap]) := c1
  have C2 : Hid (Blk W (w.heap.size + 1 + 1) 161 (arrS (false, false))) := c2
  have C3 : Hid (Blk W (w.heap.size + 1 + 1 + 1) 34 #[.nilIface]) := c3
  have C4 : Hid (Blk W (w.heap.size + 1 + 1 + 1 + 1) 161 (arrS (P k))) := c4
  clear hx hl1 hl2 hB c0 c1 c2 c3 c4 H0 H1 H2 H3 H4 H5
  unfold enc8
  gi_wp2
  refine ⟨(Over.refl _ _).alloc _, fun o => ?_⟩
  obtain ⟨W2, hW2⟩ := nm ((W.alloc (.cells #[.int .i64 (x 0), .int .i64 (x 1), .int .i64 (x 2), .int .i64 (x 3), .int .i64 (x 4), .int .i64 (x 5), .int .i64 (x 6), .int .i64 (x 7)] 60)).putObj ln' o)
  obtain ⟨Gx, hGx⟩ := nm W.heap.size
  have HB2 : Hid (Bw w W2) := by unfold Hid; rw [hW2]; exact (HBk.out.alloc HBk.out.size _).trans (below_putObj _ _ (by have := Hl1.out; omega))
  have D0 : Hid (Blk W2 w.heap.size 25 #[.slice lo ln lcap]) := by unfold Hid; rw [hW2]; exact (C0.out.old _).putO _ (by have := Hl1.out; omega)
  have D1 : Hid (Blk W2 (w.heap.size + 1) 78 #[.slice ao al acap, .slice co cl ccap]) := by unfold Hid; rw [hW2]; exact (C1.out.old _).putO _ (by have := Hl1.out; omega)
  have D2 : Hid (Blk W2 (w.heap.size + 1 + 1) 161 (arrS (false, false))) := by unfold Hid; rw [hW2]; exact (C2.out.old _).putO _ (by have := Hl1.out; omega)
  have D3 : Hid (Blk W2 (w.heap.size + 1 + 1 + 1) 34 #[.nilIface]) := by unfold Hid; rw [hW2]; exact (C3.out.old _).putO _ (by have := Hl1.out; omega)
  have D4 : Hid (Blk W2 (w.heap.size + 1 + 1 + 1 + 1) 161 (arrS (P k))) := by unfold Hid; rw [hW2]; exact (C4.out.old _).putO _ (by have := Hl1.out; omega)
  have D8 : Hid (Blk W2 Gx 60 (arr8 x)) := by unfold Hid; rw [hW2, hGx]; exact (Blk.new _ _ _).putO _ (by have := Hl2.out; omega)
  rw [← hW2, ← hGx]
  clear hW2 hGx C0 C1 C2 C3 C4
  have HFk : Hid (∀ W, Bw w W → Calls Tryz.prog 142 #[.slice lo ln lcap, .agg #[.int .i64 (D x).u, .int .i64 (D x).a, .int .i64 (D x).b, .int .i64 (D x).c]] W (Bk W (.tuple #[.bool (p x), .nilIface]))) := fun W => HF.out k x W HX.out
  have HM := hide (HP1.out k x HX.out)
  have HQk : Hid (∀ W, Bw w W → Calls Tryz.prog 122 #[.agg #[.slice ao al acap, .slice co cl ccap], .agg #[.int .i64 (D x).u, .int .i64 (D x).a, .int .i64 (D x).b, .int .i64 (D x).c]] W (Bk W (.tuple #[.bool (q x), .nilIface]))) := fun W => HQ.out k x W HX.out
  have HCk := hide (HC.out k x W2 HX.out)
  obtain ⟨g, hg⟩ := nm (p x)
  obtain ⟨m, hm⟩ := nm (q x)
  obtain ⟨⟨a, b⟩, hp⟩ : ∃ r, r = P k := ⟨_, rfl⟩
  obtain ⟨E, hE⟩ := nm (D x)
  rw [← hg] at HFk HM
  rw [← hm] at HM HQk
  rw [← hp] at HM D4
  rw [← hE] at HFk HQk HCk
  clear hg hm hp hE
  obtain ⟨x0, x1, x2, x3, x4, x5, x6, x7⟩ := D8.out.cells8
  gi_wp2_with fail
  refine ⟨trivial, ?_⟩
  gi_at_call 121
  refine (CallsIn.inRound ln' (callsIn_wide.2 HCk.out)).mono ?_
  rintro e W3 ⟨rfl, hb3⟩
  have HB3 := bt HB2 hb3
  have E0 := hide (D0.out.below hb3)
  have E1 := hide (D1.out.below hb3)
  have E2 := hide (D2.out.below hb3)
  have E3 := hide (D3.out.below hb3)
  have E4 := hide (D4.out.below hb3)
  have HO3 : Hid (Over wl.heap.size W2 W3) := Over.of_below hb3
  clear hb3 x0 x1 x2 x3 x4 x5 x6 x7 D0 D1 D2 D3 D4 D8
  obtain ⟨W4, hW4⟩ := nm (W3.alloc (.cells #[.int .i64 E.u, .int .i64 E.a, .int .i64 E.b, .int .i64 E.c] 58))
  obtain ⟨Gw, hGw⟩ := nm W3.heap.size
  have HB4 : Hid (Bw w W4) := by unfold Hid; rw [hW4]; exact HB3.out.alloc HB3.out.size _
  have F0 : Hid (Blk W4 w.heap.size 25 #[.slice lo ln lcap]) := by unfold Hid; rw [hW4]; exact E0.out.old _
  have F1 : Hid (Blk W4 (w.heap.size + 1) 78 #[.slice ao al acap, .slice co cl ccap]) := by unfold Hid; rw [hW4]; exact E1.out.old _
  have F2 : Hid (Blk W4 (w.heap.size + 1 + 1) 161 (arrS (false, false))) := by unfold Hid; rw [hW4]; exact E2.out.old _
  have F3 : Hid (Blk W4 (w.heap.size + 1 + 1 + 1) 34 #[.nilIface]) := by unfold Hid; rw [hW4]; exact E3.out.old _
  have F4 : Hid (Blk W4 (w.heap.size + 1 + 1 + 1 + 1) 161 (arrS (a, b))) := by unfold Hid; rw [hW4]; exact E4.out.old _
  have F5 : Hid (Blk W4 Gw 58 (arrW E)) := by unfold Hid; rw [hW4, hGw]; exact Blk.new _ _ _
  have HO4 : Hid (Over wl.heap.size W2 W4) := by unfold Hid; rw [hW4]; exact HO3.out.trans ((Over.refl _ _).alloc _)
  gi_upto_region 5 with fail
  rw [← hW4, ← hGw]
  clear hW4 hGw E0 E1 E2 E3 E4 HB3 HO3
  have e0 : W4.cell? ⟨w.heap.size, 0, none⟩ = some (.slice lo ln lcap) := F0.out.cell 0
  obtain ⟨d0, d1, d2, d3⟩ := F5.out.cells4
  gi_wp2_with fail
  refine ⟨trivial, ?_⟩
  gi_at_call 142
  refine (CallsIn.inRound ln' (callsIn_wide.2 (HFk.out _ HB4.out))).mono ?_
  rintro e W5 ⟨rfl, hb5⟩
  have HB5 := bt HB4 hb5
  have J0 := hide (F0.out.below hb5)
  have J1 := hide (F1.out.below hb5)
  have J2 := hide (F2.out.below hb5)
  have J3 := hide (F3.out.below hb5)
  have J4 := hide (F4.out.below hb5)
  have J5 := hide (F5.out.below hb5)
  have HO5 := hide (HO4.out.trans (Over.of_below hb5))
  clear hb5 e0 d0 d1 d2 d3 F0 F1 F2 F3 F4 F5 HB4 HO4
  cases g with
  | true =>
   have HM1 : Hid (P (k + 1) = (a || m, b || !m)) := by unfold Hid; have h := HM.out; rw [if_pos rfl] at h; exact h
   clear HM
   have e1 : W5.cell? ⟨w.heap.size + 1, 0, none⟩ = some (.slice ao al acap) := J1.out.cell 0
   have e2 : W5.cell? ⟨w.heap.size + 1, 1, none⟩ = some (.slice co cl ccap) := J1.out.cell 1
   obtain ⟨d0, d1, d2, d3⟩ := J5.out.cells4
   gi_wp2_with fail
   refine ⟨trivial, ?_⟩
   gi_at_call 122
   refine (CallsIn.inRound ln' (callsIn_wide.2 (HQk.out _ HB5.out))).mono ?_
   rintro e W6 ⟨rfl, hb6⟩
   have HB6 := bt HB5 hb6
   have K0 := hide (J0.out.below hb6)
   have K1 := hide (J1.out.below hb6)
   have K2 := hide (J2.out.below hb6)
   have K3 := hide (J3.out.below hb6)
   have K4 := hide (J4.out.below hb6)
   have HO6 := hide (HO5.out.trans (Over.of_below hb6))
   clear hb6 e1 e2 d0 d1 d2 d3 J0 J1 J2 J3 J4 J5 HB5 HO5
   have s0 : W6.cell? ⟨w.heap.size + 1 + 1 + 1 + 1, 0, none⟩ = some (.bool a) := K4.out.cell 0
   have s1 : W6.cell? ⟨w.heap.size + 1 + 1 + 1 + 1, 1, none⟩ = some (.bool b) := K4.out.cell 1
   have z0 : W6.frozen? ⟨w.heap.size + 1 + 1 + 1 + 1, 0, none⟩ = false := K4.out.frozen 0
   have z1 : W6.frozen? ⟨w.heap.size + 1 + 1 + 1 + 1, 1, none⟩ = false := K4.out.frozen 1
   cases a <;> cases b <;> cases m <;> gi_wp2
   all_goals refine ⟨(HO6.out.setCell (by have := HG.out; rw [Hsz.out]; simp; omega) _).setCell (by have := HG.out; rw [Hsz.out]; simp; omega) _, (HB6.out.setCell (by simp; omega) _).setCell (by simp; omega) _, (K0.out.far (by omega) _ _).far (by omega) _ _, (K1.out.far (by omega) _ _).far (by omega) _ _, (K2.out.far (by omega) _ _).far (by omega) _ _, (K3.out.far (by omega) _ _).far (by omega) _ _, ?_⟩
   all_goals show Blk _ _ _ (arrS (P (k + 1)))
   all_goals have hM := HM1.out
   all_goals simp only [Bool.or_false, Bool.or_true, Bool.not_true, Bool.not_false] at hM
   all_goals rw [hM]
   all_goals exact putS_blk K4.out (_, _)
  | false =>
   have HM1 : Hid (P (k + 1) = (a, b)) := by unfold Hid; have h := HM.out; rw [if_neg (by decide)] at h; exact h
   clear HM
   gi_wp2
   exact ⟨HO5.out, HB5.out, J0.out, J1.out, J2.out, J3.out, by rw [HM1.out]; exact J4.out⟩
 case done =>
  intro D W hD ⟨hB, c0, c1, c2, c3, c4⟩ hK
  have HD : Hid (w.heap.size + 6 ≤ D) := by unfold Hid; have := HG.out; rw [Hsz.out] at hD; omega
  have HK := hide hK
  have HBk := hide hB
  rw [← HR.out] at c4
  obtain ⟨a, b⟩ := R
  have C2 : Hid (Blk W (w.heap.size + 1 + 1) 161 (arrS (false, false))) := c2
  have C3 : Hid (Blk W (w.heap.size + 1 + 1 + 1) 34 #[.nilIface]) := c3
  have C4 : Hid (Blk W (w.heap.size + 1 + 1 + 1 + 1) 161 (arrS (a, b))) := c4
  clear hD hB c0 c1 c2 c3 c4 hK H0 H1 H2 H3 H4 H5 HR
  have e1 : W.cell? ⟨w.heap.size + 1 + 1, 0, none⟩ = some (.bool false) := C2.out.cell 0
  have e2 : W.cell? ⟨w.heap.size + 1 + 1, 1, none⟩ = some (.bool false) := C2.out.cell 1
  have z1 : W.frozen? ⟨w.heap.size + 1 + 1, 0, none⟩ = false := C2.out.frozen 0
  have z2 : W.frozen? ⟨w.heap.size + 1 + 1, 1, none⟩ = false := C2.out.frozen 1
  have e3 : W.cell? ⟨w.heap.size + 1 + 1 + 1, 0, none⟩ = some .nilIface := C3.out.cell 0
  have z3 : W.frozen? ⟨w.heap.size + 1 + 1 + 1, 0, none⟩ = false := C3.out.frozen 0
  have e4 : W.cell? ⟨w.heap.size + 1 + 1 + 1 + 1, 0, none⟩ = some (.bool a) := C4.out.cell 0
  have e5 : W.cell? ⟨w.heap.size + 1 + 1 + 1 + 1, 1, none⟩ = some (.bool b) := C4.out.cell 1
  gi_wp2
  have hK' : (((W.setCell ⟨w.heap.size + 1 + 1, 0, none⟩ (.bool a)).setCell ⟨w.heap.size + 1 + 1, 1, none⟩ (.bool b)).setCell ⟨w.heap.size + 1 + 1 + 1, 0, none⟩ .nilIface).heap[D]? = some (.deferred (some [])) := by
   have := HD.out
   rw [Below.heap_setCell _ _ _ _ (by simp; omega), Below.heap_setCell _ _ _ _ (by simp; omega), Below.heap_setCell _ _ _ _ (by simp; omega)]; exact HK.out
  have r1 : Blk (((W.setCell ⟨w.heap.size + 1 + 1, 0, none⟩ (.bool a)).setCell ⟨w.heap.size + 1 + 1, 1, none⟩ (.bool b)).setCell ⟨w.heap.size + 1 + 1 + 1, 0, none⟩ .nilIface) (w.heap.size + 1 + 1) 161 (arrS (a, b)) := (putS_blk C2.out (a, b)).far (by omega) _ _
  have r2 : Blk (((W.setCell ⟨w.heap.size + 1 + 1, 0, none⟩ (.bool a)).setCell ⟨w.heap.size + 1 + 1, 1, none⟩ (.bool b)).setCell ⟨w.heap.size + 1 + 1 + 1, 0, none⟩ .nilIface) (w.heap.size + 1 + 1 + 1) 34 #[.nilIface] := ((C3.out.far (by omega) _ _).far (by omega) _ _).set 0 _
  refine ⟨by simp, .inl ⟨_, _, rfl, run_takeDeferred hK', ?_⟩⟩
  have hd := HD.out
  have l1 := loadSn (r1.putO (.deferred none) (l := D) (by omega))
  have l2 := loadE (r2.putO (.deferred none) (l := D) (by omega))
  refine ⟨.tuple #[.agg (arrS (a, b)), .nilIface], ?_, rfl, ?_⟩
  ·rw [results_two rfl]
   simp [asAddr, Result.andThen, l1, l2]
  ·exact (((HBk.out.setCell (by simp; omega) _).setCell (by simp; omega) _).setCell (by simp; omega) _).trans (below_putObj _ _ (by omega))
 case stop => exact fun _ _ _ _ _ h => h.elim
def seenP (p : Int × Int) : Bool × Bool := (decide (¬ p.1 = 0), decide (¬ p.2 = 0))
theorem look_any (v va vc : Value) (fs : List Fm) (ats : List At) (c : List Int) (n : Nat) (hn : n ≤ 6) (hgood : ∀ f ∈ fs, f.fault = 0) (hf : formFault ats c = 0) (w : World) (hF : ReadsF w v fs) (hA : ReadsA w va ats) (hC : Reads w vc c) (hK : KindsLaid w) :
    Calls Tryz.prog 97 #[v, .agg #[va, vc], .int .i64 n] w (Bk w (.tuple #[.agg (arrS (seenP (askP fs ats c n))), .nilIface])) := by
 have hH := fun (N : Nat → Int) (h0 : countsFault N = 0) W (hW : Bw w W) => allHold_any v fs hgood (madeN N 8) (made_ok h0) W (hF.below hW) (hK.below hW)
 have hQ := fun (D : Wd) W (hW : Bw w W) => fholds_any va vc ats c D.u D.a D.b D.c W (hA.below hW) (hC.below hW) (hK.below hW)
 obtain ⟨lo, lcap, rfl, _⟩ := hF.slice
 obtain ⟨ao, acap, rfl, _⟩ := hA.slice
 obtain ⟨co, ccap, rfl, _⟩ := hC.slice
 refine look_right lo _ lcap ao _ acap co _ ccap n hn (fun N => madeN N 8) (fun N => (madeN N 8).so fs) (fun N => (madeN N 8).formIs ats c) (fun k => seenP (askOver fs ats c ((worldsL n).take k))) _ w (fun M W hM => ?_) (fun M W hM hW => hH M (everyC_right hn hM) W hW) (fun M W hM hW => ?_) rfl (fun k M hM => ?_) ?_
 ·have h := fworld_any M W
  have h0 := everyC_right hn hM
  have e : madeW M = madeN M 8 := by unfold madeW; rw [if_pos h0]
  rw [h0, e] at h
  exact h
 ·have h := hQ (madeN M 8) W hW
  have eD : ∀ D : Wd, Wd.mk D.u D.a D.b D.c = D := fun _ => rfl
  have e : (madeN M 8).formFault ats c = 0 := wdForm_zero.2 ⟨hf, made_ok (everyC_right hn hM)⟩
  rw [eD, e] at h
  exact h
 ·have hk : (worldsL n)[k]? = some (madeN M 8) := by unfold worldsL; rw [List.getElem?_map, hM]; rfl
  show seenP (askOver fs ats c ((worldsL n).take (k + 1))) = _
  rw [List.take_add_one, hk]
  show seenP (askOver fs ats c ((worldsL n).take k ++ [madeN M 8])) = _
  rw [askOver_add]
  have hr := (ask_range fs ats c ((worldsL n).take k)).1
  obtain ⟨P, hP⟩ := nm (askOver fs ats c ((worldsL n).take k))
  rw [← hP] at hr ⊢
  unfold askStep seenP
  have e1 : ∀ x : Int, 0 ≤ x → ¬ x + 1 = 0 := fun x _ => by omega
  cases (madeN M 8).so fs <;> cases (madeN M 8).formIs ats c <;> simp [e1 _ hr.1, e1 _ hr.2]
 ·have el : (worldsL n).take (everyC n).length = worldsL n := by rw [← worldsL_length, List.take_length]
  show _ = seenP (askOver fs ats c ((worldsL n).take (everyC n).length))
  rw [el]
  rfl
end Go.Proofs.YtnoohlibgaeklaaGreatDoor
namespace Go.Proofs.YtnoohlibgaeklaaGreatDoor
open Go.ChangeShapes Go.WideShapes Go.ChangeAt Go.RowKit
set_option maxRecDepth 100000
set_option maxHeartbeats 16000000
theorem askof_wrong (lo : Option Addr) (ln lcap : Nat) (ao : Option Addr) (al acap : Nat) (co : Option Addr) (cl ccap : Nat) (u m : Int) (w : World)
    (HC : Hid (∀ W, Bw w W → Calls Tryz.prog 96 #[.slice lo ln lcap, .agg #[.slice ao al acap, .slice co cl ccap], .int .i64 u] W (Bk W (.iface 91 (.int .i64 m))))) :
    Calls Tryz.prog 63 #[.slice lo ln lcap, .agg #[.slice ao al acap, .slice co cl ccap], .int .i64 u] w (Bk w (.tuple #[.int .i64 0, .iface 91 (.int .i64 m)])) := by
 go_enter Tryz.func63, Tryz.ntmps63
 go_wp2_with fail
 go_at_call 96
 refine (HC.out _ (below_alloc1 _ _)).mono ?_
 rintro e w2 ⟨rfl, hb⟩
 have HB : Hid (Bw w w2) := (below_alloc1 w _).trans (hb.mono (by simp))
 clear hb
 go_wp2
 go_ret2
 exact ⟨rfl, HB.out⟩
theorem askof_right (lo : Option Addr) (ln lcap : Nat) (ao : Option Addr) (al acap : Nat) (co : Option Addr) (cl ccap : Nat) (u k : Int) (E : Value) (a b : Bool) (w : World)
    (HC : Hid (∀ W, Bw w W → Calls Tryz.prog 96 #[.slice lo ln lcap, .agg #[.slice ao al acap, .slice co cl ccap], .int .i64 u] W (Bk W .nilIface)))
    (HL : Hid (∀ W, Bw w W → Calls Tryz.prog 97 #[.slice lo ln lcap, .agg #[.slice ao al acap, .slice co cl ccap], .int .i64 u] W (Bk W (.tuple #[.agg #[.bool a, .bool b], .nilIface]))))
    (HA : Hid (∀ W, Calls Tryz.prog 98 #[.agg #[.bool a, .bool b]] W (Bk W (.tuple #[.int .i64 k, E])))) :
    Calls Tryz.prog 63 #[.slice lo ln lcap, .agg #[.slice ao al acap, .slice co cl ccap], .int .i64 u] w (Bk w (.tuple #[.int .i64 k, E])) := by
 obtain ⟨w1, hw1⟩ := nm (w.alloc (.cells #[.slice ao al acap, .slice co cl ccap] 78))
 have HB1 : Hid (Bw w w1) := by unfold Hid; rw [hw1]; exact below_alloc1 _ _
 have HQ : Hid (Blk w1 w.heap.size 78 #[.slice ao al acap, .slice co cl ccap]) := by unfold Hid; rw [hw1]; exact Blk.new _ _ _
 go_enter Tryz.func63, Tryz.ntmps63
 go_upto_region 1 with fail
 rw [← hw1]
 clear hw1
 have x0 : w1.cell? ⟨w.heap.size, 0, none⟩ = some (.slice ao al acap) := HQ.out.cell 0
 have x1 : w1.cell? ⟨w.heap.size, 1, none⟩ = some (.slice co cl ccap) := HQ.out.cell 1
 go_wp2_with fail
 go_at_call 96
 refine (HC.out _ HB1.out).mono ?_
 rintro e w2 ⟨rfl, hb⟩
 have HB2 := bt HB1 hb
 have y0 : w2.cell? ⟨w.heap.size, 0, none⟩ = some (.slice ao al acap) := (HQ.out.below hb).cell 0
 have y1 : w2.cell? ⟨w.heap.size, 1, none⟩ = some (.slice co cl ccap) := (HQ.out.below hb).cell 1
 clear hb x0 x1
 go_wp2_with fail
 go_at_call 97
 refine (HL.out _ HB2.out).mono ?_
 rintro e w3 ⟨rfl, hb⟩
 have HB3 := bt HB2 hb
 clear hb y0 y1
 obtain ⟨w4, hw4⟩ := nm (w3.alloc (.cells #[.bool a, .bool b] 161))
 obtain ⟨G, hG⟩ := nm w3.heap.size
 have HB4 : Hid (Bw w w4) := by unfold Hid; rw [hw4]; exact HB3.out.alloc HB3.out.size _
 have HS : Hid (Blk w4 G 161 #[.bool a, .bool b]) := by unfold Hid; rw [hw4, hG]; exact Blk.new _ _ _
 go_upto_region 5 with fail
 rw [← hw4, ← hG]
 clear hw4 hG
 have y0 : w4.cell? ⟨G, 0, none⟩ = some (.bool a) := HS.out.cell 0
 have y1 : w4.cell? ⟨G, 1, none⟩ = some (.bool b) := HS.out.cell 1
 go_wp2_with fail
 go_at_call 98
 refine (HA.out _).mono ?_
 rintro e w5 ⟨rfl, hb⟩
 have HB5 := bt HB4 hb
 clear hb y0 y1
 go_wp2
 go_ret2
 exact ⟨rfl, HB5.out⟩
theorem askOf_any (v va vc : Value) (fs : List Fm) (ats : List At) (c : List Int) (u : Int) (w : World) (hF : ReadsF w v fs) (hA : ReadsA w va ats) (hC : Reads w vc c) (hK : KindsLaid w) :
    Calls Tryz.prog 63 #[v, .agg #[va, vc], .int .i64 u] w (Bk w (.tuple #[.int .i64 (askN fs ats c u), errV (askFault fs ats c u)])) := by
 have hCk := fun W (hW : Bw w W) => askCheck_any v va vc fs ats c u W (hF.below hW) (hA.below hW) (hC.below hW) (hK.below hW)
 have hLo := fun (n : Nat) (hn : n ≤ 6) (hg : ∀ f ∈ fs, f.fault = 0) (hf : formFault ats c = 0) W (hW : Bw w W) => look_any v va vc fs ats c n hn hg hf W (hF.below hW) (hA.below hW) (hC.below hW) (hK.below hW)
 obtain ⟨lo, lcap, rfl, _⟩ := hF.slice
 obtain ⟨ao, acap, rfl, _⟩ := hA.slice
 obtain ⟨co, ccap, rfl, _⟩ := hC.slice
 by_cases h0 : askCheckN fs ats c u = 0
 ·rw [h0] at hCk
  have hgood : formsFault fs u = 0 ∧ formFault ats c = 0 := by
   unfold askCheckN at h0
   by_cases h1 : formsFault fs u = 0
   ·rw [if_pos h1] at h0; exact ⟨h1, h0⟩
   ·rw [if_neg h1] at h0; exact absurd h0 h1
  obtain ⟨h1, h2⟩ := hgood
  obtain ⟨_, hg, hu⟩ := forms_zero.1 h1
  obtain ⟨n, rfl⟩ := Int.eq_ofNat_of_zero_le hu.1
  have hn : n ≤ 6 := by omega
  obtain ⟨e1, e2⟩ := seen_is (ask_range fs ats c (worldsL n)).1
  have f2 : askFault fs ats c (n : Int) = seenE (seenP (askP fs ats c n)).1 (seenP (askP fs ats c n)).2 := by
   unfold askFault; rw [if_pos h1, if_pos h2, Int.toNat_natCast]; exact e2.symm
  have f1 : askN fs ats c (n : Int) = seenN (seenP (askP fs ats c n)).1 (seenP (askP fs ats c n)).2 := by
   refine Eq.trans ?_ e1.symm
   unfold askN askFault
   rw [if_pos h1, if_pos h2, Int.toNat_natCast]
   show (if (if (askP fs ats c n).1 + (askP fs ats c n).2 = 0 then (6 : Int) else 0) = 0 then answerN (askP fs ats c n) else 0) = if (askP fs ats c n).1 + (askP fs ats c n).2 = 0 then 0 else answerN (askP fs ats c n)
   by_cases hz : (askP fs ats c n).1 + (askP fs ats c n).2 = 0
   ·rw [if_pos hz, if_pos hz, if_neg (by decide)]
   ·rw [if_neg hz, if_neg hz, if_pos rfl]
  rw [f1, f2]
  exact askof_right lo _ lcap ao _ acap co _ ccap n _ _ _ _ w hCk (hLo n hn hg h2) fun W => seenAnswer_any _ _ W
 ·rw [errV_no h0] at hCk
  have e0 : askFault fs ats c u = askCheckN fs ats c u := by
   unfold askCheckN at h0 ⊢
   unfold askFault
   by_cases h1 : formsFault fs u = 0
   ·rw [if_pos h1] at h0 ⊢
    rw [if_pos h1, if_neg h0]
   ·rw [if_neg h1, if_neg h1]
  have e1 : askN fs ats c u = 0 := by unfold askN; rw [if_neg (by rw [e0]; exact h0)]
  rw [e0, e1, errV_no h0]
  exact askof_wrong lo _ lcap ao _ acap co _ ccap u _ w hCk
end Go.Proofs.YtnoohlibgaeklaaGreatDoor
namespace Go.Proofs.YtnoohlibgaeklaaGreatDoor
open Go.ChangeShapes Go.WideShapes Go.ChangeAt Go.RowKit
set_option maxRecDepth 100000
set_option maxHeartbeats 16000000
attribute [local go_sem] Oper.semAt_some
def askL (fs : List Fm) (t : List UInt8) : List UInt8 := if lineFault t = 0 then answerW (answerN (askP fs [atOf t] [0] 4)) else badW
theorem ask_any {b : Nat} {l : Lg} {fs : List Fm} {w : World} (w0 : World) (hK : KindsLaid w) (hL : LibLaid w) (hW : Bw w w0) (hlg : LogAt b l w0) (hr : LgRun l fs) (t : List UInt8) (hz : t.length ≤ 3000) :
    Calls Tryz.prog 40 #[.agg #[.pointer (some ⟨b, 0, none⟩)], .string (strOf t)] w0 fun e w' => ∃ s E, e = .returned (.tuple #[.string s, E]) ∧ LineEnd (askL fs t) s E ∧ Bw w0 w' := by
 have hW0 : w.heap.size ≤ w0.heap.size := hW.size
 have hbl := hlg.lt
 have HOp := hide (hr.ok)
 obtain ⟨w1, hw1⟩ := nm (w0.alloc (.cells #[.pointer (some ⟨b, 0, none⟩)] 38))
 have b1 : Bw w0 w1 := by rw [hw1]; exact below_alloc1 _ _
 have HB1 := hide b1
 have HD1 : Hid (Blk w1 w0.heap.size 38 #[.pointer (some ⟨b, 0, none⟩)]) := by unfold Hid; rw [hw1]; exact Blk.new _ _ _
 have HPa : Hid (Calls Tryz.prog 61 #[.string (strOf t)] w1 fun e w' => LineOf t w1 e w' ∧ Bw w1 w') := line_new t (by omega) w1 (hK.below (hW.trans (b1.mono hW0))) (hL.below (hW.trans (b1.mono hW0)))
 have HAl : Hid (∀ W, Bw w0 W → Calls Tryz.prog 64 #[.agg #[.pointer (some ⟨b, 0, none⟩)]] W fun e w' => ∃ vo vc, e = .returned (.slice vo (saidOr fs).length vc) ∧ ReadsF w' (.slice vo (saidOr fs).length vc) (saidOr fs) ∧ Bw W w') := fun W hB =>
  said_any W hK hL (hW.trans (hB.mono hW0)) (hlg.keep (hB.block _ hbl)) hr
 have HKd := hide (hK.below hW)
 clear b1 hK hL hW hW0 hlg hr hz
 go_enter Tryz.func40, Tryz.ntmps40
 go_upto_region 1 with fail
 rw [← hw1]
 clear hw1
 go_wp2_with fail
 go_at_call 61
 refine HPa.out.mono ?_
 rintro e w2 ⟨hline, hb2⟩
 have HB2 := bt HB1 hb2
 have HD2 := hide (HD1.out.below hb2)
 clear hb2
 rcases hline with ⟨hf, vs, vt, rfl, hs, ht, _, _⟩ | ⟨hf, rfl⟩
 ·obtain ⟨a, ha⟩ := nm (atOf t)
  have HF := hide hf
  have HA := hide ha
  have HA0 : Hid (a.fault = 0) := by unfold Hid; rw [ha]; exact (words_ok hf).2.2
  rw [← ha] at hs ht ⊢
  obtain ⟨so, sc, rfl, _⟩ := hs.slice
  obtain ⟨to_, tc, rfl, _⟩ := ht.slice
  obtain ⟨sn, hsn⟩ := nm a.s.length
  obtain ⟨tn, htn⟩ := nm a.t.length
  rw [← hsn] at hs
  rw [← htn] at ht
  rw [← hsn, ← htn]
  obtain ⟨w3, hw3⟩ := nm (w2.alloc (.cells #[.int .i64 a.k, .slice so sn sc, .slice to_ tn tc, .int .i64 a.n] 71))
  obtain ⟨G, hG⟩ := nm w2.heap.size
  have b3 : Below w2.heap.size w2 w3 := by rw [hw3]; exact below_alloc1 _ _
  have HB3 := bt HB2 b3
  have HA3 : Hid (Blk w3 G 71 #[.int .i64 a.k, .slice so sn sc, .slice to_ tn tc, .int .i64 a.n] ∧ Reads w3 (.slice so sn sc) a.s ∧ Reads w3 (.slice to_ tn tc) a.t) := ⟨by rw [hw3, hG]; exact Blk.new _ _ _, hs.below b3, ht.below b3⟩
  have D3 : Blk w3 w0.heap.size 38 #[.pointer (some ⟨b, 0, none⟩)] := HD2.out.below b3
  have c0 : w3.cell? ⟨w0.heap.size, 0, none⟩ = some (.pointer (some ⟨b, 0, none⟩)) := D3.cell 0
  have y0 : w3.cell? ⟨G, 0, none⟩ = some (.int .i64 a.k) := HA3.out.1.cell 0
  have y1 : w3.cell? ⟨G, 1, none⟩ = some (.slice so sn sc) := HA3.out.1.cell 1
  have y2 : w3.cell? ⟨G, 2, none⟩ = some (.slice to_ tn tc) := HA3.out.1.cell 2
  have y3 : w3.cell? ⟨G, 3, none⟩ = some (.int .i64 a.n) := HA3.out.1.cell 3
  -- the answer, where what is asked reads so
  obtain ⟨R, hR⟩ := nm (answerN (askP fs [a] [0] 4))
  have HRg : Hid (R = 1 ∨ R = -1 ∨ R = 0) := by
   unfold Hid
   rw [hR]
   unfold answerN
   split
   ·exact Or.inl rfl
   ·split
    ·exact Or.inr (Or.inl rfl)
    ·exact Or.inr (Or.inr rfl)
  have HL : Hid (askL fs t = answerW R) := by unfold Hid askL; rw [if_pos HF.out, ← HA.out, hR]
  obtain ⟨gs, hgs⟩ := nm (saidOr fs)
  rw [← hgs] at HAl
  obtain ⟨ng, hng⟩ := nm gs.length
  rw [← hng] at HAl
  have HAsk : Hid (∀ vo vc G2 C W, Bw w3 W → ReadsF W (.slice vo ng vc) gs → Blk W G2 71 #[.int .i64 a.k, .slice so sn sc, .slice to_ tn tc, .int .i64 a.n] → Blk W C 3 #[.int .i64 0] → Calls Tryz.prog 63 #[.slice vo ng vc, .agg #[.slice (some ⟨G2, 0, none⟩) 1 1, .slice (some ⟨C, 0, none⟩) 1 1], .int .i64 4] W (Bk w3 (.tuple #[.int .i64 R, .nilIface]))) := fun vo vc G2 C W hB h1 h2 h3 => by
   obtain ⟨g1, g2⟩ := saidOr_ok HOp.out
   rw [← hgs] at g1 g2
   obtain ⟨z0, z1⟩ := ask_right g1 g2 (ats := [a]) (c := [0]) (alone_right HA0.out true)
   obtain ⟨r1, r2⟩ := one_reads h2 (HA3.out.2.1.below hB) (HA3.out.2.2.below hB) h3
   have h := askOf_any _ _ _ gs [a] [0] 4 W h1 r1 r2 (HKd.out.below (HB3.out.trans (hB.mono HB3.out.size)))
   rw [z0, z1, hgs, ask_or, ← hR] at h
   exact h.mono fun e w' h => ⟨h.1, hB.trans (h.2.mono hB.size)⟩
  have HAn : Hid (∀ vo vc W, Bw w3 W → ReadsF W (.slice vo ng vc) gs → Calls Tryz.prog 65 #[.agg #[.int .i64 a.k, .slice so sn sc, .slice to_ tn tc, .int .i64 a.n]] W fun e w' => ∃ G2 C, e = .returned (.agg #[.slice (some ⟨G2, 0, none⟩) 1 1, .slice (some ⟨C, 0, none⟩) 1 1]) ∧ Blk w' G2 71 #[.int .i64 a.k, .slice so sn sc, .slice to_ tn tc, .int .i64 a.n] ∧ Blk w' C 3 #[.int .i64 0] ∧ Bw w3 w' ∧ ReadsF w' (.slice vo ng vc) gs) := fun vo vc W hB h1 => (alone_on a _ _ _ _ _ _ W).mono fun e w' ⟨G2, C, e1, e2, e3, e4⟩ => ⟨G2, C, e1, e2, e3, hB.trans (e4.mono hB.size), h1.below e4⟩
  have HAl : Hid (∀ W, Bw w3 W → Calls Tryz.prog 64 #[.agg #[.pointer (some ⟨b, 0, none⟩)]] W fun e w' => ∃ vo vc, e = .returned (.slice vo ng vc) ∧ ReadsF w' (.slice vo ng vc) gs ∧ Bw w3 w' ∧ w'.cell? ⟨G, 0, none⟩ = some (.int .i64 a.k) ∧ w'.cell? ⟨G, 1, none⟩ = some (.slice so sn sc) ∧ w'.cell? ⟨G, 2, none⟩ = some (.slice to_ tn tc) ∧ w'.cell? ⟨G, 3, none⟩ = some (.int .i64 a.n)) := fun W hB => (HAl.out W (HB3.out.trans (hB.mono HB3.out.size))).mono fun e w' ⟨vo, vc, e1, e2, e3⟩ => by
   have h := hB.trans (e3.mono hB.size)
   have hA := HA3.out.1.below h
   exact ⟨vo, vc, e1, e2, h, hA.cell 0, hA.cell 1, hA.cell 2, hA.cell 3⟩
  clear hs ht hf ha hsn htn b3 D3 hR hgs hng
  go_upto_region 2 with fail
  rw [← hw3, ← hG]
  clear hw3 hG
  go_upto_region 4 with fail
  go_region_with (first
   | (go_at_call 64; refine (HAl.out _ (by first | exact Below.drew (Below.refl _ _) | exact Below.refl _ _)).mono ?_; rintro e w4 ⟨vo, vc, rfl, hg4, hb4, d0, d1, d2, d3⟩)
   | (go_at_call 65; refine (HAn.out _ _ _ (by first | exact hb4 | exact hb4.drew) hg4).mono ?_; rintro e w5 ⟨G2, C, rfl, hA5, hC5, hb5, hg5⟩)
   | (go_at_call 63; refine (HAsk.out _ _ _ _ _ (by first | exact hb5 | exact hb5.drew) hg5 hA5 hC5).mono ?_; rintro e w6 ⟨rfl, hb6⟩))
  all_goals
   have HB6 := bt HB3 hb6
   rcases HRg.out with rfl | rfl | rfl
   all_goals
    go_wp2
    go_ret2
    exact ⟨_, _, rfl, Or.inl ⟨rfl, by rw [HL.out]; rfl⟩, HB6.out⟩
 ·have HF := hide hf
  obtain ⟨w3, hw3⟩ := nm (w2.alloc (.cells #[.int .i64 0, .slice none 0 0, .slice none 0 0, .int .i64 0] 71))
  have HB3 : Hid (Bw w0 w3) := by unfold Hid; rw [hw3]; exact HB2.out.trans ((below_alloc1 _ _).mono HB2.out.size)
  clear hf
  go_upto_region 2 with fail
  rw [← hw3]
  clear hw3
  go_wp2
  go_ret2
  refine ⟨_, _, rfl, Or.inr (Or.inl ⟨?_, _, _, rfl⟩), HB3.out⟩
  unfold askL
  rw [if_neg HF.out]
end Go.Proofs.YtnoohlibgaeklaaGreatDoor
