/-
  Facts and contracts that the statement leans on.
-/
import Derived.Test.YtnoohlibgaeklaaGreatDoorLibQ25
import Derived.Test.YtnoohlibgaeklaaGreatDoorLibQ30
import Derived.Test.YtnoohlibgaeklaaGreatDoorRows
import Derived.Test.YtnoohlibgaeklaaGreatDoorLibQ4
import Derived.ProofKit
import Derived.OpenShut
import Derived.LaidLaws
import Derived.Stop.LaidErr
import Derived.Deep.Strs
import Derived.Lib.LaidTab
import Derived.LaidMore
import Derived.Lay
import Derived.LaidHandle
import Derived.Stop.Joined
import Derived.Test.YtnoohlibgaeklaaGreatDoorLibQ24
import Derived.Test.YtnoohlibgaeklaaGreatDoorLibQ1
import Derived.Carry
import Derived.Lib.SmallJoins
namespace Go.Proofs.YtnoohlibgaeklaaGreatDoor
open Go.ChangeShapes Go.WideShapes Go.ChangeAt Go.RowKit
set_option maxRecDepth 100000
set_option maxHeartbeats 16000000
attribute [local go_sem] Oper.semAt_some
theorem lineT_say {fs : List Fm} {y : List UInt8} (hm : moreB y = true) (h : Bool) (hw : wordL y = if h = true then sayW else denyW) : lineT fs y = sayL fs (restL y) h ∧ lineS fs y = saidL fs (restL y) h := by
 have h1 : ¬ wordL y = spanW := by rw [hw]; cases h <;> decide
 have h2 : wordL y = sayW ∨ wordL y = denyW ∨ wordL y = askW := by rw [hw]; cases h <;> simp
 have h3 : ¬ wordL y = askW := by rw [hw]; cases h <;> decide
 have h4 : wordL y = sayW ∨ wordL y = denyW := by rw [hw]; cases h <;> simp
 have h5 : decide (wordL y = sayW) = h := by rw [hw]; cases h <;> decide
 have hm' : ¬ moreB y = false := by rw [hm]; decide
 unfold lineT lineS sayL saidL
 rw [if_neg hm', if_neg h1, if_pos h2, if_neg h3, h5]
 by_cases hf : lineFault (restL y) = 0
 ·rw [if_pos hf, if_pos hf, if_pos hf]
  unfold sayS sayF
  by_cases h6 : 6 ≤ fs.length
  ·rw [if_pos h6, if_pos h6]
   refine ⟨by rw [if_neg (by decide)]; rfl, ?_⟩
   rw [if_neg (fun c => by have := c.2.2.2.1; omega), if_neg (by decide)]
  ·rw [if_neg h6, if_neg h6]
   by_cases ho : openN (fs ++ [aloneF (atOf (restL y)) h]) 4 = true
   ·rw [if_pos ho, if_pos ho]
    refine ⟨by rw [if_pos rfl], ?_⟩
    rw [if_pos ⟨hm, h4, hf, by omega, ho⟩, if_pos rfl]
   ·rw [if_neg ho, if_neg ho]
    refine ⟨by rw [if_neg (by decide)]; rfl, ?_⟩
    rw [if_neg (fun c => ho c.2.2.2.2), if_neg (by decide)]
 ·rw [if_neg hf, if_neg hf, if_neg hf]
  exact ⟨rfl, if_neg fun c => hf c.2.2.1⟩
theorem lineT_ask {fs : List Fm} {y : List UInt8} (hm : moreB y = true) (hw : wordL y = askW) : lineT fs y = askL fs (restL y) ∧ lineS fs y = fs := by
 have hm' : ¬ moreB y = false := by rw [hm]; decide
 refine ⟨?_, lineS_same fun c => by rcases c.2.1 with e | e <;> (rw [hw] at e; exact absurd e (by decide))⟩
 unfold lineT askL
 rw [if_neg hm', if_neg (by rw [hw]; decide), if_pos (by rw [hw]; simp), if_pos hw]
theorem lineT_span {fs : List Fm} {y : List UInt8} (hm : moreB y = true) (hw : wordL y = spanW) : lineT fs y = spanL fs (restL y) ∧ lineS fs y = fs := by
 have hm' : ¬ moreB y = false := by rw [hm]; decide
 refine ⟨?_, lineS_same fun c => by rcases c.2.1 with e | e <;> (rw [hw] at e; exact absurd e (by decide))⟩
 unfold lineT spanL
 rw [if_neg hm', if_pos hw]
theorem lineT_bad {fs : List Fm} {y : List UInt8} (hm : moreB y = true) (h0 : ¬ wordL y = spanW) (h1 : ¬ wordL y = sayW) (h2 : ¬ wordL y = denyW) (h3 : ¬ wordL y = askW) : lineT fs y = badW ∧ lineS fs y = fs := by
 have hm' : ¬ moreB y = false := by rw [hm]; decide
 refine ⟨?_, lineS_same fun c => by rcases c.2.1 with e | e; exact h1 e; exact h2 e⟩
 unfold lineT
 rw [if_neg hm', if_neg h0, if_neg (by rintro (e | e | e); exact h1 e; exact h2 e; exact h3 e)]
theorem line_short {fs : List Fm} {y : List UInt8} (hm : moreB y = false) (h1 : ¬ y = worldsW) (h2 : ¬ y = manyW) : lineT fs y = badW ∧ lineS fs y = fs ∧ (∀ h, sayL fs (restL y) h = badW ∧ saidL fs (restL y) h = fs) ∧ askL fs (restL y) = badW ∧ spanL fs (restL y) = badW := by
 have hr : restL y = [] := (word_all hm).2
 have hf : ¬ lineFault [] = 0 := by decide
 refine ⟨by unfold lineT; rw [if_pos hm, if_neg h2, if_neg h1], lineS_same fun c => by rw [hm] at c; exact absurd c.1 (by decide), fun h => ?_, ?_, ?_⟩
 ·rw [hr]; unfold sayL saidL; rw [if_neg hf, if_neg hf]; exact ⟨rfl, rfl⟩
 ·rw [hr]; unfold askL; rw [if_neg hf]
 ·rw [hr]; unfold spanL; rw [if_neg (by decide)]
theorem line_ways {fs : List Fm} {y : List UInt8} (h1 : ¬ y = worldsW) (h2 : ¬ y = manyW) :
    (∀ h, (wordL y = if h = true then sayW else denyW) → lineT fs y = sayL fs (restL y) h ∧ lineS fs y = saidL fs (restL y) h) ∧ (wordL y = askW → lineT fs y = askL fs (restL y) ∧ lineS fs y = fs) ∧ (wordL y = spanW → lineT fs y = spanL fs (restL y) ∧ lineS fs y = fs) ∧ (¬ wordL y = spanW → ¬ wordL y = sayW → ¬ wordL y = denyW → ¬ wordL y = askW → lineT fs y = badW ∧ lineS fs y = fs) := by
 cases hm : moreB y with
 | true => exact ⟨fun h hw => lineT_say hm h hw, lineT_ask hm, lineT_span hm, lineT_bad hm⟩
 | false =>
  obtain ⟨k1, k2, k3, k4, k5⟩ := line_short (fs := fs) hm h1 h2
  exact ⟨fun h _ => ⟨k1.trans (k3 h).1.symm, k2.trans (k3 h).2.symm⟩, fun _ => ⟨k1.trans k4.symm, k2⟩, fun _ => ⟨k1.trans k5.symm, k2⟩, fun _ _ _ _ => ⟨k1, k2⟩⟩
theorem line_of (w : World) (b : Nat) (hK : KindsLaid w) (hL : LibLaid w) : AnsOk w b := by
 intro l fs y w0 hy hW hlg hr
 have hW0 : w.heap.size ≤ w0.heap.size := hW.size
 have hbl := hlg.lt
 obtain ⟨w1, hw1⟩ := nm (w0.alloc (.cells #[.pointer (some ⟨b, 0, none⟩)] 38))
 have b1 : Bw w0 w1 := by rw [hw1]; exact below_alloc1 _ _
 have HB1 := hide b1
 have HD1 : Hid (Blk w1 w0.heap.size 38 #[.pointer (some ⟨b, 0, none⟩)]) := by unfold Hid; rw [hw1]; exact Blk.new _ _ _
 have c0 : w1.cell? ⟨w0.heap.size, 0, none⟩ = some (.pointer (some ⟨b, 0, none⟩)) := HD1.out.cell 0
 -- what was there reads so behind the cut
 have HKd : Hid (KindsLaid w ∧ LibLaid w) := ⟨hK, hL⟩
 have HSt : Hid (∀ W, Bw w0 W → Bw w W ∧ LogAt b l W) := fun W hB => ⟨hW.trans (hB.mono hW0), hlg.keep (hB.block _ hbl)⟩
 have HR : Hid (LgRun l fs ∧ y.length ≤ 3000 ∧ (restL y).length ≤ 3000) := ⟨hr, hy, by unfold restL; rw [List.length_drop]; omega⟩
 have HSame : Hid (∀ W, Bw w0 W → (∃ l', LogAt b l' W ∧ LgRun l' fs) ∧ LKeep (fun x => x = b) w0 W) := fun W hB => ⟨⟨l, hlg.keep (hB.block _ hbl), hr⟩, LKeep.of_below hB⟩
 have HCu : Hid (Calls Tryz.prog 38 #[.string (strOf y), .string ⟨#[32]⟩] w1 fun e w' => ∃ f, e = .returned (.tuple #[.string (strOf (wordL y)), .string (strOf (restL y)), .bool f]) ∧ Bw w1 w') := cut_any y (by omega) w1
 clear b1 hK hL hW hW0 hlg hr hy
 by_cases h1 : y = worldsW
 ·have q1 : ((strOf y).toList == [119, 111, 114, 108, 100, 115]) = true := by rw [h1]; exact wq_yes _
  have hm : moreB y = false := by rw [h1]; decide
  have HT : Hid (lineT fs y = decT (worldsSo fs).toNat ∧ lineS fs y = fs) := by
   refine ⟨?_, lineS_same fun c => by rw [hm] at c; exact absurd c.1 (by decide)⟩
   unfold lineT
   rw [if_pos hm, if_neg (by rw [h1]; decide), if_pos h1]
  have HWo : Hid (∀ W, Bw w0 W → Calls Tryz.prog 35 #[.agg #[.pointer (some ⟨b, 0, none⟩)]] W (Bk W (.tuple #[.string (strOf (decT (worldsSo fs).toNat)), .nilIface]))) := fun W hB => worlds_any W HKd.out.1 HKd.out.2 (HSt.out W hB).1 (HSt.out W hB).2 HR.out.1
  clear hm h1
  go_enter Tryz.func12, Tryz.ntmps12
  go_upto_region 1 with fail
  rw [← hw1]
  clear hw1
  go_wp2_with fail
  go_at_call 35
  refine (HWo.out _ HB1.out).mono ?_
  rintro e w3 ⟨rfl, hb3⟩
  have HB3 := bt HB1 hb3
  clear hb3
  go_wp2
  go_ret2
  rw [HT.out.2]
  exact ⟨_, _, rfl, Or.inl ⟨rfl, by rw [HT.out.1]⟩, HSame.out _ HB3.out⟩
 have q1 : ((strOf y).toList == [119, 111, 114, 108, 100, 115]) = false := wq_no h1
 by_cases h2 : y = manyW
 ·have q2 : ((strOf y).toList == [109, 97, 110, 121]) = true := by rw [h2]; exact wq_yes _
  have hm : moreB y = false := by rw [h2]; decide
  have HT : Hid (lineT fs y = decT fs.length ∧ lineS fs y = fs) := by
   refine ⟨?_, lineS_same fun c => by rw [hm] at c; exact absurd c.1 (by decide)⟩
   unfold lineT
   rw [if_pos hm, if_pos h2]
  have HAl : Hid (∀ W, Bw w0 W → Calls Tryz.prog 37 #[.pointer (some ⟨b, 0, none⟩)] W fun e w' => ∃ vo vc, e = .returned (.slice vo fs.length vc) ∧ Bw W w') := fun W hB => by
   refine (deskAll_any HKd.out.1 HKd.out.2 (HSt.out W hB).1 (HSt.out W hB).2 HR.out.1).mono ?_
   rintro e w' ⟨v, rfl, h1, h2⟩
   obtain ⟨vo, vc, rfl, _⟩ := h1.slice
   exact ⟨_, _, rfl, h2⟩
  have HIt : Hid (∀ W, Bw w0 W → Calls Tryz.prog 36 #[.int .i64 (fs.length : Int)] W (Bk W (.string (strOf (decT fs.length))))) := fun W hB => itoa_digits (by have := HR.out.1.ok.n6; omega) W (HKd.out.2.below (HSt.out W hB).1)
  obtain ⟨nf, hnf⟩ := nm fs.length
  rw [← hnf] at HT HAl HIt
  clear hm h1 h2 hnf
  go_enter Tryz.func12, Tryz.ntmps12
  go_upto_region 1 with fail
  rw [← hw1]
  clear hw1
  go_wp2_with fail
  go_at_call 37
  refine (HAl.out _ HB1.out).mono ?_
  rintro e w3 ⟨vo, vc, rfl, hb3⟩
  have HB3 := bt HB1 hb3
  clear hb3
  go_wp2_with fail
  go_at_call 36
  refine (HIt.out _ HB3.out).mono ?_
  rintro e w4 ⟨rfl, hb4⟩
  have HB4 := bt HB3 hb4
  clear hb4
  go_wp2
  go_ret2
  rw [HT.out.2]
  exact ⟨_, _, rfl, Or.inl ⟨rfl, by rw [HT.out.1]⟩, HSame.out _ HB4.out⟩
 have q2 : ((strOf y).toList == [109, 97, 110, 121]) = false := wq_no h2
 obtain ⟨d1, d2, d3, d4⟩ := line_ways (fs := fs) h1 h2
 obtain ⟨L, hL⟩ := nm (lineT fs y)
 obtain ⟨F, hF⟩ := nm (lineS fs y)
 rw [← hL, ← hF]
 rw [← hL, ← hF] at d2 d3 d4
 have HSy : Hid (∀ h W, (wordL y = if h = true then sayW else denyW) → Bw w0 W → Calls Tryz.prog 39 #[.agg #[.pointer (some ⟨b, 0, none⟩)], .string (strOf (restL y)), .bool h] W fun e w' => ∃ s E, e = .returned (.tuple #[.string s, E]) ∧ LineEnd L s E ∧ (∃ l', LogAt b l' w' ∧ LgRun l' F) ∧ LKeep (fun x => x = b) W w') := fun h W hw hB => by
  rw [hL, hF, (d1 h hw).1, (d1 h hw).2]
  exact say_any W HKd.out.1 HKd.out.2 (HSt.out W hB).1 (HSt.out W hB).2 HR.out.1 _ HR.out.2.2 h
 have HAs : Hid (∀ W, wordL y = askW → Bw w0 W → F = fs ∧ Calls Tryz.prog 40 #[.agg #[.pointer (some ⟨b, 0, none⟩)], .string (strOf (restL y))] W fun e w' => ∃ s E, e = .returned (.tuple #[.string s, E]) ∧ LineEnd L s E ∧ Bw W w') := fun W hw hB => ⟨(d2 hw).2, by
  rw [(d2 hw).1]
  exact ask_any W HKd.out.1 HKd.out.2 (HSt.out W hB).1 (HSt.out W hB).2 HR.out.1 _ HR.out.2.2⟩
 have HSp : Hid (∀ W, wordL y = spanW → Bw w0 W → F = fs ∧ Calls Tryz.prog 41 #[.agg #[.pointer (some ⟨b, 0, none⟩)], .string (strOf (restL y))] W fun e w' => ∃ s E, e = .returned (.tuple #[.string s, E]) ∧ LineEnd L s E ∧ Bw W w') := fun W hw hB => ⟨(d3 hw).2, by
  rw [(d3 hw).1]
  exact span_any W HKd.out.1 HKd.out.2 (HSt.out W hB).1 (HSt.out W hB).2 HR.out.1 _ HR.out.2.2⟩
 have HBa := hide d4
 clear d1 d2 d3 d4 hL hF h1 h2
 go_enter Tryz.func12, Tryz.ntmps12
 go_upto_region 1 with fail
 rw [← hw1]
 clear hw1
 go_wp2_with fail
 go_at_call 38
 refine HCu.out.mono ?_
 rintro e w2 ⟨f, rfl, hb2⟩
 have HB2 := bt HB1 hb2
 have c2 : w2.cell? ⟨w0.heap.size, 0, none⟩ = some (.pointer (some ⟨b, 0, none⟩)) := (HD1.out.below hb2).cell 0
 clear hb2 c0
 by_cases h1 : wordL y = sayW
 ·have q3 : ((strOf (wordL y)).toList == [115, 97, 121]) = true := by rw [h1]; exact wq_yes _
  have HCl := hide (HSy.out true w2 h1 HB2.out)
  clear h1
  go_wp2_with fail
  go_at_call 39
  refine HCl.out.mono ?_
  rintro e w3 ⟨s, E, rfl, he, hl3, hk3⟩
  have H3 : Hid (LineEnd L s E ∧ (∃ l', LogAt b l' w3 ∧ LgRun l' F) ∧ LKeep (fun x => x = b) w0 w3) := ⟨he, hl3, (LKeep.of_below HB2.out).trans (Grows.refl _ _) hk3⟩
  clear he hl3 hk3
  go_wp2
  go_ret2
  exact ⟨_, _, rfl, H3.out⟩
 have q3 : ((strOf (wordL y)).toList == [115, 97, 121]) = false := wq_no h1
 by_cases h2 : wordL y = denyW
 ·have q4 : ((strOf (wordL y)).toList == [100, 101, 110, 121]) = true := by rw [h2]; exact wq_yes _
  have HCl := hide (HSy.out false w2 h2 HB2.out)
  clear h1 h2
  go_wp2_with fail
  go_at_call 39
  refine HCl.out.mono ?_
  rintro e w3 ⟨s, E, rfl, he, hl3, hk3⟩
  have H3 : Hid (LineEnd L s E ∧ (∃ l', LogAt b l' w3 ∧ LgRun l' F) ∧ LKeep (fun x => x = b) w0 w3) := ⟨he, hl3, (LKeep.of_below HB2.out).trans (Grows.refl _ _) hk3⟩
  clear he hl3 hk3
  go_wp2
  go_ret2
  exact ⟨_, _, rfl, H3.out⟩
 have q4 : ((strOf (wordL y)).toList == [100, 101, 110, 121]) = false := wq_no h2
 by_cases h3 : wordL y = askW
 ·have q5 : ((strOf (wordL y)).toList == [97, 115, 107]) = true := by rw [h3]; exact wq_yes _
  have HCl := hide (HAs.out w2 h3 HB2.out)
  clear h1 h2 h3
  go_wp2_with fail
  go_at_call 40
  refine HCl.out.2.mono ?_
  rintro e w3 ⟨s, E, rfl, he, hb3⟩
  have H3 : Hid (LineEnd L s E ∧ Bw w0 w3) := ⟨he, HB2.out.trans (hb3.mono HB2.out.size)⟩
  clear he hb3
  go_wp2
  go_ret2
  rw [HCl.out.1]
  exact ⟨_, _, rfl, H3.out.1, HSame.out _ H3.out.2⟩
 have q5 : ((strOf (wordL y)).toList == [97, 115, 107]) = false := wq_no h3
 by_cases h4 : wordL y = spanW
 ·have q6 : ((strOf (wordL y)).toList == [115, 112, 97, 110]) = true := by rw [h4]; exact wq_yes _
  have HCl := hide (HSp.out w2 h4 HB2.out)
  clear h1 h2 h3 h4
  go_wp2_with fail
  go_at_call 41
  refine HCl.out.2.mono ?_
  rintro e w3 ⟨s, E, rfl, he, hb3⟩
  have H3 : Hid (LineEnd L s E ∧ Bw w0 w3) := ⟨he, HB2.out.trans (hb3.mono HB2.out.size)⟩
  clear he hb3
  go_wp2
  go_ret2
  rw [HCl.out.1]
  exact ⟨_, _, rfl, H3.out.1, HSame.out _ H3.out.2⟩
 have q6 : ((strOf (wordL y)).toList == [115, 112, 97, 110]) = false := wq_no h4
 have HX := hide (HBa.out h4 h1 h2 h3)
 clear h1 h2 h3 h4
 go_wp2
 go_ret2
 rw [HX.out.2]
 exact ⟨_, _, rfl, Or.inr (Or.inl ⟨HX.out.1, _, _, rfl⟩), HSame.out _ HB2.out⟩
theorem run_done (s : ByteArray) (w : World) (hK : KindsLaid w) (hL : LibLaid w) (hE : Laid w) :
    Calls Tryz.prog 6 #[.string s] w (Bk w (.string (txtOf (runT s.data.toList)))) :=
 run_any s w hE (line_of w w.heap.size hK hL)
end Go.Proofs.YtnoohlibgaeklaaGreatDoor
namespace Go.Proofs.YtnoohlibgaeklaaGreatDoor
open Go.ChangeShapes Go.WideShapes Go.ChangeAt Go.RowKit Go.Deep
set_option maxRecDepth 100000
set_option maxHeartbeats 16000000
theorem kdG : Tryz.prog.globalNamed "vennhouse/atom.kinds" = some 1 := by kernel_rfl
theorem kdT : (Tryz.prog.globals[1]?).map (·.type) = some 155 := by kernel_rfl
theorem kdC : Tryz.prog.cellsOf 154 = 3 := by kernel_rfl
theorem kdA : Tryz.prog.cellsOf 155 = 18 := by kernel_rfl
theorem kdS : Tryz.prog.cellsOf 9 = 1 := by kernel_rfl
theorem kdB : Tryz.prog.cellsOf 4 = 1 := by kernel_rfl
theorem kind_of_trod {w : World} {cs : List Value} {fuel : Nat} {text : List UInt8} {b1 b2 : Bool} {y : DataW Unit × List MemPlace} (hy : y.1 = .agg [.lit (.string text), .lit (.bool b1), .lit (.bool b2)])
    (h : DataW.trod (fun _ => ()) Tryz.prog w 0 (fun _ => true) false fuel 154 cs = some y) : cs = [.string ⟨text.toArray⟩, .bool b1, .bool b2] := by
 obtain ⟨y0, y1, y2, n, e, hl, t0, t1, t2⟩ := trod_struct3 Tryz.underlying154 h
 rw [kdC] at hl
 obtain ⟨c0, c1, c2, rfl⟩ : ∃ c0 c1 c2, cs = [c0, c1, c2] := by
  match cs, hl with
  | [a, b, c], _ => exact ⟨a, b, c, rfl⟩
 ·simp only [kdS, kdB] at t0 t1 t2
  obtain ⟨s, e0, f0, _⟩ := DataW.trod_string Tryz.underlying9 t0
  obtain ⟨x1, e1, f1⟩ := DataW.trod_bool Tryz.underlying4 t1
  obtain ⟨x2, e2, f2⟩ := DataW.trod_bool Tryz.underlying4 t2
  simp at e0 e1 e2
  subst e0 e1 e2
  subst f0 f1 f2
  subst e
  simp at hy
  obtain ⟨rfl, rfl, rfl⟩ := hy
  rfl
theorem kinds_of_head {r : List (String × DataW Unit)} {W : World} (h : laidMet Tryz.prog (("vennhouse/atom.kinds", Rows.laid_vennhouse_atom_kinds) :: r) W) : KindsLaid W := by
 obtain ⟨ps, ⟨g0, t0, cs0, f0, p0, q0, hg0, ht0, hv0, hd0, _, e0⟩, _, hrows⟩ := h
 obtain rfl := Option.some.inj (kdG.symm.trans hg0)
 obtain rfl := Option.some.inj (kdT.symm.trans ht0)
 obtain ⟨xs, m, _, hx, hlen, hxl, hi⟩ := DataW.trod_array Tryz.underlying155 hd0
 simp only [kdC] at hi
 rw [kdA] at hlen
 have hx1 : Rows.laid_vennhouse_atom_kinds = .agg (xs.map (·.1)) := congrArg Prod.fst hx
 obtain ⟨a0, a1, a2, a3, a4, a5, rfl⟩ : ∃ a0 a1 a2 a3 a4 a5, xs = [a0, a1, a2, a3, a4, a5] := by
  match xs, hxl with
  | [a, b, c, d, e, f], _ => exact ⟨a, b, c, d, e, f, rfl⟩
 ·unfold Rows.laid_vennhouse_atom_kinds at hx1
  simp only [List.map, DataW.agg.injEq, List.cons.injEq, and_true] at hx1
  obtain ⟨g0, g1, g2, g3, g4, g5⟩ := hx1
  have k0 := kind_of_trod g0.symm (hi 0 (by decide))
  have k1 := kind_of_trod g1.symm (hi 1 (by decide))
  have k2 := kind_of_trod g2.symm (hi 2 (by decide))
  have k3 := kind_of_trod g3.symm (hi 3 (by decide))
  have k4 := kind_of_trod g4.symm (hi 4 (by decide))
  have k5 := kind_of_trod g5.symm (hi 5 (by decide))
  have hl : cs0.toList = kindCells := by
   have e : cs0.toList = (cs0.toList.drop (0 * 3)).take 3 ++ ((cs0.toList.drop (1 * 3)).take 3 ++ ((cs0.toList.drop (2 * 3)).take 3 ++ ((cs0.toList.drop (3 * 3)).take 3 ++ ((cs0.toList.drop (4 * 3)).take 3 ++ ((cs0.toList.drop (5 * 3)).take 3))))) := by
    match cs0.toList, hlen with
    | [_, _, _, _, _, _, _, _, _, _, _, _, _, _, _, _, _, _], _ => rfl
   rw [e, k0, k1, k2, k3, k4, k5]
   rfl
  intro j hj
  have hc := World.var?_cell kdG hv0 j
  rw [hc]
  have : cs0[j]? = cs0.toList[j]? := by simp
  rw [this, hl]
  have hj' : j < kindCells.length := hj
  simp [List.getElem?_eq_getElem hj']
end Go.Proofs.YtnoohlibgaeklaaGreatDoor
namespace Go.Proofs.YtnoohlibgaeklaaGreatDoor
open Go.ChangeShapes Go.WideShapes Go.ChangeAt Go.RowKit
set_option maxRecDepth 100000
set_option maxHeartbeats 16000000
theorem ownB : ownKnob Tryz.prog.godebug = none := by kernel_rfl
theorem p10G : Tryz.prog.globalNamed "internal/strconv.uint64pow10" = some 3 := by kernel_rfl
theorem p10T : (Tryz.prog.globals[3]?).map (·.type) = some 228 := by kernel_rfl
theorem p10C : Tryz.prog.cellsOf 200 = 1 := by kernel_rfl
theorem p10A : Tryz.prog.cellsOf 228 = 20 := by kernel_rfl
theorem p10D : (Rows.laid_internal_strconv_uint64pow10 : DataW Unit) = Lib.tabData .u64 Lib.pow10Tab := by kernel_rfl
theorem esG : Tryz.prog.globalNamed "strconv.ErrSyntax" = some 6 := by kernel_rfl
theorem esT : (Tryz.prog.globals[6]?).map (·.type) = some 34 := by kernel_rfl
theorem esC : Tryz.prog.cellsOf 275 = 1 := by kernel_rfl
theorem esS : Tryz.prog.cellsOf 9 = 1 := by kernel_rfl
theorem starE : "*" ++ "errors.errorString" = "*errors.errorString" := by decide
theorem rowE (u : TypeId) (h : Tryz.prog.typeName? 3 u = some "*errors.errorString") : u = 273 :=
 typeName_ptr_named (nm := "errors.errorString") (by rw [starE]; kernel_rfl) (by kernel_rfl) (by decide) u (by rw [starE]; exact h)
def laidB : List (String × DataW Unit) := [("math/bits.deBruijn32tab", Rows.laid_math_bits_deBruijn32tab), ("math/bits.deBruijn64tab", Rows.laid_math_bits_deBruijn64tab), ("internal/strconv.uint64pow10", Rows.laid_internal_strconv_uint64pow10), ("unicode/utf8.acceptRanges", Rows.laid_unicode_utf8_acceptRanges), ("strconv.ErrRange", Rows.laid_strconv_ErrRange), ("strconv.ErrSyntax", Rows.laid_strconv_ErrSyntax), ("vennhouse/atom.kinds", Rows.laid_vennhouse_atom_kinds), ("unicode/utf8.first", Rows.laid_unicode_utf8_first)]
theorem back_of_met {W : World} (h : laidMetH Tryz.prog laidB W) : KindsLaid W ∧ LibLaid W := by
 have h' : laidMet Tryz.prog laidB W := h
 unfold laidB at h'
 refine ⟨kinds_of_head h'.tail.tail.tail.tail.tail.tail, ?_, ?_⟩
 ·have h2 := h'.tail.tail
  rw [p10D] at h2
  exact Lib.tabIs_of_head p10G p10T Tryz.underlying228 Tryz.underlying200 p10C p10A h2
 ·obtain ⟨a, s, hv, _⟩ := laid_sentinel h'.tail.tail.tail.tail.tail esG esT Tryz.underlying34 rowE Tryz.underlying273 Tryz.underlying275 rfl rfl Tryz.underlying9 esC esS
  exact ⟨_, _, hv⟩
theorem etG : Tryz.prog.globalNamed "errors.errorType" = some 0 := by kernel_rfl
theorem rtT : (Tryz.prog.cutTypes.find? (·.1 == "internal/reflectlite.rtype")).map (·.2) = some 172 := by kernel_rfl
theorem oneRow : ((List.range 303).filter fun t => Tryz.prog.rowNamed t [101, 114, 114, 111, 114]) = [34] := by kernel_rfl
theorem sizeT : Tryz.prog.types.size = 303 := by kernel_rfl
theorem handleE : typeHandle Tryz.prog 34 = .pointer (some ⟨10, 34, none⟩) := by kernel_rfl
def laidE : List (String × DataW Unit) := [("errors.errorType", Rows.laid_errors_errorType)]
theorem laid_of_met {W : World} (h : laidMetH Tryz.prog laidE W) : Laid W := by
 have h' : laidMet Tryz.prog [] W ∧ handlesMet Tryz.prog laidE W := h
 obtain ⟨name, u, ty, e1, e2, e3, e4, e5⟩ := h'.2 _ (List.mem_singleton.2 rfl)
 have en : name = [101, 114, 114, 111, 114] := (Option.some.inj e1).symm
 subst en
 obtain rfl := Option.some.inj (rtT.symm.trans e2)
 have hm : ty ∈ (List.range 303).filter fun t => Tryz.prog.rowNamed t [101, 114, 114, 111, 114] := List.mem_filter.2 ⟨List.mem_range.2 (by rw [← sizeT]; exact e3), e4⟩
 rw [oneRow] at hm
 obtain rfl := List.mem_singleton.1 hm
 rw [handleE] at e5
 simpa [Laid] using World.var?_cell etG e5 0
def laidN : List (String × DataW Unit) := [("math/bits.deBruijn32tab", Rows.laid_math_bits_deBruijn32tab), ("math/bits.deBruijn64tab", Rows.laid_math_bits_deBruijn64tab), ("internal/strconv.uint64pow10", Rows.laid_internal_strconv_uint64pow10), ("unicode/utf8.acceptRanges", Rows.laid_unicode_utf8_acceptRanges), ("errors.errorType", Rows.laid_errors_errorType), ("strconv.ErrRange", Rows.laid_strconv_ErrRange), ("strconv.ErrSyntax", Rows.laid_strconv_ErrSyntax), ("vennhouse/atom.kinds", Rows.laid_vennhouse_atom_kinds), ("unicode/utf8.first", Rows.laid_unicode_utf8_first)]
theorem tells_of_met {W : World} (h : laidMetH Tryz.prog laidN W) : Laid W ∧ KindsLaid W ∧ LibLaid W := by
 have h' : laidMet Tryz.prog laidB W ∧ handlesMet Tryz.prog laidE W := h
 have h1 : laidMetH Tryz.prog laidE W := (show laidMet Tryz.prog [] W ∧ handlesMet Tryz.prog laidE W from ⟨laidMet_nil _ _, h'.2⟩)
 have h2 : laidMetH Tryz.prog laidB W := (show laidMet Tryz.prog laidB W from h'.1)
 exact ⟨laid_of_met h1, back_of_met h2⟩
theorem laidMet_over {P : Program} {w0 : World} {laid : List (String × DataW Unit)} (args : Array Value) (hf : w0.layFits P laid [] = true) (hi : w0.layIfaces P laid (w0.layVars P laid) = true) :
    laidMet P laid ((w0.layVars P laid).forCall (fun _ _ => 0) ⟨#[], args, []⟩).memory := by
 have all : ∀ x, x ∈ laid → (laid.map (·.1)).contains x.1 = true := fun x hx => List.contains_iff_mem.2 (List.mem_map.2 ⟨x, hx, rfl⟩)
 have yes : (laid.filter fun x => (laid.map (·.1)).contains x.1) = laid := List.filter_eq_self.2 all
 have no : (laid.filter fun x => !(laid.map (·.1)).contains x.1) = [] := List.filter_eq_nil_iff.2 fun x hx => by rw [all x hx]; simp
 have h := laidMet_layVars (P := P) (w0 := w0) (w' := w0.layVars P laid) (laid := laid) (laid.map (·.1)) [] (by rw [yes]) (by rw [yes]; exact hf) (by rw [yes]; exact hi) (by rw [no]; exact LaidIn.none)
 exact h.of_heap (by simp [World.memory, World.forCall, Input.heap])
noncomputable def startN (os : Os) : World := (World.doorLaid Tryz.prog 400 os).layVars Tryz.prog laidB
theorem startN_os (os : Os) : (startN os).os = os := World.layVars_os _ _ _
theorem doorN_met (os : Os) (args : Array Value) : laidMetH Tryz.prog laidN ((startN os).forCall (fun _ _ => 0) ⟨#[], args, []⟩).memory :=
 laidMetH_of_parts3 (fuel := 8) (laidMet_over (laid := laidB) args (by kernel_rfl) (by kernel_rfl)) (by kernel_rfl) (by kernel_rfl)
end Go.Proofs.YtnoohlibgaeklaaGreatDoor
namespace Go.Proofs.YtnoohlibgaeklaaGreatDoor
open Go.ChangeShapes Go.WideShapes Go.ChangeAt Go.RowKit Go.WideMaps Go.WideElems
set_option maxRecDepth 100000
set_option maxHeartbeats 16000000
open Go.ChangeMaps (open_string)
theorem laidOutA : laidOutB Tryz.prog = true := by kernel_rfl
end Go.Proofs.YtnoohlibgaeklaaGreatDoor
