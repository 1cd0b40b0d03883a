/-
  Proved: what vennref2.Ask and vennref2.Answer return; what was in memory is as it was (contracts that the statements of chapter 18 lean on).
  Proved: what ask.check, ask.allHold and the answer of what was seen return; what was in memory is as it was (contracts that the statements of chapter 18 lean on).
-/
import Derived.Test.YtjaedfjfcghgcaaDoorLibA22
import Derived.Test.YtjaedfjfcghgcaaDoorLibA14
import Derived.Deep.CutBlock
import Derived.Test.YtjaedfjfcghgcaaDoorLibA15
import Derived.Test.YtjaedfjfcghgcaaDoorLibA17
namespace Go.Proofs.YtjaedfjfcghgcaaDoor
open Go.ChangeShapes Go.WideShapes Go.ChangeAt Go.RowKit
set_option maxRecDepth 100000

theorem refAnswer_any (y n : Int) (w : World) : Calls Tryd.prog 20 #[.int .i64 y, .int .i64 n] w fun e w' => e = .returned (.int .i64 (answerN (y, n))) ∧ w' = w := by
  by_cases h2 : n = 0
  · have e : answerN (y, n) = 1 := by unfold answerN; rw [if_pos h2]
    have d : (n == 0) = true := by simp [h2]
    rw [e]
    clear e h2
    go_enter Tryd.func20, Tryd.ntmps20
    go_wp2
    go_ret
    exact ⟨rfl, rfl⟩
  · have d : (n == 0) = false := by simp [h2]
    by_cases h1 : y = 0
    · have e : answerN (y, n) = -1 := by unfold answerN; rw [if_neg h2, if_pos h1]
      have d1 : (y == 0) = true := by simp [h1]
      rw [e]
      clear e h2 h1
      go_enter Tryd.func20, Tryd.ntmps20
      go_wp2
      go_ret
      exact ⟨rfl, rfl⟩
    · have e : answerN (y, n) = 0 := by unfold answerN; rw [if_neg h2, if_neg h1]
      have d1 : (y == 0) = false := by simp [h1]
      rw [e]
      clear e h2 h1
      go_enter Tryd.func20, Tryd.ntmps20
      go_wp2
      go_ret
      exact ⟨rfl, rfl⟩

set_option maxHeartbeats 16000000 in
theorem refAsk_in (lo : Option Addr) (ll lcap : Nat) (ao : Option Addr) (al acap : Nat) (co : Option Addr) (cl ccap : Nat) (n : Nat) (L : List Wd) (S : Nat → Int × Int) (f g : Nat → Bool) (w : World)
    (HS0 : Hid (S 0 = (0, 0)))
    (HS : Hid (∀ k, k < L.length → S (k + 1) = (if (f k && g k) = true then (S k).1 + 1 else (S k).1, if (f k && !g k) = true then (S k).2 + 1 else (S k).2)))
    (HSr : Hid (∀ k, (0 ≤ (S k).1 ∧ 0 ≤ (S k).2) ∧ (S k).1 + (S k).2 ≤ 1716))
    (HLn : Hid (L.length ≤ 1716))
    (HWo : Hid (∀ W, Calls Tryd.prog 25 #[.int .i64 n] W fun e w' => (∃ b cap, e = .returned (.slice (some ⟨b, 0, none⟩) L.length cap) ∧ b < w'.heap.size ∧ ∀ i D, L[i]? = some D → WdAt w' b (i * 4) D) ∧ Below W.heap.size W w'))
    (HSo : Hid (∀ (k : Nat) D, L[k]? = some D → ∀ W, Below w.heap.size w W → Calls Tryd.prog 26 #[.slice lo ll lcap, .agg #[.int .i64 D.u, .int .i64 D.a, .int .i64 D.b, .int .i64 D.c]] W fun e w' => e = .returned (.bool (f k)) ∧ Below W.heap.size W w'))
    (HTr : Hid (∀ (k : Nat) D, L[k]? = some D → ∀ W, Below w.heap.size w W → Calls Tryd.prog 40 #[.agg #[.slice ao al acap, .slice co cl ccap], .agg #[.int .i64 D.u, .int .i64 D.a, .int .i64 D.b, .int .i64 D.c]] W fun e w' => e = .returned (.bool (g k)) ∧ Below W.heap.size W w')) :
    Calls Tryd.prog 19 #[.slice lo ll lcap, .agg #[.slice ao al acap, .slice co cl ccap], .int .i64 n] w fun e w' => e = .returned (.tuple #[.int .i64 (S L.length).1, .int .i64 (S L.length).2]) ∧ Below w.heap.size w w' := by
  obtain ⟨w1, hw1⟩ : ∃ w1, w1 = w.alloc (.cells #[.slice ao al acap, .slice co cl ccap] 42) := ⟨_, rfl⟩
  have HB1 : Hid (Below w.heap.size w w1) := by unfold Hid; rw [hw1]; exact below_alloc1 _ _
  have HF1 : Hid (Blk w1 w.heap.size 42 #[.slice ao al acap, .slice co cl ccap]) := by unfold Hid; rw [hw1]; exact Blk.new _ _ _
  go_enter Tryd.func19, Tryd.ntmps19
  go_wp2_with fail
  rw [← hw1]
  clear hw1
  go_at_call 25
  refine (HWo.out _).mono ?_
  rintro e w4 ⟨⟨b, cap, rfl, hb1, hat⟩, hb⟩
  have HB4 : Hid (Below w.heap.size w w4) := HB1.out.trans (hb.mono HB1.out.size)
  have HF4 : Hid (Blk w4 w.heap.size 42 #[.slice ao al acap, .slice co cl ccap]) := HF1.out.below hb
  have Hb1 : Hid (b < w4.heap.size) := hb1
  have HAt : Hid (∀ i D, L[i]? = some D → WdAt w4 b (i * 4) D) := hat
  clear hb hb1 hat
  have hL63 := HLn.out
  go_wp2
  go_loopw [8, 9, 11, 12, 13] (fun y n i _ _ wr => ∃ k : Nat, k ≤ L.length ∧ i = .int .i64 k ∧ y = .int .i64 (S k).1 ∧ n = .int .i64 (S k).2 ∧ Below w4.heap.size w4 wr) (fun _ _ i _ _ _ => L.length - (intOf i).toNat)
  case atStart => exact ⟨0, Nat.zero_le _, rfl, by rw [HS0.out], by rw [HS0.out], Below.refl _ _⟩
  case round =>
    obtain ⟨k, hk, rfl, rfl, rfl, hbr⟩ := hrel
    have HBr : Hid (Below w4.heap.size w4 wr) := hbr
    have HBw : Hid (Below w.heap.size w wr) := HB4.out.trans (hbr.mono HB4.out.size)
    obtain ⟨⟨r1, r2⟩, r3⟩ := HSr.out k
    obtain ⟨s1, hs1⟩ : ∃ s, s = (S k).1 := ⟨_, rfl⟩
    obtain ⟨s2, hs2⟩ : ∃ s, s = (S k).2 := ⟨_, rfl⟩
    have HSk : Hid (s1 = (S k).1 ∧ s2 = (S k).2) := ⟨hs1, hs2⟩
    rw [← hs1] at r1 r3
    rw [← hs2] at r2 r3
    rw [← hs1, ← hs2]
    clear hbr hs1 hs2
    by_cases hlt : k < L.length
    · obtain ⟨D, hD⟩ : ∃ D, L[k]? = some D := ⟨_, List.getElem?_eq_getElem hlt⟩
      have HSk1 : Hid (Calls Tryd.prog 26 #[.slice lo ll lcap, .agg #[.int .i64 D.u, .int .i64 D.a, .int .i64 D.b, .int .i64 D.c]] wr fun e w' => e = .returned (.bool (f k)) ∧ Below wr.heap.size wr w') := HSo.out k D hD wr HBw.out
      have HTk := HTr.out k D hD
      have HTk' : Hid _ := HTk
      have HSs := HS.out k hlt
      rw [← HSk.out.1, ← HSk.out.2] at HSs
      have HSs' : Hid (S (k + 1) = (if (f k && g k) = true then s1 + 1 else s1, if (f k && !g k) = true then s2 + 1 else s2)) := HSs
      have HWd : Hid (WdAt wr b (k * 4) D ∧ b < wr.heap.size) := ⟨(HAt.out k D hD).at HBr.out Hb1.out, Nat.lt_of_lt_of_le Hb1.out HBr.out.size⟩
      clear HSs HTk hD
      obtain ⟨fk, hfk⟩ : ∃ x, x = f k := ⟨_, rfl⟩
      rw [← hfk] at HSk1 HSs'
      obtain ⟨gk, hgk⟩ : ∃ x, x = g k := ⟨_, rfl⟩
      rw [← hgk] at HTk' HSs'
      clear hfk hgk
      obtain ⟨y0, y1, y2, y3⟩ := HWd.out.1
      have hkn : (k : Int) < (L.length : Int) := by omega
      go_wp2_with fail
      go_at_call 26
      refine HSk1.out.mono ?_
      rintro e w5 ⟨rfl, hb⟩
      have HB5 : Hid (Below w4.heap.size w4 w5) := HBr.out.trans (hb.mono HBr.out.size)
      have HBv : Hid (Below w.heap.size w w5) := HBw.out.trans (hb.mono HBw.out.size)
      have HW5 : Hid (WdAt w5 b (k * 4) D ∧ b < w5.heap.size) := ⟨HWd.out.1.at hb HWd.out.2, Nat.lt_of_lt_of_le HWd.out.2 hb.size⟩
      clear hb y0 y1 y2 y3
      have HT5 : Hid (∀ W, Below w5.heap.size w5 W → Calls Tryd.prog 40 #[.agg #[.slice ao al acap, .slice co cl ccap], .agg #[.int .i64 D.u, .int .i64 D.a, .int .i64 D.b, .int .i64 D.c]] W fun e w' => e = .returned (.bool gk) ∧ Below w5.heap.size w5 w') := fun W hW => (HTk'.out W (HBv.out.trans (hW.mono HBv.out.size))).mono fun e w' ⟨he, hb⟩ => ⟨he, hW.trans (hb.mono hW.size)⟩
      obtain ⟨y0, y1, y2, y3⟩ := HW5.out.1
      have x0 : w5.cell? ⟨w.heap.size, 0, none⟩ = some (.slice ao al acap) := (HF4.out.below HB5.out).cell 0
      have x1 : w5.cell? ⟨w.heap.size, 1, none⟩ = some (.slice co cl ccap) := (HF4.out.below HB5.out).cell 1
      go_upto_region 8 with fail
      go_cut [13] from 28 to 46 (fun x wx => x = .bool gk ∧ Below w5.heap.size w5 wx)
      case first =>
        go_region_with (go_at_call 40; refine (HT5.out _ (by first | exact Below.drew (Below.refl _ _) | exact Below.refl _ _)).mono ?_; rintro e w8 ⟨rfl, hb8⟩)
        all_goals (try go_wp2)
        all_goals go_meet
        all_goals exact ⟨rfl, hb8⟩
      case rest =>
        obtain ⟨rfl, hbc⟩ := hcut
        obtain ⟨wf, hwf⟩ : ∃ x, x = wc := ⟨_, rfl⟩
        subst hwf
        have HBf : Hid (Below w4.heap.size w4 wf) := HB5.out.trans (hbc.mono HB5.out.size)
        clear hbc x0 x1 y0 y1 y2 y3
        cases fk with
        | true =>
          cases gk with
          | true =>
            have HSn : Hid (S (k + 1) = (s1 + 1, s2)) := HSs'.out
            clear HSs'
            go_wp2
            go_roundw
            case rel => exact ⟨k + 1, by omega, by go_num, by rw [HSn.out], by rw [HSn.out], HBf.out⟩
            case measure => simp [intOf]; omega
          | false =>
            have HSn : Hid (S (k + 1) = (s1, s2 + 1)) := HSs'.out
            clear HSs'
            go_wp2
            go_roundw
            case rel => exact ⟨k + 1, by omega, by go_num, by rw [HSn.out], by rw [HSn.out], HBf.out⟩
            case measure => simp [intOf]; omega
        | false =>
          have HSn : Hid (S (k + 1) = (s1, s2)) := by have h := HSs'.out; cases gk <;> exact h
          clear HSs'
          go_wp2
          go_roundw
          case rel => exact ⟨k + 1, by omega, by go_num, by rw [HSn.out], by rw [HSn.out], HBf.out⟩
          case measure => simp [intOf]; omega
    · obtain rfl : k = L.length := by omega
      go_wp2
      go_ret2
      exact ⟨by rw [HSk.out.1, HSk.out.2]; rfl, HBw.out⟩

theorem refAsk_any (v va vc : Value) (fs : List Fm) (ats : List At) (c : List Int) (n : Nat) (hn : n ≤ 6) (hgood : ∀ f ∈ fs, f.fault = 0) (hf : formFault ats c = 0) (w : World) (hF : ReadsF w v fs) (hA : ReadsA w va ats) (hC : Reads w vc c) :
    Calls Tryd.prog 19 #[v, .agg #[va, vc], .int .i64 n] w fun e w' => e = .returned (.tuple #[.int .i64 (askP fs ats c n).1, .int .i64 (askP fs ats c n).2]) ∧ Below w.heap.size w w' := by
  have hSo := fun (D : Wd) (hD : D ∈ worldsL n) W (hW : Below w.heap.size w W) => refSo_any v fs hgood D (worldsL_ok hn hD) W (hF.below hW)
  obtain ⟨lo, lcap, rfl, _⟩ := hF.slice
  obtain ⟨ao, acap, rfl, _⟩ := hA.slice
  obtain ⟨co, ccap, rfl, _⟩ := hC.slice
  have key := refAsk_in lo fs.length lcap ao ats.length acap co c.length ccap n (worldsL n) (fun k => askOver fs ats c ((worldsL n).take k)) (fun k => ((worldsL n).getD k ⟨0, 0, 0, 0⟩).so fs) (fun k => ((worldsL n).getD k ⟨0, 0, 0, 0⟩).formIs ats c) w rfl (fun k hk => ?_) (fun k => ?_) (by unfold Hid; rw [worldsL_length]; exact length_everyC hn) (fun W => ?_) (fun k D hD W hW => ?_) (fun k D hD W hW => ?_)
  · refine key.mono ?_
    rintro e w' ⟨rfl, hb⟩
    refine ⟨?_, hb⟩
    rw [List.take_length]
    rfl
  · show askOver fs ats c ((worldsL n).take (k + 1)) = _
    rw [List.take_add_one, List.getElem?_eq_getElem hk, Option.toList_some, askOver_add]
    have eD : (worldsL n).getD k ⟨0, 0, 0, 0⟩ = (worldsL n)[k] := by rw [List.getD_eq_getElem?_getD, List.getElem?_eq_getElem hk]; rfl
    simp only [eD]
    rfl
  · have h := ask_range fs ats c ((worldsL n).take k)
    have hl : ((worldsL n).take k).length ≤ 1716 := by
      rw [List.length_take]
      have := length_everyC hn
      rw [← worldsL_length] at this
      omega
    exact ⟨h.1, by have := h.2; omega⟩
  · refine (refWorlds_any n hn W).mono ?_
    rintro e w' ⟨b, cap, rfl, h1, h2, hb⟩
    exact ⟨⟨b, cap, rfl, h1, h2⟩, hb⟩
  · have eD : (worldsL n).getD k ⟨0, 0, 0, 0⟩ = D := by rw [List.getD_eq_getElem?_getD, hD]; rfl
    show Calls _ _ _ _ fun e w' => e = .returned (.bool (((worldsL n).getD k ⟨0, 0, 0, 0⟩).so fs)) ∧ _
    rw [eD]
    exact hSo D (List.mem_of_getElem? hD) W hW
  · have eD : (worldsL n).getD k ⟨0, 0, 0, 0⟩ = D := by rw [List.getD_eq_getElem?_getD, hD]; rfl
    have hok := worldsL_ok hn (List.mem_of_getElem? hD)
    have h := refTrue_any _ _ ats c D.u D.a D.b D.c hf hok W (hA.below hW) (hC.below hW)
    have e : D.formIs ats c = valF (D.heldL ats) c := by unfold Wd.formIs; rw [if_pos (wdForm_zero.2 ⟨hf, hok⟩)]
    show Calls _ _ _ _ fun e w' => e = .returned (.bool (((worldsL n).getD k ⟨0, 0, 0, 0⟩).formIs ats c)) ∧ _
    rw [eD, e]
    exact h
end Go.Proofs.YtjaedfjfcghgcaaDoor

namespace Go.Proofs.YtjaedfjfcghgcaaDoor
open Go.ChangeShapes Go.WideShapes Go.ChangeAt Go.RowKit
set_option maxRecDepth 100000

def askCheckN (fs : List Fm) (ats : List At) (c : List Int) (u : Int) : Int := if formsFault fs u = 0 then formFault ats c else formsFault fs u
theorem askcheck_forms (lo : Option Addr) (ln lcap : Nat) (ao : Option Addr) (al acap : Nat) (co : Option Addr) (cl ccap : Nat) (u m : Int) (w : World)
    (HF : Hid (∀ W, Below w.heap.size w W → Calls Tryd.prog 49 #[.slice lo ln lcap, .int .i64 u] W fun e w' => e = .returned (.iface 64 (.int .i64 m)) ∧ Below W.heap.size W w')) :
    Calls Tryd.prog 41 #[.slice lo ln lcap, .agg #[.slice ao al acap, .slice co cl ccap], .int .i64 u] w fun e w' => e = .returned (.iface 64 (.int .i64 m)) ∧ Below w.heap.size w w' := by
  go_enter Tryd.func41, Tryd.ntmps41
  go_wp2_with fail
  go_at_call 49
  refine (HF.out _ (below_alloc1 _ _)).mono ?_
  rintro e w2 ⟨rfl, hb⟩
  have HB : Hid (Below w.heap.size w w2) := (below_alloc1 w _).trans (hb.mono (by simp))
  clear hb
  go_wp2
  go_ret
  exact ⟨rfl, HB.out⟩
theorem askcheck_good (lo : Option Addr) (ln lcap : Nat) (ao : Option Addr) (al acap : Nat) (co : Option Addr) (cl ccap : Nat) (u : Int) (E : Value) (w : World)
    (HF : Hid (∀ W, Below w.heap.size w W → Calls Tryd.prog 49 #[.slice lo ln lcap, .int .i64 u] W fun e w' => e = .returned .nilIface ∧ Below W.heap.size W w'))
    (HG : Hid (∀ W, Below w.heap.size w W → Calls Tryd.prog 33 #[.agg #[.slice ao al acap, .slice co cl ccap]] W fun e w' => e = .returned E ∧ Below W.heap.size W w')) :
    Calls Tryd.prog 41 #[.slice lo ln lcap, .agg #[.slice ao al acap, .slice co cl ccap], .int .i64 u] w fun e w' => e = .returned E ∧ Below w.heap.size w w' := by
  obtain ⟨w1, hw1⟩ : ∃ x, x = w.alloc (.cells #[.slice ao al acap, .slice co cl ccap] 42) := ⟨_, rfl⟩
  have HB1 : Hid (Below w.heap.size w w1) := by unfold Hid; rw [hw1]; exact below_alloc1 _ _
  have HQ : Hid (Blk w1 w.heap.size 42 #[.slice ao al acap, .slice co cl ccap]) := by unfold Hid; rw [hw1]; exact Blk.new _ _ _
  go_enter Tryd.func41, Tryd.ntmps41
  go_upto_region 1 with fail
  rw [← hw1]
  clear hw1
  go_wp2_with fail
  go_at_call 49
  refine (HF.out _ HB1.out).mono ?_
  rintro e w2 ⟨rfl, hb⟩
  have HB2 : Hid (Below w.heap.size w w2) := HB1.out.trans (hb.mono HB1.out.size)
  have y0 : w2.cell? ⟨w.heap.size, 0, none⟩ = some (.slice ao al acap) := (HQ.out.below hb).cell 0
  have y1 : w2.cell? ⟨w.heap.size, 1, none⟩ = some (.slice co cl ccap) := (HQ.out.below hb).cell 1
  clear hb
  go_wp2_with fail
  go_at_call 33
  refine (HG.out _ HB2.out).mono ?_
  rintro e w3 ⟨rfl, hb⟩
  have HB3 : Hid (Below w.heap.size w w3) := HB2.out.trans (hb.mono HB2.out.size)
  clear hb y0 y1
  go_wp2
  go_ret
  exact ⟨rfl, HB3.out⟩
/-- what is wrong with some formulas, with how many things there are, or with what is asked. -/
theorem askCheck_any (v va vc : Value) (fs : List Fm) (ats : List At) (c : List Int) (u : Int) (w : World) (hF : ReadsF w v fs) (hA : ReadsA w va ats) (hC : Reads w vc c) (hK : KindsLaid w) :
    Calls Tryd.prog 41 #[v, .agg #[va, vc], .int .i64 u] w fun e w' => e = .returned (errV (askCheckN fs ats c u)) ∧ Below w.heap.size w w' := by
  have hL := fun W (hW : Below w.heap.size w W) => coreCheck_any v fs u W (hF.below hW) (hK.below hW)
  have hG := fun W (hW : Below w.heap.size w W) => fcheck_any va vc ats c W (hA.below hW) (hC.below hW) (hK.below hW)
  obtain ⟨lo, lcap, rfl, _⟩ := hF.slice
  obtain ⟨ao, acap, rfl, _⟩ := hA.slice
  obtain ⟨co, ccap, rfl, _⟩ := hC.slice
  unfold askCheckN
  by_cases h : formsFault fs u = 0
  · rw [if_pos h]
    rw [h] at hL
    exact askcheck_good lo _ lcap ao _ acap co _ ccap u _ w hL hG
  · rw [if_neg h, errV_no h]
    rw [errV_no h] at hL
    exact askcheck_forms lo _ lcap ao _ acap co _ ccap u _ w hL

/-- the answer by what was seen: whether it holds in one, and whether it does not in one. -/
def seenN (h f : Bool) : Int := if h = true then (if f = true then 0 else 1) else (if f = true then -1 else 0)
def seenE (h f : Bool) : Int := if (h || f) = true then 0 else 6
theorem seenAnswer_any (h f : Bool) (w : World) : Calls Tryd.prog 43 #[.agg #[.bool h, .bool f]] w fun e w' => e = .returned (.tuple #[.int .i64 (seenN h f), errV (seenE h f)]) ∧ Below w.heap.size w w' := by
  cases h <;> cases f
  · show Calls _ _ _ _ fun e w' => e = .returned (.tuple #[.int .i64 0, .iface 64 (.int .i64 6)]) ∧ _
    go_enter Tryd.func43, Tryd.ntmps43
    go_wp2
    go_ret2
    exact ⟨rfl, below_alloc1 _ _⟩
  · show Calls _ _ _ _ fun e w' => e = .returned (.tuple #[.int .i64 (-1), .nilIface]) ∧ _
    go_enter Tryd.func43, Tryd.ntmps43
    go_wp2
    go_ret2
    exact ⟨rfl, below_alloc1 _ _⟩
  · show Calls _ _ _ _ fun e w' => e = .returned (.tuple #[.int .i64 1, .nilIface]) ∧ _
    go_enter Tryd.func43, Tryd.ntmps43
    go_wp2
    go_ret2
    exact ⟨rfl, below_alloc1 _ _⟩
  · show Calls _ _ _ _ fun e w' => e = .returned (.tuple #[.int .i64 0, .nilIface]) ∧ _
    go_enter Tryd.func43, Tryd.ntmps43
    go_wp2
    go_ret2
    exact ⟨rfl, below_alloc1 _ _⟩
theorem seen_is {p : Int × Int} (h : 0 ≤ p.1 ∧ 0 ≤ p.2) : seenN (decide (¬ p.1 = 0)) (decide (¬ p.2 = 0)) = (if p.1 + p.2 = 0 then 0 else answerN p) ∧ seenE (decide (¬ p.1 = 0)) (decide (¬ p.2 = 0)) = if p.1 + p.2 = 0 then 6 else 0 := by
  unfold seenN seenE answerN
  by_cases h1 : p.1 = 0 <;> by_cases h2 : p.2 = 0 <;> simp [h1, h2] <;> omega

set_option maxHeartbeats 8000000 in
theorem allHold_any (v : Value) (fs : List Fm) (hgood : ∀ f ∈ fs, f.fault = 0) (D : Wd) (hok : D.ok = true) (w : World) (hF : ReadsF w v fs) (hK : KindsLaid w) :
    Calls Tryd.prog 66 #[v, .agg #[.int .i64 D.u, .int .i64 D.a, .int .i64 D.b, .int .i64 D.c]] w fun e w' => e = .returned (.tuple #[.bool (D.so fs), .nilIface]) ∧ Below w.heap.size w w' := by
  obtain ⟨lo, lcap, rfl, hl63⟩ := hF.slice
  have HF : Hid (ReadsF w (.slice lo fs.length lcap) fs) := hF
  obtain ⟨L, hL⟩ : ∃ L : Nat → Bool, L = fun j => match fs[j]? with | some f => D.formIs f.ats f.c | none => false := ⟨_, rfl⟩
  have HHo : Hid (∀ (k : Nat) f va vc W, fs[k]? = some f → Below w.heap.size w W → ReadsA W va f.ats → Reads W vc f.c → Calls Tryd.prog 16 #[.agg #[va, vc], .agg #[.int .i64 D.u, .int .i64 D.a, .int .i64 D.b, .int .i64 D.c]] W fun e w' => e = .returned (.tuple #[.bool (L k), .nilIface]) ∧ Below W.heap.size W w') := fun k f va vc W hf hW hA hC => by
    have h := fholds_any va vc f.ats f.c D.u D.a D.b D.c W hA hC (hK.below hW)
    have e : (Wd.mk D.u D.a D.b D.c).formFault f.ats f.c = 0 := wdForm_zero.2 ⟨hgood f (List.mem_of_getElem? hf), hok⟩
    rw [e] at h
    have eL : L k = D.formIs f.ats f.c := by rw [hL]; show (match fs[k]? with | some f => D.formIs f.ats f.c | none => false) = _; rw [hf]
    rw [eL]
    exact h
  have HNo : Hid (∀ k, k < fs.length → L k = false → D.so fs = false) := fun k hk h => by
    rw [hL] at h
    simp only [List.getElem?_eq_getElem hk] at h
    unfold Wd.so
    rw [List.all_eq_false]
    exact ⟨_, List.getElem_mem hk, by rw [h]; decide⟩
  have HYes : Hid ((∀ j, j < fs.length → L j = true) → D.so fs = true) := fun h => by
    unfold Wd.so
    rw [List.all_eq_true]
    intro f hf
    obtain ⟨i, hi⟩ := List.mem_iff_getElem?.1 hf
    have := h i (List.getElem?_eq_some_iff.1 hi).1
    rw [hL] at this
    simp only [hi] at this
    exact this
  obtain ⟨S, hS⟩ : ∃ S, S = D.so fs := ⟨_, rfl⟩
  rw [← hS] at HNo HYes ⊢
  obtain ⟨n, hn⟩ : ∃ n, n = fs.length := ⟨_, rfl⟩
  rw [← hn] at HF hl63 HNo HYes ⊢
  have HN : Hid (n = fs.length) := hn
  obtain ⟨w1, hw1⟩ : ∃ w1, w1 = w.alloc (.cells #[.int .i64 D.u, .int .i64 D.a, .int .i64 D.b, .int .i64 D.c] 37) := ⟨_, rfl⟩
  have HB1 : Hid (Below w.heap.size w w1) := by unfold Hid; rw [hw1]; exact below_alloc1 _ _
  have HQ1 : Hid (Blk w1 w.heap.size 37 (arrW D)) := by unfold Hid; rw [hw1]; exact Blk.new _ _ _
  clear hF hL hS hn hgood hok hK
  go_enter Tryd.func66, Tryd.ntmps66
  go_wp2
  rw [← hw1]
  clear hw1
  go_loopw [12] (fun i wr => ∃ k : Nat, k ≤ n ∧ i = .int .i64 k ∧ Below w1.heap.size w1 wr ∧ Hid (∀ j, j < k → L j = true)) (fun i _ => n - (intOf i).toNat)
  case atStart => exact ⟨0, Nat.zero_le _, rfl, Below.refl _ _, fun j hj => by omega⟩
  case round =>
    obtain ⟨k, hk, rfl, hbr, HSo⟩ := hrel
    have HBr : Hid (Below w1.heap.size w1 wr) := hbr
    have HBw : Hid (Below w.heap.size w wr) := HB1.out.trans (hbr.mono HB1.out.size)
    clear hbr
    by_cases hlt : k < n
    · obtain ⟨f, hf⟩ : ∃ f, fs[k]? = some f := ⟨_, List.getElem?_eq_getElem (by rw [← HN.out]; exact hlt)⟩
      obtain ⟨bL, oL, cL, hv⟩ := HF.out.place (by rw [← HN.out]; omega)
      obtain ⟨hlo, hx1, hx2⟩ := Value.slice.inj hv
      clear hx1 hx2
      subst hlo
      obtain ⟨hbL, va, vc, c0, c1, hA, hC⟩ := HF.out.at hf
      obtain ⟨ao, acap, rfl, _⟩ := hA.slice
      obtain ⟨co, ccap, rfl, _⟩ := hC.slice
      have x0 : wr.cell? ⟨bL, oL + k * 2, none⟩ = some (.slice ao f.ats.length acap) := (HBw.out.cell hbL).trans c0
      have x1 : wr.cell? ⟨bL, oL + k * 2 + 1, none⟩ = some (.slice co f.c.length ccap) := (HBw.out.cell hbL).trans c1
      have HH1 : Hid (∀ W, Below wr.heap.size wr W → Calls Tryd.prog 16 #[.agg #[.slice ao f.ats.length acap, .slice co f.c.length ccap], .agg #[.int .i64 D.u, .int .i64 D.a, .int .i64 D.b, .int .i64 D.c]] W fun e w' => e = .returned (.tuple #[.bool (L k), .nilIface]) ∧ Below w1.heap.size w1 w') := fun W hW => by
        have hb' := HBw.out.trans (hW.mono HBw.out.size)
        have hb1 := HBr.out.trans (hW.mono HBr.out.size)
        exact (HHo.out k f _ _ W hf hb' (hA.below hb') (hC.below hb')).mono fun e w' ⟨he, hb⟩ => ⟨he, hb1.trans (hb.mono hb1.size)⟩
      obtain ⟨al, hal⟩ : ∃ x, x = f.ats.length := ⟨_, rfl⟩
      obtain ⟨cl, hcl⟩ : ∃ x, x = f.c.length := ⟨_, rfl⟩
      rw [← hal] at x0 HH1
      rw [← hcl] at x1 HH1
      obtain ⟨wf, hwf⟩ : ∃ x, x = wr.alloc (.cells #[.slice ao al acap, .slice co cl ccap] 42) := ⟨_, rfl⟩
      have HBf : Hid (Below wr.heap.size wr wf) := by unfold Hid; rw [hwf]; exact below_alloc1 _ _
      have HQf : Hid (Blk wf wr.heap.size 42 #[.slice ao al acap, .slice co cl ccap]) := by unfold Hid; rw [hwf]; exact Blk.new _ _ _
      have HH2 : Hid (Calls Tryd.prog 16 #[.agg #[.slice ao al acap, .slice co cl ccap], .agg #[.int .i64 D.u, .int .i64 D.a, .int .i64 D.b, .int .i64 D.c]] wf fun e w' => e = .returned (.tuple #[.bool (L k), .nilIface]) ∧ Below w1.heap.size w1 w') := HH1.out _ HBf.out
      clear hf hv hbL c0 c1 hA hC hal hcl HH1
      have hkn : (k : Int) < (n : Int) := by omega
      obtain ⟨q, hq⟩ : ∃ q, q = L k := ⟨_, rfl⟩
      have HQ : Hid (L k = q) := hq.symm
      rw [← hq] at HH2
      clear hq
      go_upto_region 4 with fail
      rw [← hwf]
      clear hwf x0 x1
      have y0 : wf.cell? ⟨wr.heap.size, 0, none⟩ = some (.slice ao al acap) := HQf.out.cell 0
      have y1 : wf.cell? ⟨wr.heap.size, 1, none⟩ = some (.slice co cl ccap) := HQf.out.cell 1
      obtain ⟨d0, d1, d2, d3⟩ := ((HQ1.out.below HBr.out).below HBf.out).cells4
      go_wp2_with fail
      go_at_call 16
      refine HH2.out.mono ?_
      rintro e w8 ⟨rfl, hb8⟩
      have HB8 : Hid (Below w1.heap.size w1 w8) := hb8
      clear hb8 y0 y1 d0 d1 d2 d3
      cases q with
      | true =>
        go_wp2
        go_roundw
        case rel =>
          refine ⟨k + 1, by omega, by go_num, HB8.out, fun j hj => ?_⟩
          by_cases e : j = k
          · subst e; exact HQ.out
          · exact HSo.out j (by omega)
        case measure => simp [intOf]; omega
      | false =>
        have HR : Hid (S = false) := HNo.out k hlt HQ.out
        go_wp2
        go_ret2
        exact ⟨by first | (rw [HR.out]; done) | (rw [HR.out]; rfl), HB1.out.trans (HB8.out.mono HB1.out.size)⟩
    · obtain rfl : k = n := by omega
      have HR : Hid (S = true) := HYes.out HSo.out
      clear hlt
      go_wp2
      go_ret2
      exact ⟨by first | (rw [HR.out]; done) | (rw [HR.out]; rfl), HBw.out⟩
end Go.Proofs.YtjaedfjfcghgcaaDoor
