/-
  Proved: what core.Check returns; what was in memory is as it was (a contract that the statements lean on).
  Proved: what ask.check, ask.allHold and the answer of what was seen return; what was in memory is as it was (contracts that the statements of chapter 18 lean on).
-/
import Derived.Test.YtjaedfjfcghgcabDoorLibS6
import Derived.Test.YtjaedfjfcghgcabDoorLibS8
import Derived.Test.YtjaedfjfcghgcabDoorLibS7
import Derived.Test.YtjaedfjfcghgcabDoorLibS5
import Derived.Test.YtjaedfjfcghgcabDoorLibS11
namespace Go.Proofs.YtjaedfjfcghgcabDoor
open Go.ChangeShapes Go.WideShapes Go.ChangeAt Go.RowKit
set_option maxRecDepth 100000

set_option maxHeartbeats 8000000 in
theorem coreCheck_any (v : Value) (fs : List Fm) (u : Int) (w : World) (hF : ReadsF w v fs) (hK : KindsLaid w) :
    Calls Tryd.prog 41 #[v, .int .i64 u] w fun e w' => e = .returned (errV (formsFault fs u)) ∧ Below w.heap.size w w' := by
  obtain ⟨lo, lcap, rfl, hl63⟩ := hF.slice
  have HF : Hid (ReadsF w (.slice lo fs.length lcap) fs) := hF
  have HFm : Hid (∀ f va vc W, Below w.heap.size w W → ReadsA W va f.ats → Reads W vc f.c → Calls Tryd.prog 17 #[.agg #[va, vc]] W fun e w' => e = .returned (errV (Fm.fault f)) ∧ Below W.heap.size W w') := fun f va vc W hW hA hC => fcheck_any va vc f.ats f.c W hA hC (hK.below hW)
  obtain ⟨R, hR⟩ : ∃ R, R = formsFault fs u := ⟨_, rfl⟩
  have H0 : Hid (fs.length = 0 → R = 5) := fun h => by rw [hR]; unfold formsFault; rw [if_pos h]
  have H6 : Hid (¬ fs.length = 0 → 6 < fs.length → R = 4) := fun h1 h2 => by rw [hR]; unfold formsFault; rw [if_neg h1, if_pos h2]
  have HBad : Hid (¬ fs.length = 0 → ¬ 6 < fs.length → ∀ (k : Nat) f, fs[k]? = some f → (∀ j, j < k → ∀ g, fs[j]? = some g → Fm.fault g = 0) → ¬ Fm.fault f = 0 → R = Fm.fault f) := fun h1 h2 k f hk hj hf => by
    have e := firstForm_at hk hj hf
    rw [hR]; unfold formsFault; rw [if_neg h1, if_neg h2, if_neg (by rw [e]; exact hf), e]
  have HEnd : Hid (¬ fs.length = 0 → ¬ 6 < fs.length → (∀ j, j < fs.length → ∀ g, fs[j]? = some g → Fm.fault g = 0) → R = if 0 ≤ u ∧ u ≤ 6 then 0 else 1) := fun h1 h2 hj => by
    have e : firstForm fs = 0 := firstForm_zero.2 fun f hf => by
      obtain ⟨i, hi⟩ := List.mem_iff_getElem?.1 hf
      exact hj i (List.getElem?_eq_some_iff.1 hi).1 f hi
    rw [hR]; unfold formsFault; rw [if_neg h1, if_neg h2, if_pos e]
  rw [← hR]
  obtain ⟨n, hn⟩ : ∃ n, n = fs.length := ⟨_, rfl⟩
  rw [← hn] at HF hl63 H0 H6 HBad HEnd ⊢
  have HN : Hid (n = fs.length) := hn
  clear hF hR hn hK
  by_cases hz : n = 0
  · have HR : Hid (R = 5) := H0.out hz
    subst hz
    go_enter Tryd.func41, Tryd.ntmps41
    go_wp2
    go_ret
    exact ⟨by first | (rw [HR.out]; done) | (rw [HR.out]; rfl), Below.refl _ _⟩
  · by_cases h6 : 6 < n
    · have HR : Hid (R = 4) := H6.out hz h6
      have dz : ((n : Int) == 0) = false := by simp; omega
      have h6' : (6 : Int) < (n : Int) := by omega
      go_enter Tryd.func41, Tryd.ntmps41
      go_wp2
      go_ret
      exact ⟨by first | (rw [HR.out]; done) | (rw [HR.out]; rfl), Below.refl _ _⟩
    · have dz : ((n : Int) == 0) = false := by simp; omega
      have h6' : (n : Int) ≤ 6 := by omega
      have HBad' : Hid (∀ (k : Nat) f, fs[k]? = some f → (∀ j, j < k → ∀ g, fs[j]? = some g → Fm.fault g = 0) → ¬ Fm.fault f = 0 → R = Fm.fault f) := HBad.out hz h6
      have HEnd' : Hid ((∀ j, j < n → ∀ g, fs[j]? = some g → Fm.fault g = 0) → R = if 0 ≤ u ∧ u ≤ 6 then 0 else 1) := HEnd.out hz h6
      have Hz : Hid (¬ n = 0) := hz
      clear hz h6 H0 H6 HBad HEnd
      go_enter Tryd.func41, Tryd.ntmps41
      go_wp2
      go_loopw [18] (fun i wr => ∃ k : Nat, k ≤ n ∧ i = .int .i64 k ∧ Below w.heap.size w wr ∧ ∀ j, j < k → ∀ g, fs[j]? = some g → Fm.fault g = 0) (fun i _ => n - (intOf i).toNat)
      case atStart => exact ⟨0, Nat.zero_le _, rfl, Below.refl _ _, fun j hj => by omega⟩
      case round =>
        obtain ⟨k, hk, rfl, hbr, hso⟩ := hrel
        have HBr : Hid (Below w.heap.size w wr) := hbr
        have HSo : Hid (∀ j, j < k → ∀ g, fs[j]? = some g → Fm.fault g = 0) := hso
        clear hbr hso
        by_cases hlt : k < n
        · obtain ⟨f, hf⟩ : ∃ f, fs[k]? = some f := ⟨_, List.getElem?_eq_getElem (by rw [← HN.out]; exact hlt)⟩
          have HFk : Hid (fs[k]? = some f) := hf
          obtain ⟨bL, oL, cL, hv⟩ := HF.out.place (by rw [← HN.out]; omega)
          obtain ⟨hlo, hx1, hx2⟩ := Value.slice.inj hv
          clear hx1 hx2
          subst hlo
          obtain ⟨hbL, va, vc, c0, c1, hA, hC⟩ := HF.out.at hf
          have HFc : Hid (∀ W, Below wr.heap.size wr W → Calls Tryd.prog 17 #[.agg #[va, vc]] W fun e w' => e = .returned (errV (Fm.fault f)) ∧ Below w.heap.size w w') := fun W hW => by
            have hb' := HBr.out.trans (hW.mono HBr.out.size)
            exact (HFm.out f va vc W hb' (hA.below hb') (hC.below hb')).mono fun e w' ⟨h1, h2⟩ => ⟨h1, hb'.trans (h2.mono hb'.size)⟩
          have x0 : wr.cell? ⟨bL, oL + k * 2, none⟩ = some va := (HBr.out.cell hbL).trans c0
          have x1 : wr.cell? ⟨bL, oL + k * 2 + 1, none⟩ = some vc := (HBr.out.cell hbL).trans c1
          obtain ⟨ao, acap, rfl, _⟩ := hA.slice
          obtain ⟨co, ccap, rfl, _⟩ := hC.slice
          obtain ⟨al, hal⟩ : ∃ x, x = f.ats.length := ⟨_, rfl⟩
          obtain ⟨cl, hcl⟩ : ∃ x, x = f.c.length := ⟨_, rfl⟩
          rw [← hal] at x0 HFc
          rw [← hcl] at x1 HFc
          obtain ⟨q, hq⟩ : ∃ q, q = Fm.fault f := ⟨_, rfl⟩
          have HQ : Hid (q = Fm.fault f) := hq
          rw [← hq] at HFc
          clear hf hv hbL c0 c1 hA hC hq hal hcl
          have hkn : (k : Int) < (n : Int) := by omega
          by_cases h0 : q = 0
          · have HFz : Hid (∀ W, Below wr.heap.size wr W → Calls Tryd.prog 17 #[.agg #[.slice ao al acap, .slice co cl ccap]] W fun e w' => e = .returned .nilIface ∧ Below w.heap.size w w') := by
              have h := HFc.out
              rw [h0] at h
              exact h
            have HQ0 : Hid (Fm.fault f = 0) := by unfold Hid; rw [← HQ.out, h0]
            clear h0 HFc HQ
            go_wp2_with fail
            go_at_call 17
            refine (HFz.out _ (by first | exact below_alloc1 _ _ | exact ((((Below.refl _ _).alloc (Nat.le_refl _) _).setCell (by simp) _).setCell (by simp) _))).mono ?_
            rintro e w8 ⟨rfl, hb8⟩
            have HB8 : Hid (Below w.heap.size w w8) := hb8
            clear hb8 x0 x1
            go_wp2
            go_roundw
            case rel =>
              refine ⟨k + 1, by omega, by go_num, HB8.out, fun j hj g hg => ?_⟩
              by_cases e : j = k
              · subst e
                obtain rfl : f = g := Option.some.inj (HFk.out.symm.trans hg)
                exact HQ0.out
              · exact HSo.out j (by omega) g hg
            case measure => simp [intOf]; omega
          · have HFz : Hid (∀ W, Below wr.heap.size wr W → Calls Tryd.prog 17 #[.agg #[.slice ao al acap, .slice co cl ccap]] W fun e w' => e = .returned (.iface 58 (.int .i64 q)) ∧ Below w.heap.size w w') := by
              have h := HFc.out
              rw [show errV q = .iface 58 (.int .i64 q) by unfold errV; rw [if_neg h0]] at h
              exact h
            have HR : Hid (errV R = .iface 58 (.int .i64 q)) := by
              unfold Hid
              rw [HBad'.out k f HFk.out HSo.out (by rw [← HQ.out]; exact h0), ← HQ.out]
              unfold errV; rw [if_neg h0]
            clear h0 HFc HQ
            go_wp2_with fail
            go_at_call 17
            refine (HFz.out _ (by first | exact below_alloc1 _ _ | exact ((((Below.refl _ _).alloc (Nat.le_refl _) _).setCell (by simp) _).setCell (by simp) _))).mono ?_
            rintro e w8 ⟨rfl, hb8⟩
            have HB8 : Hid (Below w.heap.size w w8) := hb8
            clear hb8 x0 x1
            go_wp2
            go_ret
            exact ⟨by first | (rw [HR.out]; done) | (rw [HR.out]; rfl), HB8.out⟩
        · obtain rfl : k = n := by omega
          have hE := HEnd'.out HSo.out
          by_cases hu : 0 ≤ u ∧ u ≤ 6
          · rw [if_pos hu] at hE
            have HR : Hid (R = 0) := hE
            have h : okB u 0 = true := ok_zero hu.1 hu.2
            have HC : Hid (∀ W, Calls Tryd.prog 27 #[.int .i64 u, .int .i64 0] W fun e w' => e = .returned .nilIface ∧ W = w') := fun W => check_ok _ _ h W
            clear hE hu h
            go_wp2_with fail
            go_at_call 27
            refine (HC.out _).mono ?_
            rintro e w' ⟨rfl, rfl⟩
            go_wp2
            go_ret
            exact ⟨by first | (rw [HR.out]; done) | (rw [HR.out]; rfl), HBr.out⟩
          · rw [if_neg hu] at hE
            have HR : Hid (R = 1) := hE
            have h : okB u 0 = false := okB_not.2 fun h => hu ⟨h.1, h.2.1⟩
            have HC : Hid (∀ W, Calls Tryd.prog 27 #[.int .i64 u, .int .i64 0] W fun e w' => e = .returned (.iface 58 (.int .i64 1)) ∧ W = w') := fun W => check_no _ _ h W
            clear hE hu h
            go_wp2_with fail
            go_at_call 27
            refine (HC.out _).mono ?_
            rintro e w' ⟨rfl, rfl⟩
            go_wp2
            go_ret
            exact ⟨by first | (rw [HR.out]; done) | (rw [HR.out]; rfl), HBr.out⟩

end Go.Proofs.YtjaedfjfcghgcabDoor

namespace Go.Proofs.YtjaedfjfcghgcabDoor
open Go.ChangeShapes Go.WideShapes Go.ChangeAt Go.RowKit
set_option maxRecDepth 100000

def askCheckN (fs : List Fm) (ats : List At) (c : List Int) (u : Int) : Int := if formsFault fs u = 0 then formFault ats c else formsFault fs u
theorem askcheck_forms (lo : Option Addr) (ln lcap : Nat) (ao : Option Addr) (al acap : Nat) (co : Option Addr) (cl ccap : Nat) (u m : Int) (w : World)
    (HF : Hid (∀ W, Below w.heap.size w W → Calls Tryd.prog 41 #[.slice lo ln lcap, .int .i64 u] W fun e w' => e = .returned (.iface 58 (.int .i64 m)) ∧ Below W.heap.size W w')) :
    Calls Tryd.prog 24 #[.slice lo ln lcap, .agg #[.slice ao al acap, .slice co cl ccap], .int .i64 u] w fun e w' => e = .returned (.iface 58 (.int .i64 m)) ∧ Below w.heap.size w w' := by
  go_enter Tryd.func24, Tryd.ntmps24
  go_wp2_with fail
  go_at_call 41
  refine (HF.out _ (below_alloc1 _ _)).mono ?_
  rintro e w2 ⟨rfl, hb⟩
  have HB : Hid (Below w.heap.size w w2) := (below_alloc1 w _).trans (hb.mono (by simp))
  clear hb
  go_wp2
  go_ret
  exact ⟨rfl, HB.out⟩
theorem askcheck_good (lo : Option Addr) (ln lcap : Nat) (ao : Option Addr) (al acap : Nat) (co : Option Addr) (cl ccap : Nat) (u : Int) (E : Value) (w : World)
    (HF : Hid (∀ W, Below w.heap.size w W → Calls Tryd.prog 41 #[.slice lo ln lcap, .int .i64 u] W fun e w' => e = .returned .nilIface ∧ Below W.heap.size W w'))
    (HG : Hid (∀ W, Below w.heap.size w W → Calls Tryd.prog 17 #[.agg #[.slice ao al acap, .slice co cl ccap]] W fun e w' => e = .returned E ∧ Below W.heap.size W w')) :
    Calls Tryd.prog 24 #[.slice lo ln lcap, .agg #[.slice ao al acap, .slice co cl ccap], .int .i64 u] w fun e w' => e = .returned E ∧ Below w.heap.size w w' := by
  obtain ⟨w1, hw1⟩ : ∃ x, x = w.alloc (.cells #[.slice ao al acap, .slice co cl ccap] 25) := ⟨_, rfl⟩
  have HB1 : Hid (Below w.heap.size w w1) := by unfold Hid; rw [hw1]; exact below_alloc1 _ _
  have HQ : Hid (Blk w1 w.heap.size 25 #[.slice ao al acap, .slice co cl ccap]) := by unfold Hid; rw [hw1]; exact Blk.new _ _ _
  go_enter Tryd.func24, Tryd.ntmps24
  go_upto_region 1 with fail
  rw [← hw1]
  clear hw1
  go_wp2_with fail
  go_at_call 41
  refine (HF.out _ HB1.out).mono ?_
  rintro e w2 ⟨rfl, hb⟩
  have HB2 : Hid (Below w.heap.size w w2) := HB1.out.trans (hb.mono HB1.out.size)
  have y0 : w2.cell? ⟨w.heap.size, 0, none⟩ = some (.slice ao al acap) := (HQ.out.below hb).cell 0
  have y1 : w2.cell? ⟨w.heap.size, 1, none⟩ = some (.slice co cl ccap) := (HQ.out.below hb).cell 1
  clear hb
  go_wp2_with fail
  go_at_call 17
  refine (HG.out _ HB2.out).mono ?_
  rintro e w3 ⟨rfl, hb⟩
  have HB3 : Hid (Below w.heap.size w w3) := HB2.out.trans (hb.mono HB2.out.size)
  clear hb y0 y1
  go_wp2
  go_ret
  exact ⟨rfl, HB3.out⟩
/-- what is wrong with some formulas, with how many things there are, or with what is asked. -/
theorem askCheck_any (v va vc : Value) (fs : List Fm) (ats : List At) (c : List Int) (u : Int) (w : World) (hF : ReadsF w v fs) (hA : ReadsA w va ats) (hC : Reads w vc c) (hK : KindsLaid w) :
    Calls Tryd.prog 24 #[v, .agg #[va, vc], .int .i64 u] w fun e w' => e = .returned (errV (askCheckN fs ats c u)) ∧ Below w.heap.size w w' := by
  have hL := fun W (hW : Below w.heap.size w W) => coreCheck_any v fs u W (hF.below hW) (hK.below hW)
  have hG := fun W (hW : Below w.heap.size w W) => fcheck_any va vc ats c W (hA.below hW) (hC.below hW) (hK.below hW)
  obtain ⟨lo, lcap, rfl, _⟩ := hF.slice
  obtain ⟨ao, acap, rfl, _⟩ := hA.slice
  obtain ⟨co, ccap, rfl, _⟩ := hC.slice
  unfold askCheckN
  by_cases h : formsFault fs u = 0
  · rw [if_pos h]
    rw [h] at hL
    exact askcheck_good lo _ lcap ao _ acap co _ ccap u _ w hL hG
  · rw [if_neg h, errV_no h]
    rw [errV_no h] at hL
    exact askcheck_forms lo _ lcap ao _ acap co _ ccap u _ w hL

/-- the answer by what was seen: whether it holds in one, and whether it does not in one. -/
def seenN (h f : Bool) : Int := if h = true then (if f = true then 0 else 1) else (if f = true then -1 else 0)
def seenE (h f : Bool) : Int := if (h || f) = true then 0 else 6
theorem seenAnswer_any (h f : Bool) (w : World) : Calls Tryd.prog 26 #[.agg #[.bool h, .bool f]] w fun e w' => e = .returned (.tuple #[.int .i64 (seenN h f), errV (seenE h f)]) ∧ Below w.heap.size w w' := by
  cases h <;> cases f
  · show Calls _ _ _ _ fun e w' => e = .returned (.tuple #[.int .i64 0, .iface 58 (.int .i64 6)]) ∧ _
    go_enter Tryd.func26, Tryd.ntmps26
    go_wp2
    go_ret2
    exact ⟨rfl, below_alloc1 _ _⟩
  · show Calls _ _ _ _ fun e w' => e = .returned (.tuple #[.int .i64 (-1), .nilIface]) ∧ _
    go_enter Tryd.func26, Tryd.ntmps26
    go_wp2
    go_ret2
    exact ⟨rfl, below_alloc1 _ _⟩
  · show Calls _ _ _ _ fun e w' => e = .returned (.tuple #[.int .i64 1, .nilIface]) ∧ _
    go_enter Tryd.func26, Tryd.ntmps26
    go_wp2
    go_ret2
    exact ⟨rfl, below_alloc1 _ _⟩
  · show Calls _ _ _ _ fun e w' => e = .returned (.tuple #[.int .i64 0, .nilIface]) ∧ _
    go_enter Tryd.func26, Tryd.ntmps26
    go_wp2
    go_ret2
    exact ⟨rfl, below_alloc1 _ _⟩
theorem seen_is {p : Int × Int} (h : 0 ≤ p.1 ∧ 0 ≤ p.2) : seenN (decide (¬ p.1 = 0)) (decide (¬ p.2 = 0)) = (if p.1 + p.2 = 0 then 0 else answerN p) ∧ seenE (decide (¬ p.1 = 0)) (decide (¬ p.2 = 0)) = if p.1 + p.2 = 0 then 6 else 0 := by
  unfold seenN seenE answerN
  by_cases h1 : p.1 = 0 <;> by_cases h2 : p.2 = 0 <;> simp [h1, h2] <;> omega

set_option maxHeartbeats 8000000 in
theorem allHold_any (v : Value) (fs : List Fm) (hgood : ∀ f ∈ fs, f.fault = 0) (D : Wd) (hok : D.ok = true) (w : World) (hF : ReadsF w v fs) (hK : KindsLaid w) :
    Calls Tryd.prog 42 #[v, .agg #[.int .i64 D.u, .int .i64 D.a, .int .i64 D.b, .int .i64 D.c]] w fun e w' => e = .returned (.tuple #[.bool (D.so fs), .nilIface]) ∧ Below w.heap.size w w' := by
  obtain ⟨lo, lcap, rfl, hl63⟩ := hF.slice
  have HF : Hid (ReadsF w (.slice lo fs.length lcap) fs) := hF
  obtain ⟨L, hL⟩ : ∃ L : Nat → Bool, L = fun j => match fs[j]? with | some f => D.formIs f.ats f.c | none => false := ⟨_, rfl⟩
  have HHo : Hid (∀ (k : Nat) f va vc W, fs[k]? = some f → Below w.heap.size w W → ReadsA W va f.ats → Reads W vc f.c → Calls Tryd.prog 8 #[.agg #[va, vc], .agg #[.int .i64 D.u, .int .i64 D.a, .int .i64 D.b, .int .i64 D.c]] W fun e w' => e = .returned (.tuple #[.bool (L k), .nilIface]) ∧ Below W.heap.size W w') := fun k f va vc W hf hW hA hC => by
    have h := fholds_any va vc f.ats f.c D.u D.a D.b D.c W hA hC (hK.below hW)
    have e : (Wd.mk D.u D.a D.b D.c).formFault f.ats f.c = 0 := wdForm_zero.2 ⟨hgood f (List.mem_of_getElem? hf), hok⟩
    rw [e] at h
    have eL : L k = D.formIs f.ats f.c := by rw [hL]; show (match fs[k]? with | some f => D.formIs f.ats f.c | none => false) = _; rw [hf]
    rw [eL]
    exact h
  have HNo : Hid (∀ k, k < fs.length → L k = false → D.so fs = false) := fun k hk h => by
    rw [hL] at h
    simp only [List.getElem?_eq_getElem hk] at h
    unfold Wd.so
    rw [List.all_eq_false]
    exact ⟨_, List.getElem_mem hk, by rw [h]; decide⟩
  have HYes : Hid ((∀ j, j < fs.length → L j = true) → D.so fs = true) := fun h => by
    unfold Wd.so
    rw [List.all_eq_true]
    intro f hf
    obtain ⟨i, hi⟩ := List.mem_iff_getElem?.1 hf
    have := h i (List.getElem?_eq_some_iff.1 hi).1
    rw [hL] at this
    simp only [hi] at this
    exact this
  obtain ⟨S, hS⟩ : ∃ S, S = D.so fs := ⟨_, rfl⟩
  rw [← hS] at HNo HYes ⊢
  obtain ⟨n, hn⟩ : ∃ n, n = fs.length := ⟨_, rfl⟩
  rw [← hn] at HF hl63 HNo HYes ⊢
  have HN : Hid (n = fs.length) := hn
  obtain ⟨w1, hw1⟩ : ∃ w1, w1 = w.alloc (.cells #[.int .i64 D.u, .int .i64 D.a, .int .i64 D.b, .int .i64 D.c] 28) := ⟨_, rfl⟩
  have HB1 : Hid (Below w.heap.size w w1) := by unfold Hid; rw [hw1]; exact below_alloc1 _ _
  have HQ1 : Hid (Blk w1 w.heap.size 28 (arrW D)) := by unfold Hid; rw [hw1]; exact Blk.new _ _ _
  clear hF hL hS hn hgood hok hK
  go_enter Tryd.func42, Tryd.ntmps42
  go_wp2
  rw [← hw1]
  clear hw1
  go_loopw [12] (fun i wr => ∃ k : Nat, k ≤ n ∧ i = .int .i64 k ∧ Below w1.heap.size w1 wr ∧ Hid (∀ j, j < k → L j = true)) (fun i _ => n - (intOf i).toNat)
  case atStart => exact ⟨0, Nat.zero_le _, rfl, Below.refl _ _, fun j hj => by omega⟩
  case round =>
    obtain ⟨k, hk, rfl, hbr, HSo⟩ := hrel
    have HBr : Hid (Below w1.heap.size w1 wr) := hbr
    have HBw : Hid (Below w.heap.size w wr) := HB1.out.trans (hbr.mono HB1.out.size)
    clear hbr
    by_cases hlt : k < n
    · obtain ⟨f, hf⟩ : ∃ f, fs[k]? = some f := ⟨_, List.getElem?_eq_getElem (by rw [← HN.out]; exact hlt)⟩
      obtain ⟨bL, oL, cL, hv⟩ := HF.out.place (by rw [← HN.out]; omega)
      obtain ⟨hlo, hx1, hx2⟩ := Value.slice.inj hv
      clear hx1 hx2
      subst hlo
      obtain ⟨hbL, va, vc, c0, c1, hA, hC⟩ := HF.out.at hf
      obtain ⟨ao, acap, rfl, _⟩ := hA.slice
      obtain ⟨co, ccap, rfl, _⟩ := hC.slice
      have x0 : wr.cell? ⟨bL, oL + k * 2, none⟩ = some (.slice ao f.ats.length acap) := (HBw.out.cell hbL).trans c0
      have x1 : wr.cell? ⟨bL, oL + k * 2 + 1, none⟩ = some (.slice co f.c.length ccap) := (HBw.out.cell hbL).trans c1
      have HH1 : Hid (∀ W, Below wr.heap.size wr W → Calls Tryd.prog 8 #[.agg #[.slice ao f.ats.length acap, .slice co f.c.length ccap], .agg #[.int .i64 D.u, .int .i64 D.a, .int .i64 D.b, .int .i64 D.c]] W fun e w' => e = .returned (.tuple #[.bool (L k), .nilIface]) ∧ Below w1.heap.size w1 w') := fun W hW => by
        have hb' := HBw.out.trans (hW.mono HBw.out.size)
        have hb1 := HBr.out.trans (hW.mono HBr.out.size)
        exact (HHo.out k f _ _ W hf hb' (hA.below hb') (hC.below hb')).mono fun e w' ⟨he, hb⟩ => ⟨he, hb1.trans (hb.mono hb1.size)⟩
      obtain ⟨al, hal⟩ : ∃ x, x = f.ats.length := ⟨_, rfl⟩
      obtain ⟨cl, hcl⟩ : ∃ x, x = f.c.length := ⟨_, rfl⟩
      rw [← hal] at x0 HH1
      rw [← hcl] at x1 HH1
      obtain ⟨wf, hwf⟩ : ∃ x, x = wr.alloc (.cells #[.slice ao al acap, .slice co cl ccap] 25) := ⟨_, rfl⟩
      have HBf : Hid (Below wr.heap.size wr wf) := by unfold Hid; rw [hwf]; exact below_alloc1 _ _
      have HQf : Hid (Blk wf wr.heap.size 25 #[.slice ao al acap, .slice co cl ccap]) := by unfold Hid; rw [hwf]; exact Blk.new _ _ _
      have HH2 : Hid (Calls Tryd.prog 8 #[.agg #[.slice ao al acap, .slice co cl ccap], .agg #[.int .i64 D.u, .int .i64 D.a, .int .i64 D.b, .int .i64 D.c]] wf fun e w' => e = .returned (.tuple #[.bool (L k), .nilIface]) ∧ Below w1.heap.size w1 w') := HH1.out _ HBf.out
      clear hf hv hbL c0 c1 hA hC hal hcl HH1
      have hkn : (k : Int) < (n : Int) := by omega
      obtain ⟨q, hq⟩ : ∃ q, q = L k := ⟨_, rfl⟩
      have HQ : Hid (L k = q) := hq.symm
      rw [← hq] at HH2
      clear hq
      go_upto_region 4 with fail
      rw [← hwf]
      clear hwf x0 x1
      have y0 : wf.cell? ⟨wr.heap.size, 0, none⟩ = some (.slice ao al acap) := HQf.out.cell 0
      have y1 : wf.cell? ⟨wr.heap.size, 1, none⟩ = some (.slice co cl ccap) := HQf.out.cell 1
      obtain ⟨d0, d1, d2, d3⟩ := ((HQ1.out.below HBr.out).below HBf.out).cells4
      go_wp2_with fail
      go_at_call 8
      refine HH2.out.mono ?_
      rintro e w8 ⟨rfl, hb8⟩
      have HB8 : Hid (Below w1.heap.size w1 w8) := hb8
      clear hb8 y0 y1 d0 d1 d2 d3
      cases q with
      | true =>
        go_wp2
        go_roundw
        case rel =>
          refine ⟨k + 1, by omega, by go_num, HB8.out, fun j hj => ?_⟩
          by_cases e : j = k
          · subst e; exact HQ.out
          · exact HSo.out j (by omega)
        case measure => simp [intOf]; omega
      | false =>
        have HR : Hid (S = false) := HNo.out k hlt HQ.out
        go_wp2
        go_ret2
        exact ⟨by first | (rw [HR.out]; done) | (rw [HR.out]; rfl), HB1.out.trans (HB8.out.mono HB1.out.size)⟩
    · obtain rfl : k = n := by omega
      have HR : Hid (S = true) := HYes.out HSo.out
      clear hlt
      go_wp2
      go_ret2
      exact ⟨by first | (rw [HR.out]; done) | (rw [HR.out]; rfl), HBw.out⟩
end Go.Proofs.YtjaedfjfcghgcabDoor
