/-
  Proved: what model.Of, model.Against and model.Sure return, of any formula and any number of things; what was in memory is as it was (contracts that the statements lean on).
  Proved: what core.Check returns; what was in memory is as it was (a contract that the statements lean on).
  Plain facts on the core of some formulas: they are not open, and without any one of them they are (chapter 13). No program is read here.
  Plain facts on formulas as bits: which hold, which are left, which are enough (chapter 13). No program is read here.
  Rows of booleans in memory (facts that the contracts lean on).
  Proved: what form.made and form.work return, of a right Code and which atoms hold; what was in memory is as it was (contracts that the statements lean on).
  Proved: what form.work returns, of a right Code and which atoms hold: whether the pile's last holds; what was in memory is as it was (a contract that the statements lean on).
  Proved: what math/bits.OnesCount returns, of a number of at most six bits, and that it leaves memory as it was (a contract that the statements lean on).
-/
import Derived.Test.YtjaedfjfcghgcabGreatDoorLibT20
import Derived.Test.YtjaedfjfcghgcabGreatDoorLibT25
import Derived.Test.YtjaedfjfcghgcabGreatDoorLibT24
import Derived.Test.YtjaedfjfcghgcabGreatDoorLibT10
import Derived.Test.YtjaedfjfcghgcabGreatDoorLibT11
import Derived.Test.YtjaedfjfcghgcabGreatDoorLibT8
import Derived.Test.YtjaedfjfcghgcabGreatDoorLibT9
import Derived.Deep.RegionHeld3
import Derived.Deep.AppendLies
namespace Go.Proofs.YtjaedfjfcghgcabGreatDoor
open Go.ChangeShapes Go.WideShapes Go.ChangeAt Go.RowKit
set_option maxRecDepth 100000

theorem modelOf_any (va vc : Value) (ats : List At) (c : List Int) (u : Int) (w : World) (hA : ReadsA w va ats) (hC : Reads w vc c) (hK : KindsLaid w) (hT : TimesLaid w) (hg : Laid w) :
    Calls Tryz.prog 7 #[.agg #[va, vc], .int .i64 u] w fun e w' => e = .returned (.tuple #[.agg (arrW (modelW ats c u)), errV (modelFault ats c u)]) ∧ Below w.heap.size w w' := by
  obtain ⟨ao, acap, rfl, _⟩ := hA.slice
  obtain ⟨co, ccap, rfl, _⟩ := hC.slice
  by_cases hf : formFault ats c = 0
  · cases hL : cubesC c with
    | none =>
      have ef : modelFault ats c u = 4 := by unfold modelFault; rw [if_pos hf, hL]
      have ew : modelW ats c u = ⟨0, 0, 0, 0⟩ := by unfold modelW; rw [if_neg (by rw [ef]; decide)]
      rw [ef, ew, errV_no (by decide)]
      refine modelOf_err ao _ acap co _ ccap u 4 w fun W hW => ?_
      have h := of_good _ _ ats c W (hA.below hW) (hC.below hW) (hK.below hW) hf
      rw [hL] at h
      exact h
    | some L =>
      have hCu : ∀ W, Below w.heap.size w W → Calls Tryz.prog 6 #[.agg #[.slice ao ats.length acap, .slice co c.length ccap]] W fun e w' => ∃ lo lcap, e = .returned (.tuple #[.slice lo L.length lcap, .nilIface]) ∧ RS2 (fun _ => True) w' (.slice lo L.length lcap) L ∧ Below W.heap.size W w' := fun W hW => by
        refine (of_good _ _ ats c W (hA.below hW) (hC.below hW) (hK.below hW) hf).mono ?_
        rintro e w' ⟨ho, hb⟩
        rw [hL] at ho
        obtain ⟨v, rfl, hr⟩ := ho
        obtain ⟨lo, lcap, rfl, _⟩ := hr.slice
        exact ⟨lo, lcap, rfl, hr.mono fun _ _ _ => trivial, hb⟩
      by_cases hu : 0 ≤ u ∧ u ≤ 6
      · obtain ⟨n, rfl⟩ := Int.eq_ofNat_of_zero_le hu.1
        refine (modelOf_in n (by omega) ats c L ao acap co ccap w hA hK hT hg hf hL hCu).mono ?_
        rintro e w' ⟨hor, hb⟩
        refine ⟨?_, hb⟩
        rcases hor with ⟨N, hN, rfl⟩ | ⟨hN, rfl⟩
        · have ef : modelFault ats c n = 0 := by unfold modelFault; rw [if_pos hf, hL]; simp only; rw [if_pos hu, Int.toNat_natCast, hN]; rfl
          have ew : modelW ats c n = madeN N 8 := by unfold modelW modelN; rw [if_pos ef, hL, Int.toNat_natCast]; simp only [Option.getD_some]; rw [hN]; rfl
          rw [ef, ew]; rfl
        · have ef : modelFault ats c n = 5 := by unfold modelFault; rw [if_pos hf, hL]; simp only; rw [if_pos hu, Int.toNat_natCast, hN]; rfl
          have ew : modelW ats c n = ⟨0, 0, 0, 0⟩ := by unfold modelW; rw [if_neg (by rw [ef]; decide)]
          rw [ef, ew, errV_no (by decide)]
      · have ef : modelFault ats c u = 1 := by unfold modelFault; rw [if_pos hf, hL]; simp only; rw [if_neg hu]
        have ew : modelW ats c u = ⟨0, 0, 0, 0⟩ := by unfold modelW; rw [if_neg (by rw [ef]; decide)]
        rw [ef, ew, errV_no (by decide)]
        refine modelOf_out ao _ acap co _ ccap u hu w fun W hW => ?_
        refine (hCu W hW).mono ?_
        rintro e w' ⟨lo, lcap, rfl, _, hb⟩
        exact ⟨lo, _, lcap, rfl, hb⟩
  · have ef : modelFault ats c u = formFault ats c := by unfold modelFault; rw [if_neg hf]
    have ew : modelW ats c u = ⟨0, 0, 0, 0⟩ := by unfold modelW; rw [if_neg (by rw [ef]; exact hf)]
    rw [ef, ew, errV_no hf]
    exact modelOf_err ao _ acap co _ ccap u _ w fun W hW => of_bad _ _ ats c W (hA.below hW) (hC.below hW) (hK.below hW) hf
end Go.Proofs.YtjaedfjfcghgcabGreatDoor


namespace Go.Proofs.YtjaedfjfcghgcabGreatDoor
open Go.ChangeShapes Go.WideShapes Go.ChangeAt Go.RowKit
set_option maxRecDepth 100000

set_option maxHeartbeats 8000000 in
theorem coreCheck_any (v : Value) (fs : List Fm) (u : Int) (w : World) (hF : ReadsF w v fs) (hK : KindsLaid w) :
    Calls Tryz.prog 77 #[v, .int .i64 u] w fun e w' => e = .returned (errV (formsFault fs u)) ∧ Below w.heap.size w w' := by
  obtain ⟨lo, lcap, rfl, hl63⟩ := hF.slice
  have HF : Hid (ReadsF w (.slice lo fs.length lcap) fs) := hF
  have HFm : Hid (∀ f va vc W, Below w.heap.size w W → ReadsA W va f.ats → Reads W vc f.c → Calls Tryz.prog 14 #[.agg #[va, vc]] W fun e w' => e = .returned (errV (Fm.fault f)) ∧ Below W.heap.size W w') := fun f va vc W hW hA hC => fcheck_any va vc f.ats f.c W hA hC (hK.below hW)
  obtain ⟨R, hR⟩ : ∃ R, R = formsFault fs u := ⟨_, rfl⟩
  have H0 : Hid (fs.length = 0 → R = 5) := fun h => by rw [hR]; unfold formsFault; rw [if_pos h]
  have H6 : Hid (¬ fs.length = 0 → 6 < fs.length → R = 4) := fun h1 h2 => by rw [hR]; unfold formsFault; rw [if_neg h1, if_pos h2]
  have HBad : Hid (¬ fs.length = 0 → ¬ 6 < fs.length → ∀ (k : Nat) f, fs[k]? = some f → (∀ j, j < k → ∀ g, fs[j]? = some g → Fm.fault g = 0) → ¬ Fm.fault f = 0 → R = Fm.fault f) := fun h1 h2 k f hk hj hf => by
    have e := firstForm_at hk hj hf
    rw [hR]; unfold formsFault; rw [if_neg h1, if_neg h2, if_neg (by rw [e]; exact hf), e]
  have HEnd : Hid (¬ fs.length = 0 → ¬ 6 < fs.length → (∀ j, j < fs.length → ∀ g, fs[j]? = some g → Fm.fault g = 0) → R = if 0 ≤ u ∧ u ≤ 6 then 0 else 1) := fun h1 h2 hj => by
    have e : firstForm fs = 0 := firstForm_zero.2 fun f hf => by
      obtain ⟨i, hi⟩ := List.mem_iff_getElem?.1 hf
      exact hj i (List.getElem?_eq_some_iff.1 hi).1 f hi
    rw [hR]; unfold formsFault; rw [if_neg h1, if_neg h2, if_pos e]
  rw [← hR]
  obtain ⟨n, hn⟩ : ∃ n, n = fs.length := ⟨_, rfl⟩
  rw [← hn] at HF hl63 H0 H6 HBad HEnd ⊢
  have HN : Hid (n = fs.length) := hn
  clear hF hR hn hK
  by_cases hz : n = 0
  · have HR : Hid (R = 5) := H0.out hz
    subst hz
    go_enter Tryz.func77, Tryz.ntmps77
    go_wp2
    go_ret
    exact ⟨by first | (rw [HR.out]; done) | (rw [HR.out]; rfl), Below.refl _ _⟩
  · by_cases h6 : 6 < n
    · have HR : Hid (R = 4) := H6.out hz h6
      have dz : ((n : Int) == 0) = false := by simp; omega
      have h6' : (6 : Int) < (n : Int) := by omega
      go_enter Tryz.func77, Tryz.ntmps77
      go_wp2
      go_ret
      exact ⟨by first | (rw [HR.out]; done) | (rw [HR.out]; rfl), Below.refl _ _⟩
    · have dz : ((n : Int) == 0) = false := by simp; omega
      have h6' : (n : Int) ≤ 6 := by omega
      have HBad' : Hid (∀ (k : Nat) f, fs[k]? = some f → (∀ j, j < k → ∀ g, fs[j]? = some g → Fm.fault g = 0) → ¬ Fm.fault f = 0 → R = Fm.fault f) := HBad.out hz h6
      have HEnd' : Hid ((∀ j, j < n → ∀ g, fs[j]? = some g → Fm.fault g = 0) → R = if 0 ≤ u ∧ u ≤ 6 then 0 else 1) := HEnd.out hz h6
      have Hz : Hid (¬ n = 0) := hz
      clear hz h6 H0 H6 HBad HEnd
      go_enter Tryz.func77, Tryz.ntmps77
      go_wp2
      go_loopw [18] (fun i wr => ∃ k : Nat, k ≤ n ∧ i = .int .i64 k ∧ Below w.heap.size w wr ∧ ∀ j, j < k → ∀ g, fs[j]? = some g → Fm.fault g = 0) (fun i _ => n - (intOf i).toNat)
      case atStart => exact ⟨0, Nat.zero_le _, rfl, Below.refl _ _, fun j hj => by omega⟩
      case round =>
        obtain ⟨k, hk, rfl, hbr, hso⟩ := hrel
        have HBr : Hid (Below w.heap.size w wr) := hbr
        have HSo : Hid (∀ j, j < k → ∀ g, fs[j]? = some g → Fm.fault g = 0) := hso
        clear hbr hso
        by_cases hlt : k < n
        · obtain ⟨f, hf⟩ : ∃ f, fs[k]? = some f := ⟨_, List.getElem?_eq_getElem (by rw [← HN.out]; exact hlt)⟩
          have HFk : Hid (fs[k]? = some f) := hf
          obtain ⟨bL, oL, cL, hv⟩ := HF.out.place (by rw [← HN.out]; omega)
          obtain ⟨hlo, hx1, hx2⟩ := Value.slice.inj hv
          clear hx1 hx2
          subst hlo
          obtain ⟨hbL, va, vc, c0, c1, hA, hC⟩ := HF.out.at hf
          have HFc : Hid (∀ W, Below wr.heap.size wr W → Calls Tryz.prog 14 #[.agg #[va, vc]] W fun e w' => e = .returned (errV (Fm.fault f)) ∧ Below w.heap.size w w') := fun W hW => by
            have hb' := HBr.out.trans (hW.mono HBr.out.size)
            exact (HFm.out f va vc W hb' (hA.below hb') (hC.below hb')).mono fun e w' ⟨h1, h2⟩ => ⟨h1, hb'.trans (h2.mono hb'.size)⟩
          have x0 : wr.cell? ⟨bL, oL + k * 2, none⟩ = some va := (HBr.out.cell hbL).trans c0
          have x1 : wr.cell? ⟨bL, oL + k * 2 + 1, none⟩ = some vc := (HBr.out.cell hbL).trans c1
          obtain ⟨ao, acap, rfl, _⟩ := hA.slice
          obtain ⟨co, ccap, rfl, _⟩ := hC.slice
          obtain ⟨al, hal⟩ : ∃ x, x = f.ats.length := ⟨_, rfl⟩
          obtain ⟨cl, hcl⟩ : ∃ x, x = f.c.length := ⟨_, rfl⟩
          rw [← hal] at x0 HFc
          rw [← hcl] at x1 HFc
          obtain ⟨q, hq⟩ : ∃ q, q = Fm.fault f := ⟨_, rfl⟩
          have HQ : Hid (q = Fm.fault f) := hq
          rw [← hq] at HFc
          clear hf hv hbL c0 c1 hA hC hq hal hcl
          have hkn : (k : Int) < (n : Int) := by omega
          by_cases h0 : q = 0
          · have HFz : Hid (∀ W, Below wr.heap.size wr W → Calls Tryz.prog 14 #[.agg #[.slice ao al acap, .slice co cl ccap]] W fun e w' => e = .returned .nilIface ∧ Below w.heap.size w w') := by
              have h := HFc.out
              rw [h0] at h
              exact h
            have HQ0 : Hid (Fm.fault f = 0) := by unfold Hid; rw [← HQ.out, h0]
            clear h0 HFc HQ
            go_wp2_with fail
            go_at_call 14
            refine (HFz.out _ (by first | exact below_alloc1 _ _ | exact ((((Below.refl _ _).alloc (Nat.le_refl _) _).setCell (by simp) _).setCell (by simp) _))).mono ?_
            rintro e w8 ⟨rfl, hb8⟩
            have HB8 : Hid (Below w.heap.size w w8) := hb8
            clear hb8 x0 x1
            go_wp2
            go_roundw
            case rel =>
              refine ⟨k + 1, by omega, by go_num, HB8.out, fun j hj g hg => ?_⟩
              by_cases e : j = k
              · subst e
                obtain rfl : f = g := Option.some.inj (HFk.out.symm.trans hg)
                exact HQ0.out
              · exact HSo.out j (by omega) g hg
            case measure => simp [intOf]; omega
          · have HFz : Hid (∀ W, Below wr.heap.size wr W → Calls Tryz.prog 14 #[.agg #[.slice ao al acap, .slice co cl ccap]] W fun e w' => e = .returned (.iface 75 (.int .i64 q)) ∧ Below w.heap.size w w') := by
              have h := HFc.out
              rw [show errV q = .iface 75 (.int .i64 q) by unfold errV; rw [if_neg h0]] at h
              exact h
            have HR : Hid (errV R = .iface 75 (.int .i64 q)) := by
              unfold Hid
              rw [HBad'.out k f HFk.out HSo.out (by rw [← HQ.out]; exact h0), ← HQ.out]
              unfold errV; rw [if_neg h0]
            clear h0 HFc HQ
            go_wp2_with fail
            go_at_call 14
            refine (HFz.out _ (by first | exact below_alloc1 _ _ | exact ((((Below.refl _ _).alloc (Nat.le_refl _) _).setCell (by simp) _).setCell (by simp) _))).mono ?_
            rintro e w8 ⟨rfl, hb8⟩
            have HB8 : Hid (Below w.heap.size w w8) := hb8
            clear hb8 x0 x1
            go_wp2
            go_ret
            exact ⟨by first | (rw [HR.out]; done) | (rw [HR.out]; rfl), HB8.out⟩
        · obtain rfl : k = n := by omega
          have hE := HEnd'.out HSo.out
          by_cases hu : 0 ≤ u ∧ u ≤ 6
          · rw [if_pos hu] at hE
            have HR : Hid (R = 0) := hE
            have h : okB u 0 = true := ok_zero hu.1 hu.2
            have HC : Hid (∀ W, Calls Tryz.prog 24 #[.int .i64 u, .int .i64 0] W fun e w' => e = .returned .nilIface ∧ W = w') := fun W => check_ok _ _ h W
            clear hE hu h
            go_wp2_with fail
            go_at_call 24
            refine (HC.out _).mono ?_
            rintro e w' ⟨rfl, rfl⟩
            go_wp2
            go_ret
            exact ⟨by first | (rw [HR.out]; done) | (rw [HR.out]; rfl), HBr.out⟩
          · rw [if_neg hu] at hE
            have HR : Hid (R = 1) := hE
            have h : okB u 0 = false := okB_not.2 fun h => hu ⟨h.1, h.2.1⟩
            have HC : Hid (∀ W, Calls Tryz.prog 24 #[.int .i64 u, .int .i64 0] W fun e w' => e = .returned (.iface 75 (.int .i64 1)) ∧ W = w') := fun W => check_no _ _ h W
            clear hE hu h
            go_wp2_with fail
            go_at_call 24
            refine (HC.out _).mono ?_
            rintro e w' ⟨rfl, rfl⟩
            go_wp2
            go_ret
            exact ⟨by first | (rw [HR.out]; done) | (rw [HR.out]; rfl), HBr.out⟩

end Go.Proofs.YtjaedfjfcghgcabGreatDoor


namespace Go.Proofs.YtjaedfjfcghgcabGreatDoor
open Go.RowKit

theorem leftTo_mem {fs : List Fm} {g : Nat → Bool} {f : Fm} : ∀ k, k ≤ fs.length → (f ∈ leftTo fs g k ↔ ∃ j, j < k ∧ g j = false ∧ fs[j]? = some f) := by
  intro k
  induction k with
  | zero => intro _; exact ⟨fun h => by simp [leftTo] at h, fun ⟨j, h, _⟩ => by omega⟩
  | succ k ih =>
    intro hk
    unfold leftTo
    rw [List.mem_append, ih (by omega), List.getElem?_eq_getElem (show k < fs.length by omega)]
    constructor
    · rintro (⟨j, h1, h2, h3⟩ | h)
      · exact ⟨j, by omega, h2, h3⟩
      · cases hg : g k
        · rw [hg] at h
          simp at h
          exact ⟨k, by omega, hg, by rw [List.getElem?_eq_getElem (by omega), h]⟩
        · rw [hg] at h; simp at h
    · rintro ⟨j, h1, h2, h3⟩
      rcases Nat.lt_or_ge j k with h | h
      · exact Or.inl ⟨j, h, h2, h3⟩
      · obtain rfl : j = k := by omega
        right
        rw [h2]
        rw [List.getElem?_eq_getElem (by omega)] at h3
        simp at h3
        simp [h3]
/-- the formulas at the places of the core. -/
def coreF (fs : List Fm) (u : Nat) : List Fm := (coreTo fs u fs.length).map fun x => fs.getD x.toNat fmZ
end Go.Proofs.YtjaedfjfcghgcabGreatDoor


namespace Go.Proofs.YtjaedfjfcghgcabGreatDoor
open Go.RowKit

theorem or64 : ∀ k : Nat, k < 6 → ∀ m : Nat, m < 2 ^ k → bits .or .i64 (m : Int) (pw k) = (m : Int) + pw k := by decide +kernel
theorem and64 : ∀ n : Nat, n < 64 → ∀ m : Nat, m < 64 → bits .and .i64 (n : Int) (m : Int) = ((n &&& m : Nat) : Int) := by decide +kernel
theorem pw_nat (k : Nat) : pw k = ((2 ^ k : Nat) : Int) := by unfold pw; simp
theorem two_le {n : Nat} (h : n ≤ 6) : 2 ^ n ≤ 64 := Nat.le_trans (Nat.pow_le_pow_right (by decide) h : 2 ^ n ≤ 2 ^ 6) (by decide)

/-- bits, place by place. -/
theorem bits_at (L : Nat → Bool) {n : Nat} (hn : n ≤ 6) : ∃ m : Nat, maskTo L n = (m : Int) ∧ m < 64 ∧ ∀ f, m.testBit f = (decide (f < n) && L f) := by
  obtain ⟨m0, m1⟩ := maskTo_le L n
  obtain ⟨m, hm⟩ := Int.eq_ofNat_of_zero_le m0
  have hlt : m < 2 ^ n := by rw [hm, pw_nat] at m1; omega
  have h64 := two_le hn
  refine ⟨m, hm, by omega, fun f => ?_⟩
  by_cases hf : f < n
  · have h := has_mask L (show n ≤ 8 by omega) hf
    rw [hm] at h
    rw [decide_eq_true hf, Bool.true_and, ← h, Nat.testBit_eq_decide_div_mod_eq]
    unfold hasB
    apply decide_eq_decide.2
    have e : ((m : Int) / 2 ^ ((f : Int)).toNat % 2) = ((m / 2 ^ f % 2 : Nat) : Int) := by simp
    rw [e]
    omega
  · rw [decide_eq_false hf, Bool.false_and]
    exact Nat.testBit_lt_two_pow (Nat.lt_of_lt_of_le hlt (Nat.pow_le_pow_right (by decide) (Nat.le_of_not_lt hf)))
/-- all of them. -/
theorem mask_all : ∀ n, pw n - 1 = maskTo (fun _ => true) n := by
  intro n
  induction n with
  | zero => rfl
  | succ n ih =>
    have e : pw (n + 1) = pw n + pw n := by rw [pw_nat, pw_nat, Nat.pow_succ]; omega
    unfold maskTo
    rw [← ih, e]
    show _ = _ + 1 * pw n
    omega
/-- one more that holds. -/
theorem mask_or (L : Nat → Bool) {k : Nat} (hk : k < 6) (h : L k = true) : bits .or .i64 (maskTo L k) (pw k) = maskTo L (k + 1) := by
  obtain ⟨m0, m1⟩ := maskTo_le L k
  obtain ⟨m, hm⟩ := Int.eq_ofNat_of_zero_le m0
  have hlt : m < 2 ^ k := by rw [hm, pw_nat] at m1; omega
  show _ = maskTo L k + oneB (L k) * pw k
  rw [hm, or64 k hk m hlt, h]
  show _ = _ + 1 * pw k
  omega
theorem mask_not (L : Nat → Bool) {k : Nat} (h : L k = false) : maskTo L (k + 1) = maskTo L k := by
  show maskTo L k + oneB (L k) * pw k = _
  rw [h]
  show _ + 0 * pw k = _
  omega
/-- are all of some among them? -/
theorem mask_in (H L : Nat → Bool) {n : Nat} (hn : n ≤ 6) : (bits .and .i64 (maskTo H n) (maskTo L n) = maskTo L n) ↔ ∀ j, j < n → L j = true → H j = true := by
  obtain ⟨m, hm, hm64, hb⟩ := bits_at H hn
  obtain ⟨q, hq, hq64, hc⟩ := bits_at L hn
  rw [hm, hq, and64 m hm64 q hq64]
  have e : (((m &&& q : Nat) : Int) = (q : Int)) ↔ (m &&& q) = q := by omega
  rw [e]
  constructor
  · intro h j hj hl
    have := congrArg (fun x => Nat.testBit x j) h
    simp only [Nat.testBit_and, hb, hc, decide_eq_true hj, hl, Bool.true_and, Bool.and_true] at this
    exact this
  · intro h
    refine Nat.eq_of_testBit_eq fun f => ?_
    rw [Nat.testBit_and, hb, hc]
    by_cases hf : f < n
    · rw [decide_eq_true hf]
      cases hl : L f
      · simp
      · rw [h f hf hl]; rfl
    · rw [decide_eq_false hf]; simp

/-- does the j-th hold there? -/
def holdsAt (fs : List Fm) (D : Wd) (j : Nat) : Bool := match fs[j]? with | some f => D.formIs f.ats f.c | none => false
theorem holds_at {fs : List Fm} {D : Wd} {j : Nat} {f : Fm} (h : fs[j]? = some f) : holdsAt fs D j = D.formIs f.ats f.c := by unfold holdsAt; rw [h]
/-- world by world, which hold there. -/
def heldL (fs : List Fm) (u : Nat) : List Int := (everyC u).map fun N => maskTo (holdsAt fs (madeN N 8)) fs.length
/-- all of those that are not gone hold in one of the worlds, just if they are open. -/
theorem held_open {fs : List Fm} (h6 : fs.length ≤ 6) (u : Nat) (g : Nat → Bool) : ((heldL fs u).any fun h => decide (bits .and .i64 h (maskTo (fun k => !g k) fs.length) = maskTo (fun k => !g k) fs.length)) = openN (leftF fs g) u := by
  unfold heldL openN
  rw [List.any_map]
  congr 1
  funext N
  rw [Bool.eq_iff_iff]
  show decide _ = true ↔ _
  rw [decide_eq_true_iff, mask_in _ _ h6]
  unfold Wd.so
  rw [List.all_eq_true]
  constructor
  · intro h f hf
    obtain ⟨j, h1, h2, h3⟩ := (leftTo_mem fs.length (Nat.le_refl _)).1 hf
    have := h j h1 (by rw [h2]; rfl)
    rw [holds_at h3] at this
    exact this
  · intro h j hj hl
    have hf := List.getElem?_eq_getElem hj
    rw [holds_at hf]
    exact h _ ((leftTo_mem fs.length (Nat.le_refl _)).2 ⟨j, hj, by simpa using hl, hf⟩)
theorem left_all (fs : List Fm) (u : Nat) : openN (leftF fs fun _ => false) u = openN fs u := by
  rw [Bool.eq_iff_iff]
  constructor
  · exact open_less fun f hf => by
      obtain ⟨j, hj⟩ := List.mem_iff_getElem?.1 hf
      exact (leftTo_mem fs.length (Nat.le_refl _)).2 ⟨j, (List.getElem?_eq_some_iff.1 hj).1, rfl, hj⟩
  · exact open_less fun f hf => by
      obtain ⟨j, _, _, h3⟩ := (leftTo_mem fs.length (Nat.le_refl _)).1 hf
      exact List.mem_of_getElem? h3

/-- the places that bits stand for, of the first k. -/
def placesTo (L : Nat → Bool) : Nat → List Int
  | 0 => []
  | k + 1 => placesTo L k ++ (if L k = true then [(k : Int)] else [])
end Go.Proofs.YtjaedfjfcghgcabGreatDoor


namespace Go.Proofs.YtjaedfjfcghgcabGreatDoor
open Go.ChangeShapes Go.WideShapes Go.ChangeAt Go.RowKit
set_option maxRecDepth 100000

theorem infoBool : (Tryz.prog.info? 4).map (fun i => (i.zero, i.size, i.bytes)) = some (some (.bool false), 1, 1) := by kernel_rfl

/-- the slice v reads, in the world w, as these booleans. -/
def ReadsB (w : World) (b off : Nat) (hs : List Bool) : Prop := b < w.heap.size ∧ ∀ k, k < hs.length → w.cell? ⟨b, off + k, none⟩ = some (.bool (hs.getD k false))

end Go.Proofs.YtjaedfjfcghgcabGreatDoor


namespace Go.Proofs.YtjaedfjfcghgcabGreatDoor
open Go.ChangeShapes Go.WideShapes Go.ChangeAt Go.RowKit
set_option maxRecDepth 100000

theorem fmade_op (s : Int) (x y : Bool) (hs : s = 10 ∨ s = 11 ∨ s = 13) (B off cap : Nat) (vh : Value) (w : World) (c0 : w.cell? ⟨B, off, none⟩ = some (.bool x)) (c1 : w.cell? ⟨B, off + 1, none⟩ = some (.bool y)) (held : List Bool) :
    Calls Tryz.prog 147 #[.int .i64 s, .slice (some ⟨B, off, none⟩) 2 cap, vh] w fun e w' => e = .returned (.bool (madeF held s [x, y])) ∧ w = w' := by
  rcases hs with rfl | rfl | rfl
  · cases x
    all_goals
      go_enter Tryz.func147, Tryz.ntmps147
      go_wp2
      go_ret
      exact ⟨rfl, rfl⟩
  · cases x
    all_goals
      go_enter Tryz.func147, Tryz.ntmps147
      go_wp2
      go_ret
      exact ⟨rfl, rfl⟩
  · cases x
    all_goals
      go_enter Tryz.func147, Tryz.ntmps147
      go_wp2
      go_ret
      exact ⟨rfl, rfl⟩
theorem fmade_no (x : Bool) (B off cap : Nat) (vh : Value) (w : World) (c0 : w.cell? ⟨B, off, none⟩ = some (.bool x)) (held : List Bool) :
    Calls Tryz.prog 147 #[.int .i64 12, .slice (some ⟨B, off, none⟩) 1 cap, vh] w fun e w' => e = .returned (.bool (madeF held 12 [x])) ∧ w = w' := by
  go_enter Tryz.func147, Tryz.ntmps147
  go_wp2
  go_ret
  exact ⟨rfl, rfl⟩
theorem fmade_leaf (s : Int) (held : List Bool) (h0 : 0 ≤ s) (h1 : s < held.length) (h6 : held.length ≤ 6) (hb ho hcap : Nat) (v : Value) (w : World) (hR : ReadsB w hb ho held) :
    Calls Tryz.prog 147 #[.int .i64 s, v, .slice (some ⟨hb, ho, none⟩) held.length hcap] w fun e w' => e = .returned (.bool (madeF held s [])) ∧ w = w' := by
  obtain ⟨k, rfl⟩ := Int.eq_ofNat_of_zero_le h0
  have e : madeF held (k : Int) [] = held.getD k false := by rw [madeF_leaf held (takesF_low (by omega)) []]; simp
  rw [e]
  have hc := hR.2 k (by omega)
  obtain ⟨x, hx⟩ : ∃ x, x = held.getD k false := ⟨_, rfl⟩
  rw [← hx] at hc ⊢
  obtain ⟨m, hm⟩ : ∃ m, m = held.length := ⟨_, rfl⟩
  rw [← hm] at h1 h6 ⊢
  clear hx hm hR e
  have g0 : ((k : Int) == 10) = false := by simp; omega
  have g1 : ((k : Int) == 11) = false := by simp; omega
  have g2 : ((k : Int) == 13) = false := by simp; omega
  have g3 : ((k : Int) == 12) = false := by simp; omega
  have h0' : (0 : Int) ≤ (k : Int) := by omega
  go_enter Tryz.func147, Tryz.ntmps147
  go_wp2
  go_ret
  exact ⟨rfl, rfl⟩
end Go.Proofs.YtjaedfjfcghgcabGreatDoor


namespace Go.Proofs.YtjaedfjfcghgcabGreatDoor
open Go.ChangeShapes Go.WideShapes Go.ChangeAt Go.RowKit
set_option maxRecDepth 100000

theorem stepF_leaf (held p : List Bool) (s : Int) (h : takesF s = 0) : stepF held p s = p.take p.length ++ [madeF held s []] := by
  unfold stepF restF
  rw [h, madeF_leaf held h, madeF_leaf held h]; rfl
theorem stepF_one (held p : List Bool) (h : 1 ≤ p.length) : stepF held p 12 = p.take (p.length - 1) ++ [madeF held 12 [p.getD (p.length - 1) false]] := by
  unfold stepF restF
  have e : (p.drop (p.length - 1)) = [p.getD (p.length - 1) false] := by
    rw [List.drop_eq_getElem_cons (by omega), List.drop_eq_nil_of_le (by omega)]
    simp [List.getElem?_eq_getElem (show p.length - 1 < p.length by omega)]
  simp only [show takesF 12 = 1 from rfl, show (1 : Int).toNat = 1 from rfl, e]
theorem stepF_two (held p : List Bool) (s : Int) (ht : takesF s = 2) (h : 2 ≤ p.length) : stepF held p s = p.take (p.length - 2) ++ [madeF held s [p.getD (p.length - 2) false, p.getD (p.length - 2 + 1) false]] := by
  unfold stepF restF
  have e : (p.drop (p.length - 2)) = [p.getD (p.length - 2) false, p.getD (p.length - 2 + 1) false] := by
    rw [List.drop_eq_getElem_cons (by omega), List.drop_eq_getElem_cons (by omega), List.drop_eq_nil_of_le (by omega)]
    simp [List.getElem?_eq_getElem (show p.length - 2 < p.length by omega), List.getElem?_eq_getElem (show p.length - 2 + 1 < p.length by omega)]
  rw [ht]
  simp only [show (2 : Int).toNat = 2 from rfl, e]

theorem ownsRow_bool {w : World} {base : Nat} {e : TypeId} {g cap : Nat} {p : List Bool} (h : w.ownsRow base e 1 (.slice (some ⟨g, 0, none⟩) p.length cap) p.length (p.map Value.bool)) {j : Nat} (hj : j < p.length) : w.cell? ⟨g, j, none⟩ = some (.bool (p.getD j false)) := by
  rw [h.cellAt j (by omega)]
  simp [List.getElem?_eq_getElem hj]
/-- what a round leaves. -/
theorem fwork_rel {w1 wr w0 w2 : World} {K : Nat} {v v' : Value} {p q : List Bool} {r : Nat} {X : Bool} (hK : K ≤ wr.heap.size) (hb : Below K w1 wr) (h0 : Below wr.heap.size wr w0)
    (hown : w2.ownsRow K 4 1 v' (r + 1) (((p.take r).map Value.bool) ++ [.bool X])) (hv : ∀ k, v.ownBlock = some k → K ≤ k)
    (hg : w0.grownBy w2 v.ownBlock) (hr : r ≤ p.length) (hq : q = p.take r ++ [X]) :
    w2.ownsRow K 4 1 v' q.length (q.map Value.bool) ∧ Below K w1 w2 ∧ K ≤ w2.heap.size := by
  have hs : wr.heap.size ≤ w0.heap.size := h0.size
  have e1 : q.length = r + 1 := by rw [hq]; simp; omega
  have e2 : q.map Value.bool = ((p.take r).map Value.bool) ++ [.bool X] := by rw [hq]; simp
  have b1 : Below K w1 w0 := hb.trans (h0.mono hK)
  have b2 : Below K w1 w2 := b1.grown hg (by omega) hv
  refine ⟨by rw [e1, e2]; exact hown, b2, ?_⟩
  have := hg.size
  omega

set_option maxHeartbeats 4000000 in
theorem fwork_any (c : List Int) (B off cap : Nat) (held : List Bool) (hb ho hcap : Nat) (w : World) (hs : c.all (signF held.length) = true) (hone : cntF c 0 = some 1) (hl : c.length ≤ 20) (h6 : held.length ≤ 6) (hB : B < w.heap.size)
    (hc : ∀ k, k < c.length → w.cell? ⟨B, off + k, none⟩ = some (.int .i64 (c.getD k 0))) (hR : ReadsB w hb ho held) :
    Calls Tryz.prog 114 #[.slice (some ⟨B, off, none⟩) c.length cap, .slice (some ⟨hb, ho, none⟩) held.length hcap] w fun e w' => e = .returned (.bool (valF held c)) ∧ Below w.heap.size w w' := by
  obtain ⟨i0, hi, hz0, hz1, hz2⟩ := info_parts infoBool
  obtain ⟨K, hK⟩ : ∃ K, K = w.heap.size := ⟨_, rfl⟩
  have HK1 : Hid (w.heap.size = K) := hK.symm
  have HC : Hid (∀ k, k < c.length → w.cell? ⟨B, off + k, none⟩ = some (.int .i64 (c.getD k 0))) := hc
  have HBK : Hid (B < K) := by unfold Hid; omega
  have HRh : Hid (∀ W, Below K w W → ReadsB W hb ho held) := fun W hw => ⟨by have := hw.size; have := hR.1; omega, fun k hk => by rw [hw.cell (show (⟨hb, ho + k, none⟩ : Addr).block < K by have := hR.1; simp; omega)]; exact hR.2 k hk⟩
  rw [← hK]
  clear hc hB hK hR
  obtain ⟨n, hn⟩ : ∃ n, n = c.length := ⟨_, rfl⟩
  rw [← hn] at hl ⊢
  have HN : Hid (n = c.length) := hn
  clear hn
  have HL : Hid (∀ (s : Int) v W, 0 ≤ s → s < held.length → Below K w W → _) := fun s v W s0 s1 hw => fmade_leaf s held s0 s1 h6 hb ho hcap v W (HRh.out W hw)
  obtain ⟨m, hm⟩ : ∃ m, m = held.length := ⟨_, rfl⟩
  rw [← hm] at hs h6 HL ⊢
  clear hm HRh
  have HS : Hid (c.all (signF m) = true) := hs
  have HO : Hid (cntF c 0 = some 1) := hone
  clear hs hone
  obtain ⟨V, hV⟩ : ∃ V, V = valF held c := ⟨_, rfl⟩
  rw [← hV]
  have HV : Hid (V = valF held c) := hV
  clear hV
  go_enter Tryz.func114, Tryz.ntmps114
  go_wp2
  go_loopw [5, 11] (fun v i wr => ∃ (k : Nat) (p : List Bool), k ≤ n ∧ i = .int .i64 k ∧ wr.ownsRow K 4 1 v p.length (p.map Value.bool) ∧ Below K w wr ∧ K ≤ wr.heap.size ∧ p = pileF held (c.take k) [])
    (fun _ i _ => n - (intOf i).toNat)
  case atStart => exact ⟨0, [], Nat.zero_le _, rfl, World.ownsRow_nil _ _ _ _, Below.refl _ _, by rw [HK1.out]; exact Nat.le_refl _, rfl⟩
  case round =>
    obtain ⟨k, p, hk, rfl, hown0, hbel0, hKw0, hp0⟩ := hrel
    have hkt0 : cntF (c.take k) 0 = some (p.length : Int) := by
      obtain ⟨j, hj⟩ := cntF_take_some c k HO.out
      have := pileF_length held (c.take k) [] hj
      rw [← hp0] at this
      rw [this]; exact hj
    by_cases hlt : k < n
    · obtain ⟨s, hs⟩ : ∃ s, s = c.getD k 0 := ⟨_, rfl⟩
      have hkt : k < c.length := by rw [← HN.out]; exact hlt
      have hcell : wr.cell? ⟨B, off + k, none⟩ = some (.int .i64 s) := by rw [hs, hbel0.cell HBK.out]; exact HC.out k hkt
      have hsg : takesF s ≠ 0 ∨ (0 ≤ s ∧ s < m) := by
        refine signF_iff.1 (List.all_eq_true.1 HS.out s ?_)
        rw [hs, List.getD_eq_getElem?_getD, List.getElem?_eq_getElem hkt]; exact List.getElem_mem hkt
      have htk : takesF s ≤ p.length := by
        have h1 := cntF_take_succ c hkt hkt0
        rw [← hs] at h1
        obtain ⟨j, hj⟩ := cntF_take_some c (k + 1) HO.out
        by_cases h2 : (p.length : Int) < takesF s
        · rw [if_pos h2] at h1; rw [h1] at hj; cases hj
        · omega
      have HP : Hid (stepF held p s = pileF held (c.take (k + 1)) []) := by
        unfold Hid; rw [pileF_succ _ c [] hkt, ← hs, ← hp0]
      have hpl : p.length ≤ 20 := by
        have := (cntF_nonneg (Int.le_refl 0) hkt0).2
        simp at this; omega
      clear hs hkt hkt0 hp0
      have HBEL : Hid (Below K w wr) := hbel0
      have HKW : Hid (K ≤ wr.heap.size) := hKw0
      clear hbel0 hKw0
      by_cases h4 : takesF s = 0
      · have hsr : 0 ≤ s ∧ s < m := hsg.resolve_left (by simp [h4])
        have HM : Hid (∀ v W, Below wr.heap.size wr W → Calls Tryz.prog 147 #[.int .i64 s, v, .slice (some ⟨hb, ho, none⟩) m hcap] W fun e w' => e = .returned (.bool (madeF held s [])) ∧ W = w') := fun v W hW => HL.out s v W hsr.1 hsr.2 (HBEL.out.trans (hW.mono HKW.out))
        have HQ : Hid (stepF held p s = p.take p.length ++ [madeF held s []]) := stepF_leaf held p s h4
        have HT : Hid (∀ W, Calls Tryz.prog 22 #[.int .i64 s] W fun e w' => e = .returned (.int .i64 0) ∧ W = w') := fun W => by
          have := ftakes_any s W
          rw [h4] at this; exact this
        obtain ⟨X, hX⟩ : ∃ X, X = madeF held s [] := ⟨_, rfl⟩
        rw [← hX] at HM HQ
        clear hX htk hsg h4
        rcases hown0.2 with ⟨rfl, hp0⟩ | ⟨g, cap', cur, rfl, hg, hh, hm, hmax, _, _⟩
        · obtain rfl : p = [] := List.eq_nil_of_length_eq_zero hp0
          clear hown0 hp0
          go_wp2_with (go_at_call 22; refine (HT.out _).mono ?_; rintro e w' ⟨rfl, rfl⟩)
          go_region_held3 (fun _ => True) (trivial)
            (first
              | (go_at_call 147; refine (HM.out _ _ ((Below.refl _ wr).drew)).mono ?_; rintro e w' ⟨rfl, rfl⟩)
              | (refine step_append_lies _ (by rfl) _ _ _ (by rfl) K 4 i0 (.bool false) 1 1 Tryz.underlying115 hi hz0 hz1 hz2 rfl (by decide) (.slice none 0 0) 0 ([]) (by rfl) (World.ownsRow_nil _ _ _ _) ⟨wr.heap.size, 0, none⟩ 1 1 [.bool X] (by rfl) (by rfl) (World.news_of_block (cs := #[.bool X]) (t := 4) (fr := (0, 0)) (heap_alloc_new wr _)) (by simp [Value.oneCell']) (by omega) (by unfold maxLen; omega) (by omega) (by have := HKW.out; simp; omega) (wr.heap.size + 1) (by simp) ?_; intro gg cap1 w2 hown1 hgrow hat hlt1))
          have R := fwork_rel (q := pileF held (c.take (k + 1)) []) (p := []) (r := 0) HKW.out HBEL.out ((below_alloc1 wr _).drew) (hown1) (by intro k hk; cases hk) hgrow (Nat.zero_le _) (HP.out.symm.trans HQ.out)
          clear hown1 hgrow hat hlt1
          go_wp2
          go_roundw
          case rel => exact ⟨k + 1, _, by omega, by go_num, R.1, R.2.1, R.2.2, rfl⟩
          case measure => simp [intOf]; omega
        · obtain ⟨m', hm0⟩ : ∃ m', m' = p.length := ⟨_, rfl⟩
          have HOW : Hid (wr.ownsRow K 4 1 (.slice (some ⟨g, 0, none⟩) m' cap') m' (p.map Value.bool)) := by
            unfold Hid; rw [hm0]; exact hown0
          rw [← hm0] at HQ hm hpl ⊢
          have HM0 : Hid (m' = p.length) := hm0
          clear hown0 hm0 hh
          by_cases hcap : cap' = m'
          · subst hcap
            go_wp2_with (go_at_call 22; refine (HT.out _).mono ?_; rintro e w' ⟨rfl, rfl⟩)
            go_region_held3 (fun _ => True) (trivial)
              (first
                | (go_at_call 147; refine (HM.out _ _ ((Below.refl _ wr).drew)).mono ?_; rintro e w' ⟨rfl, rfl⟩)
                | (refine step_append_lies _ (by rfl) _ _ _ (by rfl) K 4 i0 (.bool false) 1 1 Tryz.underlying115 hi hz0 hz1 hz2 rfl (by decide) (.slice (some ⟨g, 0, none⟩) cap' cap') cap' ((p.map Value.bool).take cap') (by rfl) (((ownsRow_take HOW.out (by omega)).alloc _).drew) ⟨wr.heap.size, 0, none⟩ 1 1 [.bool X] (by rfl) (by rfl) (World.news_of_block (cs := #[.bool X]) (t := 4) (fr := (0, 0)) (heap_alloc_new wr _)) (by simp [Value.oneCell']) (by omega) (by unfold maxLen; omega) (by omega) (by have := HKW.out; simp; omega) (wr.heap.size + 1) (by simp) ?_; intro gg cap1 w2 hown1 hgrow hat hlt1))
            have R := fwork_rel (q := pileF held (c.take (k + 1)) []) (p := p) (r := cap') HKW.out HBEL.out ((below_alloc1 wr _).drew) (by rw [List.map_take]; exact hown1) (by intro k hk; cases hk; exact hg) hgrow (by have := HM0.out; omega) (HP.out.symm.trans HQ.out)
            clear hown1 hgrow hat hlt1
            go_wp2
            go_roundw
            case rel => exact ⟨k + 1, _, by omega, by go_num, R.1, R.2.1, R.2.2, rfl⟩
            case measure => simp [intOf]; omega
          · go_wp2_with (go_at_call 22; refine (HT.out _).mono ?_; rintro e w' ⟨rfl, rfl⟩)
            go_region_held3 (fun _ => True) (trivial)
              (first
                | (go_at_call 147; refine (HM.out _ _ ((Below.refl _ wr).drew)).mono ?_; rintro e w' ⟨rfl, rfl⟩)
                | (refine step_append_lies _ (by rfl) _ _ _ (by rfl) K 4 i0 (.bool false) 1 1 Tryz.underlying115 hi hz0 hz1 hz2 rfl (by decide) (.slice (some ⟨g, 0, none⟩) m' cap') m' ((p.map Value.bool).take m') (by rfl) (((ownsRow_take HOW.out (by omega)).alloc _).drew) ⟨wr.heap.size, 0, none⟩ 1 1 [.bool X] (by rfl) (by rfl) (World.news_of_block (cs := #[.bool X]) (t := 4) (fr := (0, 0)) (heap_alloc_new wr _)) (by simp [Value.oneCell']) (by omega) (by unfold maxLen; omega) (by omega) (by have := HKW.out; simp; omega) (wr.heap.size + 1) (by simp) ?_; intro gg cap1 w2 hown1 hgrow hat hlt1))
            have R := fwork_rel (q := pileF held (c.take (k + 1)) []) (p := p) (r := m') HKW.out HBEL.out ((below_alloc1 wr _).drew) (by rw [List.map_take]; exact hown1) (by intro k hk; cases hk; exact hg) hgrow (by have := HM0.out; omega) (HP.out.symm.trans HQ.out)
            clear hown1 hgrow hat hlt1
            go_wp2
            go_roundw
            case rel => exact ⟨k + 1, _, by omega, by go_num, R.1, R.2.1, R.2.2, rfl⟩
            case measure => simp [intOf]; omega
      by_cases h8 : s = 12
      · subst h8
        have htk1 : 1 ≤ p.length := by
          rw [show takesF 12 = 1 from rfl] at htk; omega
        have HT : Hid (∀ W, Calls Tryz.prog 22 #[.int .i64 12] W fun e w' => e = .returned (.int .i64 1) ∧ W = w') := fun W => ftakes_any 12 W
        rcases hown0.2 with ⟨rfl, hp0⟩ | ⟨g, cap', cur, rfl, hg, hh, hm, hmax, _, _⟩
        · omega
        · obtain ⟨r, hr⟩ : ∃ r, p.length = r + 1 := ⟨p.length - 1, by omega⟩
          have HM0 : Hid (p.length = r + 1) := hr
          have HOW : Hid (wr.ownsRow K 4 1 (.slice (some ⟨g, 0, none⟩) (r + 1) cap') (r + 1) (p.map Value.bool)) := by
            unfold Hid; rw [← hr]; exact hown0
          have hcx : Hid (∀ W, Below wr.heap.size wr W → W.cell? ⟨g, r, none⟩ = some (.bool (p.getD r false))) := fun W hb => by
            rw [hb.cell (ownsRow_block hown0).2.1]; exact ownsRow_bool hown0 (by omega)
          obtain ⟨x, hx⟩ : ∃ x, x = p.getD r false := ⟨_, rfl⟩
          rw [← hx] at hcx
          have HM : Hid (∀ W c' v, Below wr.heap.size wr W → _) := fun W c' v hb => fmade_no x g r c' v W (hcx.out W hb) held
          have HQ : Hid (stepF held p 12 = p.take r ++ [madeF held 12 [x]]) := by
            have := stepF_one held p (by omega)
            rw [hr, Nat.add_sub_cancel, ← hx] at this; exact this
          obtain ⟨X, hX⟩ : ∃ X, X = madeF held 12 [x] := ⟨_, rfl⟩
          rw [← hX] at HM HQ
          have hle : (r : Int) ≤ (r : Int) + 1 := by omega
          have hcap : ¬ cap' = r := by omega
          have hcap2 : r < cap' := by omega
          have hcap3 : (r : Int) ≤ (cap' : Int) := by omega
          have hr0 : (0 : Int) ≤ (r : Int) := by omega
          rw [hr] at hm hpl ⊢
          clear hX hx hcx hown0 hh hr htk htk1 h4 hsg
          go_wp2_with (go_at_call 22; refine (HT.out _).mono ?_; rintro e w' ⟨rfl, rfl⟩)
          go_region_held3 (fun _ => True) (trivial)
            (first
              | (go_at_call 147; refine (HM.out _ _ _ ((Below.refl _ wr).drew)).mono ?_; rintro e w' ⟨rfl, rfl⟩)
              | (refine step_append_lies _ (by rfl) _ _ _ (by rfl) K 4 i0 (.bool false) 1 1 Tryz.underlying115 hi hz0 hz1 hz2 rfl (by decide) (.slice (some ⟨g, 0, none⟩) r cap') r ((p.map Value.bool).take r) (by rfl) (((ownsRow_take HOW.out (by omega)).alloc _).drew) ⟨wr.heap.size, 0, none⟩ 1 1 [.bool X] (by rfl) (by rfl) (World.news_of_block (cs := #[.bool X]) (t := 4) (fr := (0, 0)) (heap_alloc_new wr _)) (by simp [Value.oneCell']) (by omega) (by unfold maxLen; omega) (by omega) (by have := HKW.out; simp; omega) (wr.heap.size + 1) (by simp) ?_; intro gg cap1 w2 hown1 hgrow hat hlt1))
          have R := fwork_rel (q := pileF held (c.take (k + 1)) []) (p := p) (r := r) HKW.out HBEL.out ((below_alloc1 wr _).drew) (by rw [List.map_take]; exact hown1) (by intro k hk; cases hk; exact hg) hgrow (by have := HM0.out; omega) (HP.out.symm.trans HQ.out)
          clear hown1 hgrow hat hlt1
          go_wp2
          go_roundw
          case rel => exact ⟨k + 1, _, by omega, by go_num, R.1, R.2.1, R.2.2, rfl⟩
          case measure => simp [intOf]; omega
      · have hs3 : s = 10 ∨ s = 11 ∨ s = 13 := by
          by_cases h3 : s = 10 ∨ s = 11 ∨ s = 13
          · exact h3
          · exact absurd (show takesF s = 0 by unfold takesF; rw [if_neg h3, if_neg h8]) h4
        have ht2 : takesF s = 2 := by unfold takesF; rw [if_pos hs3]
        rw [ht2] at htk
        have HT : Hid (∀ W, Calls Tryz.prog 22 #[.int .i64 s] W fun e w' => e = .returned (.int .i64 2) ∧ W = w') := fun W => by
          have := ftakes_any s W
          rw [ht2] at this; exact this
        rcases hown0.2 with ⟨rfl, hp0⟩ | ⟨g, cap', cur, rfl, hg, hh, hm, hmax, _, _⟩
        · omega
        · obtain ⟨r, hr⟩ : ∃ r, p.length = r + 2 := ⟨p.length - 2, by omega⟩
          have HM0 : Hid (p.length = r + 2) := hr
          have HOW : Hid (wr.ownsRow K 4 1 (.slice (some ⟨g, 0, none⟩) (r + 2) cap') (r + 2) (p.map Value.bool)) := by
            unfold Hid; rw [← hr]; exact hown0
          have hcx : Hid (∀ W, Below wr.heap.size wr W → W.cell? ⟨g, r, none⟩ = some (.bool (p.getD r false)) ∧ W.cell? ⟨g, r + 1, none⟩ = some (.bool (p.getD (r + 1) false))) := fun W hb => by
            refine ⟨?_, ?_⟩
            · rw [hb.cell (ownsRow_block hown0).2.1]; exact ownsRow_bool hown0 (by omega)
            · rw [hb.cell (ownsRow_block hown0).2.1]; exact ownsRow_bool hown0 (by omega)
          obtain ⟨x, hx⟩ : ∃ x, x = p.getD r false := ⟨_, rfl⟩
          obtain ⟨y, hy⟩ : ∃ y, y = p.getD (r + 1) false := ⟨_, rfl⟩
          rw [← hx, ← hy] at hcx
          have HM : Hid (∀ W c' v, Below wr.heap.size wr W → _) := fun W c' v hb => fmade_op s x y hs3 g r c' v W (hcx.out W hb).1 (hcx.out W hb).2 held
          have HQ : Hid (stepF held p s = p.take r ++ [madeF held s [x, y]]) := by
            have := stepF_two held p s ht2 (by omega)
            rw [hr, show r + 2 - 2 = r by omega, ← hx, ← hy] at this; exact this
          obtain ⟨X, hX⟩ : ∃ X, X = madeF held s [x, y] := ⟨_, rfl⟩
          rw [← hX] at HM HQ
          have hle : (r : Int) ≤ (r : Int) + 2 := by omega
          have hcap : ¬ cap' = r := by omega
          have hcap2 : r < cap' := by omega
          have hcap3 : (r : Int) ≤ (cap' : Int) := by omega
          have hr0 : (0 : Int) ≤ (r : Int) := by omega
          rw [hr] at hm hpl ⊢
          clear hX hx hy hcx hown0 hh hr htk h4 hsg h8 ht2 hs3
          go_wp2_with (go_at_call 22; refine (HT.out _).mono ?_; rintro e w' ⟨rfl, rfl⟩)
          go_region_held3 (fun _ => True) (trivial)
            (first
              | (go_at_call 147; refine (HM.out _ _ _ ((Below.refl _ wr).drew)).mono ?_; rintro e w' ⟨rfl, rfl⟩)
              | (refine step_append_lies _ (by rfl) _ _ _ (by rfl) K 4 i0 (.bool false) 1 1 Tryz.underlying115 hi hz0 hz1 hz2 rfl (by decide) (.slice (some ⟨g, 0, none⟩) r cap') r ((p.map Value.bool).take r) (by rfl) (((ownsRow_take HOW.out (by omega)).alloc _).drew) ⟨wr.heap.size, 0, none⟩ 1 1 [.bool X] (by rfl) (by rfl) (World.news_of_block (cs := #[.bool X]) (t := 4) (fr := (0, 0)) (heap_alloc_new wr _)) (by simp [Value.oneCell']) (by omega) (by unfold maxLen; omega) (by omega) (by have := HKW.out; simp; omega) (wr.heap.size + 1) (by simp) ?_; intro gg cap1 w2 hown1 hgrow hat hlt1))
          have R := fwork_rel (q := pileF held (c.take (k + 1)) []) (p := p) (r := r) HKW.out HBEL.out ((below_alloc1 wr _).drew) (by rw [List.map_take]; exact hown1) (by intro k hk; cases hk; exact hg) hgrow (by have := HM0.out; omega) (HP.out.symm.trans HQ.out)
          clear hown1 hgrow hat hlt1
          go_wp2
          go_roundw
          case rel => exact ⟨k + 1, _, by omega, by go_num, R.1, R.2.1, R.2.2, rfl⟩
          case measure => simp [intOf]; omega
    · have hpv : p = [V] := by
        rw [hp0, List.take_of_length_le (by have := HN.out; omega), pileF_one held HO.out, HV.out]; rfl
      subst hpv
      rcases hown0.2 with ⟨_, h0⟩ | ⟨g, cap', cur, rfl, hg, hh, hm, hmax, _, _⟩
      · simp at h0
      have hx : wr.cell? ⟨g, 0, none⟩ = some (.bool V) := ownsRow_bool hown0 (j := 0) (by simp)
      have HBEL : Hid (Below K w wr) := hbel0
      clear hown0 hbel0 hh hm hkt0 hp0
      simp only [List.length_singleton]
      go_wp2
      go_ret
      exact ⟨rfl, HBEL.out⟩
end Go.Proofs.YtjaedfjfcghgcabGreatDoor


namespace Go.Proofs.YtjaedfjfcghgcabGreatDoor
open Go.ChangeShapes Go.WideShapes Go.ChangeAt Go.RowKit

theorem ones64_any (x : Int) (h0 : 0 ≤ x) (h1 : x < 64) (w : World) :
    Calls Tryz.prog 195 #[.int .u64 x] w fun e w' => e = .returned (.int .i64 (pcN x)) ∧ w = w' := by
  go_enter Tryz.func195, Tryz.ntmps195
  go_wp2
  go_ret
  refine ⟨ret_int ?_, rfl⟩
  revert h1 h0
  intro h0 h1
  obtain ⟨n, rfl⟩ := Int.eq_ofNat_of_zero_le h0
  have h : n < 64 := by omega
  clear h0 h1
  revert n
  decide +kernel

theorem ones_any (x : Int) (h0 : 0 ≤ x) (h1 : x < 64) (w : World) :
    Calls Tryz.prog 166 #[.int .u64 x] w fun e w' => e = .returned (.int .i64 (pcN x)) ∧ w = w' := by
  go_enter Tryz.func166, Tryz.ntmps166
  go_wp2_with (go_at_call 195; refine (ones64_any _ h0 h1 _).mono ?_; rintro e w' ⟨rfl, rfl⟩)
  go_ret
  exact ⟨rfl, rfl⟩
end Go.Proofs.YtjaedfjfcghgcabGreatDoor

