/-
  Proved: vennlaw2.CoreEnough returns true, of any formulas, any number of things and any world, where core's functions answer as chapter 13 says; what was in memory is as it was (the walk that the statement leans on).
-/
import Derived.Test.YtjaedfjfcghgcaaDoorCoreEnoughWalkJ
import Derived.Test.YtjaedfjfcghgcaaDoorLibA16
import Derived.Test.YtjaedfjfcghgcaaDoorLibA17
namespace Go.Proofs.YtjaedfjfcghgcaaDoor
open Go.ChangeShapes Go.WideShapes Go.ChangeAt Go.RowKit
set_option maxRecDepth 100000

theorem err_eight (n : Int) (w : World) (hg : Laid w) : Calls Tryd.prog 12 #[errV n, .int .i64 8] w fun e w' => e = .returned (.bool (decide (n = 8))) ∧ Below w.heap.size w w' := by
  by_cases h : n = 0
  · subst h
    exact (same_nil 8 w).mono fun _ _ h => ⟨h.1, by rw [← h.2]; exact Below.refl _ _⟩
  · rw [errV_no h]
    have := same_err n 8 w hg
    rw [show (n == 8) = decide (n = 8) from rfl] at this; exact this
theorem formIs_zero {w : Wd} {ats : List At} {c : List Int} (h : w.formIs ats c = true) : w.ok = true := by
  unfold Wd.formIs at h
  by_cases h0 : w.formFault ats c = 0
  · exact (wdForm_zero.1 h0).2
  · rw [if_neg h0] at h; exact absurd h (by decide)
theorem core_len {fs : List Fm} {u : Nat} : (coreTo fs u fs.length).length ≤ fs.length := by
  have key : ∀ i, (coreTo fs u i).length ≤ i := by
    intro i
    induction i with
    | zero => exact Nat.le_refl _
    | succ i ih =>
      rw [coreTo_succ]
      split
      · simp; omega
      · omega
  exact key _

theorem coreEnough_of (v : Value) (fs : List Fm) (u wu wa wb wc : Int) (w : World) (hF : ReadsF w v fs) (hg : Laid w) (hK : KindsLaid w)
    (cOp : ∀ (v : Value) (fs : List Fm) (u : Int) (W : World), Below w.heap.size w W → ReadsF W v fs → Calls Tryd.prog 11 #[v, .int .i64 u] W fun e w' => e = .returned (.tuple #[.bool (openB fs u), errV (formsFault fs u)]) ∧ Below W.heap.size W w')
    (cCo : ∀ (v : Value) (fs : List Fm) (u : Int) (W : World), Below w.heap.size w W → ReadsF W v fs → Calls Tryd.prog 14 #[v, .int .i64 u] W fun e w' => (∃ x, e = .returned (.tuple #[x, errV (coreFault fs u)]) ∧ Reads w' x (coreL fs u)) ∧ Below W.heap.size W w') :
    Calls Tryd.prog 4 #[v, .int .i64 u, .agg #[.int .i64 wu, .int .i64 wa, .int .i64 wb, .int .i64 wc]] w fun e w' => e = .returned (.bool true) ∧ Below w.heap.size w w' := by
  obtain ⟨D, hD⟩ : ∃ D, D = Wd.mk wu wa wb wc := ⟨_, rfl⟩
  obtain ⟨rfl, rfl, rfl, rfl⟩ : wu = D.u ∧ wa = D.a ∧ wb = D.b ∧ wc = D.c := by rw [hD]; exact ⟨rfl, rfl, rfl, rfl⟩
  have hOp := fun W hW => cOp v fs u W hW (hF.below hW)
  have hCo := fun W hW => cCo v fs u W hW (hF.below hW)
  have hopen : ∀ gs : List Fm, formsFault gs u = 0 → openB gs u = openN gs u.toNat := fun gs h => by unfold openB; rw [if_pos h]
  obtain ⟨lo, lcap, rfl, _⟩ := hF.slice
  have hcore : formsFault fs u = 0 → openB fs u = false → coreFault fs u = 0 ∧ coreL fs u = coreTo fs u.toNat fs.length := fun h0 hO => by
    have e : coreFault fs u = 0 := by unfold coreFault; rw [if_pos h0, if_neg (by rw [hO]; decide)]
    exact ⟨e, by unfold coreL; rw [if_pos e]⟩
  have hgood : formsFault fs u = 0 → openB fs u = false → (1 ≤ (coreF fs u.toNat).length ∧ (coreF fs u.toNat).length ≤ 6) ∧ ∀ f ∈ coreF fs u.toNat, f.fault = 0 := fun h0 hO => by
    obtain ⟨h1, h2, h3⟩ := forms_zero.1 h0
    have hcl : openN fs u.toNat = false := by rw [← hopen fs h0]; exact hO
    have hs := core_some hcl
    have hl : (coreF fs u.toNat).length ≤ fs.length := by unfold coreF; rw [List.length_map]; exact core_len
    refine ⟨⟨hs, by omega⟩, fun f hf => ?_⟩
    unfold coreF at hf
    obtain ⟨x, hx, rfl⟩ := List.mem_map.1 hf
    obtain ⟨k, hk⟩ := List.mem_iff_getElem?.1 hx
    obtain ⟨j, _, _, _, hj⟩ := coreF_in hk
    exact h2 _ (List.mem_of_getElem? hj)
  refine coreEnough_in lo lcap fs (coreF fs u.toNat) (coreL fs u) u D (formsFault fs u) (openB fs u) w hF (fun h => (forms_zero.1 h).1) (fun W v' hW hR => ?_) hOp (fun j f va vc _ W hW h1 h2 => ?_) (fun h0 hu hall => ?_) (fun h0 W hW => ?_) (fun n W hW => err_eight n W (hg.below hW)) (fun hO W v' hW hR => ?_) (fun h0 hO => ?_) (fun h0 hO W v' hW hR => ?_) (fun h0 hO W v' k hk hp hW hR => ?_)
  · obtain ⟨e1, e2⟩ := enough_fact
    refine (cCo v' _ 2 W hW hR).mono ?_
    rintro e w' ⟨⟨x, rfl, hr⟩, hb⟩
    rw [e2] at hr
    rw [e1]
    rcases hr with ⟨_, _, _, h⟩ | ⟨b, off, cap, rfl, _, _, _, hc⟩
    · exact absurd h (by decide)
    · exact ⟨⟨b, off, cap, rfl, hc 0 (by decide), hc 1 (by decide)⟩, hb⟩
  · exact fholds_any va vc f.ats f.c D.u D.a D.b D.c W h1 h2 (hK.below hW)
  · obtain ⟨h1, h2, h3⟩ := forms_zero.1 h0
    rw [hopen fs h0]
    have hf0 : fs[0]? = some fs[0] := List.getElem?_eq_getElem (by omega)
    have hok := formIs_zero (hall 0 (by omega) _ hf0)
    refine open_of hok hu ?_
    unfold Wd.so
    rw [List.all_eq_true]
    intro f hf
    obtain ⟨j, hj⟩ := List.mem_iff_getElem?.1 hf
    exact hall j (List.getElem?_eq_some_iff.1 hj).1 f hj
  · refine (hCo W hW).mono ?_
    rintro e w' ⟨⟨x, rfl, hr⟩, hb⟩
    obtain ⟨vo, vc, rfl⟩ : ∃ vo vc, x = .slice vo (coreL fs u).length vc := by
      rcases hr with ⟨ao, cap, rfl, h0⟩ | ⟨b, off, cap, rfl, _⟩
      · exact ⟨ao, cap, by rw [h0]; rfl⟩
      · exact ⟨_, cap, rfl⟩
    have e : coreFault fs u = if openB fs u = true then 8 else 0 := by unfold coreFault; rw [if_pos h0]
    exact ⟨⟨vo, _, vc, by rw [e], fun _ => hr⟩, hb⟩
  · have h0 : formsFault fs u = 0 := by
      by_cases h0 : formsFault fs u = 0
      · exact h0
      · unfold openB at hO; rw [if_neg h0] at hO; exact absurd hO (by decide)
    obtain ⟨h1, h2, h3⟩ := forms_zero.1 h0
    have hz : formsFault (fs.take 1) u = 0 := forms_zero.2 ⟨by rw [List.length_take]; omega, fun f hf => h2 f (List.mem_of_mem_take hf), h3⟩
    have ho : openB (fs.take 1) u = true := by
      rw [hopen _ hz]
      rw [hopen _ h0] at hO
      exact open_less (fun f hf => List.mem_of_mem_take hf) hO
    have h := cOp v' (fs.take 1) u W hW hR
    rw [hz, ho] at h
    exact h
  · obtain ⟨_, ec⟩ := hcore h0 hO
    obtain ⟨⟨g1, g2⟩, _⟩ := hgood h0 hO
    have el : (coreF fs u.toNat).length = (coreL fs u).length := by rw [ec]; unfold coreF; rw [List.length_map]
    refine ⟨el, by omega, by omega, fun k x hx => ⟨?_, fun y hk hy => ?_⟩⟩
    · rw [ec] at hx
      obtain ⟨j, hj, rfl, _, hfj⟩ := coreF_in hx
      refine ⟨j, _, rfl, hj, hfj, ?_⟩
      unfold coreF
      rw [List.getElem?_map, hx]; rfl
    · rw [ec] at hx hy
      have hp := (core_mem (fs := fs) (u := u.toNat) fs.length (Nat.le_refl _)).1
      obtain ⟨a1, a2⟩ := List.getElem?_eq_some_iff.1 hx
      obtain ⟨b1, b2⟩ := List.getElem?_eq_some_iff.1 hy
      have := List.pairwise_iff_getElem.1 hp (k - 1) k b1 a1 (by omega)
      rw [a2, b2] at this
      exact this
  · obtain ⟨h1, h2, h3⟩ := forms_zero.1 h0
    obtain ⟨g1, g2⟩ := hgood h0 hO
    have hz : formsFault (coreF fs u.toNat) u = 0 := forms_zero.2 ⟨g1, g2, h3⟩
    have ho : openB (coreF fs u.toNat) u = false := by
      rw [hopen _ hz]
      exact core_closed (by rw [← hopen fs h0]; exact hO)
    have h := cOp v' _ u W hW hR
    rw [hz, ho] at h
    exact h
  · obtain ⟨h1, h2, h3⟩ := forms_zero.1 h0
    obtain ⟨g1, g2⟩ := hgood h0 hO
    have hz : formsFault ((coreF fs u.toNat).take k ++ (coreF fs u.toNat).drop (k + 1)) u = 0 := by
      refine forms_zero.2 ⟨⟨hp, ?_⟩, fun f hf => ?_, h3⟩
      · rw [List.length_append, List.length_take, List.length_drop]; omega
      · rcases List.mem_append.1 hf with hf | hf
        · exact g2 f (List.mem_of_mem_take hf)
        · exact g2 f (List.mem_of_mem_drop hf)
    have ho : openB ((coreF fs u.toNat).take k ++ (coreF fs u.toNat).drop (k + 1)) u = true := by
      rw [hopen _ hz]
      exact core_without hk
    have h := cOp v' _ u W hW hR
    rw [hz, ho] at h
    exact h
end Go.Proofs.YtjaedfjfcghgcaaDoor
