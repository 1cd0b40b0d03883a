/-
  Proved: vennlaw1.FitTells returns true, of any number of things, any rows and any counts, what was in memory is as it was (the walk that the statement leans on).
-/
import Derived.Test.YtedgbohobgnedadDoorFitTellsWalkU
import Derived.Test.YtedgbohobgnedadDoorFitTellsWalkR
import Derived.Test.YtedgbohobgnedadDoorFitTellsWalkZ
import Derived.Test.YtedgbohobgnedadDoorFitTellsWalkG
import Derived.Test.YtedgbohobgnedadDoorRowsRefFits
import Derived.Test.YtedgbohobgnedadDoorFieldsRef
import Derived.Test.YtedgbohobgnedadDoorSame
import Derived.Test.YtedgbohobgnedadDoorFitFirst
import Derived.Test.YtedgbohobgnedadDoorFitNext
namespace Go.Proofs.YtedgbohobgnedadDoor
open Go.ChangeShapes Go.WideShapes Go.ChangeAt Go.RowKit
set_option maxRecDepth 100000

theorem errV_not {n : Int} (h : ¬ n = 0) : errV n = .iface 66 (.int .i64 n) := by unfold errV; rw [if_neg h]
theorem herror_nil (w : World) : Calls Tryd.prog 11 #[.nilIface, .int .i64 0] w fun e w' => e = .returned (.bool true) ∧ Below w.heap.size w w' :=
  (same_nil 0 w).mono fun _ _ h => ⟨h.1, by rw [← h.2]; exact Below.refl _ _⟩
theorem herror_no (n : Int) (w : World) (hg : Laid w) : Calls Tryd.prog 11 #[.iface 66 (.int .i64 n), .int .i64 n] w fun e w' => e = .returned (.bool true) ∧ Below w.heap.size w w' := by
  have := same_err n n w hg
  rw [beq_self_eq_true] at this; exact this

theorem fitTells_of (u : Int) (l : List Rw) (v : Value) (N : Nat → Int) (w : World) (hR : ReadsR w v l) (hg : Laid w)
    (cMa : ∀ W, Below w.heap.size w W → Calls Tryd.prog 20 #[.int .i64 u, v] W fun e w' => e = .returned (.tuple #[.int .i64 (fitManyN u l), errV (fitFault u l)]) ∧ Below W.heap.size W w')
    (cLe : ∀ W, Below w.heap.size w W → Calls Tryd.prog 21 #[.int .i64 u, v] W fun e w' => e = .returned (.tuple #[.agg (arr8 (leastN u l)), errV (leastFault u l)]) ∧ Below W.heap.size W w')
    (cNx : ∀ W, Below w.heap.size w W → Calls Tryd.prog 22 #[.int .i64 u, .agg #[.int .i64 (N 0), .int .i64 (N 1), .int .i64 (N 2), .int .i64 (N 3), .int .i64 (N 4), .int .i64 (N 5), .int .i64 (N 6), .int .i64 (N 7)]] W fun e w' => e = .returned (.tuple #[.agg (arr8 (nextN u N)), errV (nextFault u N)]) ∧ Below W.heap.size W w') :
    Calls Tryd.prog 6 #[.int .i64 u, v, .agg #[.int .i64 (N 0), .int .i64 (N 1), .int .i64 (N 2), .int .i64 (N 3), .int .i64 (N 4), .int .i64 (N 5), .int .i64 (N 6), .int .i64 (N 7)]] w fun e w' => e = .returned (.bool true) ∧ Below w.heap.size w w' := by
  have hRs : ∀ W, Below w.heap.size w W → Calls Tryd.prog 12 #[v] W fun e w' => e = .returned (.int .i64 (rowsFault l)) ∧ Below W.heap.size W w' := fun W hW => (refRows_any l v W (hR.below hW)).mono fun _ _ q => ⟨q.1, by rw [← q.2]; exact Below.refl _ _⟩
  have hCo : ∀ W, Below w.heap.size w W → Calls Tryd.prog 13 #[.agg #[.int .i64 (N 0), .int .i64 (N 1), .int .i64 (N 2), .int .i64 (N 3), .int .i64 (N 4), .int .i64 (N 5), .int .i64 (N 6), .int .i64 (N 7)]] W fun e w' => e = .returned (.int .i64 (countsFault N)) ∧ Below W.heap.size W w' := fun W _ => refCounts_any N W
  have hEn : ∀ W, Below w.heap.size w W → Calls Tryd.prog 11 #[.nilIface, .int .i64 0] W fun e w' => e = .returned (.bool true) ∧ Below W.heap.size W w' := fun W _ => herror_nil W
  have hEr : ∀ n W, Below w.heap.size w W → Calls Tryd.prog 11 #[.iface 66 (.int .i64 n), .int .i64 n] W fun e w' => e = .returned (.bool true) ∧ Below W.heap.size W w' := fun n W hW => herror_no n W (hg.below hW)
  have hFi : ∀ (M : Nat → Int) W, rowsFault l = 0 → countsFault M = 0 → Below w.heap.size w W → Calls Tryd.prog 14 #[v, .agg #[.int .i64 (M 0), .int .i64 (M 1), .int .i64 (M 2), .int .i64 (M 3), .int .i64 (M 4), .int .i64 (M 5), .int .i64 (M 6), .int .i64 (M 7)]] W fun e w' => e = .returned (.bool (fitB l M)) ∧ Below W.heap.size W w' := fun M W hr hc hW => by
    have ef : fitsFault l M = 0 := by unfold fitsFault; rw [if_pos hr, hc]
    have h := refFits_right l v M W (hR.below hW) ef
    have e : fitsIs l M = fitB l M := by unfold fitsIs; rw [if_pos ef]; rfl
    rw [e] at h
    exact h
  obtain ⟨lao, lcap, rfl, _⟩ := hR.slice
  by_cases hu : 0 ≤ u ∧ u ≤ 6
  · obtain ⟨n, rfl⟩ := Int.eq_ofNat_of_zero_le hu.1
    have hn : n ≤ 6 := by omega
    have hAl : ∀ W, Below w.heap.size w W → Calls Tryd.prog 19 #[.int .i64 n] W fun e w' => ∃ v, e = .returned v ∧ Reads8 w' v (everyC n) ∧ (∀ g, v.ownBlock = some g → W.heap.size ≤ g) ∧ Below W.heap.size W w' := fun W _ => refAll_any n hn W
    have hL := length_everyC hn
    have hL0 := everyC_pos n
    have eff : fitFault (n : Int) l = rowsFault l := by unfold fitFault; rw [if_pos hu]
    have nx1 : ¬ countsFault N = 0 → nextFault (n : Int) N = countsFault N := fun h => by unfold nextFault; rw [if_pos hu, if_neg h]
    have nx2 : countsFault N = 0 → ¬ sumN N 8 = n → nextFault (n : Int) N = 3 := fun h h' => by unfold nextFault; rw [if_pos hu, if_pos h, if_neg h']
    have nxz : ¬ nextFault (n : Int) N = 0 → nextN (n : Int) N = fun _ => 0 := fun h => by unfold nextN; rw [if_neg h]; rfl
    have nxo : nextTo (everyC n) (fun M => eqB M N) ((everyC n).length - 1) = nextO (n : Int) N := by unfold nextO; rw [Int.toNat_natCast]; rfl
    have nx3 : countsFault N = 0 → sumN N 8 = n → nextO (n : Int) N = none → nextFault (n : Int) N = 5 := fun h h' ho => by unfold nextFault; rw [if_pos hu, if_pos h, if_pos h', ho]; rfl
    have nx4 : ∀ X, countsFault N = 0 → sumN N 8 = n → nextO (n : Int) N = some X → nextFault (n : Int) N = 0 ∧ nextN (n : Int) N = X := fun X h h' ho => by
      have e : nextFault (n : Int) N = 0 := by unfold nextFault; rw [if_pos hu, if_pos h, if_pos h', ho]; rfl
      exact ⟨e, by unfold nextN; rw [if_pos e, ho]; rfl⟩
    rw [eff] at cMa
    by_cases hr : rowsFault l = 0
    · have em : fitManyN (n : Int) l = (manyD (everyC n) (fitB l) 0 : Int) := by unfold fitManyN; rw [eff, if_pos hr, Int.toNat_natCast]
      have el : leastN (n : Int) l = leastD (everyC n) (fitB l) 0 := by unfold leastN; rw [eff, if_pos hr, Int.toNat_natCast]
      have hFi' : ∀ W (M : Nat → Int), Below w.heap.size w W → M ∈ everyC n → Calls Tryd.prog 14 #[.slice lao l.length lcap, .agg #[.int .i64 (M 0), .int .i64 (M 1), .int .i64 (M 2), .int .i64 (M 3), .int .i64 (M 4), .int .i64 (M 5), .int .i64 (M 6), .int .i64 (M 7)]] W fun e w' => e = .returned (.bool (fitB l M)) ∧ Below W.heap.size W w' := fun W M hW hM => hFi M W hr (everyC_right hn hM) hW
      rw [hr] at cMa
      simp only [hr] at hRs
      rw [el] at cLe
      by_cases hm : fitManyN (n : Int) l = 0
      · have ef : leastFault (n : Int) l = 5 := by unfold leastFault; rw [eff, if_pos hr, if_pos hm]
        rw [ef] at cLe
        by_cases hc : countsFault N = 0
        · simp only [hc] at hCo
          by_cases hs : sumN N 8 = n
          · cases ho : nextO (n : Int) N with
            | none =>
              have e := nx3 hc hs ho
              rw [e, nxz (by rw [e]; decide)] at cNx
              exact fitTells_ZN n hn N (everyC n) (fitB l) _ _ hL hL0 rfl em.symm hm (nxo.trans ho) (counts_zero.1 hc).1 hs _ rfl lao _ lcap w hAl hRs hFi' cMa cLe cNx hCo hEn hEr
            | some X =>
              obtain ⟨e, e'⟩ := nx4 X hc hs ho
              rw [e, e'] at cNx
              exact fitTells_ZX n hn N (everyC n) (fitB l) _ _ hL hL0 rfl em.symm hm X (nxo.trans ho) (counts_zero.1 hc).1 hs _ rfl lao _ lcap w hAl hRs hFi' cMa cLe cNx hCo hEn hEr
          · have e := nx2 hc hs
            rw [e, nxz (by rw [e]; decide)] at cNx
            exact fitTells_ZS n hn N (everyC n) (fitB l) _ _ hL hL0 rfl em.symm hm (counts_zero.1 hc).1 hs _ rfl lao _ lcap w hAl hRs hFi' cMa cLe cNx hCo hEn hEr
        · have e := nx1 hc
          rw [e, errV_not hc, nxz (by rw [e]; exact hc)] at cNx
          exact fitTells_ZC n hn N (everyC n) (fitB l) _ _ hL hL0 rfl em.symm hm _ hc _ rfl lao _ lcap w hAl hRs hFi' cMa cLe cNx hCo hEn hEr
      · have ef : leastFault (n : Int) l = 0 := by unfold leastFault; rw [eff, if_pos hr, if_neg hm]
        rw [ef] at cLe
        by_cases hc : countsFault N = 0
        · simp only [hc] at hCo
          by_cases hs : sumN N 8 = n
          · cases ho : nextO (n : Int) N with
            | none =>
              have e := nx3 hc hs ho
              rw [e, nxz (by rw [e]; decide)] at cNx
              exact fitTells_GN n hn N (everyC n) (fitB l) _ _ hL hL0 rfl em.symm hm (nxo.trans ho) (counts_zero.1 hc).1 hs _ rfl lao _ lcap w hAl hRs hFi' cMa cLe cNx hCo hEn hEr
            | some X =>
              obtain ⟨e, e'⟩ := nx4 X hc hs ho
              rw [e, e'] at cNx
              exact fitTells_GX n hn N (everyC n) (fitB l) _ _ hL hL0 rfl em.symm hm X (nxo.trans ho) (counts_zero.1 hc).1 hs _ rfl lao _ lcap w hAl hRs hFi' cMa cLe cNx hCo hEn hEr
          · have e := nx2 hc hs
            rw [e, nxz (by rw [e]; decide)] at cNx
            exact fitTells_GS n hn N (everyC n) (fitB l) _ _ hL hL0 rfl em.symm hm (counts_zero.1 hc).1 hs _ rfl lao _ lcap w hAl hRs hFi' cMa cLe cNx hCo hEn hEr
        · have e := nx1 hc
          rw [e, errV_not hc, nxz (by rw [e]; exact hc)] at cNx
          exact fitTells_GC n hn N (everyC n) (fitB l) _ _ hL hL0 rfl em.symm hm _ hc _ rfl lao _ lcap w hAl hRs hFi' cMa cLe cNx hCo hEn hEr
    · have em : fitManyN (n : Int) l = 0 := by unfold fitManyN; rw [eff, if_neg hr]
      have el : leastN (n : Int) l = fun _ => 0 := by unfold leastN; rw [eff, if_neg hr]; rfl
      have ef : leastFault (n : Int) l = rowsFault l := by unfold leastFault; rw [eff, if_neg hr]
      rw [em, errV_not hr] at cMa
      rw [el, ef, errV_not hr] at cLe
      by_cases hc : countsFault N = 0
      · simp only [hc] at hCo
        by_cases hs : sumN N 8 = n
        · cases ho : nextO (n : Int) N with
          | none =>
            have e := nx3 hc hs ho
            rw [e, nxz (by rw [e]; decide)] at cNx
            exact fitTells_RN n hn N _ hr (everyC n) hL hL0 (nxo.trans ho) (counts_zero.1 hc).1 hs _ rfl lao _ lcap w hAl hRs cMa cLe cNx hCo hEn hEr
          | some X =>
            obtain ⟨e, e'⟩ := nx4 X hc hs ho
            rw [e, e'] at cNx
            exact fitTells_RX n hn N _ hr (everyC n) hL hL0 X (nxo.trans ho) (counts_zero.1 hc).1 hs _ rfl lao _ lcap w hAl hRs cMa cLe cNx hCo hEn hEr
        · have e := nx2 hc hs
          rw [e, nxz (by rw [e]; decide)] at cNx
          exact fitTells_RS n hn N _ hr (counts_zero.1 hc).1 hs _ rfl lao _ lcap w hRs cMa cLe cNx hCo hEn hEr
      · have e := nx1 hc
        rw [e, errV_not hc, nxz (by rw [e]; exact hc)] at cNx
        exact fitTells_RC n hn N _ hr _ hc _ rfl lao _ lcap w hRs cMa cLe cNx hCo hEn hEr
  · have ef : fitFault u l = 1 := by unfold fitFault; rw [if_neg hu]
    have em : fitManyN u l = 0 := by unfold fitManyN; rw [ef]; rfl
    have el : leastN u l = fun _ => 0 := by unfold leastN; rw [ef]; rfl
    have elf : leastFault u l = 1 := by unfold leastFault; rw [ef]; rfl
    have enf : nextFault u N = 1 := by unfold nextFault; rw [if_neg hu]
    have en : nextN u N = fun _ => 0 := by unfold nextN; rw [enf]; rfl
    rw [em, ef] at cMa
    rw [el, elf] at cLe
    rw [en, enf] at cNx
    by_cases h0 : u < 0
    · exact fitTells_L u h0 N _ rfl lao _ lcap w cMa cLe cNx hEn hEr
    · exact fitTells_H u (by omega) N _ rfl lao _ lcap w cMa cLe cNx hEn hEr
theorem fitTells_walk (u : Int) (l : List Rw) (v : Value) (N : Nat → Int) (w : World) (hR : ReadsR w v l) (hg : Laid w) :
    Calls Tryd.prog 6 #[.int .i64 u, v, .agg #[.int .i64 (N 0), .int .i64 (N 1), .int .i64 (N 2), .int .i64 (N 3), .int .i64 (N 4), .int .i64 (N 5), .int .i64 (N 6), .int .i64 (N 7)]] w fun e w' => e = .returned (.bool true) ∧ Below w.heap.size w w' :=
  fitTells_of u l v N w hR hg (fun W hW => many_any u l v W (hR.below hW)) (fun W hW => least_any u l v W (hR.below hW)) (fun W _ => next_any u N W)
end Go.Proofs.YtedgbohobgnedadDoor
