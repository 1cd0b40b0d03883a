/-
  Proved: vennlaw1.FitLeast returns true, of any number of things, any rows, any row more and any counts, what was in memory is as it was (the walk that the statement leans on).
-/
import Derived.Test.YtedgbohobgnedadDoorFitLeastWalkZ
import Derived.Test.YtedgbohobgnedadDoorFitLeastWalkG
import Derived.Test.YtedgbohobgnedadDoorRowsFits
import Derived.Test.YtedgbohobgnedadDoorSame
import Derived.Test.YtedgbohobgnedadDoorFitFirst
namespace Go.Proofs.YtedgbohobgnedadDoor
open Go.ChangeShapes Go.WideShapes Go.ChangeAt Go.RowKit
set_option maxRecDepth 100000

theorem errV_ne {n : Int} (h : ¬ n = 0) : errV n = .iface 66 (.int .i64 n) := by unfold errV; rw [if_neg h]
theorem lerror_no (n : Int) (w : World) (hg : Laid w) : Calls Tryd.prog 11 #[.iface 66 (.int .i64 n), .int .i64 n] w fun e w' => e = .returned (.bool true) ∧ Below w.heap.size w w' := by
  have := same_err n n w hg
  rw [beq_self_eq_true] at this; exact this

theorem fitLeast_of (u : Int) (l : List Rw) (v : Value) (r : Rw) (N : Nat → Int) (w : World) (hR : ReadsR w v l) (hg : Laid w)
    (cMa : ∀ (u : Int) (l : List Rw) (v : Value) (W : World), ReadsR W v l → Calls Tryd.prog 20 #[.int .i64 u, v] W fun e w' => e = .returned (.tuple #[.int .i64 (fitManyN u l), errV (fitFault u l)]) ∧ Below W.heap.size W w')
    (cLe : ∀ (u : Int) (l : List Rw) (v : Value) (W : World), ReadsR W v l → Calls Tryd.prog 21 #[.int .i64 u, v] W fun e w' => e = .returned (.tuple #[.agg (arr8 (leastN u l)), errV (leastFault u l)]) ∧ Below W.heap.size W w') :
    Calls Tryd.prog 7 #[.int .i64 u, v, .agg #[.int .i64 (r.t 0), .int .i64 (r.t 1), .int .i64 (r.t 2), .int .i64 (r.t 3), .int .i64 (r.t 4), .int .i64 (r.t 5), .int .i64 (r.t 6), .int .i64 (r.t 7), .int .i64 r.m], .agg #[.int .i64 (N 0), .int .i64 (N 1), .int .i64 (N 2), .int .i64 (N 3), .int .i64 (N 4), .int .i64 (N 5), .int .i64 (N 6), .int .i64 (N 7)]] w fun e w' => e = .returned (.bool true) ∧ Below w.heap.size w w' := by
  have h2 : ∀ W, Below w.heap.size w W → Calls Tryd.prog 20 #[.int .i64 2, .slice none 0 0] W fun e w' => e = .returned (.tuple #[.int .i64 36, .nilIface]) ∧ Below W.heap.size W w' := fun W _ => by
    have h := cMa 2 [] (.slice none 0 0) W (Or.inl ⟨none, 0, rfl, rfl⟩)
    have e1 : fitManyN 2 [] = 36 := by
      have := many_nil (u := 2) (by omega)
      rw [everyC_two] at this
      exact this
    have e2 : fitFault 2 [] = 0 := by decide
    rw [e1, e2] at h
    exact h
  have hM : ∀ W, Below w.heap.size w W → Calls Tryd.prog 20 #[.int .i64 u, v] W fun e w' => e = .returned (.tuple #[.int .i64 (fitManyN u l), errV (fitFault u l)]) ∧ Below W.heap.size W w' := fun W hW => cMa u l v W (hR.below hW)
  have hL : ∀ W, Below w.heap.size w W → Calls Tryd.prog 21 #[.int .i64 u, v] W fun e w' => e = .returned (.tuple #[.agg (arr8 (leastN u l)), errV (leastFault u l)]) ∧ Below W.heap.size W w' := fun W hW => cLe u l v W (hR.below hW)
  have hE : ∀ W, Below w.heap.size w W → Calls Tryd.prog 11 #[.iface 66 (.int .i64 5), .int .i64 5] W fun e w' => e = .returned (.bool true) ∧ Below W.heap.size W w' := fun W hW => lerror_no 5 W (hg.below hW)
  have hF : ∀ (M : Nat → Int) W, Below w.heap.size w W → Calls Tryd.prog 15 #[v, .agg #[.int .i64 (M 0), .int .i64 (M 1), .int .i64 (M 2), .int .i64 (M 3), .int .i64 (M 4), .int .i64 (M 5), .int .i64 (M 6), .int .i64 (M 7)]] W fun e w' => e = .returned (.tuple #[.bool (fitsIs l M), errV (fitsFault l M)]) ∧ Below W.heap.size W w' := fun M W hW => rfits_any l v M W (hR.below hW)
  obtain ⟨lao, lcap, rfl, _⟩ := hR.slice
  by_cases hff : fitFault u l = 0
  · have hu : 0 ≤ u ∧ u ≤ 6 := by
      by_cases h : 0 ≤ u ∧ u ≤ 6
      · exact h
      · unfold fitFault at hff; rw [if_neg h] at hff; cases hff
    obtain ⟨n, rfl⟩ := Int.eq_ofNat_of_zero_le hu.1
    have hn : n ≤ 6 := by omega
    have hr : rowsFault l = 0 := by unfold fitFault at hff; rw [if_pos hu] at hff; exact hff
    have h12 : l.length ≤ 12 := by
      by_cases h : 12 < l.length
      · unfold rowsFault at hr; rw [if_pos h] at hr; cases hr
      · omega
    have em : fitManyN (n : Int) l = (manyD (everyC n) (fitB l) 0 : Int) := by unfold fitManyN; rw [if_pos hff, Int.toNat_natCast]
    have el : leastN (n : Int) l = leastD (everyC n) (fitB l) 0 := by unfold leastN; rw [if_pos hff, Int.toNat_natCast]
    have hn0 : fitFault (n : Int) [] = 0 := by unfold fitFault; rw [if_pos hu]; rfl
    have hMn : ∀ W, Below w.heap.size w W → Calls Tryd.prog 20 #[.int .i64 n, .slice none 0 0] W fun e w' => e = .returned (.tuple #[.int .i64 (fitManyN n []), .nilIface]) ∧ Below W.heap.size W w' := fun W _ => by
      have h := cMa n [] (.slice none 0 0) W (Or.inl ⟨none, 0, rfl, rfl⟩)
      rw [hn0] at h
      exact h
    have hka : fitManyN (n : Int) l ≤ fitManyN (n : Int) [] := by
      rw [em, many_nil hn]
      have := manyD_all (everyC n) (fitB l)
      omega
    have ef : ∀ M : Nat → Int, fitsFault l M = countsFault M := fun M => by unfold fitsFault; rw [if_pos hr]
    have ei : ∀ M : Nat → Int, countsFault M = 0 → fitsIs l M = fitB l M := fun M h => by unfold fitsIs; rw [ef, if_pos h]; rfl
    have ei' : ∀ M : Nat → Int, ¬ countsFault M = 0 → fitsIs l M = false := fun M h => by unfold fitsIs; rw [ef, if_neg h]
    have h3 : ∀ W v', Below w.heap.size w W → ReadsR W v' (l ++ [Rw.mk r.t r.m]) → Calls Tryd.prog 20 #[.int .i64 n, v'] W fun e w' => e = .returned (.tuple #[.int .i64 (fitManyN n (l ++ [r])), errV (fitFault n (l ++ [r]))]) ∧ Below W.heap.size W w' := fun W v' _ hv => cMa n _ v' W hv
    have hle : fitFault (n : Int) (l ++ [r]) = 0 → fitManyN (n : Int) (l ++ [r]) ≤ fitManyN (n : Int) l := fun h => by
      rw [em]
      unfold fitManyN
      rw [if_pos h, Int.toNat_natCast]
      have := manyD_append (everyC n) l [r] 0
      omega
    have hFn := hF N
    rw [ef] at hFn
    rw [hff] at hM
    rw [el] at hL
    by_cases hk : fitManyN (n : Int) l = 0
    · have elf : leastFault (n : Int) l = 5 := by unfold leastFault; rw [if_pos hff, if_pos hk]
      rw [elf] at hL
      have hk' : manyD (everyC n) (fitB l) 0 = 0 := by rw [em] at hk; omega
      have hN : countsFault N = 0 → sumN N 8 = n → fitB l N = false := fun hc hs => none_fits hk' (fun g hg => ((counts_zero.1 hc).1 g hg).1) hs
      by_cases h3f : fitFault (n : Int) (l ++ [r]) = 0
      · rw [h3f] at h3
        by_cases hc : countsFault N = 0
        · rw [hc, ei N hc] at hFn
          by_cases hs : sumN N 8 = n
          · exact fitLeast_ZoT n r.t r.m N l _ _ _ hka h12 _ hk (hle h3f) (counts_zero.1 hc).1 _ hs (hN hc hs) lao _ lcap w hR h2 hM hMn hL hE h3 hFn
          · exact fitLeast_ZoS n r.t r.m N l _ _ _ hka h12 _ hk (hle h3f) (counts_zero.1 hc).1 _ hs lao _ lcap w hR h2 hM hMn hL hE h3 hFn
        · rw [ei' N hc, errV_ne hc] at hFn
          exact fitLeast_ZoC n r.t r.m N l _ _ _ hka h12 _ hk (hle h3f) _ hc lao _ lcap w hR h2 hM hMn hL hE h3 hFn
      · rw [errV_ne h3f] at h3
        by_cases hc : countsFault N = 0
        · rw [hc, ei N hc] at hFn
          by_cases hs : sumN N 8 = n
          · exact fitLeast_ZxT n r.t r.m N l _ _ _ hka h12 _ hk _ h3f (counts_zero.1 hc).1 _ hs (hN hc hs) lao _ lcap w hR h2 hM hMn hL hE h3 hFn
          · exact fitLeast_ZxS n r.t r.m N l _ _ _ hka h12 _ hk _ h3f (counts_zero.1 hc).1 _ hs lao _ lcap w hR h2 hM hMn hL hE h3 hFn
        · rw [ei' N hc, errV_ne hc] at hFn
          exact fitLeast_ZxC n r.t r.m N l _ _ _ hka h12 _ hk _ h3f _ hc lao _ lcap w hR h2 hM hMn hL hE h3 hFn
    · have elf : leastFault (n : Int) l = 0 := by unfold leastFault; rw [if_pos hff, if_neg hk]
      rw [elf] at hL
      have hk' : ¬ manyD (everyC n) (fitB l) 0 = 0 := by rw [em] at hk; omega
      have hk0 : 0 < fitManyN (n : Int) l := by rw [em] at hk ⊢; omega
      obtain ⟨hmem, hfit⟩ := least_fits hk'
      have hLc := everyC_right hn hmem
      have hFx := hF (leastD (everyC n) (fitB l) 0)
      rw [ef, hLc, ei _ hLc, hfit] at hFx
      have hI1 : countsFault N = 0 → sumN N 8 = n → ∀ f, f < 8 → (∀ g, g < f → N g = leastD (everyC n) (fitB l) 0 g) → N f ≠ leastD (everyC n) (fitB l) 0 f → fitB l N = true → leastD (everyC n) (fitB l) 0 f < N f := fun hc hs f hf he hne hfi => least_first (fun g hg => ((counts_zero.1 hc).1 g hg).1) hs hfi hf he hne
      have hI2 : (∀ g, g < 8 → N g = leastD (everyC n) (fitB l) 0 g) → fitB l N = true := fun h => by rw [fitB_same h]; exact hfit
      by_cases h3f : fitFault (n : Int) (l ++ [r]) = 0
      · rw [h3f] at h3
        by_cases hc : countsFault N = 0
        · rw [hc, ei N hc] at hFn
          by_cases hs : sumN N 8 = n
          · exact fitLeast_GoT n r.t r.m N l _ _ _ hka h12 _ hk0 (hle h3f) (counts_zero.1 hc).1 _ hs (hI1 hc hs) hI2 lao _ lcap w hR h2 hM hMn hL h3 hFn hFx
          · exact fitLeast_GoS n r.t r.m N l _ _ _ hka h12 _ hk0 (hle h3f) (counts_zero.1 hc).1 _ hs lao _ lcap w hR h2 hM hMn hL h3 hFn
        · rw [ei' N hc, errV_ne hc] at hFn
          exact fitLeast_GoC n r.t r.m N l _ _ _ hka h12 _ hk0 (hle h3f) _ hc lao _ lcap w hR h2 hM hMn hL h3 hFn
      · rw [errV_ne h3f] at h3
        by_cases hc : countsFault N = 0
        · rw [hc, ei N hc] at hFn
          by_cases hs : sumN N 8 = n
          · exact fitLeast_GxT n r.t r.m N l _ _ _ hka h12 _ hk0 _ h3f (counts_zero.1 hc).1 _ hs (hI1 hc hs) hI2 lao _ lcap w hR h2 hM hMn hL h3 hFn hFx
          · exact fitLeast_GxS n r.t r.m N l _ _ _ hka h12 _ hk0 _ h3f (counts_zero.1 hc).1 _ hs lao _ lcap w hR h2 hM hMn hL h3 hFn
        · rw [ei' N hc, errV_ne hc] at hFn
          exact fitLeast_GxC n r.t r.m N l _ _ _ hka h12 _ hk0 _ h3f _ hc lao _ lcap w hR h2 hM hMn hL h3 hFn
  · have em : fitManyN u l = 0 := by unfold fitManyN; rw [if_neg hff]
    rw [em, errV_ne hff] at hM
    exact fitLeast_E u r.t r.m N l _ hff lao _ lcap w h2 hM
theorem fitLeast_walk (u : Int) (l : List Rw) (v : Value) (r : Rw) (N : Nat → Int) (w : World) (hR : ReadsR w v l) (hg : Laid w) :
    Calls Tryd.prog 7 #[.int .i64 u, v, .agg #[.int .i64 (r.t 0), .int .i64 (r.t 1), .int .i64 (r.t 2), .int .i64 (r.t 3), .int .i64 (r.t 4), .int .i64 (r.t 5), .int .i64 (r.t 6), .int .i64 (r.t 7), .int .i64 r.m], .agg #[.int .i64 (N 0), .int .i64 (N 1), .int .i64 (N 2), .int .i64 (N 3), .int .i64 (N 4), .int .i64 (N 5), .int .i64 (N 6), .int .i64 (N 7)]] w fun e w' => e = .returned (.bool true) ∧ Below w.heap.size w w' :=
  fitLeast_of u l v r N w hR hg many_any least_any
end Go.Proofs.YtedgbohobgnedadDoor
