/-
  Proved: vennlaw4.TurnBack returns true, of any formula, any world and any two numbers, where turn's functions answer as chapter 16 says; what was in memory is as it was (the walk that the statement leans on).
-/
import Derived.Test.YteknlcachfhfkaiDoorTurnBackBad
import Derived.Test.YteknlcachfhfkaiDoorFormCheck2
import Derived.Test.YteknlcachfhfkaiDoorFormSame
import Derived.Test.YteknlcachfhfkaiDoorFieldsOf
namespace Go.Proofs.YteknlcachfhfkaiDoor
open Go.ChangeShapes Go.WideShapes Go.ChangeAt Go.RowKit
set_option maxRecDepth 100000

/-- the second name ahead of the first one. -/
def flipP : Nat → Int := fun i => [1, 0, 2].getD i 0
theorem flip_once : onceB (listP flipP) = true := by decide
theorem flip_flip {s : Int} (h : 0 ≤ s) : renS flipP (renS flipP s) = s := by
  by_cases h3 : s < 3
  · have hd : s = 0 ∨ s = 1 ∨ s = 2 := by omega
    rcases hd with rfl | rfl | rfl <;> rfl
  · unfold renS; rw [if_neg h3, if_neg h3]
theorem flip_term {t : List Int} (h : ∀ s ∈ t, 0 ≤ s) : renT flipP (renT flipP t) = t := by
  unfold renT
  rw [List.map_map]
  conv => rhs; rw [← List.map_id t]
  exact List.map_congr_left fun s hs => flip_flip (h s hs)
theorem flip_form {ats : List At} {c : List Int} (hf : formFault ats c = 0) : renL flipP (renL flipP ats) = ats := by
  obtain ⟨_, _, h3, _, _⟩ := formFault_zero.1 hf
  unfold renL
  rw [List.map_map]
  conv => rhs; rw [← List.map_id ats]
  refine List.map_congr_left fun a ha => ?_
  obtain ⟨_, hs, ht, _⟩ := atomFault_zero.1 (h3 a ha)
  have e1 : renT flipP (renT flipP a.s) = a.s := flip_term (signs_pos (fault_zero.1 hs).2.2.1)
  have e2 : renT flipP (renT flipP a.t) = a.t := by
    unfold secondFault at ht
    by_cases hb : secondB a.k = true
    · rw [if_pos hb] at ht; exact flip_term (signs_pos (fault_zero.1 ht).2.2.1)
    · rw [if_neg hb] at ht
      have h0 : a.t = [] := by
        cases h : a.t with
        | nil => rfl
        | cons x l => rw [h] at ht; simp at ht
      rw [h0]; rfl
  show (⟨a.k, renT flipP (renT flipP a.s), renT flipP (renT flipP a.t), a.n⟩ : At) = a
  rw [e1, e2]

theorem swapQ_all : ∀ n : Nat, n ≤ 6 → ∀ i : Nat, i < n → ∀ k : Nat, k < n → onceB (swapQ i k n) = true := by decide +kernel
theorem swapQ_once {n : Nat} (hn : n ≤ 6) {i k : Int} (i0 : 0 ≤ i) (i1 : i < n) (k0 : 0 ≤ k) (k1 : k < n) : onceB (swapQ i k n) = true := by
  obtain ⟨a, rfl⟩ := Int.eq_ofNat_of_zero_le i0
  obtain ⟨b, rfl⟩ := Int.eq_ofNat_of_zero_le k0
  exact swapQ_all n hn a (by omega) b (by omega)
theorem swapQ_get (i k : Int) {n j : Nat} (hj : j < n) : (swapQ i k n).getD j 0 = swapS i k j := by
  unfold swapQ
  rw [List.getD_eq_getElem?_getD, List.getElem?_map, List.getElem?_range hj]; rfl
theorem swapS_back (i k j : Int) : swapS i k (swapS i k j) = j := by
  unfold swapS
  by_cases h1 : j = i
  · subst h1
    rw [if_pos rfl]
    by_cases h2 : k = j
    · rw [if_pos h2]; exact h2
    · rw [if_neg h2, if_pos rfl]
  · rw [if_neg h1]
    by_cases h2 : j = k
    · subst h2; rw [if_pos rfl, if_pos rfl]
    · rw [if_neg h2, if_neg h1, if_neg h2]
theorem eq_hasT {u a b : Int} (ha : okB u a = true) (hb : okB u b = true) (h : ∀ i : Nat, (i : Int) < u → hasB a i = hasB b i) : a = b := by
  have hu := (okB_lt ha).1
  have e : ∀ k : Nat, (k : Int) ≤ u → sumTo a k = sumTo b k := by
    intro k
    induction k with
    | zero => intro _; rfl
    | succ k ih => intro hk; unfold sumTo; rw [ih (by omega), h k (by omega)]
  rw [← sumTo_all ha, ← sumTo_all hb, e u.toNat (by omega)]
theorem moved_back {n : Nat} (hn : n ≤ 6) {i k : Int} (i0 : 0 ≤ i) (i1 : i < n) (k0 : 0 ≤ k) (k1 : k < n) {x : Int} (hx : okB n x = true) : movedN (swapQ i k n) (movedN (swapQ i k n) x n) n = x := by
  have ho := swapQ_once hn i0 i1 k0 k1
  have hl := swapQ_length i k n
  have key : ∀ y, ∀ j : Nat, j < n → hasB (movedN (swapQ i k n) y n) ((swapS i k j).toNat : Nat) = hasB y j := fun y j hj => by
    have h := moved_has ho (by rw [hl]; omega) y (i := j) (by rw [hl]; exact hj)
    rw [hl, swapQ_get i k hj] at h
    exact h
  have hm : okB n (movedN (swapQ i k n) (movedN (swapQ i k n) x n) n) = true := by
    have h := moved_ok ho (by rw [hl]; exact hn) (movedN (swapQ i k n) x n)
    rw [hl] at h; exact h
  refine eq_hasT hm hx fun j hj => ?_
  have hj' : j < n := by omega
  have hs : 0 ≤ swapS i k j ∧ swapS i k j < n := by
    unfold swapS
    split
    · omega
    · split <;> omega
  have h1 := key (movedN (swapQ i k n) x n) (swapS i k j).toNat (by omega)
  have h2 := key x j hj'
  have e : (((swapS i k j).toNat : Nat) : Int) = swapS i k j := by omega
  rw [e, swapS_back] at h1
  rw [show ((j : Int)).toNat = j by omega] at h1
  rw [h1, ← e] 
  rw [e] at h2
  rw [e]
  exact h2
theorem things_back {D : Wd} (hD : D.ok = true) {i k : Int} (i0 : 0 ≤ i) (i1 : i < D.u) (k0 : 0 ≤ k) (k1 : k < D.u) :
    thingsFault D (swapQ i k D.u.toNat) = 0 ∧ thingsA D (swapQ i k D.u.toNat) = thingsW (swapQ i k D.u.toNat) D ∧ thingsFault (thingsW (swapQ i k D.u.toNat) D) (swapQ i k D.u.toNat) = 0 ∧ thingsA (thingsW (swapQ i k D.u.toNat) D) (swapQ i k D.u.toNat) = D := by
  have hu := ok_u hD
  obtain ⟨n, hn⟩ : ∃ n : Nat, D.u = n := ⟨D.u.toNat, by omega⟩
  have en : D.u.toNat = n := by omega
  rw [en]
  have hl := swapQ_length i k n
  have ho := swapQ_once (n := n) (by omega) i0 (by omega) k0 (by omega)
  have f1 : thingsFault D (swapQ i k n) = 0 := things_zero.2 ⟨hD, by rw [hl, hn], ho⟩
  have hal := things_alike hD (by rw [hl, hn]) ho
  have f2 : thingsFault (thingsW (swapQ i k n) D) (swapQ i k n) = 0 := things_zero.2 ⟨hal.ok', by rw [hl]; exact hn.symm, ho⟩
  refine ⟨f1, by unfold thingsA; rw [if_pos f1], f2, ?_⟩
  unfold thingsA
  rw [if_pos f2]
  obtain ⟨u, a, b, c⟩ := D
  simp only at hn en hu
  subst hn
  obtain ⟨ha, hb, hc⟩ : okB n a = true ∧ okB n b = true ∧ okB n c = true := Wd.ok_iff.1 hD
  unfold thingsW
  simp only [Int.toNat_natCast]
  rw [moved_back (by omega) i0 i1 k0 k1 ha, moved_back (by omega) i0 i1 k0 k1 hb, moved_back (by omega) i0 i1 k0 k1 hc]
theorem turnBack_of (va vc : Value) (ats : List At) (c : List Int) (wu wa wb wc i k : Int) (w : World) (hA : ReadsA w va ats) (hC : Reads w vc c) (hK : KindsLaid w)
    (cTh : ∀ (D : Wd) (v : Value) (q : List Int) (W : World), Below w.heap.size w W → Reads W v q → Calls Tryd.prog 8 #[.agg #[.int .i64 D.u, .int .i64 D.a, .int .i64 D.b, .int .i64 D.c], v] W fun e w' => e = .returned (.tuple #[.agg #[.int .i64 (thingsA D q).u, .int .i64 (thingsA D q).a, .int .i64 (thingsA D q).b, .int .i64 (thingsA D q).c], errV (thingsFault D q)]) ∧ Below W.heap.size W w')
    (cNm : ∀ (va vc : Value) (ats : List At) (c : List Int) (p : Nat → Int) (W : World), Below w.heap.size w W → ReadsA W va ats → Reads W vc c → Calls Tryd.prog 4 #[.agg #[va, vc], .agg #[.int .i64 (p 0), .int .i64 (p 1), .int .i64 (p 2)]] W fun e w' => ∃ va' vc', e = .returned (.tuple #[.agg #[va', vc'], errV (namesFault ats c p)]) ∧ (namesFault ats c p = 0 → ReadsA w' va' (renL p ats) ∧ Reads w' vc' c) ∧ (¬ namesFault ats c p = 0 → va' = .slice none 0 0 ∧ vc' = .slice none 0 0) ∧ Below W.heap.size W w') :
    Calls Tryd.prog 3 #[.agg #[va, vc], .agg #[.int .i64 wu, .int .i64 wa, .int .i64 wb, .int .i64 wc], .int .i64 i, .int .i64 k] w fun e w' => e = .returned (.bool true) ∧ Below w.heap.size w w' := by
  obtain ⟨D, hD⟩ : ∃ D, D = Wd.mk wu wa wb wc := ⟨_, rfl⟩
  obtain ⟨rfl, rfl, rfl, rfl⟩ : wu = D.u ∧ wa = D.a ∧ wb = D.b ∧ wc = D.c := by rw [hD]; exact ⟨rfl, rfl, rfl, rfl⟩
  clear hD
  have hCk := fun W (hW : Below w.heap.size w W) => fcheck_any va vc ats c W (hA.below hW) (hC.below hW) (hK.below hW)
  have hFi : ∀ W, Below w.heap.size w W → _ := fun W (_ : Below w.heap.size w W) => fieldsOf_any D.u D.a D.b D.c W
  have hNm := fun W (hW : Below w.heap.size w W) => cNm va vc ats c flipP W hW (hA.below hW) (hC.below hW)
  have hEv : (∃ m, errV D.wrong = .iface 42 (.int .i64 m)) ∨ (errV D.wrong = .nilIface ∧ 0 ≤ D.u ∧ D.u ≤ 6) := by
    by_cases h : D.ok = true
    · have e : D.wrong = 0 := by unfold Wd.wrong; rw [if_pos h]
      exact Or.inr ⟨by rw [e]; rfl, ok_u h⟩
    · have e : D.wrong = 1 := by unfold Wd.wrong; rw [if_neg h]
      exact Or.inl ⟨1, by rw [e]; rfl⟩
  have hok : errV D.wrong = .nilIface → D.ok = true := fun h => by
    by_cases h0 : D.ok = true
    · exact h0
    · have e : D.wrong = 1 := by unfold Wd.wrong; rw [if_neg h0]
      rw [e] at h; cases h
  have hT1 : errV D.wrong = .nilIface → 0 ≤ i → 0 ≤ k → i < D.u → k < D.u → ∀ v W, Below w.heap.size w W → Reads W v (swapQ i k D.u.toNat) → Calls Tryd.prog 8 #[.agg #[.int .i64 D.u, .int .i64 D.a, .int .i64 D.b, .int .i64 D.c], v] W fun e w' => e = .returned (.tuple #[.agg #[.int .i64 (thingsW (swapQ i k D.u.toNat) D).u, .int .i64 (thingsW (swapQ i k D.u.toNat) D).a, .int .i64 (thingsW (swapQ i k D.u.toNat) D).b, .int .i64 (thingsW (swapQ i k D.u.toNat) D).c], .nilIface]) ∧ Below W.heap.size W w' := fun he i0 k0 i1 k1 v W hW hv => by
    obtain ⟨f1, f2, _, _⟩ := things_back (hok he) i0 i1 k0 k1
    have h := cTh D v _ W hW hv
    rw [f1, f2] at h
    exact h
  have hT2 : errV D.wrong = .nilIface → 0 ≤ i → 0 ≤ k → i < D.u → k < D.u → ∀ v W, Below w.heap.size w W → Reads W v (swapQ i k D.u.toNat) → Calls Tryd.prog 8 #[.agg #[.int .i64 (thingsW (swapQ i k D.u.toNat) D).u, .int .i64 (thingsW (swapQ i k D.u.toNat) D).a, .int .i64 (thingsW (swapQ i k D.u.toNat) D).b, .int .i64 (thingsW (swapQ i k D.u.toNat) D).c], v] W fun e w' => e = .returned (.tuple #[.agg #[.int .i64 D.u, .int .i64 D.a, .int .i64 D.b, .int .i64 D.c], .nilIface]) ∧ Below W.heap.size W w' := fun he i0 k0 i1 k1 v W hW hv => by
    obtain ⟨_, _, f3, f4⟩ := things_back (hok he) i0 i1 k0 k1
    have h := cTh (thingsW (swapQ i k D.u.toNat) D) v _ W hW hv
    rw [f3, f4] at h
    exact h
  obtain ⟨ao, acap, rfl, _⟩ := hA.slice
  obtain ⟨co, ccap, rfl, _⟩ := hC.slice
  by_cases hf : formFault ats c = 0
  · rw [hf] at hCk
    have hn : namesFault ats c flipP = 0 := names_zero.2 ⟨hf, flip_once⟩
    have hf2 := ren_form flip_once hf
    have hn2 : namesFault (renL flipP ats) c flipP = 0 := names_zero.2 ⟨hf2, flip_once⟩
    refine turnBack_good ao _ acap co _ ccap D (thingsW (swapQ i k D.u.toNat) D) i k D.cts (errV D.wrong) w (fun W hW => ?_) hCk hFi hEv hT1 hT2
    refine (hNm W hW).mono ?_
    rintro e w' ⟨va', vc', rfl, hr, _, hb⟩
    obtain ⟨r1, r2⟩ := hr hn
    obtain ⟨o1, q1, rfl, _⟩ := r1.slice
    obtain ⟨o2, q2, rfl, _⟩ := r2.slice
    rw [hn]
    refine ⟨⟨o1, _, q1, o2, _, q2, rfl, fun W' hW' => ?_⟩, hb⟩
    have hB1 : Below w.heap.size w w' := hW.trans (hb.mono hW.size)
    have hB2 : Below w.heap.size w W' := hB1.trans (hW'.mono hB1.size)
    refine (cNm _ _ (renL flipP ats) c flipP W' hB2 (r1.below hW') (r2.below hW')).mono ?_
    rintro e w'' ⟨va2, vc2, rfl, hr2, _, hb2⟩
    obtain ⟨s1, s2⟩ := hr2 hn2
    rw [flip_form hf] at s1
    obtain ⟨o3, q3, rfl, _⟩ := s1.slice
    obtain ⟨o4, q4, rfl, _⟩ := s2.slice
    rw [hn2]
    refine ⟨⟨o3, _, q3, o4, _, q4, rfl, fun W'' hW'' => ?_⟩, hb2⟩
    have hB3 : Below w.heap.size w w'' := hB2.trans (hb2.mono hB2.size)
    have hB4 : Below w.heap.size w W'' := hB3.trans (hW''.mono hB3.size)
    exact form_same _ _ _ _ ats c W'' (s1.below hW'') (s2.below hW'') (hA.below hB4) (hC.below hB4)
  · have hn : namesFault ats c flipP = formFault ats c := by unfold namesFault; rw [if_neg hf]
    have hn0 : ¬ namesFault ats c flipP = 0 := by rw [hn]; exact hf
    rw [errV_no hf] at hCk
    refine turnBack_bad ao _ acap co _ ccap D (thingsW (swapQ i k D.u.toNat) D) i k D.cts (errV D.wrong) (formFault ats c) w (fun W hW => ?_) hCk hFi hEv hT1 hT2
    refine (hNm W hW).mono ?_
    rintro e w' ⟨va', vc', rfl, _, hz, hb⟩
    obtain ⟨rfl, rfl⟩ := hz hn0
    rw [errV_no hn0]
    refine ⟨⟨none, 0, 0, none, 0, 0, _, rfl, fun W' hW' => ?_⟩, hb⟩
    have hB1 : Below w.heap.size w w' := hW.trans (hb.mono hW.size)
    have hB2 : Below w.heap.size w W' := hB1.trans (hW'.mono hB1.size)
    have h0 : ¬ namesFault [] [] flipP = 0 := by decide
    refine (cNm (.slice none 0 0) (.slice none 0 0) [] [] flipP W' hB2 (Or.inl ⟨none, 0, rfl, rfl⟩) (Or.inl ⟨none, 0, rfl, rfl⟩)).mono ?_
    rintro e w'' ⟨va2, vc2, rfl, _, hz2, hb2⟩
    obtain ⟨rfl, rfl⟩ := hz2 h0
    rw [errV_no h0]
    exact ⟨⟨none, 0, 0, none, 0, 0, _, rfl⟩, hb2⟩
end Go.Proofs.YteknlcachfhfkaiDoor
