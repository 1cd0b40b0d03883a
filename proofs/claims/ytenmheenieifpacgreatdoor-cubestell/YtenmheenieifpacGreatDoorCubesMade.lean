/-
  Proved: what cubes.made returns: the cubes of what a sign makes of those that it takes, or that they are too many; what was in memory is as it was (contracts that the statements lean on). Written by program.
-/
import Derived.Test.YtenmheenieifpacGreatDoorCubesEither
import Derived.Deep.RegionWith
namespace Go.Proofs.YtenmheenieifpacGreatDoor
open Go.ChangeShapes Go.WideShapes Go.ChangeAt Go.RowKit
set_option maxRecDepth 100000

/-- cubes in memory of which there are not too many. -/
def GoodC (S : Nat → Prop) (M : Nat) (w : World) (v : Value) (L : List (List Int)) : Prop := RS2 S w v L ∧ okL M L ∧ L.length ≤ 40
theorem GoodC.below {S : Nat → Prop} {M : Nat} {w w' : World} {v : Value} {L : List (List Int)} (h : GoodC S M w v L) (hb : Below w.heap.size w w') : GoodC S M w' v L := ⟨h.1.kept (Kept.of_below hb), h.2⟩
theorem out_none {S : Nat → Prop} {w : World} {f : Nat} {args : Array Value} {c : Option (List (List Int))} (hc : c = none) (h : ∀ W, Below w.heap.size w W → Calls Tryz.prog f args W fun e w' => OutC S W.heap.size w' e c ∧ Below W.heap.size W w') :
    ∀ W, Below w.heap.size w W → Calls Tryz.prog f args W fun e w' => e = .returned (.tuple #[.slice none 0 0, .iface 53 (.int .i64 4)]) ∧ Below w.heap.size w w' := fun W hW => by
  subst hc
  refine (h W hW).mono ?_
  rintro e w' ⟨he, hb⟩
  exact ⟨he, hW.trans (hb.mono hW.size)⟩
theorem out_some {S : Nat → Prop} {w : World} {f : Nat} {args : Array Value} {c : Option (List (List Int))} {L : List (List Int)} (hc : c = some L) (h : ∀ W, Below w.heap.size w W → Calls Tryz.prog f args W fun e w' => OutC S W.heap.size w' e c ∧ Below W.heap.size W w') :
    ∀ W, Below w.heap.size w W → Calls Tryz.prog f args W fun e w' => ∃ oo ol oc, e = .returned (.tuple #[.slice oo ol oc, .nilIface]) ∧ RS2 (fun b => S b ∨ w.heap.size ≤ b) w' (.slice oo ol oc) L ∧ Below w.heap.size w w' := fun W hW => by
  subst hc
  refine (h W hW).mono ?_
  rintro e w' ⟨he, hb⟩
  obtain ⟨v, rfl, hr⟩ : ∃ v, e = .returned (.tuple #[v, .nilIface]) ∧ RS2 (fun b => S b ∨ W.heap.size ≤ b) w' v L := he
  obtain ⟨oo, oc, rfl, _⟩ := hr.slice
  exact ⟨oo, _, oc, rfl, hr.mono fun b _ hb => hb.imp id (fun h => Nat.le_trans hW.size h), hW.trans (hb.mono hW.size)⟩

set_option maxHeartbeats 4000000 in
theorem cmade_10 (S : Nat → Prop) (M : Nat) (hM : M ≤ 6) (B off cap : Nat) (w : World) (u0 : Value) (L0 : List (List Int)) (c0 : w.cell? ⟨B, off, none⟩ = some u0) (g0 : GoodC S M w u0 L0) (u1 : Value) (L1 : List (List Int)) (c1 : w.cell? ⟨B, off + 1, none⟩ = some u1) (g1 : GoodC S M w u1 L1) :
    Calls Tryz.prog 19 #[.int .i64 10, .slice (some ⟨B, off, none⟩) 2 cap] w fun e w' => OutC S w.heap.size w' e (madeC 10 [L0, L1]) ∧ Below w.heap.size w w' := by
  obtain ⟨o0, q0, rfl, _⟩ := g0.1.slice
  obtain ⟨o1, q1, rfl, _⟩ := g1.1.slice
  have HE : Hid (madeC 10 [L0, L1] = capC (andC L0 L1)) := rfl
  have H0 := (fun W hW => both_cubes S _ _ L0 L1 M hM W (g0.below hW).2.1.1 (g1.below hW).2.1.1 (g0.below hW).1 (g1.below hW).1 : ∀ W, Below w.heap.size w W → Calls Tryz.prog 40 #[.slice o0 L0.length q0, .slice o1 L1.length q1] W fun e w' => OutC S W.heap.size w' e (capC (andC L0 L1)) ∧ Below W.heap.size W w')
  obtain ⟨l0, hl0⟩ : ∃ l0, l0 = L0.length := ⟨_, rfl⟩
  obtain ⟨l1, hl1⟩ : ∃ l1, l1 = L1.length := ⟨_, rfl⟩
  rw [← hl0] at H0 c0
  rw [← hl1] at H0 c1
  clear g0 g1 hl0 hl1
  cases hc : capC (andC L0 L1) with
  | none =>
    have H : Hid (∀ W, Below w.heap.size w W → _) := out_none hc H0
    rw [hc] at HE
    clear H0 hc
    go_enter Tryz.func19, Tryz.ntmps19
    go_wp2_with fail
    go_region_with (go_at_call 40; refine (H.out _ (by first | exact Below.refl _ _ | exact below_drewNs _ _)).mono ?_; rintro e w3 ⟨rfl, hb3⟩)
    all_goals go_wp2
    all_goals go_ret2
    all_goals refine ⟨?_, hb3⟩
    all_goals (rw [HE.out]; exact rfl)
  | some L =>
    have H : Hid (∀ W, Below w.heap.size w W → _) := out_some hc H0
    rw [hc] at HE
    clear H0 hc
    go_enter Tryz.func19, Tryz.ntmps19
    go_wp2_with fail
    go_region_with (go_at_call 40; refine (H.out _ (by first | exact Below.refl _ _ | exact below_drewNs _ _)).mono ?_; rintro e w3 ⟨oo, ol, oc, rfl, hr3, hb3⟩)
    all_goals go_wp2
    all_goals go_ret2
    all_goals refine ⟨?_, hb3⟩
    all_goals (rw [HE.out]; exact ⟨.slice oo ol oc, rfl, hr3⟩)

set_option maxHeartbeats 4000000 in
theorem cmade_11 (S : Nat → Prop) (M : Nat) (hM : M ≤ 6) (B off cap : Nat) (w : World) (u0 : Value) (L0 : List (List Int)) (c0 : w.cell? ⟨B, off, none⟩ = some u0) (g0 : GoodC S M w u0 L0) (u1 : Value) (L1 : List (List Int)) (c1 : w.cell? ⟨B, off + 1, none⟩ = some u1) (g1 : GoodC S M w u1 L1) :
    Calls Tryz.prog 19 #[.int .i64 11, .slice (some ⟨B, off, none⟩) 2 cap] w fun e w' => OutC S w.heap.size w' e (madeC 11 [L0, L1]) ∧ Below w.heap.size w w' := by
  obtain ⟨o0, q0, rfl, _⟩ := g0.1.slice
  obtain ⟨o1, q1, rfl, _⟩ := g1.1.slice
  have HE : Hid (madeC 11 [L0, L1] = capC (orC L0 L1)) := rfl
  have H0 := (fun W hW => either_cubes S _ _ L0 L1 M hM W (g0.below hW).2.1.1 (g1.below hW).2.1.1 g0.2.2 g1.2.2 (g0.below hW).1 (g1.below hW).1 : ∀ W, Below w.heap.size w W → Calls Tryz.prog 41 #[.slice o0 L0.length q0, .slice o1 L1.length q1] W fun e w' => OutC S W.heap.size w' e (capC (orC L0 L1)) ∧ Below W.heap.size W w')
  obtain ⟨l0, hl0⟩ : ∃ l0, l0 = L0.length := ⟨_, rfl⟩
  obtain ⟨l1, hl1⟩ : ∃ l1, l1 = L1.length := ⟨_, rfl⟩
  rw [← hl0] at H0 c0
  rw [← hl1] at H0 c1
  clear g0 g1 hl0 hl1
  cases hc : capC (orC L0 L1) with
  | none =>
    have H : Hid (∀ W, Below w.heap.size w W → _) := out_none hc H0
    rw [hc] at HE
    clear H0 hc
    go_enter Tryz.func19, Tryz.ntmps19
    go_wp2_with fail
    go_region_with (go_at_call 41; refine (H.out _ (by first | exact Below.refl _ _ | exact below_drewNs _ _)).mono ?_; rintro e w3 ⟨rfl, hb3⟩)
    all_goals go_wp2
    all_goals go_ret2
    all_goals refine ⟨?_, hb3⟩
    all_goals (rw [HE.out]; exact rfl)
  | some L =>
    have H : Hid (∀ W, Below w.heap.size w W → _) := out_some hc H0
    rw [hc] at HE
    clear H0 hc
    go_enter Tryz.func19, Tryz.ntmps19
    go_wp2_with fail
    go_region_with (go_at_call 41; refine (H.out _ (by first | exact Below.refl _ _ | exact below_drewNs _ _)).mono ?_; rintro e w3 ⟨oo, ol, oc, rfl, hr3, hb3⟩)
    all_goals go_wp2
    all_goals go_ret2
    all_goals refine ⟨?_, hb3⟩
    all_goals (rw [HE.out]; exact ⟨.slice oo ol oc, rfl, hr3⟩)

set_option maxHeartbeats 4000000 in
theorem cmade_12 (S : Nat → Prop) (M : Nat) (hM : M ≤ 6) (B off cap : Nat) (w : World) (u0 : Value) (L0 : List (List Int)) (c0 : w.cell? ⟨B, off, none⟩ = some u0) (g0 : GoodC S M w u0 L0) :
    Calls Tryz.prog 19 #[.int .i64 12, .slice (some ⟨B, off, none⟩) 1 cap] w fun e w' => OutC S w.heap.size w' e (madeC 12 [L0]) ∧ Below w.heap.size w w' := by
  obtain ⟨o0, q0, rfl, _⟩ := g0.1.slice
  have HE : Hid (madeC 12 [L0] = noC L0 [[]]) := rfl
  have H0 := (fun W hW => none_cubes S _ L0 M hM W (g0.below hW).2.1.1 (g0.below hW).1 : ∀ W, Below w.heap.size w W → Calls Tryz.prog 42 #[.slice o0 L0.length q0] W fun e w' => OutC S W.heap.size w' e (noC L0 [[]]) ∧ Below W.heap.size W w')
  obtain ⟨l0, hl0⟩ : ∃ l0, l0 = L0.length := ⟨_, rfl⟩
  rw [← hl0] at H0 c0
  clear g0 hl0
  cases hc : noC L0 [[]] with
  | none =>
    have H : Hid (∀ W, Below w.heap.size w W → _) := out_none hc H0
    rw [hc] at HE
    clear H0 hc
    go_enter Tryz.func19, Tryz.ntmps19
    go_wp2_with (go_at_call 42; refine (H.out _ (Below.refl _ _)).mono ?_; rintro e w3 ⟨rfl, hb3⟩)
    go_ret2
    refine ⟨?_, hb3⟩
    rw [HE.out]; rfl
  | some L =>
    have H : Hid (∀ W, Below w.heap.size w W → _) := out_some hc H0
    rw [hc] at HE
    clear H0 hc
    go_enter Tryz.func19, Tryz.ntmps19
    go_wp2_with (go_at_call 42; refine (H.out _ (Below.refl _ _)).mono ?_; rintro e w3 ⟨oo, ol, oc, rfl, hr3, hb3⟩)
    go_ret2
    refine ⟨?_, hb3⟩
    rw [HE.out]
    exact ⟨_, rfl, hr3⟩

set_option maxHeartbeats 4000000 in
theorem cmade_13 (S : Nat → Prop) (M : Nat) (hM : M ≤ 6) (B off cap : Nat) (w : World) (u0 : Value) (L0 : List (List Int)) (c0 : w.cell? ⟨B, off, none⟩ = some u0) (g0 : GoodC S M w u0 L0) (u1 : Value) (L1 : List (List Int)) (c1 : w.cell? ⟨B, off + 1, none⟩ = some u1) (g1 : GoodC S M w u1 L1) (hB : B < w.heap.size) :
    Calls Tryz.prog 19 #[.int .i64 13, .slice (some ⟨B, off, none⟩) 2 cap] w fun e w' => OutC S w.heap.size w' e (madeC 13 [L0, L1]) ∧ Below w.heap.size w w' := by
  obtain ⟨o0, q0, rfl, _⟩ := g0.1.slice
  obtain ⟨o1, q1, rfl, _⟩ := g1.1.slice
  have HE : Hid (madeC 13 [L0, L1] = (noC L0 [[]]).bind (fun x => capC (orC x L1))) := rfl
  have H0 := (fun W hW => none_cubes S _ L0 M hM W (g0.below hW).2.1.1 (g0.below hW).1 : ∀ W, Below w.heap.size w W → Calls Tryz.prog 42 #[.slice o0 L0.length q0] W fun e w' => OutC S W.heap.size w' e (noC L0 [[]]) ∧ Below W.heap.size W w')
  have HC1 : Hid (∀ W, Below w.heap.size w W → W.cell? ⟨B, off + 1, none⟩ = some (.slice o1 L1.length q1)) := fun W hW => by rw [hW.cell (show (⟨B, off + 1, none⟩ : Addr).block < _ from hB)]; exact c1
  have H1 : Hid (∀ W x v, Below w.heap.size w W → noC L0 [[]] = some x → RS2 (fun b => S b ∨ w.heap.size ≤ b) W v x → Calls Tryz.prog 41 #[v, .slice o1 L1.length q1] W fun e w' => OutC (fun b => S b ∨ w.heap.size ≤ b) W.heap.size w' e (capC (orC x L1)) ∧ Below W.heap.size W w') := fun W x v hW hx hv => by
    have hok := no_ok hM _ _ _ g0.2.1.1 (okL_one M) (by simp) hx
    exact either_cubes (fun b => S b ∨ w.heap.size ≤ b) v _ x L1 M hM W hok.1.1 g1.2.1.1 hok.2 g1.2.2 hv ((g1.below hW).1.mono fun b _ h => Or.inl h)
  obtain ⟨l0, hl0⟩ : ∃ l0, l0 = L0.length := ⟨_, rfl⟩
  obtain ⟨l1, hl1⟩ : ∃ l1, l1 = L1.length := ⟨_, rfl⟩
  rw [← hl0] at H0 c0
  rw [← hl1] at HC1 H1
  clear g0 g1 hl0 hl1 c1
  cases hc : noC L0 [[]] with
  | none =>
    have H : Hid (∀ W, Below w.heap.size w W → _) := out_none hc H0
    rw [hc] at HE
    clear H0 hc H1
    go_enter Tryz.func19, Tryz.ntmps19
    go_wp2_with (go_at_call 42; refine (H.out _ (Below.refl _ _)).mono ?_; rintro e w3 ⟨rfl, hb3⟩)
    go_ret2
    refine ⟨?_, hb3⟩
    rw [HE.out]; rfl
  | some x =>
    have H : Hid (∀ W, Below w.heap.size w W → _) := out_some hc H0
    have HH1 : Hid (∀ W v, Below w.heap.size w W → RS2 (fun b => S b ∨ w.heap.size ≤ b) W v x → _) := fun W v hW hv => H1.out W x v hW hc hv
    rw [hc] at HE
    clear H0 hc H1
    go_enter Tryz.func19, Tryz.ntmps19
    go_wp2_with fail
    go_at_call 42
    refine (H.out _ (Below.refl _ _)).mono ?_
    rintro e w3 ⟨oo, ol, oc, rfl, hr3, hb3⟩
    have HB3 : Hid (Below w.heap.size w w3) := hb3
    have c1 := HC1.out w3 hb3
    have HE2 : Hid (madeC 13 [L0, L1] = capC (orC x L1)) := HE.out
    have HF0 := (HH1.out w3 _ hb3 hr3 : Calls Tryz.prog 41 #[.slice oo ol oc, .slice o1 l1 q1] w3 fun e w' => OutC (fun b => S b ∨ w.heap.size ≤ b) w3.heap.size w' e (capC (orC x L1)) ∧ Below w3.heap.size w3 w')
    cases hc2 : capC (orC x L1) with
    | none =>
      rw [hc2] at HE2 HF0
      have HF : Hid (Calls Tryz.prog 41 #[.slice oo ol oc, .slice o1 l1 q1] w3 fun e w' => e = .returned (.tuple #[.slice none 0 0, .iface 53 (.int .i64 4)]) ∧ Below w3.heap.size w3 w') := HF0
      clear HF0 hr3 hb3 hc2 HE H HH1
      go_wp2_with fail
      go_at_call 41
      refine HF.out.mono ?_
      rintro e w4 ⟨rfl, hb4⟩
      have HB4 : Hid (Below w.heap.size w w4) := HB3.out.trans (hb4.mono HB3.out.size)
      clear hb4
      go_wp2
      go_ret2
      refine ⟨?_, HB4.out⟩
      rw [HE2.out]; rfl
    | some L =>
      rw [hc2] at HE2 HF0
      have HF : Hid (Calls Tryz.prog 41 #[.slice oo ol oc, .slice o1 l1 q1] w3 fun e w' => ∃ po pl pc, e = .returned (.tuple #[.slice po pl pc, .nilIface]) ∧ RS2 (fun b => S b ∨ w.heap.size ≤ b) w' (.slice po pl pc) L ∧ Below w3.heap.size w3 w') := by
        refine HF0.mono ?_
        rintro e w' ⟨he, hb⟩
        obtain ⟨v, rfl, hr⟩ : ∃ v, e = .returned (.tuple #[v, .nilIface]) ∧ RS2 (fun b => (S b ∨ w.heap.size ≤ b) ∨ w3.heap.size ≤ b) w' v L := he
        obtain ⟨po, pc, rfl, _⟩ := hr.slice
        exact ⟨po, _, pc, rfl, hr.mono fun b _ hb => hb.elim id (fun h => Or.inr (Nat.le_trans HB3.out.size h)), hb⟩
      clear HF0 hr3 hb3 hc2 HE H HH1
      go_wp2_with fail
      go_at_call 41
      refine HF.out.mono ?_
      rintro e w4 ⟨po, pl, pc, rfl, hr4, hb4⟩
      have HB4 : Hid (Below w.heap.size w w4 ∧ RS2 (fun b => S b ∨ w.heap.size ≤ b) w4 (.slice po pl pc) L) := ⟨HB3.out.trans (hb4.mono HB3.out.size), hr4⟩
      clear hb4 hr4
      go_wp2
      go_ret2
      refine ⟨?_, HB4.out.1⟩
      rw [HE2.out]
      exact ⟨_, rfl, HB4.out.2⟩

set_option maxHeartbeats 4000000 in
theorem cmade_leaf (S : Nat → Prop) (s : Int) (h0 : 0 ≤ s) (h6 : s < 6) (v : Value) (w : World) :
    Calls Tryz.prog 19 #[.int .i64 s, v] w fun e w' => OutC S w.heap.size w' e (madeC s []) ∧ Below w.heap.size w w' := by
  have HE : Hid (madeC s [] = some [[s + 1]]) := by
    unfold Hid madeC
    rw [if_neg (by omega), if_neg (by omega), if_neg (by omega), if_neg (by omega)]
  have g0 : (s == 10) = false := by simp; omega
  have g1 : (s == 11) = false := by simp; omega
  have g2 : (s == 13) = false := by simp; omega
  have g3 : (s == 12) = false := by simp; omega
  obtain ⟨w2, hw2⟩ : ∃ w2, w2 = w.alloc (.cells #[.int .i64 (s + 1)] 3) := ⟨_, rfl⟩
  obtain ⟨w3, hw3⟩ : ∃ w3, w3 = w2.alloc (.cells #[.slice (some ⟨w.heap.size, 0, none⟩) 1 1] 23) := ⟨_, rfl⟩
  have hs2 : w2.heap.size = w.heap.size + 1 := by rw [hw2]; simp
  have HB3 : Hid (Below w.heap.size w w3 ∧ w3.heap.size = w.heap.size + 2) := by
    refine ⟨?_, by rw [hw3]; simp [hs2]⟩
    rw [hw3]
    exact (by rw [hw2]; exact below_alloc1 _ _ : Below w.heap.size w w2).trans ((below_alloc1 _ _).mono (by omega))
  have HR : Hid (RS2 (fun b => S b ∨ w.heap.size ≤ b) w3 (.slice (some ⟨w.heap.size + 1, 0, none⟩) 1 1) [[s + 1]]) := by
    refine Or.inr ⟨w.heap.size + 1, 0, 1, rfl, ⟨Or.inr (by omega), by have := HB3.out.2; omega⟩, by simp, ⟨by simp, by simp⟩, fun k t hk => ?_⟩
    have hk0 : k = 0 := by have := (List.getElem?_eq_some_iff.1 hk).1; simpa using this
    subst hk0
    simp at hk; subst hk
    refine ⟨.slice (some ⟨w.heap.size, 0, none⟩) 1 1, by rw [hw3, ← hs2]; simp, Or.inr ⟨w.heap.size, 0, 1, rfl, ⟨Or.inr (Nat.le_refl _), by have := HB3.out.2; omega⟩, by simp, ⟨by simp, by simp⟩, fun j hj => ?_⟩⟩
    have hj0 : j = 0 := by simpa using hj
    subst hj0
    rw [hw3, World.cell?_alloc_lt _ _ ⟨w.heap.size, 0 + 0, none⟩ (by simp; omega), hw2]
    simp
  have HW3 : Hid ((w.alloc (.cells #[.int .i64 (s + 1)] 3)).alloc (.cells #[.slice (some ⟨w.heap.size, 0, none⟩) 1 1] 23) = w3) := by unfold Hid; rw [hw3, hw2]
  clear hw2 hw3
  go_enter Tryz.func19, Tryz.ntmps19
  go_wp2
  rw [HW3.out]
  go_ret2
  refine ⟨?_, HB3.out.1⟩
  rw [HE.out]
  exact ⟨_, rfl, HR.out⟩
end Go.Proofs.YtenmheenieifpacGreatDoor
