/-
  Facts and contracts that the statement leans on.
-/
import Derived.Test.YtjmeakkmfeoigaaGreatDoorLibT15
import Derived.Deep.RegionWith
import Derived.Test.YtjmeakkmfeoigaaGreatDoorLibT7
import Derived.Test.YtjmeakkmfeoigaaGreatDoorLibT9
namespace Go.Proofs.YtjmeakkmfeoigaaGreatDoor
open Go.ChangeShapes Go.WideShapes Go.ChangeAt Go.RowKit
set_option maxRecDepth 100000
def GoodC (S : Nat → Prop) (M : Nat) (w : World) (v : Value) (L : List (List Int)) : Prop := RS2 S w v L ∧ okL M L ∧ L.length ≤ 40
theorem GoodC.below {S : Nat → Prop} {M : Nat} {w w' : World} {v : Value} {L : List (List Int)} (h : GoodC S M w v L) (hb : Below w.heap.size w w') : GoodC S M w' v L := ⟨h.1.kept (Kept.of_below hb), h.2⟩
theorem out_none {S : Nat → Prop} {w : World} {f : Nat} {args : Array Value} {c : Option (List (List Int))} (hc : c = none) (h : ∀ W, Below w.heap.size w W → Calls Tryz.prog f args W fun e w' => OutC S W.heap.size w' e c ∧ Below W.heap.size W w') :
    ∀ W, Below w.heap.size w W → Calls Tryz.prog f args W (Bk w (.tuple #[.slice none 0 0, .iface 64 (.int .i64 4)])) := fun W hW => by
 subst hc
 refine (h W hW).mono ?_
 rintro e w' ⟨he, hb⟩
 exact ⟨he, hW.trans (hb.mono hW.size)⟩
theorem out_some {S : Nat → Prop} {w : World} {f : Nat} {args : Array Value} {c : Option (List (List Int))} {L : List (List Int)} (hc : c = some L) (h : ∀ W, Below w.heap.size w W → Calls Tryz.prog f args W fun e w' => OutC S W.heap.size w' e c ∧ Below W.heap.size W w') :
    ∀ W, Below w.heap.size w W → Calls Tryz.prog f args W fun e w' => ∃ oo ol oc, e = .returned (.tuple #[.slice oo ol oc, .nilIface]) ∧ RS2 (fun b => S b ∨ w.heap.size ≤ b) w' (.slice oo ol oc) L ∧ Below w.heap.size w w' := fun W hW => by
 subst hc
 refine (h W hW).mono ?_
 rintro e w' ⟨he, hb⟩
 obtain ⟨v, rfl, hr⟩ : ∃ v, e = .returned (.tuple #[v, .nilIface]) ∧ RS2 (fun b => S b ∨ W.heap.size ≤ b) w' v L := he
 obtain ⟨oo, oc, rfl, _⟩ := hr.slice
 exact ⟨oo, _, oc, rfl, hr.mono fun b _ hb => hb.imp id (fun h => Nat.le_trans hW.size h), hW.trans (hb.mono hW.size)⟩
set_option maxHeartbeats 4000000 in
theorem cmade_10 (S : Nat → Prop) (M : Nat) (hM : M ≤ 6) (B off cap : Nat) (w : World) (u0 : Value) (L0 : List (List Int)) (c0 : w.cell? ⟨B, off, none⟩ = some u0) (g0 : GoodC S M w u0 L0) (u1 : Value) (L1 : List (List Int)) (c1 : w.cell? ⟨B, off + 1, none⟩ = some u1) (g1 : GoodC S M w u1 L1) :
    Calls Tryz.prog 83 #[.int .i64 10, .slice (some ⟨B, off, none⟩) 2 cap] w fun e w' => OutC S w.heap.size w' e (madeC 10 [L0, L1]) ∧ Below w.heap.size w w' := by
 obtain ⟨o0, q0, rfl, _⟩ := g0.1.slice
 obtain ⟨o1, q1, rfl, _⟩ := g1.1.slice
 have HE : Hid (madeC 10 [L0, L1] = capC (andC L0 L1)) := rfl
 have H0 := (fun W hW => both_cubes S _ _ L0 L1 M hM W (g0.below hW).2.1.1 (g1.below hW).2.1.1 (g0.below hW).1 (g1.below hW).1 : ∀ W, Below w.heap.size w W → Calls Tryz.prog 120 #[.slice o0 L0.length q0, .slice o1 L1.length q1] W fun e w' => OutC S W.heap.size w' e (capC (andC L0 L1)) ∧ Below W.heap.size W w')
 obtain ⟨l0, hl0⟩ := nm L0.length
 obtain ⟨l1, hl1⟩ := nm L1.length
 rw [← hl0] at H0 c0
 rw [← hl1] at H0 c1
 clear g0 g1 hl0 hl1
 cases hc : capC (andC L0 L1) with
 | none =>
  have H : Hid (∀ W, Below w.heap.size w W → _) := out_none hc H0
  rw [hc] at HE
  clear H0 hc
  go_enter Tryz.func83, Tryz.ntmps83
  go_wp2_with fail
  go_region_with (go_at_call 120; refine (H.out _ (by first | exact Below.refl _ _ | exact below_drewNs _ _)).mono ?_; rintro e w3 ⟨rfl, hb3⟩)
  all_goals go_wp2
  all_goals go_ret2
  all_goals refine ⟨?_, hb3⟩
  all_goals (rw [HE.out]; exact rfl)
 | some L =>
  have H : Hid (∀ W, Below w.heap.size w W → _) := out_some hc H0
  rw [hc] at HE
  clear H0 hc
  go_enter Tryz.func83, Tryz.ntmps83
  go_wp2_with fail
  go_region_with (go_at_call 120; refine (H.out _ (by first | exact Below.refl _ _ | exact below_drewNs _ _)).mono ?_; rintro e w3 ⟨oo, ol, oc, rfl, hr3, hb3⟩)
  all_goals go_wp2
  all_goals go_ret2
  all_goals refine ⟨?_, hb3⟩
  all_goals (rw [HE.out]; exact ⟨.slice oo ol oc, rfl, hr3⟩)
set_option maxHeartbeats 4000000 in
theorem cmade_11 (S : Nat → Prop) (M : Nat) (hM : M ≤ 6) (B off cap : Nat) (w : World) (u0 : Value) (L0 : List (List Int)) (c0 : w.cell? ⟨B, off, none⟩ = some u0) (g0 : GoodC S M w u0 L0) (u1 : Value) (L1 : List (List Int)) (c1 : w.cell? ⟨B, off + 1, none⟩ = some u1) (g1 : GoodC S M w u1 L1) :
    Calls Tryz.prog 83 #[.int .i64 11, .slice (some ⟨B, off, none⟩) 2 cap] w fun e w' => OutC S w.heap.size w' e (madeC 11 [L0, L1]) ∧ Below w.heap.size w w' := by
 obtain ⟨o0, q0, rfl, _⟩ := g0.1.slice
 obtain ⟨o1, q1, rfl, _⟩ := g1.1.slice
 have HE : Hid (madeC 11 [L0, L1] = capC (orC L0 L1)) := rfl
 have H0 := (fun W hW => either_cubes S _ _ L0 L1 M hM W (g0.below hW).2.1.1 (g1.below hW).2.1.1 g0.2.2 g1.2.2 (g0.below hW).1 (g1.below hW).1 : ∀ W, Below w.heap.size w W → Calls Tryz.prog 121 #[.slice o0 L0.length q0, .slice o1 L1.length q1] W fun e w' => OutC S W.heap.size w' e (capC (orC L0 L1)) ∧ Below W.heap.size W w')
 obtain ⟨l0, hl0⟩ := nm L0.length
 obtain ⟨l1, hl1⟩ := nm L1.length
 rw [← hl0] at H0 c0
 rw [← hl1] at H0 c1
 clear g0 g1 hl0 hl1
 cases hc : capC (orC L0 L1) with
 | none =>
  have H : Hid (∀ W, Below w.heap.size w W → _) := out_none hc H0
  rw [hc] at HE
  clear H0 hc
  go_enter Tryz.func83, Tryz.ntmps83
  go_wp2_with fail
  go_region_with (go_at_call 121; refine (H.out _ (by first | exact Below.refl _ _ | exact below_drewNs _ _)).mono ?_; rintro e w3 ⟨rfl, hb3⟩)
  all_goals go_wp2
  all_goals go_ret2
  all_goals refine ⟨?_, hb3⟩
  all_goals (rw [HE.out]; exact rfl)
 | some L =>
  have H : Hid (∀ W, Below w.heap.size w W → _) := out_some hc H0
  rw [hc] at HE
  clear H0 hc
  go_enter Tryz.func83, Tryz.ntmps83
  go_wp2_with fail
  go_region_with (go_at_call 121; refine (H.out _ (by first | exact Below.refl _ _ | exact below_drewNs _ _)).mono ?_; rintro e w3 ⟨oo, ol, oc, rfl, hr3, hb3⟩)
  all_goals go_wp2
  all_goals go_ret2
  all_goals refine ⟨?_, hb3⟩
  all_goals (rw [HE.out]; exact ⟨.slice oo ol oc, rfl, hr3⟩)
set_option maxHeartbeats 4000000 in
theorem cmade_12 (S : Nat → Prop) (M : Nat) (hM : M ≤ 6) (B off cap : Nat) (w : World) (u0 : Value) (L0 : List (List Int)) (c0 : w.cell? ⟨B, off, none⟩ = some u0) (g0 : GoodC S M w u0 L0) :
    Calls Tryz.prog 83 #[.int .i64 12, .slice (some ⟨B, off, none⟩) 1 cap] w fun e w' => OutC S w.heap.size w' e (madeC 12 [L0]) ∧ Below w.heap.size w w' := by
 obtain ⟨o0, q0, rfl, _⟩ := g0.1.slice
 have HE : Hid (madeC 12 [L0] = noC L0 [[]]) := rfl
 have H0 := (fun W hW => none_cubes S _ L0 M hM W (g0.below hW).2.1.1 (g0.below hW).1 : ∀ W, Below w.heap.size w W → Calls Tryz.prog 122 #[.slice o0 L0.length q0] W fun e w' => OutC S W.heap.size w' e (noC L0 [[]]) ∧ Below W.heap.size W w')
 obtain ⟨l0, hl0⟩ := nm L0.length
 rw [← hl0] at H0 c0
 clear g0 hl0
 cases hc : noC L0 [[]] with
 | none =>
  have H : Hid (∀ W, Below w.heap.size w W → _) := out_none hc H0
  rw [hc] at HE
  clear H0 hc
  go_enter Tryz.func83, Tryz.ntmps83
  go_wp2_with (go_at_call 122; refine (H.out _ (Below.refl _ _)).mono ?_; rintro e w3 ⟨rfl, hb3⟩)
  go_ret2
  refine ⟨?_, hb3⟩
  rw [HE.out]; rfl
 | some L =>
  have H : Hid (∀ W, Below w.heap.size w W → _) := out_some hc H0
  rw [hc] at HE
  clear H0 hc
  go_enter Tryz.func83, Tryz.ntmps83
  go_wp2_with (go_at_call 122; refine (H.out _ (Below.refl _ _)).mono ?_; rintro e w3 ⟨oo, ol, oc, rfl, hr3, hb3⟩)
  go_ret2
  refine ⟨?_, hb3⟩
  rw [HE.out]
  exact ⟨_, rfl, hr3⟩
set_option maxHeartbeats 4000000 in
theorem cmade_13 (S : Nat → Prop) (M : Nat) (hM : M ≤ 6) (B off cap : Nat) (w : World) (u0 : Value) (L0 : List (List Int)) (c0 : w.cell? ⟨B, off, none⟩ = some u0) (g0 : GoodC S M w u0 L0) (u1 : Value) (L1 : List (List Int)) (c1 : w.cell? ⟨B, off + 1, none⟩ = some u1) (g1 : GoodC S M w u1 L1) (hB : B < w.heap.size) :
    Calls Tryz.prog 83 #[.int .i64 13, .slice (some ⟨B, off, none⟩) 2 cap] w fun e w' => OutC S w.heap.size w' e (madeC 13 [L0, L1]) ∧ Below w.heap.size w w' := by
 obtain ⟨o0, q0, rfl, _⟩ := g0.1.slice
 obtain ⟨o1, q1, rfl, _⟩ := g1.1.slice
 have HE : Hid (madeC 13 [L0, L1] = (noC L0 [[]]).bind (fun x => capC (orC x L1))) := rfl
 have H0 := (fun W hW => none_cubes S _ L0 M hM W (g0.below hW).2.1.1 (g0.below hW).1 : ∀ W, Below w.heap.size w W → Calls Tryz.prog 122 #[.slice o0 L0.length q0] W fun e w' => OutC S W.heap.size w' e (noC L0 [[]]) ∧ Below W.heap.size W w')
 have HC1 : Hid (∀ W, Below w.heap.size w W → W.cell? ⟨B, off + 1, none⟩ = some (.slice o1 L1.length q1)) := fun W hW => by rw [hW.cell (show (⟨B, off + 1, none⟩ : Addr).block < _ from hB)]; exact c1
 have H1 : Hid (∀ W x v, Below w.heap.size w W → noC L0 [[]] = some x → RS2 (fun b => S b ∨ w.heap.size ≤ b) W v x → Calls Tryz.prog 121 #[v, .slice o1 L1.length q1] W fun e w' => OutC (fun b => S b ∨ w.heap.size ≤ b) W.heap.size w' e (capC (orC x L1)) ∧ Below W.heap.size W w') := fun W x v hW hx hv => by
  have hok := no_ok hM _ _ _ g0.2.1.1 (okL_one M) (by simp) hx
  exact either_cubes (fun b => S b ∨ w.heap.size ≤ b) v _ x L1 M hM W hok.1.1 g1.2.1.1 hok.2 g1.2.2 hv ((g1.below hW).1.mono fun b _ h => Or.inl h)
 obtain ⟨l0, hl0⟩ := nm L0.length
 obtain ⟨l1, hl1⟩ := nm L1.length
 rw [← hl0] at H0 c0
 rw [← hl1] at HC1 H1
 clear g0 g1 hl0 hl1 c1
 cases hc : noC L0 [[]] with
 | none =>
  have H : Hid (∀ W, Below w.heap.size w W → _) := out_none hc H0
  rw [hc] at HE
  clear H0 hc H1
  go_enter Tryz.func83, Tryz.ntmps83
  go_wp2_with (go_at_call 122; refine (H.out _ (Below.refl _ _)).mono ?_; rintro e w3 ⟨rfl, hb3⟩)
  go_ret2
  refine ⟨?_, hb3⟩
  rw [HE.out]; rfl
 | some x =>
  have H : Hid (∀ W, Below w.heap.size w W → _) := out_some hc H0
  have HH1 : Hid (∀ W v, Below w.heap.size w W → RS2 (fun b => S b ∨ w.heap.size ≤ b) W v x → _) := fun W v hW hv => H1.out W x v hW hc hv
  rw [hc] at HE
  clear H0 hc H1
  go_enter Tryz.func83, Tryz.ntmps83
  go_wp2_with fail
  go_at_call 122
  refine (H.out _ (Below.refl _ _)).mono ?_
  rintro e w3 ⟨oo, ol, oc, rfl, hr3, hb3⟩
  have HB3 := hide hb3
  have c1 := HC1.out w3 hb3
  have HE2 : Hid (madeC 13 [L0, L1] = capC (orC x L1)) := HE.out
  have HF0 := (HH1.out w3 _ hb3 hr3 : Calls Tryz.prog 121 #[.slice oo ol oc, .slice o1 l1 q1] w3 fun e w' => OutC (fun b => S b ∨ w.heap.size ≤ b) w3.heap.size w' e (capC (orC x L1)) ∧ Below w3.heap.size w3 w')
  cases hc2 : capC (orC x L1) with
  | none =>
   rw [hc2] at HE2 HF0
   have HF := hide HF0
   clear HF0 hr3 hb3 hc2 HE H HH1
   go_wp2_with fail
   go_at_call 121
   refine HF.out.mono ?_
   rintro e w4 ⟨rfl, hb4⟩
   have HB4 := hide (HB3.out.trans (hb4.mono HB3.out.size))
   clear hb4
   go_wp2
   go_ret2
   refine ⟨?_, HB4.out⟩
   rw [HE2.out]; rfl
  | some L =>
   rw [hc2] at HE2 HF0
   have HF : Hid (Calls Tryz.prog 121 #[.slice oo ol oc, .slice o1 l1 q1] w3 fun e w' => ∃ po pl pc, e = .returned (.tuple #[.slice po pl pc, .nilIface]) ∧ RS2 (fun b => S b ∨ w.heap.size ≤ b) w' (.slice po pl pc) L ∧ Below w3.heap.size w3 w') := by
    refine HF0.mono ?_
    rintro e w' ⟨he, hb⟩
    obtain ⟨v, rfl, hr⟩ : ∃ v, e = .returned (.tuple #[v, .nilIface]) ∧ RS2 (fun b => (S b ∨ w.heap.size ≤ b) ∨ w3.heap.size ≤ b) w' v L := he
    obtain ⟨po, pc, rfl, _⟩ := hr.slice
    exact ⟨po, _, pc, rfl, hr.mono fun b _ hb => hb.elim id (fun h => Or.inr (Nat.le_trans HB3.out.size h)), hb⟩
   clear HF0 hr3 hb3 hc2 HE H HH1
   go_wp2_with fail
   go_at_call 121
   refine HF.out.mono ?_
   rintro e w4 ⟨po, pl, pc, rfl, hr4, hb4⟩
   have HB4 : Hid (Below w.heap.size w w4 ∧ RS2 (fun b => S b ∨ w.heap.size ≤ b) w4 (.slice po pl pc) L) := ⟨HB3.out.trans (hb4.mono HB3.out.size), hr4⟩
   clear hb4 hr4
   go_wp2
   go_ret2
   refine ⟨?_, HB4.out.1⟩
   rw [HE2.out]
   exact ⟨_, rfl, HB4.out.2⟩
set_option maxHeartbeats 4000000 in
theorem cmade_leaf (S : Nat → Prop) (s : Int) (h0 : 0 ≤ s) (h6 : s < 6) (v : Value) (w : World) :
    Calls Tryz.prog 83 #[.int .i64 s, v] w fun e w' => OutC S w.heap.size w' e (madeC s []) ∧ Below w.heap.size w w' := by
 have HE : Hid (madeC s [] = some [[s + 1]]) := by
  unfold Hid madeC
  rw [if_neg (by omega), if_neg (by omega), if_neg (by omega), if_neg (by omega)]
 have g0 : (s == 10) = false := by simp; omega
 have g1 : (s == 11) = false := by simp; omega
 have g2 : (s == 13) = false := by simp; omega
 have g3 : (s == 12) = false := by simp; omega
 obtain ⟨w2, hw2⟩ := nm (w.alloc (.cells #[.int .i64 (s + 1)] 3))
 obtain ⟨w3, hw3⟩ := nm (w2.alloc (.cells #[.slice (some ⟨w.heap.size, 0, none⟩) 1 1] 27))
 have hs2 : w2.heap.size = w.heap.size + 1 := by rw [hw2]; simp
 have HB3 : Hid (Below w.heap.size w w3 ∧ w3.heap.size = w.heap.size + 2) := by
  refine ⟨?_, by rw [hw3]; simp [hs2]⟩
  rw [hw3]
  exact (by rw [hw2]; exact below_alloc1 _ _ : Below w.heap.size w w2).trans ((below_alloc1 _ _).mono (by omega))
 have HR : Hid (RS2 (fun b => S b ∨ w.heap.size ≤ b) w3 (.slice (some ⟨w.heap.size + 1, 0, none⟩) 1 1) [[s + 1]]) := by
  refine Or.inr ⟨w.heap.size + 1, 0, 1, rfl, ⟨Or.inr (by omega), by have := HB3.out.2; omega⟩, by simp, ⟨by simp, by simp⟩, fun k t hk => ?_⟩
  have hk0 : k = 0 := by have := (List.getElem?_eq_some_iff.1 hk).1; simpa using this
  subst hk0
  simp at hk; subst hk
  refine ⟨.slice (some ⟨w.heap.size, 0, none⟩) 1 1, by rw [hw3, ← hs2]; simp, Or.inr ⟨w.heap.size, 0, 1, rfl, ⟨Or.inr (Nat.le_refl _), by have := HB3.out.2; omega⟩, by simp, ⟨by simp, by simp⟩, fun j hj => ?_⟩⟩
  have hj0 : j = 0 := by simpa using hj
  subst hj0
  rw [hw3, World.cell?_alloc_lt _ _ ⟨w.heap.size, 0 + 0, none⟩ (by simp; omega), hw2]
  simp
 have HW3 : Hid ((w.alloc (.cells #[.int .i64 (s + 1)] 3)).alloc (.cells #[.slice (some ⟨w.heap.size, 0, none⟩) 1 1] 27) = w3) := by unfold Hid; rw [hw3, hw2]
 clear hw2 hw3
 go_enter Tryz.func83, Tryz.ntmps83
 go_wp2
 rw [HW3.out]
 go_ret2
 refine ⟨?_, HB3.out.1⟩
 rw [HE.out]
 exact ⟨_, rfl, HR.out⟩
end Go.Proofs.YtjmeakkmfeoigaaGreatDoor
namespace Go.Proofs.YtjmeakkmfeoigaaGreatDoor
open Go.ChangeShapes Go.WideShapes Go.ChangeAt Go.RowKit
set_option maxRecDepth 100000
theorem firstFault_drop (ats : List At) {k : Nat} {a : At} (ha : ats[k]? = some a) : firstFault (ats.drop k) = if a.fault = 0 then firstFault (ats.drop (k + 1)) else a.fault := by
 obtain ⟨hk, rfl⟩ := List.getElem?_eq_some_iff.1 ha
 rw [List.drop_eq_getElem_cons hk]; rfl
theorem fcheck_none (va vc : Value) (ats : List At) (c : List Int) (w : World) (hA : ReadsA w va ats) (hC : Reads w vc c) (h0 : ats.length = 0 ∨ c.length = 0) :
    Calls Tryz.prog 14 #[.agg #[va, vc]] w (Bk w (.iface 64 (.int .i64 5))) := by
 obtain ⟨ao, acap, rfl, hal⟩ := hA.slice
 obtain ⟨co, ccap, rfl, hcl⟩ := hC.slice
 clear hA hC
 obtain ⟨m, hm⟩ := nm ats.length
 obtain ⟨n, hn⟩ := nm c.length
 rw [← hm] at h0 hal ⊢
 rw [← hn] at h0 hcl ⊢
 clear hm hn
 rcases h0 with rfl | rfl
 ·go_enter Tryz.func14, Tryz.ntmps14
  go_wp2
  go_ret
  exact ⟨rfl, below_alloc1 _ _⟩
 ·by_cases h1 : m = 0
  ·subst h1
   go_enter Tryz.func14, Tryz.ntmps14
   go_wp2
   go_ret
   exact ⟨rfl, below_alloc1 _ _⟩
  ·have h1' : ¬ ((m : Int) = 0) := by omega
   go_enter Tryz.func14, Tryz.ntmps14
   go_wp2
   go_ret
   exact ⟨rfl, below_alloc1 _ _⟩
theorem fcheck_full (va vc : Value) (ats : List At) (c : List Int) (w : World) (hA : ReadsA w va ats) (hC : Reads w vc c) (h0 : ¬ (ats.length = 0 ∨ c.length = 0)) (h1 : 6 < ats.length ∨ 20 < c.length) :
    Calls Tryz.prog 14 #[.agg #[va, vc]] w (Bk w (.iface 64 (.int .i64 4))) := by
 obtain ⟨ao, acap, rfl, hal⟩ := hA.slice
 obtain ⟨co, ccap, rfl, hcl⟩ := hC.slice
 clear hA hC
 obtain ⟨m, hm⟩ := nm ats.length
 obtain ⟨n, hn⟩ := nm c.length
 rw [← hm] at h0 h1 hal ⊢
 rw [← hn] at h0 h1 hcl ⊢
 clear hm hn
 have hm' : ((m : Int) == 0) = false := by simp; omega
 have hn' : ((n : Int) == 0) = false := by simp; omega
 have HT : Hid (∀ W, Calls Tryz.prog 35 #[.int .i64 m, .int .i64 n] W (Sk W (.bool true))) := fun W => by
  have := tooMany_any m n W
  rw [show (decide (6 < (m : Int)) || decide (20 < (n : Int))) = true by simp; omega] at this
  exact this
 clear h0 h1
 go_enter Tryz.func14, Tryz.ntmps14
 go_wp2_with fail
 go_at_call 35
 refine (HT.out _).mono ?_
 rintro e w' ⟨rfl, rfl⟩
 go_wp2
 go_ret
 exact ⟨rfl, below_alloc1 _ _⟩
theorem fcheck_rest (ao co : Option Addr) (acap ccap : Nat) (ats : List At) (c : List Int) (w : World) (hA : ReadsA w (.slice ao ats.length acap) ats) (hC : Reads w (.slice co c.length ccap) c) (hK : KindsLaid w) (h0 : ¬ (ats.length = 0 ∨ c.length = 0)) (h1 : ¬ (6 < ats.length ∨ 20 < c.length)) :
    Calls Tryz.prog 14 #[.agg #[.slice ao ats.length acap, .slice co c.length ccap]] w (Bk w (errV (formFault ats c))) := by
 obtain ⟨w1, hw1⟩ := nm (w.alloc (.cells #[.slice ao ats.length acap, .slice co c.length ccap] 39))
 have HB1 : Hid (Below w.heap.size w w1) := by unfold Hid; rw [hw1]; exact below_alloc1 w _
 have HS1 : Hid (w1.heap.size = w.heap.size + 1) := by unfold Hid; rw [hw1]; simp
 have HX : Hid (w1.cell? ⟨w.heap.size, 0, none⟩ = some (.slice ao ats.length acap) ∧ w1.cell? ⟨w.heap.size, 1, none⟩ = some (.slice co c.length ccap)) := by
  unfold Hid; rw [hw1]; simp
 have HA := hide (hA.below HB1.out)
 have HC := hide (hC.below HB1.out)
 have HK := hide (hK.below HB1.out)
 clear hA hC hK
 have HF : Hid (formFault ats c = if firstFault ats = 0 then (if c.all (signF ats.length) = true then (if cntF c 0 = some 1 then 0 else 3) else 1) else firstFault ats) := by
  unfold Hid formFault; rw [if_neg h0, if_neg h1]
 obtain ⟨m, hm⟩ := nm ats.length
 obtain ⟨n, hn⟩ := nm c.length
 rw [← hm] at h0 h1 hw1 HX HA HF ⊢
 rw [← hn] at h0 h1 hw1 HX HC ⊢
 have HM := hide hm
 have HN := hide hn
 clear hm hn
 have hm' : ((m : Int) == 0) = false := by simp; omega
 have hn' : ((n : Int) == 0) = false := by simp; omega
 have hm6 : m ≤ 6 := by omega
 have hn20 : n ≤ 20 := by omega
 have HT : Hid (∀ W, Calls Tryz.prog 35 #[.int .i64 m, .int .i64 n] W (Sk W (.bool false))) := fun W => by
  have := tooMany_any m n W
  rw [show (decide (6 < (m : Int)) || decide (20 < (n : Int))) = false by simp; omega] at this
  exact this
 clear h0 h1
 have x0 := HX.out.1
 have x1 := HX.out.2
 go_enter Tryz.func14, Tryz.ntmps14
 go_wp2_with fail
 rw [← hw1]
 clear hw1
 go_wp2_with fail
 go_at_call 35
 refine (HT.out _).mono ?_
 rintro e w' ⟨rfl, rfl⟩
 go_wp2
 go_loopw [29] (fun i wr => ∃ k : Nat, k ≤ m ∧ i = .int .i64 k ∧ Below w1.heap.size w1 wr ∧ firstFault (ats.drop k) = firstFault ats) (fun i _ => m - (intOf i).toNat)
 case atStart => exact ⟨0, Nat.zero_le _, rfl, Below.refl _ _, rfl⟩
 case round =>
  obtain ⟨k, hk, rfl, hbel, hff⟩ := hrel
  have HF0 := hide hff
  have HB := hide hbel
  clear hff hbel
  by_cases hlt : k < m
  ·obtain ⟨a, ha⟩ : ∃ a, ats[k]? = some a := ⟨_, List.getElem?_eq_getElem (by have := HM.out; omega)⟩
   have HFF : Hid (firstFault ats = if a.fault = 0 then firstFault (ats.drop (k + 1)) else a.fault) := by
    unfold Hid; rw [← HF0.out, firstFault_drop ats ha]
   rcases HA.out.below HB.out with ⟨_, _, hv, hn⟩ | ⟨b, off, cap, hv, hb, _, _, hall⟩
   ·have := HM.out; rw [hn] at this; simp at this; omega
   obtain rfl : ao = some ⟨b, off, none⟩ := by cases hv; rfl
   obtain ⟨vs, vt, c0, c1, c2, c3, r1, r2⟩ := hall k a ha
   obtain ⟨sao, scap, rfl, _⟩ := r1.slice
   obtain ⟨tao, tcap, rfl, _⟩ := r2.slice
   clear hv hall
   obtain ⟨w2, hw2⟩ := nm (wr.alloc (.cells #[.int .i64 a.k, .slice sao a.s.length scap, .slice tao a.t.length tcap, .int .i64 a.n] 29))
   have HB2 : Hid (Below wr.heap.size wr w2) := by unfold Hid; rw [hw2]; exact below_alloc1 wr _
   have HCk : Hid (Calls Tryz.prog 36 #[.agg #[.int .i64 a.k, .slice sao a.s.length scap, .slice tao a.t.length tcap, .int .i64 a.n]] w2 (Bk w2 (errV a.fault))) :=
    acheck_any a.k a.n _ _ a.s a.t w2 (r1.below HB2.out) (r2.below HB2.out) ((HK.out.below HB.out).below HB2.out)
   clear r1 r2
   go_wp2_with fail
   rw [← hw2]
   clear hw2
   go_at_call 36
   refine HCk.out.mono ?_
   rintro e w3 ⟨rfl, hb3⟩
   have HB3 : Hid (Below w1.heap.size w1 w3) := (HB.out.trans (HB2.out.mono HB.out.size)).trans (hb3.mono (Nat.le_trans HB.out.size HB2.out.size))
   clear hb3 HCk
   by_cases hf : a.fault = 0
   ·have HD : Hid (firstFault (ats.drop (k + 1)) = firstFault ats) := by
     have := HFF.out
     rw [if_pos hf] at this
     exact this.symm
    rw [hf, errV_0]
    go_wp2
    go_roundw
    case rel => exact ⟨k + 1, by omega, by go_num, HB3.out, HD.out⟩
    case measure => simp [intOf]; omega
   ·have HE : Hid (formFault ats c = a.fault) := by
     have := HFF.out
     rw [if_neg hf] at this
     unfold Hid; rw [HF.out, this, if_neg hf]
    rw [errV_no hf]
    go_wp2
    go_ret
    refine ⟨back_v ?_, HB1.out.trans (HB3.out.mono HB1.out.size)⟩
    rw [HE.out, errV_no hf]
    rfl
  ·have HE : Hid (firstFault ats = 0) := by
    have := HF0.out
    rw [List.drop_eq_nil_of_le (by have := HM.out; omega)] at this
    exact this.symm
   have hlt0 : w.heap.size < w1.heap.size := by have := HS1.out; omega
   have y0 : wr.cell? ⟨w.heap.size, 0, none⟩ = some (.slice ao m acap) := by rw [HB.out.cell hlt0]; exact HX.out.1
   have y1 : wr.cell? ⟨w.heap.size, 1, none⟩ = some (.slice co n ccap) := by rw [HB.out.cell hlt0]; exact HX.out.2
   rcases HC.out.below HB.out with ⟨_, _, hv, hcn⟩ | ⟨b, off, cap, hv, hb, _, ⟨hl63, _⟩, hc⟩
   ·have := HN.out; rw [hcn] at this; simp at this; subst this; simp at hn'
   obtain rfl : co = some ⟨b, off, none⟩ := by cases hv; rfl
   clear hv
   have cF := fcontainsFunc_any m acap w.heap.size ao b off ccap c wr hl63 y0 hc
   have cO := fisOne_any b off ccap c wr (by have := HN.out; omega) hc
   rw [← HN.out] at cF cO
   obtain ⟨x, hx⟩ := nm (c.all (signF m))
   obtain ⟨y, hy⟩ := nm (decide (cntF c 0 = some 1))
   rw [← hx] at cF
   rw [← hy] at cO
   have HF' : Hid (formFault ats c = if x = true then (if y = true then 0 else 3) else 1) := by
    unfold Hid; rw [HF.out, HE.out, hx, hy]; simp only [decide_eq_true_eq, if_true]
   clear hx hy hc hlt0 hl63 hb
   have HP := hide cF
   have HQ := hide cO
   clear cF cO
   have HEnd := hide (HB1.out.trans (HB.out.mono HB1.out.size))
   cases x
   ·go_wp2_with (go_at_call 39; refine HP.out.mono ?_; rintro e w' ⟨rfl, rfl⟩)
    go_ret
    exact ⟨back_v (by rw [HF'.out]; rfl), HEnd.out⟩
   ·cases y
    all_goals
     go_wp2_with (first | (go_at_call 39; refine HP.out.mono ?_; rintro e w' ⟨rfl, rfl⟩) | (go_at_call 40; refine HQ.out.mono ?_; rintro e w' ⟨rfl, rfl⟩))
     go_ret
     exact ⟨back_v (by rw [HF'.out]; rfl), HEnd.out⟩
theorem fcheck_any (va vc : Value) (ats : List At) (c : List Int) (w : World) (hA : ReadsA w va ats) (hC : Reads w vc c) (hK : KindsLaid w) :
    Calls Tryz.prog 14 #[.agg #[va, vc]] w (Bk w (errV (formFault ats c))) := by
 by_cases h0 : ats.length = 0 ∨ c.length = 0
 ·have e : formFault ats c = 5 := by unfold formFault; rw [if_pos h0]
  rw [e]
  exact fcheck_none va vc ats c w hA hC h0
 by_cases h1 : 6 < ats.length ∨ 20 < c.length
 ·have e : formFault ats c = 4 := by unfold formFault; rw [if_neg h0, if_pos h1]
  rw [e]
  exact fcheck_full va vc ats c w hA hC h0 h1
 obtain ⟨ao, acap, rfl, _⟩ := hA.slice
 obtain ⟨co, ccap, rfl, _⟩ := hC.slice
 exact fcheck_rest ao co acap ccap ats c w hA hC hK h0 h1
end Go.Proofs.YtjmeakkmfeoigaaGreatDoor