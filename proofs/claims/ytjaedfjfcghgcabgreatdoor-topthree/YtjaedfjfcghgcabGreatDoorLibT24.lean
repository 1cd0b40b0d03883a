/-
  Proved: what cubes.either returns: the cubes of the first, then those of the second, none twice, or that they are too many; what was in memory is as it was (a contract that the statements lean on).
  Proved: what cubes.made returns: the cubes of what a sign makes of those that it takes, or that they are too many; what was in memory is as it was (contracts that the statements lean on). Written by program.
  Proved: what form.Check returns, of any atoms and any row of signs; what was in memory is as it was (a contract that the statements lean on).
-/
import Derived.Test.YtjaedfjfcghgcabGreatDoorLibT23
import Derived.Deep.RegionWith
import Derived.Test.YtjaedfjfcghgcabGreatDoorLibT10
import Derived.Test.YtjaedfjfcghgcabGreatDoorLibT12
namespace Go.Proofs.YtjaedfjfcghgcabGreatDoor
open Go.ChangeShapes Go.WideShapes Go.ChangeAt Go.RowKit
set_option maxRecDepth 100000

/-- a row of rows as one that is put together. -/
theorem rs2_row {S : Nat → Prop} {w : World} {v : Value} {L : List (List Int)} (h : RS2 S w v L) : ∃ o cap xs, v = .slice o L.length cap ∧ (⟨o, L.length, cap, xs⟩ : RowV).Lies w ∧ xs.length = L.length ∧ ∀ (k : Nat) t, L[k]? = some t → ∃ u, xs[k]? = some u ∧ RS S w u t := by
  rcases h with ⟨ao, cap, rfl, rfl⟩ | ⟨b, off, cap, rfl, hB, h0, _, hc⟩
  · exact ⟨ao, cap, [], rfl, ⟨by simp, by simp, Or.inl rfl⟩, rfl, fun k t hk => by simp at hk⟩
  · have key : ∀ k, k < L.length → ∃ u, w.cell? ⟨b, off + k, none⟩ = some u ∧ u.oneCell' = true := fun k hk => by
      obtain ⟨u, hu, hr⟩ := hc k _ (List.getElem?_eq_getElem hk)
      exact ⟨u, hu, hr.one⟩
    refine ⟨_, cap, (List.range L.length).map (fun j => (w.cell? ⟨b, off + j, none⟩).getD (.int .i64 0)), rfl, ⟨by simp, ?_, Or.inr ⟨b, off, rfl, hB.2, ?_⟩⟩, by simp, ?_⟩
    · intro u hu
      obtain ⟨k, hk, rfl⟩ := List.mem_map.1 hu
      obtain ⟨x, hx, h1⟩ := key k (List.mem_range.1 hk)
      rw [hx]; exact h1
    · intro j u hu
      have hu' : ((List.range L.length).map (fun j => (w.cell? ⟨b, off + j, none⟩).getD (.int .i64 0)))[j]? = some u := hu
      rw [List.getElem?_map] at hu'
      cases hr : (List.range L.length)[j]? with
      | none => rw [hr] at hu'; cases hu'
      | some k =>
        rw [hr] at hu'
        obtain ⟨hk, e⟩ := List.getElem?_eq_some_iff.1 hr
        have e' : k = j := by simpa using e.symm
        subst e'
        obtain ⟨x, hx, _⟩ := key k (by simpa using hk)
        simp only [Option.map_some, hx, Option.getD_some, Option.some.injEq] at hu'
        rw [hx, hu']
    · intro k t hk
      obtain ⟨u, hu, hr⟩ := hc k t hk
      have hkl := (List.getElem?_eq_some_iff.1 hk).1
      refine ⟨u, ?_, hr⟩
      rw [List.getElem?_map, List.getElem?_range hkl]
      simp [hu]
theorem withC_ok {M : Nat} {L : List (List Int)} {c : List Int} (h : cubeOk M c) : withC L c = putC L c := by
  unfold withC putC
  rw [cube_noway h, Bool.false_or]

set_option maxHeartbeats 4000000 in
theorem either_cubes (S : Nat → Prop) (va vb : Value) (A B : List (List Int)) (M : Nat) (hM : M ≤ 6) (w : World) (hA : ∀ c ∈ A, cubeOk M c) (hB : ∀ c ∈ B, cubeOk M c) (hA4 : A.length ≤ 40) (hB4 : B.length ≤ 40) (hRA : RS2 S w va A) (hRB : RS2 S w vb B) :
    Calls Tryz.prog 67 #[va, vb] w fun e w' => OutC S w.heap.size w' e (capC (orC A B)) ∧ Below w.heap.size w w' := by
  obtain ⟨ao, acap, xa, rfl, la, hxa, hxar⟩ := rs2_row hRA
  obtain ⟨bo, bcap, xb, rfl, lb, hxb, hxbr⟩ := rs2_row hRB
  obtain ⟨K, hK⟩ : ∃ K, K = w.heap.size := ⟨_, rfl⟩
  have HK : Hid (K = w.heap.size) := hK
  obtain ⟨D, hD⟩ : ∃ D, D = A ++ B := ⟨_, rfl⟩
  have HX : Hid (∀ k, k < D.length → ∃ o l cp, (xa ++ xb)[k]? = some (.slice o l cp) ∧ RS (fun b => S b ∧ b < K) w (.slice o l cp) (D.getD k [])) := fun k hk => by
    have : ∃ u, (xa ++ xb)[k]? = some u ∧ RS S w u (D.getD k []) := by
      rw [hD] at hk ⊢
      by_cases hka : k < A.length
      · obtain ⟨u, hu, hr⟩ := hxar k _ (List.getElem?_eq_getElem hka)
        refine ⟨u, by rw [List.getElem?_append_left (by omega)]; exact hu, ?_⟩
        rw [List.getD_eq_getElem?_getD, List.getElem?_append_left hka, List.getElem?_eq_getElem hka]; exact hr
      · have hkb : k - A.length < B.length := by simp at hk; omega
        obtain ⟨u, hu, hr⟩ := hxbr (k - A.length) _ (List.getElem?_eq_getElem hkb)
        refine ⟨u, by rw [List.getElem?_append_right (by omega), hxa]; exact hu, ?_⟩
        rw [List.getD_eq_getElem?_getD, List.getElem?_append_right (by omega), List.getElem?_eq_getElem hkb]; exact hr
    obtain ⟨u, hu, hr⟩ := this
    obtain ⟨o, cp, rfl, _⟩ := hr.slice
    exact ⟨o, _, cp, hu, hr.mono fun b hb hs => ⟨hs, by rw [hK]; exact hb⟩⟩
  have HOk : Hid (∀ k, k < D.length → cubeOk M (D.getD k [])) := fun k hk => by
    have hm := mem_getD hk
    rw [hD] at hm ⊢
    rcases List.mem_append.1 hm with h | h
    · exact hA _ h
    · exact hB _ h
  have hor : orC A B = D.foldl putC [] := by rw [hD]; rfl
  have HL : Hid (A.length ≤ 40 ∧ B.length ≤ 40 ∧ D.length = A.length + B.length) := ⟨hA4, hB4, by rw [hD]; simp⟩
  obtain ⟨na, hna⟩ : ∃ na, na = A.length := ⟨_, rfl⟩
  obtain ⟨nb, hnb⟩ : ∃ nb, nb = B.length := ⟨_, rfl⟩
  rw [← hna, ← hnb] at HL
  rw [← hna] at la
  rw [← hnb] at lb
  rw [← hna, ← hnb, hor, ← hK]
  clear hRA hRB hA hB hD hor hK hxar hxbr hA4 hB4 hna hnb hxa hxb
  obtain ⟨w1, hw1⟩ : ∃ w1, w1 = w.alloc (.cells #[.slice ao na acap, .slice bo nb bcap] 27) := ⟨_, rfl⟩
  have HB1 : Hid (Below w.heap.size w w1 ∧ w1.heap.size = w.heap.size + 1) := by unfold Hid; rw [hw1]; exact ⟨below_alloc1 _ _, by simp⟩
  have HCo : Hid (Calls Tryz.prog 106 #[.slice (some ⟨w.heap.size, 0, none⟩) 2 2] w1 fun e w' => ∃ v, e = .returned v ∧ w'.ownsRow w1.heap.size 23 1 v (na + nb) (xa ++ xb) ∧ Below w1.heap.size w1 w') := by
    have h := concatV2 [⟨ao, na, acap, xa⟩, ⟨bo, nb, bcap, xb⟩] w.heap.size 2 w1 (by simp) (by have := HB1.out.2; omega) (fun k r hk => ?_) (fun r hr => ?_) (by have := HL.out; simp [manyV]; omega)
    · have e1 : manyV [⟨ao, na, acap, xa⟩, ⟨bo, nb, bcap, xb⟩] = na + nb := by simp [manyV]
      have e2 : allV [⟨ao, na, acap, xa⟩, ⟨bo, nb, bcap, xb⟩] = xa ++ xb := by simp [allV]
      rw [e1, e2] at h
      exact h
    · match k, hk with
      | 0, hk => simp at hk; subst hk; rw [hw1]; simp
      | 1, hk => simp at hk; subst hk; rw [hw1]; simp
    · simp at hr
      rcases hr with rfl | rfl
      · exact la.below HB1.out.1
      · exact lb.below HB1.out.1
  clear la lb
  go_enter Tryz.func67, Tryz.ntmps67
  go_wp2_with fail
  rw [← hw1]
  clear hw1
  go_at_call 106
  refine HCo.out.mono ?_
  rintro e w2 ⟨v2, rfl, hown, hb⟩
  obtain ⟨n, hn⟩ : ∃ n, n = na + nb := ⟨_, rfl⟩
  rw [← hn] at hown
  have HN : Hid (n = D.length ∧ n ≤ 80) := ⟨by have := HL.out; omega, by have := HL.out; omega⟩
  obtain ⟨vo, vcap, rfl⟩ : ∃ vo vcap, v2 = .slice vo n vcap := by
    rcases hown.2 with ⟨rfl, h0⟩ | ⟨g, cap, cur, rfl, _⟩
    · exact ⟨none, 0, by rw [h0]⟩
    · exact ⟨_, cap, rfl⟩
  obtain ⟨Q, hQ⟩ : ∃ Q, Q = w2.heap.size := ⟨_, rfl⟩
  have HQ : Hid (Q = w2.heap.size ∧ K ≤ Q ∧ Below K w w2) := by
    have h1 := HB1.out; have h2 := HK.out; have h3 := hb.size
    refine ⟨hQ, by omega, ?_⟩
    rw [h2]
    exact h1.1.trans (hb.mono h1.1.size)
  have HC : Hid (∀ W k, Below Q w2 W → k < n → ∃ g o l cp, vo = some ⟨g, 0, none⟩ ∧ W.cell? ⟨g, k, none⟩ = some (.slice o l cp) ∧ RS (fun b => S b ∧ b < K) W (.slice o l cp) (D.getD k [])) := fun W k hW hk => by
    obtain ⟨o, l, cp, hx, hr⟩ := HX.out k (by rw [← HN.out.1]; exact hk)
    obtain ⟨g, rfl⟩ : ∃ g, vo = some ⟨g, 0, none⟩ := by
      rcases hown.2 with ⟨_, h0⟩ | ⟨g, cap, cur, e, _⟩
      · omega
      · cases e; exact ⟨g, rfl⟩
    have hg := (hown.lt g rfl).2
    refine ⟨g, o, l, cp, rfl, ?_, ?_⟩
    · rw [hW.cell (show (⟨g, k, none⟩ : Addr).block < Q by rw [hQ]; exact hg), hown.cellAt k (by omega)]; exact hx
    · have k1 : Below K w W := HQ.out.2.2.trans (hW.mono HQ.out.2.1)
      exact hr.kept (Kept.of_belowK k1 fun b hb _ => hb.2)
  have hn80 : n ≤ 80 := HN.out.2
  clear hown hb hQ hn HCo
  go_wp2_with fail
  go_loopw [6, 8, 14] (fun v _ i wr => ∃ k : Nat, k ≤ n ∧ i = .int .i64 k ∧ Own2 S Q wr v ((D.take k).foldl putC []) ∧ Below Q w2 wr ∧ Q ≤ wr.heap.size) (fun _ _ i _ => n - (intOf i).toNat)
  case atStart => exact ⟨0, Nat.zero_le _, rfl, Own2.nil _ _ _, Below.refl _ _, by rw [HQ.out.1]; exact Nat.le_refl _⟩
  case round =>
    obtain ⟨k, hk, rfl, hown, hbel, hKw⟩ := hrel
    have HI : Hid (Own2 S Q wr u6 ((D.take k).foldl putC []) ∧ Below Q w2 wr ∧ Q ≤ wr.heap.size) := ⟨hown, hbel, hKw⟩
    have HLp : Hid (((D.take k).foldl putC []).length ≤ 80) := by
      have := (putF_len (D.take k) []).2
      have h2 := HN.out
      unfold Hid
      simp at this
      omega
    clear hown hbel hKw
    by_cases hlt : k < n
    · have hkD : k < D.length := by rw [← HN.out.1]; exact hlt
      obtain ⟨g, co, cl, ccp, rfl, hcell, hcr⟩ := HC.out wr k HI.out.2.1 hlt
      have hltz : (k : Int) < (n : Int) := by omega
      have HW : Hid (Calls Tryz.prog 104 #[u6, .slice co cl ccp] wr fun e w' => ∃ v', e = .returned v' ∧ Own2 S Q w' v' ((D.take (k + 1)).foldl putC []) ∧ wr.grownBy w' u6.ownBlock) := by
        have h := with_any S Q u6 (.slice co cl ccp) _ (D.getD k []) wr HI.out.2.2 HI.out.1 (hcr.mono fun b _ hb => ⟨Or.inl hb.1, fun e => by have := (HI.out.1.lt b e.symm).1; have := HQ.out.2.1; omega⟩) (by have := HLp.out; omega) (fun m hm => by have := (HOk.out k hkD).1 m hm; omega)
        have e1 : withC ((D.take k).foldl putC []) (D.getD k []) = (D.take (k + 1)).foldl putC [] := by
          rw [withC_ok (HOk.out k hkD), takeL_succ D hkD, List.foldl_append]; rfl
        rw [e1] at h
        exact h
      clear hcr hkD
      go_wp2_with fail
      go_at_call 104
      refine HW.out.mono ?_
      rintro e w3 ⟨v3, rfl, hown3, hgr⟩
      have HB3 : Hid (Below Q w2 w3 ∧ Q ≤ w3.heap.size) := ⟨HI.out.2.1.grown hgr HI.out.2.2 (fun j hj => (HI.out.1.lt j hj).1), by have := hgr.size; have := HI.out.2.2; omega⟩
      have HO3 : Hid (Own2 S Q w3 v3 ((D.take (k + 1)).foldl putC [])) := hown3
      clear hown3 hgr HW
      go_wp2
      go_roundw
      case rel => exact ⟨k + 1, by omega, by go_num, HO3.out, HB3.out.1, HB3.out.2⟩
      case measure => simp [intOf]; omega
    · have hltz : ¬ (k : Int) < (n : Int) := by omega
      have HE : Hid (D.take k = D) := List.take_of_length_le (by have := HN.out; omega)
      rw [HE.out] at HI HLp
      obtain ⟨o3, c3, hof⟩ := HI.out.1.form
      obtain ⟨l3, hl3⟩ : ∃ l3, l3 = (D.foldl putC []).length := ⟨_, rfl⟩
      rw [← hl3] at hof
      subst hof
      have HL3 : Hid (l3 = (D.foldl putC []).length) := hl3
      have hl80 : l3 ≤ 80 := by rw [hl3]; exact HLp.out
      clear hl3
      have HBw : Hid (Below K w wr) := HQ.out.2.2.trans (HI.out.2.1.mono HQ.out.2.1)
      by_cases h40 : 40 < l3
      · have h40z : (40 : Int) < (l3 : Int) := by omega
        have HC4 : Hid (capC (D.foldl putC []) = none) := capC_big (by rw [← HL3.out]; exact h40)
        go_wp2
        go_ret2
        refine ⟨?_, HBw.out⟩
        rw [HC4.out]; rfl
      · have h40z : ¬ (40 : Int) < (l3 : Int) := by omega
        have HC4 : Hid (capC (D.foldl putC []) = some (D.foldl putC [])) := capC_small (by rw [← HL3.out]; omega)
        go_wp2
        go_ret2
        refine ⟨?_, HBw.out⟩
        rw [HC4.out]
        exact ⟨_, rfl, (HI.out.1.reads (by rw [← HL3.out]; omega)).mono fun b _ hb => hb.imp id (fun h => Nat.le_trans HQ.out.2.1 h)⟩
end Go.Proofs.YtjaedfjfcghgcabGreatDoor


namespace Go.Proofs.YtjaedfjfcghgcabGreatDoor
open Go.ChangeShapes Go.WideShapes Go.ChangeAt Go.RowKit
set_option maxRecDepth 100000

/-- cubes in memory of which there are not too many. -/
def GoodC (S : Nat → Prop) (M : Nat) (w : World) (v : Value) (L : List (List Int)) : Prop := RS2 S w v L ∧ okL M L ∧ L.length ≤ 40
theorem GoodC.below {S : Nat → Prop} {M : Nat} {w w' : World} {v : Value} {L : List (List Int)} (h : GoodC S M w v L) (hb : Below w.heap.size w w') : GoodC S M w' v L := ⟨h.1.kept (Kept.of_below hb), h.2⟩
theorem out_none {S : Nat → Prop} {w : World} {f : Nat} {args : Array Value} {c : Option (List (List Int))} (hc : c = none) (h : ∀ W, Below w.heap.size w W → Calls Tryz.prog f args W fun e w' => OutC S W.heap.size w' e c ∧ Below W.heap.size W w') :
    ∀ W, Below w.heap.size w W → Calls Tryz.prog f args W fun e w' => e = .returned (.tuple #[.slice none 0 0, .iface 75 (.int .i64 4)]) ∧ Below w.heap.size w w' := fun W hW => by
  subst hc
  refine (h W hW).mono ?_
  rintro e w' ⟨he, hb⟩
  exact ⟨he, hW.trans (hb.mono hW.size)⟩
theorem out_some {S : Nat → Prop} {w : World} {f : Nat} {args : Array Value} {c : Option (List (List Int))} {L : List (List Int)} (hc : c = some L) (h : ∀ W, Below w.heap.size w W → Calls Tryz.prog f args W fun e w' => OutC S W.heap.size w' e c ∧ Below W.heap.size W w') :
    ∀ W, Below w.heap.size w W → Calls Tryz.prog f args W fun e w' => ∃ oo ol oc, e = .returned (.tuple #[.slice oo ol oc, .nilIface]) ∧ RS2 (fun b => S b ∨ w.heap.size ≤ b) w' (.slice oo ol oc) L ∧ Below w.heap.size w w' := fun W hW => by
  subst hc
  refine (h W hW).mono ?_
  rintro e w' ⟨he, hb⟩
  obtain ⟨v, rfl, hr⟩ : ∃ v, e = .returned (.tuple #[v, .nilIface]) ∧ RS2 (fun b => S b ∨ W.heap.size ≤ b) w' v L := he
  obtain ⟨oo, oc, rfl, _⟩ := hr.slice
  exact ⟨oo, _, oc, rfl, hr.mono fun b _ hb => hb.imp id (fun h => Nat.le_trans hW.size h), hW.trans (hb.mono hW.size)⟩

set_option maxHeartbeats 4000000 in
theorem cmade_10 (S : Nat → Prop) (M : Nat) (hM : M ≤ 6) (B off cap : Nat) (w : World) (u0 : Value) (L0 : List (List Int)) (c0 : w.cell? ⟨B, off, none⟩ = some u0) (g0 : GoodC S M w u0 L0) (u1 : Value) (L1 : List (List Int)) (c1 : w.cell? ⟨B, off + 1, none⟩ = some u1) (g1 : GoodC S M w u1 L1) :
    Calls Tryz.prog 23 #[.int .i64 10, .slice (some ⟨B, off, none⟩) 2 cap] w fun e w' => OutC S w.heap.size w' e (madeC 10 [L0, L1]) ∧ Below w.heap.size w w' := by
  obtain ⟨o0, q0, rfl, _⟩ := g0.1.slice
  obtain ⟨o1, q1, rfl, _⟩ := g1.1.slice
  have HE : Hid (madeC 10 [L0, L1] = capC (andC L0 L1)) := rfl
  have H0 := (fun W hW => both_cubes S _ _ L0 L1 M hM W (g0.below hW).2.1.1 (g1.below hW).2.1.1 (g0.below hW).1 (g1.below hW).1 : ∀ W, Below w.heap.size w W → Calls Tryz.prog 66 #[.slice o0 L0.length q0, .slice o1 L1.length q1] W fun e w' => OutC S W.heap.size w' e (capC (andC L0 L1)) ∧ Below W.heap.size W w')
  obtain ⟨l0, hl0⟩ : ∃ l0, l0 = L0.length := ⟨_, rfl⟩
  obtain ⟨l1, hl1⟩ : ∃ l1, l1 = L1.length := ⟨_, rfl⟩
  rw [← hl0] at H0 c0
  rw [← hl1] at H0 c1
  clear g0 g1 hl0 hl1
  cases hc : capC (andC L0 L1) with
  | none =>
    have H : Hid (∀ W, Below w.heap.size w W → _) := out_none hc H0
    rw [hc] at HE
    clear H0 hc
    go_enter Tryz.func23, Tryz.ntmps23
    go_wp2_with fail
    go_region_with (go_at_call 66; refine (H.out _ (by first | exact Below.refl _ _ | exact below_drewNs _ _)).mono ?_; rintro e w3 ⟨rfl, hb3⟩)
    all_goals go_wp2
    all_goals go_ret2
    all_goals refine ⟨?_, hb3⟩
    all_goals (rw [HE.out]; exact rfl)
  | some L =>
    have H : Hid (∀ W, Below w.heap.size w W → _) := out_some hc H0
    rw [hc] at HE
    clear H0 hc
    go_enter Tryz.func23, Tryz.ntmps23
    go_wp2_with fail
    go_region_with (go_at_call 66; refine (H.out _ (by first | exact Below.refl _ _ | exact below_drewNs _ _)).mono ?_; rintro e w3 ⟨oo, ol, oc, rfl, hr3, hb3⟩)
    all_goals go_wp2
    all_goals go_ret2
    all_goals refine ⟨?_, hb3⟩
    all_goals (rw [HE.out]; exact ⟨.slice oo ol oc, rfl, hr3⟩)

set_option maxHeartbeats 4000000 in
theorem cmade_11 (S : Nat → Prop) (M : Nat) (hM : M ≤ 6) (B off cap : Nat) (w : World) (u0 : Value) (L0 : List (List Int)) (c0 : w.cell? ⟨B, off, none⟩ = some u0) (g0 : GoodC S M w u0 L0) (u1 : Value) (L1 : List (List Int)) (c1 : w.cell? ⟨B, off + 1, none⟩ = some u1) (g1 : GoodC S M w u1 L1) :
    Calls Tryz.prog 23 #[.int .i64 11, .slice (some ⟨B, off, none⟩) 2 cap] w fun e w' => OutC S w.heap.size w' e (madeC 11 [L0, L1]) ∧ Below w.heap.size w w' := by
  obtain ⟨o0, q0, rfl, _⟩ := g0.1.slice
  obtain ⟨o1, q1, rfl, _⟩ := g1.1.slice
  have HE : Hid (madeC 11 [L0, L1] = capC (orC L0 L1)) := rfl
  have H0 := (fun W hW => either_cubes S _ _ L0 L1 M hM W (g0.below hW).2.1.1 (g1.below hW).2.1.1 g0.2.2 g1.2.2 (g0.below hW).1 (g1.below hW).1 : ∀ W, Below w.heap.size w W → Calls Tryz.prog 67 #[.slice o0 L0.length q0, .slice o1 L1.length q1] W fun e w' => OutC S W.heap.size w' e (capC (orC L0 L1)) ∧ Below W.heap.size W w')
  obtain ⟨l0, hl0⟩ : ∃ l0, l0 = L0.length := ⟨_, rfl⟩
  obtain ⟨l1, hl1⟩ : ∃ l1, l1 = L1.length := ⟨_, rfl⟩
  rw [← hl0] at H0 c0
  rw [← hl1] at H0 c1
  clear g0 g1 hl0 hl1
  cases hc : capC (orC L0 L1) with
  | none =>
    have H : Hid (∀ W, Below w.heap.size w W → _) := out_none hc H0
    rw [hc] at HE
    clear H0 hc
    go_enter Tryz.func23, Tryz.ntmps23
    go_wp2_with fail
    go_region_with (go_at_call 67; refine (H.out _ (by first | exact Below.refl _ _ | exact below_drewNs _ _)).mono ?_; rintro e w3 ⟨rfl, hb3⟩)
    all_goals go_wp2
    all_goals go_ret2
    all_goals refine ⟨?_, hb3⟩
    all_goals (rw [HE.out]; exact rfl)
  | some L =>
    have H : Hid (∀ W, Below w.heap.size w W → _) := out_some hc H0
    rw [hc] at HE
    clear H0 hc
    go_enter Tryz.func23, Tryz.ntmps23
    go_wp2_with fail
    go_region_with (go_at_call 67; refine (H.out _ (by first | exact Below.refl _ _ | exact below_drewNs _ _)).mono ?_; rintro e w3 ⟨oo, ol, oc, rfl, hr3, hb3⟩)
    all_goals go_wp2
    all_goals go_ret2
    all_goals refine ⟨?_, hb3⟩
    all_goals (rw [HE.out]; exact ⟨.slice oo ol oc, rfl, hr3⟩)

set_option maxHeartbeats 4000000 in
theorem cmade_12 (S : Nat → Prop) (M : Nat) (hM : M ≤ 6) (B off cap : Nat) (w : World) (u0 : Value) (L0 : List (List Int)) (c0 : w.cell? ⟨B, off, none⟩ = some u0) (g0 : GoodC S M w u0 L0) :
    Calls Tryz.prog 23 #[.int .i64 12, .slice (some ⟨B, off, none⟩) 1 cap] w fun e w' => OutC S w.heap.size w' e (madeC 12 [L0]) ∧ Below w.heap.size w w' := by
  obtain ⟨o0, q0, rfl, _⟩ := g0.1.slice
  have HE : Hid (madeC 12 [L0] = noC L0 [[]]) := rfl
  have H0 := (fun W hW => none_cubes S _ L0 M hM W (g0.below hW).2.1.1 (g0.below hW).1 : ∀ W, Below w.heap.size w W → Calls Tryz.prog 68 #[.slice o0 L0.length q0] W fun e w' => OutC S W.heap.size w' e (noC L0 [[]]) ∧ Below W.heap.size W w')
  obtain ⟨l0, hl0⟩ : ∃ l0, l0 = L0.length := ⟨_, rfl⟩
  rw [← hl0] at H0 c0
  clear g0 hl0
  cases hc : noC L0 [[]] with
  | none =>
    have H : Hid (∀ W, Below w.heap.size w W → _) := out_none hc H0
    rw [hc] at HE
    clear H0 hc
    go_enter Tryz.func23, Tryz.ntmps23
    go_wp2_with (go_at_call 68; refine (H.out _ (Below.refl _ _)).mono ?_; rintro e w3 ⟨rfl, hb3⟩)
    go_ret2
    refine ⟨?_, hb3⟩
    rw [HE.out]; rfl
  | some L =>
    have H : Hid (∀ W, Below w.heap.size w W → _) := out_some hc H0
    rw [hc] at HE
    clear H0 hc
    go_enter Tryz.func23, Tryz.ntmps23
    go_wp2_with (go_at_call 68; refine (H.out _ (Below.refl _ _)).mono ?_; rintro e w3 ⟨oo, ol, oc, rfl, hr3, hb3⟩)
    go_ret2
    refine ⟨?_, hb3⟩
    rw [HE.out]
    exact ⟨_, rfl, hr3⟩

set_option maxHeartbeats 4000000 in
theorem cmade_13 (S : Nat → Prop) (M : Nat) (hM : M ≤ 6) (B off cap : Nat) (w : World) (u0 : Value) (L0 : List (List Int)) (c0 : w.cell? ⟨B, off, none⟩ = some u0) (g0 : GoodC S M w u0 L0) (u1 : Value) (L1 : List (List Int)) (c1 : w.cell? ⟨B, off + 1, none⟩ = some u1) (g1 : GoodC S M w u1 L1) (hB : B < w.heap.size) :
    Calls Tryz.prog 23 #[.int .i64 13, .slice (some ⟨B, off, none⟩) 2 cap] w fun e w' => OutC S w.heap.size w' e (madeC 13 [L0, L1]) ∧ Below w.heap.size w w' := by
  obtain ⟨o0, q0, rfl, _⟩ := g0.1.slice
  obtain ⟨o1, q1, rfl, _⟩ := g1.1.slice
  have HE : Hid (madeC 13 [L0, L1] = (noC L0 [[]]).bind (fun x => capC (orC x L1))) := rfl
  have H0 := (fun W hW => none_cubes S _ L0 M hM W (g0.below hW).2.1.1 (g0.below hW).1 : ∀ W, Below w.heap.size w W → Calls Tryz.prog 68 #[.slice o0 L0.length q0] W fun e w' => OutC S W.heap.size w' e (noC L0 [[]]) ∧ Below W.heap.size W w')
  have HC1 : Hid (∀ W, Below w.heap.size w W → W.cell? ⟨B, off + 1, none⟩ = some (.slice o1 L1.length q1)) := fun W hW => by rw [hW.cell (show (⟨B, off + 1, none⟩ : Addr).block < _ from hB)]; exact c1
  have H1 : Hid (∀ W x v, Below w.heap.size w W → noC L0 [[]] = some x → RS2 (fun b => S b ∨ w.heap.size ≤ b) W v x → Calls Tryz.prog 67 #[v, .slice o1 L1.length q1] W fun e w' => OutC (fun b => S b ∨ w.heap.size ≤ b) W.heap.size w' e (capC (orC x L1)) ∧ Below W.heap.size W w') := fun W x v hW hx hv => by
    have hok := no_ok hM _ _ _ g0.2.1.1 (okL_one M) (by simp) hx
    exact either_cubes (fun b => S b ∨ w.heap.size ≤ b) v _ x L1 M hM W hok.1.1 g1.2.1.1 hok.2 g1.2.2 hv ((g1.below hW).1.mono fun b _ h => Or.inl h)
  obtain ⟨l0, hl0⟩ : ∃ l0, l0 = L0.length := ⟨_, rfl⟩
  obtain ⟨l1, hl1⟩ : ∃ l1, l1 = L1.length := ⟨_, rfl⟩
  rw [← hl0] at H0 c0
  rw [← hl1] at HC1 H1
  clear g0 g1 hl0 hl1 c1
  cases hc : noC L0 [[]] with
  | none =>
    have H : Hid (∀ W, Below w.heap.size w W → _) := out_none hc H0
    rw [hc] at HE
    clear H0 hc H1
    go_enter Tryz.func23, Tryz.ntmps23
    go_wp2_with (go_at_call 68; refine (H.out _ (Below.refl _ _)).mono ?_; rintro e w3 ⟨rfl, hb3⟩)
    go_ret2
    refine ⟨?_, hb3⟩
    rw [HE.out]; rfl
  | some x =>
    have H : Hid (∀ W, Below w.heap.size w W → _) := out_some hc H0
    have HH1 : Hid (∀ W v, Below w.heap.size w W → RS2 (fun b => S b ∨ w.heap.size ≤ b) W v x → _) := fun W v hW hv => H1.out W x v hW hc hv
    rw [hc] at HE
    clear H0 hc H1
    go_enter Tryz.func23, Tryz.ntmps23
    go_wp2_with fail
    go_at_call 68
    refine (H.out _ (Below.refl _ _)).mono ?_
    rintro e w3 ⟨oo, ol, oc, rfl, hr3, hb3⟩
    have HB3 : Hid (Below w.heap.size w w3) := hb3
    have c1 := HC1.out w3 hb3
    have HE2 : Hid (madeC 13 [L0, L1] = capC (orC x L1)) := HE.out
    have HF0 := (HH1.out w3 _ hb3 hr3 : Calls Tryz.prog 67 #[.slice oo ol oc, .slice o1 l1 q1] w3 fun e w' => OutC (fun b => S b ∨ w.heap.size ≤ b) w3.heap.size w' e (capC (orC x L1)) ∧ Below w3.heap.size w3 w')
    cases hc2 : capC (orC x L1) with
    | none =>
      rw [hc2] at HE2 HF0
      have HF : Hid (Calls Tryz.prog 67 #[.slice oo ol oc, .slice o1 l1 q1] w3 fun e w' => e = .returned (.tuple #[.slice none 0 0, .iface 75 (.int .i64 4)]) ∧ Below w3.heap.size w3 w') := HF0
      clear HF0 hr3 hb3 hc2 HE H HH1
      go_wp2_with fail
      go_at_call 67
      refine HF.out.mono ?_
      rintro e w4 ⟨rfl, hb4⟩
      have HB4 : Hid (Below w.heap.size w w4) := HB3.out.trans (hb4.mono HB3.out.size)
      clear hb4
      go_wp2
      go_ret2
      refine ⟨?_, HB4.out⟩
      rw [HE2.out]; rfl
    | some L =>
      rw [hc2] at HE2 HF0
      have HF : Hid (Calls Tryz.prog 67 #[.slice oo ol oc, .slice o1 l1 q1] w3 fun e w' => ∃ po pl pc, e = .returned (.tuple #[.slice po pl pc, .nilIface]) ∧ RS2 (fun b => S b ∨ w.heap.size ≤ b) w' (.slice po pl pc) L ∧ Below w3.heap.size w3 w') := by
        refine HF0.mono ?_
        rintro e w' ⟨he, hb⟩
        obtain ⟨v, rfl, hr⟩ : ∃ v, e = .returned (.tuple #[v, .nilIface]) ∧ RS2 (fun b => (S b ∨ w.heap.size ≤ b) ∨ w3.heap.size ≤ b) w' v L := he
        obtain ⟨po, pc, rfl, _⟩ := hr.slice
        exact ⟨po, _, pc, rfl, hr.mono fun b _ hb => hb.elim id (fun h => Or.inr (Nat.le_trans HB3.out.size h)), hb⟩
      clear HF0 hr3 hb3 hc2 HE H HH1
      go_wp2_with fail
      go_at_call 67
      refine HF.out.mono ?_
      rintro e w4 ⟨po, pl, pc, rfl, hr4, hb4⟩
      have HB4 : Hid (Below w.heap.size w w4 ∧ RS2 (fun b => S b ∨ w.heap.size ≤ b) w4 (.slice po pl pc) L) := ⟨HB3.out.trans (hb4.mono HB3.out.size), hr4⟩
      clear hb4 hr4
      go_wp2
      go_ret2
      refine ⟨?_, HB4.out.1⟩
      rw [HE2.out]
      exact ⟨_, rfl, HB4.out.2⟩

set_option maxHeartbeats 4000000 in
theorem cmade_leaf (S : Nat → Prop) (s : Int) (h0 : 0 ≤ s) (h6 : s < 6) (v : Value) (w : World) :
    Calls Tryz.prog 23 #[.int .i64 s, v] w fun e w' => OutC S w.heap.size w' e (madeC s []) ∧ Below w.heap.size w w' := by
  have HE : Hid (madeC s [] = some [[s + 1]]) := by
    unfold Hid madeC
    rw [if_neg (by omega), if_neg (by omega), if_neg (by omega), if_neg (by omega)]
  have g0 : (s == 10) = false := by simp; omega
  have g1 : (s == 11) = false := by simp; omega
  have g2 : (s == 13) = false := by simp; omega
  have g3 : (s == 12) = false := by simp; omega
  obtain ⟨w2, hw2⟩ : ∃ w2, w2 = w.alloc (.cells #[.int .i64 (s + 1)] 3) := ⟨_, rfl⟩
  obtain ⟨w3, hw3⟩ : ∃ w3, w3 = w2.alloc (.cells #[.slice (some ⟨w.heap.size, 0, none⟩) 1 1] 23) := ⟨_, rfl⟩
  have hs2 : w2.heap.size = w.heap.size + 1 := by rw [hw2]; simp
  have HB3 : Hid (Below w.heap.size w w3 ∧ w3.heap.size = w.heap.size + 2) := by
    refine ⟨?_, by rw [hw3]; simp [hs2]⟩
    rw [hw3]
    exact (by rw [hw2]; exact below_alloc1 _ _ : Below w.heap.size w w2).trans ((below_alloc1 _ _).mono (by omega))
  have HR : Hid (RS2 (fun b => S b ∨ w.heap.size ≤ b) w3 (.slice (some ⟨w.heap.size + 1, 0, none⟩) 1 1) [[s + 1]]) := by
    refine Or.inr ⟨w.heap.size + 1, 0, 1, rfl, ⟨Or.inr (by omega), by have := HB3.out.2; omega⟩, by simp, ⟨by simp, by simp⟩, fun k t hk => ?_⟩
    have hk0 : k = 0 := by have := (List.getElem?_eq_some_iff.1 hk).1; simpa using this
    subst hk0
    simp at hk; subst hk
    refine ⟨.slice (some ⟨w.heap.size, 0, none⟩) 1 1, by rw [hw3, ← hs2]; simp, Or.inr ⟨w.heap.size, 0, 1, rfl, ⟨Or.inr (Nat.le_refl _), by have := HB3.out.2; omega⟩, by simp, ⟨by simp, by simp⟩, fun j hj => ?_⟩⟩
    have hj0 : j = 0 := by simpa using hj
    subst hj0
    rw [hw3, World.cell?_alloc_lt _ _ ⟨w.heap.size, 0 + 0, none⟩ (by simp; omega), hw2]
    simp
  have HW3 : Hid ((w.alloc (.cells #[.int .i64 (s + 1)] 3)).alloc (.cells #[.slice (some ⟨w.heap.size, 0, none⟩) 1 1] 23) = w3) := by unfold Hid; rw [hw3, hw2]
  clear hw2 hw3
  go_enter Tryz.func23, Tryz.ntmps23
  go_wp2
  rw [HW3.out]
  go_ret2
  refine ⟨?_, HB3.out.1⟩
  rw [HE.out]
  exact ⟨_, rfl, HR.out⟩
end Go.Proofs.YtjaedfjfcghgcabGreatDoor


namespace Go.Proofs.YtjaedfjfcghgcabGreatDoor
open Go.ChangeShapes Go.WideShapes Go.ChangeAt Go.RowKit
set_option maxRecDepth 100000

/-- behind k right atoms. -/
theorem firstFault_drop (ats : List At) {k : Nat} {a : At} (ha : ats[k]? = some a) : firstFault (ats.drop k) = if a.fault = 0 then firstFault (ats.drop (k + 1)) else a.fault := by
  obtain ⟨hk, rfl⟩ := List.getElem?_eq_some_iff.1 ha
  rw [List.drop_eq_getElem_cons hk]; rfl

/-- where there is no atom, or no sign. -/
theorem fcheck_none (va vc : Value) (ats : List At) (c : List Int) (w : World) (hA : ReadsA w va ats) (hC : Reads w vc c) (h0 : ats.length = 0 ∨ c.length = 0) :
    Calls Tryz.prog 14 #[.agg #[va, vc]] w fun e w' => e = .returned (.iface 75 (.int .i64 5)) ∧ Below w.heap.size w w' := by
  obtain ⟨ao, acap, rfl, hal⟩ := hA.slice
  obtain ⟨co, ccap, rfl, hcl⟩ := hC.slice
  clear hA hC
  obtain ⟨m, hm⟩ : ∃ m, m = ats.length := ⟨_, rfl⟩
  obtain ⟨n, hn⟩ : ∃ n, n = c.length := ⟨_, rfl⟩
  rw [← hm] at h0 hal ⊢
  rw [← hn] at h0 hcl ⊢
  clear hm hn
  rcases h0 with rfl | rfl
  · go_enter Tryz.func14, Tryz.ntmps14
    go_wp2
    go_ret
    exact ⟨rfl, below_alloc1 _ _⟩
  · by_cases h1 : m = 0
    · subst h1
      go_enter Tryz.func14, Tryz.ntmps14
      go_wp2
      go_ret
      exact ⟨rfl, below_alloc1 _ _⟩
    · have h1' : ¬ ((m : Int) = 0) := by omega
      go_enter Tryz.func14, Tryz.ntmps14
      go_wp2
      go_ret
      exact ⟨rfl, below_alloc1 _ _⟩
/-- where there are too many. -/
theorem fcheck_full (va vc : Value) (ats : List At) (c : List Int) (w : World) (hA : ReadsA w va ats) (hC : Reads w vc c) (h0 : ¬ (ats.length = 0 ∨ c.length = 0)) (h1 : 6 < ats.length ∨ 20 < c.length) :
    Calls Tryz.prog 14 #[.agg #[va, vc]] w fun e w' => e = .returned (.iface 75 (.int .i64 4)) ∧ Below w.heap.size w w' := by
  obtain ⟨ao, acap, rfl, hal⟩ := hA.slice
  obtain ⟨co, ccap, rfl, hcl⟩ := hC.slice
  clear hA hC
  obtain ⟨m, hm⟩ : ∃ m, m = ats.length := ⟨_, rfl⟩
  obtain ⟨n, hn⟩ : ∃ n, n = c.length := ⟨_, rfl⟩
  rw [← hm] at h0 h1 hal ⊢
  rw [← hn] at h0 h1 hcl ⊢
  clear hm hn
  have hm' : ((m : Int) == 0) = false := by simp; omega
  have hn' : ((n : Int) == 0) = false := by simp; omega
  have HT : Hid (∀ W, Calls Tryz.prog 43 #[.int .i64 m, .int .i64 n] W fun e w' => e = .returned (.bool true) ∧ W = w') := fun W => by
    have := tooMany_any m n W
    rw [show (decide (6 < (m : Int)) || decide (20 < (n : Int))) = true by simp; omega] at this
    exact this
  clear h0 h1
  go_enter Tryz.func14, Tryz.ntmps14
  go_wp2_with fail
  go_at_call 43
  refine (HT.out _).mono ?_
  rintro e w' ⟨rfl, rfl⟩
  go_wp2
  go_ret
  exact ⟨rfl, below_alloc1 _ _⟩

theorem fcheck_rest (ao co : Option Addr) (acap ccap : Nat) (ats : List At) (c : List Int) (w : World) (hA : ReadsA w (.slice ao ats.length acap) ats) (hC : Reads w (.slice co c.length ccap) c) (hK : KindsLaid w) (h0 : ¬ (ats.length = 0 ∨ c.length = 0)) (h1 : ¬ (6 < ats.length ∨ 20 < c.length)) :
    Calls Tryz.prog 14 #[.agg #[.slice ao ats.length acap, .slice co c.length ccap]] w fun e w' => e = .returned (errV (formFault ats c)) ∧ Below w.heap.size w w' := by
  obtain ⟨w1, hw1⟩ : ∃ w1, w1 = w.alloc (.cells #[.slice ao ats.length acap, .slice co c.length ccap] 25) := ⟨_, rfl⟩
  have HB1 : Hid (Below w.heap.size w w1) := by unfold Hid; rw [hw1]; exact below_alloc1 w _
  have HS1 : Hid (w1.heap.size = w.heap.size + 1) := by unfold Hid; rw [hw1]; simp
  have HX : Hid (w1.cell? ⟨w.heap.size, 0, none⟩ = some (.slice ao ats.length acap) ∧ w1.cell? ⟨w.heap.size, 1, none⟩ = some (.slice co c.length ccap)) := by
    unfold Hid; rw [hw1]; simp
  have HA : Hid (ReadsA w1 (.slice ao ats.length acap) ats) := hA.below HB1.out
  have HC : Hid (Reads w1 (.slice co c.length ccap) c) := hC.below HB1.out
  have HK : Hid (KindsLaid w1) := hK.below HB1.out
  clear hA hC hK
  have HF : Hid (formFault ats c = if firstFault ats = 0 then (if c.all (signF ats.length) = true then (if cntF c 0 = some 1 then 0 else 3) else 1) else firstFault ats) := by
    unfold Hid formFault; rw [if_neg h0, if_neg h1]
  obtain ⟨m, hm⟩ : ∃ m, m = ats.length := ⟨_, rfl⟩
  obtain ⟨n, hn⟩ : ∃ n, n = c.length := ⟨_, rfl⟩
  rw [← hm] at h0 h1 hw1 HX HA HF ⊢
  rw [← hn] at h0 h1 hw1 HX HC ⊢
  have HM : Hid (m = ats.length) := hm
  have HN : Hid (n = c.length) := hn
  clear hm hn
  have hm' : ((m : Int) == 0) = false := by simp; omega
  have hn' : ((n : Int) == 0) = false := by simp; omega
  have hm6 : m ≤ 6 := by omega
  have hn20 : n ≤ 20 := by omega
  have HT : Hid (∀ W, Calls Tryz.prog 43 #[.int .i64 m, .int .i64 n] W fun e w' => e = .returned (.bool false) ∧ W = w') := fun W => by
    have := tooMany_any m n W
    rw [show (decide (6 < (m : Int)) || decide (20 < (n : Int))) = false by simp; omega] at this
    exact this
  clear h0 h1
  have x0 := HX.out.1
  have x1 := HX.out.2
  go_enter Tryz.func14, Tryz.ntmps14
  go_wp2_with fail
  rw [← hw1]
  clear hw1
  go_wp2_with fail
  go_at_call 43
  refine (HT.out _).mono ?_
  rintro e w' ⟨rfl, rfl⟩
  go_wp2
  go_loopw [29] (fun i wr => ∃ k : Nat, k ≤ m ∧ i = .int .i64 k ∧ Below w1.heap.size w1 wr ∧ firstFault (ats.drop k) = firstFault ats) (fun i _ => m - (intOf i).toNat)
  case atStart => exact ⟨0, Nat.zero_le _, rfl, Below.refl _ _, rfl⟩
  case round =>
    obtain ⟨k, hk, rfl, hbel, hff⟩ := hrel
    have HF0 : Hid (firstFault (ats.drop k) = firstFault ats) := hff
    have HB : Hid (Below w1.heap.size w1 wr) := hbel
    clear hff hbel
    by_cases hlt : k < m
    · obtain ⟨a, ha⟩ : ∃ a, ats[k]? = some a := ⟨_, List.getElem?_eq_getElem (by have := HM.out; omega)⟩
      have HFF : Hid (firstFault ats = if a.fault = 0 then firstFault (ats.drop (k + 1)) else a.fault) := by
        unfold Hid; rw [← HF0.out, firstFault_drop ats ha]
      rcases HA.out.below HB.out with ⟨_, _, hv, hn⟩ | ⟨b, off, cap, hv, hb, _, _, hall⟩
      · have := HM.out; rw [hn] at this; simp at this; omega
      obtain rfl : ao = some ⟨b, off, none⟩ := by cases hv; rfl
      obtain ⟨vs, vt, c0, c1, c2, c3, r1, r2⟩ := hall k a ha
      obtain ⟨sao, scap, rfl, _⟩ := r1.slice
      obtain ⟨tao, tcap, rfl, _⟩ := r2.slice
      clear hv hall
      obtain ⟨w2, hw2⟩ : ∃ w2, w2 = wr.alloc (.cells #[.int .i64 a.k, .slice sao a.s.length scap, .slice tao a.t.length tcap, .int .i64 a.n] 50) := ⟨_, rfl⟩
      have HB2 : Hid (Below wr.heap.size wr w2) := by unfold Hid; rw [hw2]; exact below_alloc1 wr _
      have HCk : Hid (Calls Tryz.prog 35 #[.agg #[.int .i64 a.k, .slice sao a.s.length scap, .slice tao a.t.length tcap, .int .i64 a.n]] w2 fun e w' => e = .returned (errV a.fault) ∧ Below w2.heap.size w2 w') :=
        acheck_any a.k a.n _ _ a.s a.t w2 (r1.below HB2.out) (r2.below HB2.out) ((HK.out.below HB.out).below HB2.out)
      clear r1 r2
      go_wp2_with fail
      rw [← hw2]
      clear hw2
      go_at_call 35
      refine HCk.out.mono ?_
      rintro e w3 ⟨rfl, hb3⟩
      have HB3 : Hid (Below w1.heap.size w1 w3) := (HB.out.trans (HB2.out.mono HB.out.size)).trans (hb3.mono (Nat.le_trans HB.out.size HB2.out.size))
      clear hb3 HCk
      by_cases hf : a.fault = 0
      · have HD : Hid (firstFault (ats.drop (k + 1)) = firstFault ats) := by
          have := HFF.out
          rw [if_pos hf] at this
          exact this.symm
        rw [hf, errV_0]
        go_wp2
        go_roundw
        case rel => exact ⟨k + 1, by omega, by go_num, HB3.out, HD.out⟩
        case measure => simp [intOf]; omega
      · have HE : Hid (formFault ats c = a.fault) := by
          have := HFF.out
          rw [if_neg hf] at this
          unfold Hid; rw [HF.out, this, if_neg hf]
        rw [errV_no hf]
        go_wp2
        go_ret
        refine ⟨back_v ?_, HB1.out.trans (HB3.out.mono HB1.out.size)⟩
        rw [HE.out, errV_no hf]
        rfl
    · have HE : Hid (firstFault ats = 0) := by
        have := HF0.out
        rw [List.drop_eq_nil_of_le (by have := HM.out; omega)] at this
        exact this.symm
      have hlt0 : w.heap.size < w1.heap.size := by have := HS1.out; omega
      have y0 : wr.cell? ⟨w.heap.size, 0, none⟩ = some (.slice ao m acap) := by rw [HB.out.cell hlt0]; exact HX.out.1
      have y1 : wr.cell? ⟨w.heap.size, 1, none⟩ = some (.slice co n ccap) := by rw [HB.out.cell hlt0]; exact HX.out.2
      rcases HC.out.below HB.out with ⟨_, _, hv, hcn⟩ | ⟨b, off, cap, hv, hb, _, ⟨hl63, _⟩, hc⟩
      · have := HN.out; rw [hcn] at this; simp at this; subst this; simp at hn'
      obtain rfl : co = some ⟨b, off, none⟩ := by cases hv; rfl
      clear hv
      have cF := fcontainsFunc_any m acap w.heap.size ao b off ccap c wr hl63 y0 hc
      have cO := fisOne_any b off ccap c wr (by have := HN.out; omega) hc
      rw [← HN.out] at cF cO
      obtain ⟨x, hx⟩ : ∃ x, x = c.all (signF m) := ⟨_, rfl⟩
      obtain ⟨y, hy⟩ : ∃ y, y = decide (cntF c 0 = some 1) := ⟨_, rfl⟩
      rw [← hx] at cF
      rw [← hy] at cO
      have HF' : Hid (formFault ats c = if x = true then (if y = true then 0 else 3) else 1) := by
        unfold Hid; rw [HF.out, HE.out, hx, hy]; simp only [decide_eq_true_eq, if_true]
      clear hx hy hc hlt0 hl63 hb
      have HP : Hid (Calls Tryz.prog 45 #[.slice (some ⟨b, off, none⟩) n ccap, .func (.func 44) #[] #[.pointer (some ⟨w.heap.size, 0, none⟩)]] wr fun e w' => e = .returned (.bool (!x)) ∧ wr = w') := cF
      have HQ : Hid (Calls Tryz.prog 46 #[.slice (some ⟨b, off, none⟩) n ccap] wr fun e w' => e = .returned (.bool y) ∧ wr = w') := cO
      clear cF cO
      have HEnd : Hid (Below w.heap.size w wr) := HB1.out.trans (HB.out.mono HB1.out.size)
      cases x
      · go_wp2_with (go_at_call 45; refine HP.out.mono ?_; rintro e w' ⟨rfl, rfl⟩)
        go_ret
        exact ⟨back_v (by rw [HF'.out]; rfl), HEnd.out⟩
      · cases y
        all_goals
          go_wp2_with (first | (go_at_call 45; refine HP.out.mono ?_; rintro e w' ⟨rfl, rfl⟩) | (go_at_call 46; refine HQ.out.mono ?_; rintro e w' ⟨rfl, rfl⟩))
          go_ret
          exact ⟨back_v (by rw [HF'.out]; rfl), HEnd.out⟩

/-- Check, whatever the formula. -/
theorem fcheck_any (va vc : Value) (ats : List At) (c : List Int) (w : World) (hA : ReadsA w va ats) (hC : Reads w vc c) (hK : KindsLaid w) :
    Calls Tryz.prog 14 #[.agg #[va, vc]] w fun e w' => e = .returned (errV (formFault ats c)) ∧ Below w.heap.size w w' := by
  by_cases h0 : ats.length = 0 ∨ c.length = 0
  · have e : formFault ats c = 5 := by unfold formFault; rw [if_pos h0]
    rw [e]
    exact fcheck_none va vc ats c w hA hC h0
  by_cases h1 : 6 < ats.length ∨ 20 < c.length
  · have e : formFault ats c = 4 := by unfold formFault; rw [if_neg h0, if_pos h1]
    rw [e]
    exact fcheck_full va vc ats c w hA hC h0 h1
  obtain ⟨ao, acap, rfl, _⟩ := hA.slice
  obtain ⟨co, ccap, rfl, _⟩ := hC.slice
  exact fcheck_rest ao co acap ccap ats c w hA hC hK h0 h1
end Go.Proofs.YtjaedfjfcghgcabGreatDoor

