/-
  Proved: what cubes.either returns: the cubes of the first, then those of the second, none twice, or that they are too many; what was in memory is as it was (a contract that the statements lean on).
-/
import Derived.Test.YtenmheenieifpacGreatDoorCubesNone
namespace Go.Proofs.YtenmheenieifpacGreatDoor
open Go.ChangeShapes Go.WideShapes Go.ChangeAt Go.RowKit
set_option maxRecDepth 100000

/-- a row of rows as one that is put together. -/
theorem rs2_row {S : Nat → Prop} {w : World} {v : Value} {L : List (List Int)} (h : RS2 S w v L) : ∃ o cap xs, v = .slice o L.length cap ∧ (⟨o, L.length, cap, xs⟩ : RowV).Lies w ∧ xs.length = L.length ∧ ∀ (k : Nat) t, L[k]? = some t → ∃ u, xs[k]? = some u ∧ RS S w u t := by
  rcases h with ⟨ao, cap, rfl, rfl⟩ | ⟨b, off, cap, rfl, hB, h0, _, hc⟩
  · exact ⟨ao, cap, [], rfl, ⟨by simp, by simp, Or.inl rfl⟩, rfl, fun k t hk => by simp at hk⟩
  · have key : ∀ k, k < L.length → ∃ u, w.cell? ⟨b, off + k, none⟩ = some u ∧ u.oneCell' = true := fun k hk => by
      obtain ⟨u, hu, hr⟩ := hc k _ (List.getElem?_eq_getElem hk)
      exact ⟨u, hu, hr.one⟩
    refine ⟨_, cap, (List.range L.length).map (fun j => (w.cell? ⟨b, off + j, none⟩).getD (.int .i64 0)), rfl, ⟨by simp, ?_, Or.inr ⟨b, off, rfl, hB.2, ?_⟩⟩, by simp, ?_⟩
    · intro u hu
      obtain ⟨k, hk, rfl⟩ := List.mem_map.1 hu
      obtain ⟨x, hx, h1⟩ := key k (List.mem_range.1 hk)
      rw [hx]; exact h1
    · intro j u hu
      have hu' : ((List.range L.length).map (fun j => (w.cell? ⟨b, off + j, none⟩).getD (.int .i64 0)))[j]? = some u := hu
      rw [List.getElem?_map] at hu'
      cases hr : (List.range L.length)[j]? with
      | none => rw [hr] at hu'; cases hu'
      | some k =>
        rw [hr] at hu'
        obtain ⟨hk, e⟩ := List.getElem?_eq_some_iff.1 hr
        have e' : k = j := by simpa using e.symm
        subst e'
        obtain ⟨x, hx, _⟩ := key k (by simpa using hk)
        simp only [Option.map_some, hx, Option.getD_some, Option.some.injEq] at hu'
        rw [hx, hu']
    · intro k t hk
      obtain ⟨u, hu, hr⟩ := hc k t hk
      have hkl := (List.getElem?_eq_some_iff.1 hk).1
      refine ⟨u, ?_, hr⟩
      rw [List.getElem?_map, List.getElem?_range hkl]
      simp [hu]
theorem withC_ok {M : Nat} {L : List (List Int)} {c : List Int} (h : cubeOk M c) : withC L c = putC L c := by
  unfold withC putC
  rw [cube_noway h, Bool.false_or]

set_option maxHeartbeats 4000000 in
theorem either_cubes (S : Nat → Prop) (va vb : Value) (A B : List (List Int)) (M : Nat) (hM : M ≤ 6) (w : World) (hA : ∀ c ∈ A, cubeOk M c) (hB : ∀ c ∈ B, cubeOk M c) (hA4 : A.length ≤ 40) (hB4 : B.length ≤ 40) (hRA : RS2 S w va A) (hRB : RS2 S w vb B) :
    Calls Tryz.prog 41 #[va, vb] w fun e w' => OutC S w.heap.size w' e (capC (orC A B)) ∧ Below w.heap.size w w' := by
  obtain ⟨ao, acap, xa, rfl, la, hxa, hxar⟩ := rs2_row hRA
  obtain ⟨bo, bcap, xb, rfl, lb, hxb, hxbr⟩ := rs2_row hRB
  obtain ⟨K, hK⟩ : ∃ K, K = w.heap.size := ⟨_, rfl⟩
  have HK : Hid (K = w.heap.size) := hK
  obtain ⟨D, hD⟩ : ∃ D, D = A ++ B := ⟨_, rfl⟩
  have HX : Hid (∀ k, k < D.length → ∃ o l cp, (xa ++ xb)[k]? = some (.slice o l cp) ∧ RS (fun b => S b ∧ b < K) w (.slice o l cp) (D.getD k [])) := fun k hk => by
    have : ∃ u, (xa ++ xb)[k]? = some u ∧ RS S w u (D.getD k []) := by
      rw [hD] at hk ⊢
      by_cases hka : k < A.length
      · obtain ⟨u, hu, hr⟩ := hxar k _ (List.getElem?_eq_getElem hka)
        refine ⟨u, by rw [List.getElem?_append_left (by omega)]; exact hu, ?_⟩
        rw [List.getD_eq_getElem?_getD, List.getElem?_append_left hka, List.getElem?_eq_getElem hka]; exact hr
      · have hkb : k - A.length < B.length := by simp at hk; omega
        obtain ⟨u, hu, hr⟩ := hxbr (k - A.length) _ (List.getElem?_eq_getElem hkb)
        refine ⟨u, by rw [List.getElem?_append_right (by omega), hxa]; exact hu, ?_⟩
        rw [List.getD_eq_getElem?_getD, List.getElem?_append_right (by omega), List.getElem?_eq_getElem hkb]; exact hr
    obtain ⟨u, hu, hr⟩ := this
    obtain ⟨o, cp, rfl, _⟩ := hr.slice
    exact ⟨o, _, cp, hu, hr.mono fun b hb hs => ⟨hs, by rw [hK]; exact hb⟩⟩
  have HOk : Hid (∀ k, k < D.length → cubeOk M (D.getD k [])) := fun k hk => by
    have hm := mem_getD hk
    rw [hD] at hm ⊢
    rcases List.mem_append.1 hm with h | h
    · exact hA _ h
    · exact hB _ h
  have hor : orC A B = D.foldl putC [] := by rw [hD]; rfl
  have HL : Hid (A.length ≤ 40 ∧ B.length ≤ 40 ∧ D.length = A.length + B.length) := ⟨hA4, hB4, by rw [hD]; simp⟩
  obtain ⟨na, hna⟩ : ∃ na, na = A.length := ⟨_, rfl⟩
  obtain ⟨nb, hnb⟩ : ∃ nb, nb = B.length := ⟨_, rfl⟩
  rw [← hna, ← hnb] at HL
  rw [← hna] at la
  rw [← hnb] at lb
  rw [← hna, ← hnb, hor, ← hK]
  clear hRA hRB hA hB hD hor hK hxar hxbr hA4 hB4 hna hnb hxa hxb
  obtain ⟨w1, hw1⟩ : ∃ w1, w1 = w.alloc (.cells #[.slice ao na acap, .slice bo nb bcap] 26) := ⟨_, rfl⟩
  have HB1 : Hid (Below w.heap.size w w1 ∧ w1.heap.size = w.heap.size + 1) := by unfold Hid; rw [hw1]; exact ⟨below_alloc1 _ _, by simp⟩
  have HCo : Hid (Calls Tryz.prog 54 #[.slice (some ⟨w.heap.size, 0, none⟩) 2 2] w1 fun e w' => ∃ v, e = .returned v ∧ w'.ownsRow w1.heap.size 23 1 v (na + nb) (xa ++ xb) ∧ Below w1.heap.size w1 w') := by
    have h := concatV2 [⟨ao, na, acap, xa⟩, ⟨bo, nb, bcap, xb⟩] w.heap.size 2 w1 (by simp) (by have := HB1.out.2; omega) (fun k r hk => ?_) (fun r hr => ?_) (by have := HL.out; simp [manyV]; omega)
    · have e1 : manyV [⟨ao, na, acap, xa⟩, ⟨bo, nb, bcap, xb⟩] = na + nb := by simp [manyV]
      have e2 : allV [⟨ao, na, acap, xa⟩, ⟨bo, nb, bcap, xb⟩] = xa ++ xb := by simp [allV]
      rw [e1, e2] at h
      exact h
    · match k, hk with
      | 0, hk => simp at hk; subst hk; rw [hw1]; simp
      | 1, hk => simp at hk; subst hk; rw [hw1]; simp
    · simp at hr
      rcases hr with rfl | rfl
      · exact la.below HB1.out.1
      · exact lb.below HB1.out.1
  clear la lb
  go_enter Tryz.func41, Tryz.ntmps41
  go_wp2_with fail
  rw [← hw1]
  clear hw1
  go_at_call 54
  refine HCo.out.mono ?_
  rintro e w2 ⟨v2, rfl, hown, hb⟩
  obtain ⟨n, hn⟩ : ∃ n, n = na + nb := ⟨_, rfl⟩
  rw [← hn] at hown
  have HN : Hid (n = D.length ∧ n ≤ 80) := ⟨by have := HL.out; omega, by have := HL.out; omega⟩
  obtain ⟨vo, vcap, rfl⟩ : ∃ vo vcap, v2 = .slice vo n vcap := by
    rcases hown.2 with ⟨rfl, h0⟩ | ⟨g, cap, cur, rfl, _⟩
    · exact ⟨none, 0, by rw [h0]⟩
    · exact ⟨_, cap, rfl⟩
  obtain ⟨Q, hQ⟩ : ∃ Q, Q = w2.heap.size := ⟨_, rfl⟩
  have HQ : Hid (Q = w2.heap.size ∧ K ≤ Q ∧ Below K w w2) := by
    have h1 := HB1.out; have h2 := HK.out; have h3 := hb.size
    refine ⟨hQ, by omega, ?_⟩
    rw [h2]
    exact h1.1.trans (hb.mono h1.1.size)
  have HC : Hid (∀ W k, Below Q w2 W → k < n → ∃ g o l cp, vo = some ⟨g, 0, none⟩ ∧ W.cell? ⟨g, k, none⟩ = some (.slice o l cp) ∧ RS (fun b => S b ∧ b < K) W (.slice o l cp) (D.getD k [])) := fun W k hW hk => by
    obtain ⟨o, l, cp, hx, hr⟩ := HX.out k (by rw [← HN.out.1]; exact hk)
    obtain ⟨g, rfl⟩ : ∃ g, vo = some ⟨g, 0, none⟩ := by
      rcases hown.2 with ⟨_, h0⟩ | ⟨g, cap, cur, e, _⟩
      · omega
      · cases e; exact ⟨g, rfl⟩
    have hg := (hown.lt g rfl).2
    refine ⟨g, o, l, cp, rfl, ?_, ?_⟩
    · rw [hW.cell (show (⟨g, k, none⟩ : Addr).block < Q by rw [hQ]; exact hg), hown.cellAt k (by omega)]; exact hx
    · have k1 : Below K w W := HQ.out.2.2.trans (hW.mono HQ.out.2.1)
      exact hr.kept (Kept.of_belowK k1 fun b hb _ => hb.2)
  have hn80 : n ≤ 80 := HN.out.2
  clear hown hb hQ hn HCo
  go_wp2_with fail
  go_loopw [6, 8, 14] (fun v _ i wr => ∃ k : Nat, k ≤ n ∧ i = .int .i64 k ∧ Own2 S Q wr v ((D.take k).foldl putC []) ∧ Below Q w2 wr ∧ Q ≤ wr.heap.size) (fun _ _ i _ => n - (intOf i).toNat)
  case atStart => exact ⟨0, Nat.zero_le _, rfl, Own2.nil _ _ _, Below.refl _ _, by rw [HQ.out.1]; exact Nat.le_refl _⟩
  case round =>
    obtain ⟨k, hk, rfl, hown, hbel, hKw⟩ := hrel
    have HI : Hid (Own2 S Q wr u6 ((D.take k).foldl putC []) ∧ Below Q w2 wr ∧ Q ≤ wr.heap.size) := ⟨hown, hbel, hKw⟩
    have HLp : Hid (((D.take k).foldl putC []).length ≤ 80) := by
      have := (putF_len (D.take k) []).2
      have h2 := HN.out
      unfold Hid
      simp at this
      omega
    clear hown hbel hKw
    by_cases hlt : k < n
    · have hkD : k < D.length := by rw [← HN.out.1]; exact hlt
      obtain ⟨g, co, cl, ccp, rfl, hcell, hcr⟩ := HC.out wr k HI.out.2.1 hlt
      have hltz : (k : Int) < (n : Int) := by omega
      have HW : Hid (Calls Tryz.prog 52 #[u6, .slice co cl ccp] wr fun e w' => ∃ v', e = .returned v' ∧ Own2 S Q w' v' ((D.take (k + 1)).foldl putC []) ∧ wr.grownBy w' u6.ownBlock) := by
        have h := with_any S Q u6 (.slice co cl ccp) _ (D.getD k []) wr HI.out.2.2 HI.out.1 (hcr.mono fun b _ hb => ⟨Or.inl hb.1, fun e => by have := (HI.out.1.lt b e.symm).1; have := HQ.out.2.1; omega⟩) (by have := HLp.out; omega) (fun m hm => by have := (HOk.out k hkD).1 m hm; omega)
        have e1 : withC ((D.take k).foldl putC []) (D.getD k []) = (D.take (k + 1)).foldl putC [] := by
          rw [withC_ok (HOk.out k hkD), takeL_succ D hkD, List.foldl_append]; rfl
        rw [e1] at h
        exact h
      clear hcr hkD
      go_wp2_with fail
      go_at_call 52
      refine HW.out.mono ?_
      rintro e w3 ⟨v3, rfl, hown3, hgr⟩
      have HB3 : Hid (Below Q w2 w3 ∧ Q ≤ w3.heap.size) := ⟨HI.out.2.1.grown hgr HI.out.2.2 (fun j hj => (HI.out.1.lt j hj).1), by have := hgr.size; have := HI.out.2.2; omega⟩
      have HO3 : Hid (Own2 S Q w3 v3 ((D.take (k + 1)).foldl putC [])) := hown3
      clear hown3 hgr HW
      go_wp2
      go_roundw
      case rel => exact ⟨k + 1, by omega, by go_num, HO3.out, HB3.out.1, HB3.out.2⟩
      case measure => simp [intOf]; omega
    · have hltz : ¬ (k : Int) < (n : Int) := by omega
      have HE : Hid (D.take k = D) := List.take_of_length_le (by have := HN.out; omega)
      rw [HE.out] at HI HLp
      obtain ⟨o3, c3, hof⟩ := HI.out.1.form
      obtain ⟨l3, hl3⟩ : ∃ l3, l3 = (D.foldl putC []).length := ⟨_, rfl⟩
      rw [← hl3] at hof
      subst hof
      have HL3 : Hid (l3 = (D.foldl putC []).length) := hl3
      have hl80 : l3 ≤ 80 := by rw [hl3]; exact HLp.out
      clear hl3
      have HBw : Hid (Below K w wr) := HQ.out.2.2.trans (HI.out.2.1.mono HQ.out.2.1)
      by_cases h40 : 40 < l3
      · have h40z : (40 : Int) < (l3 : Int) := by omega
        have HC4 : Hid (capC (D.foldl putC []) = none) := capC_big (by rw [← HL3.out]; exact h40)
        go_wp2
        go_ret2
        refine ⟨?_, HBw.out⟩
        rw [HC4.out]; rfl
      · have h40z : ¬ (40 : Int) < (l3 : Int) := by omega
        have HC4 : Hid (capC (D.foldl putC []) = some (D.foldl putC [])) := capC_small (by rw [← HL3.out]; omega)
        go_wp2
        go_ret2
        refine ⟨?_, HBw.out⟩
        rw [HC4.out]
        exact ⟨_, rfl, (HI.out.1.reads (by rw [← HL3.out]; omega)).mono fun b _ hb => hb.imp id (fun h => Nat.le_trans HQ.out.2.1 h)⟩
end Go.Proofs.YtenmheenieifpacGreatDoor
