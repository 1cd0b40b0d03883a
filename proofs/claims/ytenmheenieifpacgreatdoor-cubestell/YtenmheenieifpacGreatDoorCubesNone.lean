/-
  Proved: what cubes.turned and cubes.none return: of each member a cube, turned round; the cubes of No of some, or that they are too many; what was in memory is as it was (contracts that the statements lean on).
-/
import Derived.Test.YtenmheenieifpacGreatDoorCubesBoth
namespace Go.Proofs.YtenmheenieifpacGreatDoor
open Go.ChangeShapes Go.WideShapes Go.ChangeAt Go.RowKit
set_option maxRecDepth 100000

theorem turnC_succ (c : List Int) {k : Nat} (h : k < c.length) : turnC (c.take (k + 1)) = turnC (c.take k) ++ [[-(c.getD k 0)]] := by
  unfold turnC; rw [takeF_succ c h]; simp

set_option maxHeartbeats 4000000 in
theorem turned_any (v : Value) (c : List Int) (M : Nat) (hM : M ≤ 6) (w : World) (hc : cubeOk M c) (hv : Reads w v c) :
    Calls Tryz.prog 55 #[v] w fun e w' => ∃ v', e = .returned v' ∧ RS2 (fun b => w.heap.size ≤ b) w' v' (turnC c) ∧ Below w.heap.size w w' := by
  obtain ⟨i0, hi, hz0, hz1, hz2⟩ := info_parts infoS
  have hl := cube_len hc
  have HM : Hid (∀ k, k < c.length → (c.getD k 0).natAbs ≤ 6) := fun k hk => by
    have := (hc.1 (c.getD k 0) (by rw [List.getD_eq_getElem?_getD, List.getElem?_eq_getElem hk]; exact List.getElem_mem hk)).2
    omega
  obtain ⟨ao, acap, rfl, _⟩ := (hv.rs (S := fun _ => True) (fun _ _ => trivial)).slice
  obtain ⟨K, hK⟩ : ∃ K, K = w.heap.size := ⟨_, rfl⟩
  have HK : Hid (K = w.heap.size) := hK
  have HC : Hid (∀ W, Below K w W → ∀ k, k < c.length → ∃ b off, ao = some ⟨b, off, none⟩ ∧ W.cell? ⟨b, off + k, none⟩ = some (.int .i64 (c.getD k 0))) := fun W hW k hk => by
    rcases hv with ⟨_, _, hv, rfl⟩ | ⟨b, off, cap, hv, hB, _, _, hcs⟩
    · simp at hk
    · cases hv
      exact ⟨b, off, rfl, by rw [hW.cell (show (⟨b, off + k, none⟩ : Addr).block < _ by rw [hK]; exact hB)]; exact hcs k hk⟩
  rw [← hK]
  clear hv hK
  obtain ⟨n, hn⟩ : ∃ n, n = c.length := ⟨_, rfl⟩
  rw [← hn] at hl ⊢
  have HN : Hid (n = c.length) := hn
  clear hn hc
  go_enter Tryz.func55, Tryz.ntmps55
  go_wp2_with fail
  go_loopw [3, 5, 8] (fun v _ i wr => ∃ k : Nat, k ≤ n ∧ i = .int .i64 k ∧ Own2 (fun _ => False) K wr v (turnC (c.take k)) ∧ Below K w wr ∧ K ≤ wr.heap.size) (fun _ _ i _ => n - (intOf i).toNat)
  case atStart => exact ⟨0, Nat.zero_le _, rfl, Own2.nil _ _ _, Below.refl _ _, by rw [HK.out]; exact Nat.le_refl _⟩
  case round =>
    obtain ⟨k, hk, rfl, hown, hbel, hKw⟩ := hrel
    have HI : Hid (Own2 (fun _ => False) K wr u3 (turnC (c.take k)) ∧ Below K w wr ∧ K ≤ wr.heap.size) := ⟨hown, hbel, hKw⟩
    clear hown hbel hKw
    by_cases hlt : k < n
    · have hkc : k < c.length := by rw [← HN.out]; exact hlt
      obtain ⟨b, off, rfl, hcell⟩ := HC.out wr HI.out.2.1 k hkc
      have hm := HM.out k hkc
      have HE : Hid (turnC (c.take (k + 1)) = turnC (c.take k) ++ [[-(c.getD k 0)]]) := turnC_succ c hkc
      obtain ⟨m, hmd⟩ : ∃ m, m = c.getD k 0 := ⟨_, rfl⟩
      rw [← hmd] at hcell hm HE
      clear hmd hkc
      have m1 : -9223372036854775808 ≤ -m := by omega
      have m2 : -m ≤ 9223372036854775807 := by omega
      have hltz : (k : Int) < (n : Int) := by omega
      obtain ⟨w2, hw2⟩ : ∃ w2, w2 = wr.alloc (.cells #[.int .i64 (-m)] 3) := ⟨_, rfl⟩
      obtain ⟨w3, hw3⟩ : ∃ w3, w3 = w2.alloc (.cells #[.slice (some ⟨wr.heap.size, 0, none⟩) 1 1] 23) := ⟨_, rfl⟩
      have hs2 : w2.heap.size = wr.heap.size + 1 := by rw [hw2]; simp
      have HB3 : Hid (Below wr.heap.size wr w3 ∧ w3.heap.size = wr.heap.size + 2) := by
        refine ⟨?_, by rw [hw3]; simp [hs2]⟩
        rw [hw3]
        exact (by rw [hw2]; exact below_alloc1 _ _ : Below wr.heap.size wr w2).trans ((below_alloc1 _ _).mono (by omega))
      have HU : Hid (RS (fun b => ((fun _ => False) b ∨ K ≤ b) ∧ some b ≠ u3.ownBlock) w3 (.slice (some ⟨wr.heap.size, 0, none⟩) 1 1) [-m]) := by
        refine Or.inr ⟨wr.heap.size, 0, 1, rfl, ⟨⟨Or.inr HI.out.2.2, fun e => by have := (HI.out.1.lt _ e.symm).2; omega⟩, by have := HB3.out.2; omega⟩, by simp, ⟨by simp, by simp⟩, fun j hj => ?_⟩
        have hj0 : j = 0 := by simpa using hj
        subst hj0
        rw [hw3, World.cell?_alloc_lt _ _ ⟨wr.heap.size, 0 + 0, none⟩ (by simp; omega), hw2]
        simp
      obtain ⟨xs, ho, hx⟩ := HI.out.1.below HB3.out.1
      obtain ⟨l, hl'⟩ : ∃ l, l = (turnC (c.take k)).length := ⟨_, rfl⟩
      have HLl : Hid (l = (turnC (c.take k)).length ∧ l ≤ 6) := ⟨hl', by rw [hl']; unfold turnC; simp; omega⟩
      obtain ⟨vo, vcap, hvf⟩ := HI.out.1.form
      rw [← hl'] at ho hvf
      clear hl'
      subst hvf
      have HOx : Hid (w3.ownsRow K 23 1 (.slice vo l vcap) l xs) := ho
      have HX : Hid (∀ (j : Nat) t, (turnC (c.take k))[j]? = some t → ∃ u, xs[j]? = some u ∧ RS (fun b => ((fun _ => False) b ∨ K ≤ b) ∧ some b ≠ (Value.slice vo l vcap).ownBlock) w3 u t) := hx
      have hca : w3.cell? ((⟨w2.heap.size, 0, none⟩ : Addr).add 0) = some (.slice (some ⟨wr.heap.size, 0, none⟩) 1 1) := by rw [hw3]; simp [Addr.add]
      have HCa : Hid (∀ j u, ([Value.slice (some ⟨wr.heap.size, 0, none⟩) 1 1] : List Value)[j]? = some u → w3.cell? ((⟨wr.heap.size + 1, 0, none⟩ : Addr).add j) = some u) := fun j u hu => by
        match j, hu with
        | 0, hu => simp at hu; subst hu; rw [← hs2]; exact hca
      have HS3 : Hid (K ≤ w3.heap.size) := by have := HB3.out.2; have := HI.out.2.2; unfold Hid; omega
      have HW3 : Hid ((wr.alloc (.cells #[.int .i64 (-m)] 3)).alloc (.cells #[.slice (some ⟨wr.heap.size, 0, none⟩) 1 1] 23) = w3) := by unfold Hid; rw [hw3, hw2]
      clear ho hx hca hw2 hw3
      go_wp2_with (first | (at_builtin; rw [HW3.out]; refine wpList_append_lies _ rfl (.tmp 12) (.tmp 16) 26 rfl K 23 i0 (.slice none 0 0) 1 24 Tryz.underlying26 hi hz0 hz1 hz2 rfl (by decide) (.slice vo l vcap) l xs rfl HOx.out ⟨wr.heap.size + 1, 0, none⟩ 1 1 [.slice (some ⟨wr.heap.size, 0, none⟩) 1 1] rfl rfl HCa.out (by intro y hy; simp at hy; subst hy; rfl) (by decide) ?d3 ?d4 HS3.out w3.heap.size rfl ?_))
      case d3 => have := HLl.out.2; unfold maxLen; omega
      case d4 => have := HLl.out.2; omega
      intro g cap w5 hown hgrow hat hlt5
      have HR : Hid (Own2 (fun _ => False) K w5 (.slice (some ⟨g, 0, none⟩) (l + 1) cap) (turnC (c.take (k + 1)))) := by
        unfold Hid
        rw [HE.out]
        have h1 := HOx.out
        have h2 := HX.out
        have h3 := HU.out
        have e := HLl.out.1
        subst e
        exact Own2.push h1 h2 h3 (by simpa using hown) hgrow hat
      have HB5 : Hid (Below K w w5 ∧ K ≤ w5.heap.size) := by
        refine ⟨(HI.out.2.1.trans (HB3.out.1.mono HI.out.2.2)).grown hgrow HS3.out (fun j hj => (HOx.out.lt j hj).1), ?_⟩
        have := hgrow.size; have := HS3.out; omega
      clear hown hgrow hat hlt5
      go_wp2
      go_roundw
      case rel => exact ⟨k + 1, by omega, by go_num, HR.out, HB5.out.1, HB5.out.2⟩
      case measure => simp [intOf]; omega
    · have hltz : ¬ (k : Int) < (n : Int) := by omega
      have HE : Hid (c.take k = c) := List.take_of_length_le (by have := HN.out; omega)
      go_wp2
      go_ret
      refine ⟨_, rfl, ?_, HI.out.2.1⟩
      have h := HI.out.1
      rw [HE.out] at h
      exact (h.reads (by unfold turnC; simp; have := HN.out; omega)).mono fun b _ hb => hb.resolve_left id
theorem noC_append (a b out : List (List Int)) : noC (a ++ b) out = (noC a out).bind (noC b) := by
  induction a generalizing out with
  | nil => rfl
  | cons c l ih =>
    show (capC (andC out (turnC c))).bind (noC (l ++ b)) = ((capC (andC out (turnC c))).bind (noC l)).bind (noC b)
    cases capC (andC out (turnC c)) with
    | none => rfl
    | some x => exact ih x
theorem noC_succ (L : List (List Int)) {k : Nat} (h : k < L.length) {O : List (List Int)} (hO : noC (L.take k) [[]] = some O) : noC (L.take (k + 1)) [[]] = capC (andC O (turnC (L.getD k []))) := by
  rw [takeL_succ L h, noC_append, hO]
  show (capC (andC O (turnC (L.getD k [])))).bind (noC []) = _
  cases capC (andC O (turnC (L.getD k []))) <;> rfl
theorem noC_none {L : List (List Int)} {k : Nat} (h : noC (L.take k) [[]] = none) : noC L [[]] = none := by
  have : noC (L.take k ++ L.drop k) [[]] = none := by rw [noC_append, h]; rfl
  rwa [List.take_append_drop] at this

set_option maxHeartbeats 4000000 in
theorem none_cubes (S : Nat → Prop) (va : Value) (A : List (List Int)) (M : Nat) (hM : M ≤ 6) (w : World) (hA : ∀ c ∈ A, cubeOk M c) (hRA : RS2 S w va A) :
    Calls Tryz.prog 42 #[va] w fun e w' => OutC S w.heap.size w' e (noC A [[]]) ∧ Below w.heap.size w w' := by
  obtain ⟨ao, acap, hav, ha63⟩ := hRA.slice
  obtain ⟨K, hK⟩ : ∃ K, K = w.heap.size := ⟨_, rfl⟩
  have HK : Hid (K = w.heap.size) := hK
  have HA : Hid (∀ k b off, k < A.length → ao = some ⟨b, off, none⟩ → ∃ o l cp, ∀ W, Below K w W → W.cell? ⟨b, off + k, none⟩ = some (.slice o l cp) ∧ Reads W (.slice o l cp) (A.getD k [])) := fun k b off hk e => hRA.always hK (by rw [hav, e]) hk
  have HAf : Hid (0 < A.length → ∃ b off, ao = some ⟨b, off, none⟩) := fun h0 => by
    obtain ⟨b, off, cap, e⟩ := hRA.form h0
    rw [hav] at e; cases e; exact ⟨b, off, rfl⟩
  have HOk : Hid (∀ k O, noC (A.take k) [[]] = some O → okL M O ∧ O.length ≤ 40) := fun k O h => no_ok hM _ _ _ (fun c hc => hA c (List.mem_of_mem_take hc)) (okL_one M) (by simp) h
  have HT : Hid (∀ k W v, k < A.length → Reads W v (A.getD k []) → Calls Tryz.prog 55 #[v] W fun e w' => ∃ v', e = .returned v' ∧ RS2 (fun b => W.heap.size ≤ b) w' v' (turnC (A.getD k [])) ∧ Below W.heap.size W w') := fun k W v hk hv => turned_any v _ M hM W (hA _ (mem_getD hk)) hv
  have HBo : Hid (∀ k O W v v', k < A.length → noC (A.take k) [[]] = some O → RS2 (fun b => K ≤ b) W v O → RS2 (fun b => K ≤ b) W v' (turnC (A.getD k [])) → Calls Tryz.prog 40 #[v, v'] W fun e w' => OutC (fun b => K ≤ b) W.heap.size w' e (capC (andC O (turnC (A.getD k [])))) ∧ Below W.heap.size W w') := fun k O W v v' hk hO h1 h2 => both_cubes (fun b => K ≤ b) v v' O _ M hM W (HOk.out k O hO).1.1 (turn_ok (hA _ (mem_getD hk))) h1 h2
  subst hav
  rw [← hK]
  clear hRA hA hK
  obtain ⟨na, hna⟩ : ∃ na, na = A.length := ⟨_, rfl⟩
  rw [← hna] at ha63 ⊢
  have HN : Hid (na = A.length) := hna
  clear hna
  obtain ⟨w1, hw1⟩ : ∃ w1, w1 = w.alloc (.cells #[.slice none 0 0] 23) := ⟨_, rfl⟩
  have HB1 : Hid (Below K w w1 ∧ w1.heap.size = K + 1) := by
    rw [HK.out, hw1]; exact ⟨below_alloc1 _ _, by simp⟩
  have HO1 : Hid (RS2 (fun b => K ≤ b) w1 (.slice (some ⟨w.heap.size, 0, none⟩) 1 1) [[]]) := by
    refine Or.inr ⟨w.heap.size, 0, 1, rfl, ⟨by rw [HK.out]; exact Nat.le_refl _, by have := HB1.out.2; rw [← HK.out]; omega⟩, by simp, ⟨by simp, by simp⟩, fun k t hk => ?_⟩
    have hk0 : k = 0 := by have := (List.getElem?_eq_some_iff.1 hk).1; simpa using this
    subst hk0
    simp at hk; subst hk
    exact ⟨.slice none 0 0, by rw [hw1]; simp, Or.inl ⟨none, 0, rfl, rfl⟩⟩
  go_enter Tryz.func42, Tryz.ntmps42
  go_wp2_with fail
  rw [← hw1]
  clear hw1
  go_loopw [4, 6, 7, 11] (fun v _ _ i wr => ∃ (k : Nat) (O : List (List Int)), k ≤ na ∧ i = .int .i64 k ∧ noC (A.take k) [[]] = some O ∧ RS2 (fun b => K ≤ b) wr v O ∧ Below K w wr ∧ K ≤ wr.heap.size) (fun _ _ _ i _ => na - (intOf i).toNat)
  case atStart => exact ⟨0, [[]], Nat.zero_le _, rfl, rfl, HO1.out, HB1.out.1, by have := HB1.out.2; omega⟩
  case round =>
    obtain ⟨k, O, hk, rfl, hO, hR, hbel, hKw⟩ := hrel
    have HI : Hid (noC (A.take k) [[]] = some O ∧ RS2 (fun b => K ≤ b) wr u4 O ∧ Below K w wr ∧ K ≤ wr.heap.size) := ⟨hO, hR, hbel, hKw⟩
    obtain ⟨oo, ocap, rfl, _⟩ := hR.slice
    obtain ⟨ol, hol⟩ : ∃ ol, ol = O.length := ⟨_, rfl⟩
    rw [← hol] at HI ⊢
    clear hO hR hbel hKw hol
    by_cases hlt : k < na
    · have hkA : k < A.length := by rw [← HN.out]; exact hlt
      obtain ⟨ab, aoff, rfl⟩ := HAf.out (by omega)
      obtain ⟨co, cl, ccp, hall⟩ := HA.out k ab aoff hkA rfl
      obtain ⟨hcell, hcr⟩ := hall wr HI.out.2.2.1
      have hltz : (k : Int) < (na : Int) := by omega
      have HT1 : Hid (Calls Tryz.prog 55 #[.slice co cl ccp] wr fun e w' => ∃ v', e = .returned v' ∧ RS2 (fun b => wr.heap.size ≤ b) w' v' (turnC (A.getD k [])) ∧ Below wr.heap.size wr w') := HT.out k wr _ hkA hcr
      have HKA : Hid (k < A.length) := hkA
      clear hall hcr hkA
      go_wp2_with fail
      go_at_call 55
      refine HT1.out.mono ?_
      rintro e w2 ⟨v2, rfl, hr2, hb2⟩
      have HB2 : Hid (Below K w w2 ∧ K ≤ w2.heap.size) := ⟨HI.out.2.2.1.trans (hb2.mono HI.out.2.2.2), by have := hb2.size; have := HI.out.2.2.2; omega⟩
      have HBo1 : Hid (Calls Tryz.prog 40 #[.slice oo ol ocap, v2] w2 fun e w' => OutC (fun b => K ≤ b) w2.heap.size w' e (capC (andC O (turnC (A.getD k [])))) ∧ Below w2.heap.size w2 w') := HBo.out k O w2 _ _ HKA.out HI.out.1 (HI.out.2.1.kept (Kept.of_below hb2)) (hr2.mono fun b _ hb => Nat.le_trans HI.out.2.2.2 hb)
      have HS : Hid (noC (A.take (k + 1)) [[]] = capC (andC O (turnC (A.getD k [])))) := noC_succ A HKA.out HI.out.1
      obtain ⟨to, tcap, rfl, _⟩ := hr2.slice
      obtain ⟨tl, htl⟩ : ∃ tl, tl = (turnC (A.getD k [])).length := ⟨_, rfl⟩
      rw [← htl] at HBo1 ⊢
      clear hr2 hb2 HT1 htl
      go_wp2_with fail
      go_at_call 40
      refine HBo1.out.mono ?_
      rintro e w3 ⟨hout, hb3⟩
      have HB3 : Hid (Below K w w3 ∧ K ≤ w3.heap.size) := ⟨HB2.out.1.trans (hb3.mono HB2.out.2), by have := hb3.size; have := HB2.out.2; omega⟩
      clear hb3 HBo1
      cases hcap : capC (andC O (turnC (A.getD k []))) with
      | none =>
        rw [hcap] at hout
        have he : e = .returned (.tuple #[.slice none 0 0, .iface 53 (.int .i64 4)]) := hout
        subst he
        have HE : Hid (noC A [[]] = none) := noC_none (HS.out.trans hcap)
        clear hcap hout
        go_wp2
        go_ret2
        refine ⟨?_, HB3.out.1⟩
        rw [HE.out]; rfl
      | some O' =>
        rw [hcap] at hout
        obtain ⟨v3, rfl, hr3⟩ : ∃ v, e = .returned (.tuple #[v, .nilIface]) ∧ RS2 (fun b => K ≤ b ∨ w2.heap.size ≤ b) w3 v O' := hout
        have HR3 : Hid (noC (A.take (k + 1)) [[]] = some O' ∧ RS2 (fun b => K ≤ b) w3 v3 O') := ⟨HS.out.trans hcap, hr3.mono fun b _ hb => hb.elim id (fun h => Nat.le_trans HB2.out.2 h)⟩
        clear hcap hr3
        go_wp2
        go_roundw
        case rel => exact ⟨k + 1, O', by omega, by go_num, HR3.out.1, HR3.out.2, HB3.out.1, HB3.out.2⟩
        case measure => simp [intOf]; omega
    · have hltz : ¬ (k : Int) < (na : Int) := by omega
      have HE : Hid (noC A [[]] = some O) := by
        have h := HI.out.1
        rw [List.take_of_length_le (by have := HN.out; omega)] at h
        exact h
      go_wp2
      go_ret2
      refine ⟨?_, HI.out.2.2.1⟩
      rw [HE.out]
      exact ⟨_, rfl, HI.out.2.1.mono fun b _ hb => Or.inr hb⟩
end Go.Proofs.YtenmheenieifpacGreatDoor
