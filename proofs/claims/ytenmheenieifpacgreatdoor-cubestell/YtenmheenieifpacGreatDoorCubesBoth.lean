/-
  Proved: what cubes.both returns: each cube of the first with each of the second, or that they are too many; what was in memory is as it was (a contract that the statements lean on).
-/
import Derived.Test.YtenmheenieifpacGreatDoorCubesJoined
import Derived.Test.YtenmheenieifpacGreatDoorCubesWith2
namespace Go.Proofs.YtenmheenieifpacGreatDoor
open Go.ChangeShapes Go.WideShapes Go.ChangeAt Go.RowKit
set_option maxRecDepth 100000

/-- cubes in new memory, or that they are too many. -/
def OutC (S : Nat → Prop) (K : Nat) (w : World) (e : Ending) (o : Option (List (List Int))) : Prop :=
  match o with
  | none => e = .returned (.tuple #[.slice none 0 0, .iface 53 (.int .i64 4)])
  | some L => ∃ v, e = .returned (.tuple #[v, .nilIface]) ∧ RS2 (fun b => S b ∨ K ≤ b) w v L
theorem RS2.cellAt {S : Nat → Prop} {w : World} {v : Value} {L : List (List Int)} (h : RS2 S w v L) {b off n cap : Nat} (hv : v = .slice (some ⟨b, off, none⟩) n cap) {k : Nat} (hk : k < L.length) : ∃ o l cp, w.cell? ⟨b, off + k, none⟩ = some (.slice o l cp) ∧ RS S w (.slice o l cp) (L.getD k []) := by
  rcases h with ⟨_, _, _, rfl⟩ | ⟨b', off', cap', hv', _, _, _, hc⟩
  · simp at hk
  · rw [hv] at hv'
    cases hv'
    obtain ⟨u, hu, hr⟩ := hc k _ (List.getElem?_eq_getElem hk)
    obtain ⟨o, cp, rfl, _⟩ := hr.slice
    refine ⟨o, _, cp, hu, ?_⟩
    rw [List.getD_eq_getElem?_getD, List.getElem?_eq_getElem hk]; exact hr
theorem RS2.always {S : Nat → Prop} {w : World} {v : Value} {L : List (List Int)} {K : Nat} (h : RS2 S w v L) (hK : K = w.heap.size) {b off n cap : Nat} (hv : v = .slice (some ⟨b, off, none⟩) n cap) {k : Nat} (hk : k < L.length) : ∃ o l cp, ∀ W, Below K w W → W.cell? ⟨b, off + k, none⟩ = some (.slice o l cp) ∧ Reads W (.slice o l cp) (L.getD k []) := by
  obtain ⟨o, l, cp, hc, hr⟩ := h.cellAt hv hk
  subst hK
  refine ⟨o, l, cp, fun W hW => ⟨?_, hr.reads.below hW⟩⟩
  have hb : b < w.heap.size := by
    rcases h with ⟨_, _, _, rfl⟩ | ⟨b', off', cap', hv', hB, _⟩
    · simp at hk
    · rw [hv] at hv'; cases hv'; exact hB.2
  rw [hW.cell (show (⟨b, off + k, none⟩ : Addr).block < _ from hb)]; exact hc
theorem RS2.form {S : Nat → Prop} {w : World} {v : Value} {L : List (List Int)} (h : RS2 S w v L) (h0 : 0 < L.length) : ∃ b off cap, v = .slice (some ⟨b, off, none⟩) L.length cap := by
  rcases h with ⟨_, _, _, rfl⟩ | ⟨b', off', cap', hv', _⟩
  · simp at h0
  · exact ⟨_, _, _, hv'⟩
theorem Own2.form {S : Nat → Prop} {K : Nat} {w : World} {v : Value} {L : List (List Int)} (h : Own2 S K w v L) : ∃ o cap, v = .slice o L.length cap := by
  obtain ⟨xs, h1, _⟩ := h
  rcases h1.2 with ⟨rfl, h0⟩ | ⟨g, cap, cur, rfl, _⟩
  · exact ⟨none, 0, by rw [h0]⟩
  · exact ⟨_, cap, rfl⟩
theorem takeL_succ (t : List (List Int)) {k : Nat} (h : k < t.length) : t.take (k + 1) = t.take k ++ [t.getD k []] := by
  rw [List.take_add_one]; simp [List.getElem?_eq_getElem h]
theorem dropL (t : List (List Int)) {k : Nat} (h : k < t.length) : t.drop k = t.getD k [] :: t.drop (k + 1) := by
  rw [List.drop_eq_getElem_cons h]; simp [List.getElem?_eq_getElem h]
/-- what there is behind i cubes of the first. -/
def rowsC (A B : List (List Int)) (i : Nat) : List (List Int) := (A.take i).foldl (andR B) []
/-- .. and k of the second with the next. -/
def rowC (A B : List (List Int)) (i k : Nat) : List (List Int) := (B.take k).foldl (andS (A.getD i [])) (rowsC A B i)
theorem rowC_succ (A B : List (List Int)) (i : Nat) {k : Nat} (h : k < B.length) : rowC A B i (k + 1) = andS (A.getD i []) (rowC A B i k) (B.getD k []) := by
  unfold rowC; rw [takeL_succ B h, List.foldl_append]; rfl
theorem rowsC_succ (A B : List (List Int)) {i : Nat} (h : i < A.length) : rowsC A B (i + 1) = rowC A B i B.length := by
  unfold rowsC rowC; rw [takeL_succ A h, List.foldl_append, List.take_length]; rfl
theorem rowsC_all (A B : List (List Int)) : rowsC A B A.length = andC A B := by unfold rowsC andC; rw [List.take_length]
theorem rowC_len (A B : List (List Int)) {i k : Nat} (hi : i < A.length) : (rowC A B i k).length ≤ (andC A B).length := by
  have e1 : andR B (rowsC A B i) (A.getD i []) = (B.drop k).foldl (andS (A.getD i [])) (rowC A B i k) := by
    unfold andR rowC
    rw [← List.foldl_append, List.take_append_drop]
  have e2 : andC A B = (A.drop (i + 1)).foldl (andR B) (andR B (rowsC A B i) (A.getD i [])) := by
    unfold andC rowsC
    rw [← List.foldl_cons (f := andR B), ← dropL A hi, ← List.foldl_append, List.take_append_drop]
  rw [e2, e1]
  exact Nat.le_trans (andR_len (B.drop k) _ _) (andF_len _ _ _)
theorem capC_big {L : List (List Int)} (h : 40 < L.length) : capC L = none := by unfold capC; rw [if_pos h]
theorem capC_small {L : List (List Int)} (h : L.length ≤ 40) : capC L = some L := by unfold capC; rw [if_neg (by omega)]
theorem capC_more {L K : List (List Int)} (h : 40 < L.length) (hl : L.length ≤ K.length) : capC K = none := capC_big (by omega)
theorem mem_getD {A : List (List Int)} {k : Nat} (h : k < A.length) : A.getD k [] ∈ A := by
  rw [List.getD_eq_getElem?_getD, List.getElem?_eq_getElem h]; exact List.getElem_mem h

set_option maxHeartbeats 8000000 in
theorem both_cubes (S : Nat → Prop) (va vb : Value) (A B : List (List Int)) (M : Nat) (hM : M ≤ 6) (w : World) (hA : ∀ c ∈ A, cubeOk M c) (hB : ∀ c ∈ B, cubeOk M c) (hRA : RS2 S w va A) (hRB : RS2 S w vb B) :
    Calls Tryz.prog 40 #[va, vb] w fun e w' => OutC S w.heap.size w' e (capC (andC A B)) ∧ Below w.heap.size w w' := by
  obtain ⟨ao, acap, hav, ha63⟩ := hRA.slice
  obtain ⟨bo, bcap, hbv, hb63⟩ := hRB.slice
  obtain ⟨K, hK⟩ : ∃ K, K = w.heap.size := ⟨_, rfl⟩
  have HK : Hid (K = w.heap.size) := hK
  have HA : Hid (∀ k b off, k < A.length → ao = some ⟨b, off, none⟩ → ∃ o l cp, ∀ W, Below K w W → W.cell? ⟨b, off + k, none⟩ = some (.slice o l cp) ∧ Reads W (.slice o l cp) (A.getD k [])) := fun k b off hk e => hRA.always hK (by rw [hav, e]) hk
  have HB : Hid (∀ k b off, k < B.length → bo = some ⟨b, off, none⟩ → ∃ o l cp, ∀ W, Below K w W → W.cell? ⟨b, off + k, none⟩ = some (.slice o l cp) ∧ Reads W (.slice o l cp) (B.getD k [])) := fun k b off hk e => hRB.always hK (by rw [hbv, e]) hk
  have HAf : Hid (0 < A.length → ∃ b off, ao = some ⟨b, off, none⟩) := fun h0 => by
    obtain ⟨b, off, cap, e⟩ := hRA.form h0
    rw [hav] at e; cases e; exact ⟨b, off, rfl⟩
  have HBf : Hid (0 < B.length → ∃ b off, bo = some ⟨b, off, none⟩) := fun h0 => by
    obtain ⟨b, off, cap, e⟩ := hRB.form h0
    rw [hbv] at e; cases e; exact ⟨b, off, rfl⟩
  have HJ : Hid (∀ i k W vc vd, i < A.length → k < B.length → Reads W vc (A.getD i []) → Reads W vd (B.getD k []) → Calls Tryz.prog 53 #[vc, vd] W fun e w' => ∃ v r, e = .returned v ∧ RS (fun b => W.heap.size ≤ b) w' v r ∧ ((∀ m, m ∈ r ↔ m ∈ A.getD i [] ++ B.getD k []) ∧ (bothWays (A.getD i [] ++ B.getD k []) = false → r = joinC (A.getD i []) (B.getD k []))) ∧ Below W.heap.size W w') := fun i k W vc vd hi hk h1 h2 => joined_any vc vd (A.getD i []) (B.getD k []) M hM W (hA _ (mem_getD hi)) (hB _ (mem_getD hk)) h1 h2
  have HMm : Hid (∀ i k, i < A.length → k < B.length → ∀ m ∈ A.getD i [] ++ B.getD k [], m.natAbs ≤ 6) := fun i k hi hk m hm => by
    rcases List.mem_append.1 hm with h | h
    · have := (hA _ (mem_getD hi)).1 m h; omega
    · have := (hB _ (mem_getD hk)).1 m h; omega
  subst hav hbv
  rw [← hK]
  clear hRA hRB hA hB hK
  obtain ⟨na, hna⟩ : ∃ na, na = A.length := ⟨_, rfl⟩
  obtain ⟨nb, hnb⟩ : ∃ nb, nb = B.length := ⟨_, rfl⟩
  rw [← hna] at ha63 ⊢
  rw [← hnb] at hb63 ⊢
  have HN : Hid (na = A.length ∧ nb = B.length) := ⟨hna, hnb⟩
  clear hna hnb
  go_enter Tryz.func40, Tryz.ntmps40
  go_wp2_with fail
  go_loopw [6, 8, 10, 13] (fun v _ _ i wr => ∃ k : Nat, k ≤ na ∧ i = .int .i64 k ∧ Own2 S K wr v (rowsC A B k) ∧ (rowsC A B k).length ≤ 40 ∧ Below K w wr ∧ K ≤ wr.heap.size) (fun _ _ _ i _ => na - (intOf i).toNat)
  case atStart => exact ⟨0, Nat.zero_le _, rfl, Own2.nil _ _ _, by simp [rowsC], Below.refl _ _, by rw [HK.out]; exact Nat.le_refl _⟩
  case round =>
    obtain ⟨i, hi, rfl, hown, hlen, hbel, hKw⟩ := hrel
    have HO : Hid (Own2 S K wr u6 (rowsC A B i) ∧ (rowsC A B i).length ≤ 40 ∧ Below K w wr ∧ K ≤ wr.heap.size) := ⟨hown, hlen, hbel, hKw⟩
    clear hown hlen hbel hKw
    by_cases hlt : i < na
    · have hiA : i < A.length := by rw [← HN.out.1]; exact hlt
      obtain ⟨ab, aoff, rfl⟩ := HAf.out (by omega)
      obtain ⟨co, cl, ccp, hall⟩ := HA.out i ab aoff hiA rfl
      have hcell := (hall wr HO.out.2.2.1).1
      have hltz : (i : Int) < (na : Int) := by omega
      have HCr : Hid (∀ W, Below K w W → Reads W (.slice co cl ccp) (A.getD i [])) := fun W hW => (hall W hW).2
      have HIA : Hid (i < A.length) := hiA
      clear hall hiA
      go_wp2_with fail
      go_loopw [6, 10, 19] (fun v _ j wq => ∃ k : Nat, k ≤ nb ∧ j = .int .i64 k ∧ Own2 S K wq v (rowC A B i k) ∧ (rowC A B i k).length ≤ 40 ∧ Below K w wq ∧ K ≤ wq.heap.size) (fun _ _ j _ => nb - (intOf j).toNat)
      case atStart => exact ⟨0, Nat.zero_le _, rfl, HO.out.1, HO.out.2.1, HO.out.2.2.1, HO.out.2.2.2⟩
      case round =>
        obtain ⟨k, hk, rfl, hown, hlen, hbel, hKw⟩ := hrel
        have HI : Hid (Own2 S K wr u6 (rowC A B i k) ∧ (rowC A B i k).length ≤ 40 ∧ Below K w wr ∧ K ≤ wr.heap.size) := ⟨hown, hlen, hbel, hKw⟩
        clear hown hlen hbel hKw
        by_cases hltb : k < nb
        · have hkB : k < B.length := by rw [← HN.out.2]; exact hltb
          obtain ⟨bb, boff, rfl⟩ := HBf.out (by omega)
          obtain ⟨eo, el, ecp, hall⟩ := HB.out k bb boff hkB rfl
          obtain ⟨hcell2, hdr⟩ := hall wr HI.out.2.2.1
          have hltz2 : (k : Int) < (nb : Int) := by omega
          have HJ1 : Hid (Calls Tryz.prog 53 #[.slice co cl ccp, .slice eo el ecp] wr fun e w' => ∃ v r, e = .returned v ∧ RS (fun b => wr.heap.size ≤ b) w' v r ∧ ((∀ m, m ∈ r ↔ m ∈ A.getD i [] ++ B.getD k []) ∧ (bothWays (A.getD i [] ++ B.getD k []) = false → r = joinC (A.getD i []) (B.getD k []))) ∧ Below wr.heap.size wr w') := HJ.out i k wr (.slice co cl ccp) (.slice eo el ecp) HIA.out hkB (HCr.out wr HI.out.2.2.1) hdr
          have HKB : Hid (k < B.length) := hkB
          clear hdr hkB hall
          go_wp2_with fail
          go_at_call 53
          refine HJ1.out.mono ?_
          rintro e w2 ⟨v2, r, rfl, hr, hjr, hb2⟩
          obtain ⟨ro, rcp, rfl, _⟩ := hr.slice
          have HW : Hid (Calls Tryz.prog 52 #[u6, .slice ro r.length rcp] w2 fun e w' => ∃ v', e = .returned v' ∧ Own2 S K w' v' (rowC A B i (k + 1)) ∧ w2.grownBy w' u6.ownBlock) := by
            have h := with_any S K u6 (.slice ro r.length rcp) (rowC A B i k) r w2 (by have := hb2.size; have := HI.out.2.2.2; omega) (HI.out.1.below hb2) (hr.mono fun b _ hb => ⟨Or.inr (Nat.le_trans HI.out.2.2.2 hb), fun e => by have := (HI.out.1.lt b e.symm).2; omega⟩) (by have := HI.out.2.1; omega) (fun m hm => HMm.out i k HIA.out HKB.out m ((hjr.1 m).1 hm))
            have e1 : withC (rowC A B i k) r = rowC A B i (k + 1) := by
              rw [rowC_succ A B i HKB.out]
              exact with_is hjr.1 hjr.2
            rw [e1] at h
            exact h
          have HB2 : Hid (Below K w w2 ∧ Below wr.heap.size wr w2 ∧ K ≤ w2.heap.size) := ⟨HI.out.2.2.1.trans (hb2.mono HI.out.2.2.2), hb2, by have := hb2.size; have := HI.out.2.2.2; omega⟩
          obtain ⟨rl, hrl⟩ : ∃ rl, rl = r.length := ⟨_, rfl⟩
          rw [← hrl] at HW ⊢
          clear hr hjr hb2 HJ1 hrl
          go_wp2_with fail
          go_at_call 52
          refine HW.out.mono ?_
          rintro e w3 ⟨v3, rfl, hown3, hgr⟩
          have HB3 : Hid (Below K w w3 ∧ K ≤ w3.heap.size) := ⟨HB2.out.1.grown hgr HB2.out.2.2 (fun j hj => (HI.out.1.lt j hj).1), by have := hgr.size; have := HB2.out.2.2; omega⟩
          obtain ⟨o3, c3, rfl⟩ := hown3.form
          have HO3 : Hid (Own2 S K w3 (.slice o3 (rowC A B i (k + 1)).length c3) (rowC A B i (k + 1))) := hown3
          have HLe : Hid ((rowC A B i (k + 1)).length ≤ (andC A B).length) := rowC_len A B HIA.out
          obtain ⟨l3, hl3⟩ : ∃ l3, l3 = (rowC A B i (k + 1)).length := ⟨_, rfl⟩
          rw [← hl3] at HO3 HLe ⊢
          have HL3 : Hid (l3 = (rowC A B i (k + 1)).length) := hl3
          clear hown3 hgr HW hl3
          by_cases h40 : 40 < l3
          · have h40z : (40 : Int) < (l3 : Int) := by omega
            have HE : Hid (capC (andC A B) = none) := capC_big (by have := HLe.out; omega)
            go_wp2
            go_ret2
            refine ⟨?_, HB3.out.1⟩
            rw [HE.out]; rfl
          · have h40z : ¬ (40 : Int) < (l3 : Int) := by omega
            go_wp2
            go_roundw
            case rel => exact ⟨k + 1, by omega, by go_num, HO3.out, by have := HL3.out; omega, HB3.out.1, HB3.out.2⟩
            case measure => simp [intOf]; omega
        · have hltz2 : ¬ (k : Int) < (nb : Int) := by omega
          have HE : Hid (rowsC A B (i + 1) = rowC A B i k) := by
            unfold Hid
            rw [rowsC_succ A B HIA.out, show B.length = k by have := HN.out.2; omega]
          go_wp2
          go_roundw
          case rel => exact ⟨i + 1, by omega, by go_num, by rw [HE.out]; exact HI.out.1, by rw [HE.out]; exact HI.out.2.1, HI.out.2.2.1, HI.out.2.2.2⟩
          case measure => simp [intOf]; omega
    · have hltz : ¬ (i : Int) < (na : Int) := by omega
      have HE : Hid (rowsC A B i = andC A B) := by
        unfold Hid
        rw [← rowsC_all, show A.length = i by have := HN.out.1; omega]
      go_wp2
      go_ret2
      refine ⟨?_, HO.out.2.2.1⟩
      have h1 := HO.out.1
      have h2 := HO.out.2.1
      rw [HE.out] at h1 h2
      rw [capC_small h2]
      exact ⟨_, rfl, h1.reads (by omega)⟩
end Go.Proofs.YtenmheenieifpacGreatDoor
