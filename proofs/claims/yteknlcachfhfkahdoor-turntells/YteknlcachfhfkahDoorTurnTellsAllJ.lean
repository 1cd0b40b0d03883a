/-
  Proved: vennlaw2.TurnTells returns true, of any formula, any other names, any world and any numbers, where turn's functions answer as chapter 16 says; what was in memory is as it was (the walk that the statement leans on).
-/
import Derived.Test.YteknlcachfhfkahDoorTurnTellsWalkJ
import Derived.Test.YteknlcachfhfkahDoorLibTU12
import Derived.Test.YteknlcachfhfkahDoorLibTU13
namespace Go.Proofs.YteknlcachfhfkahDoor
open Go.ChangeShapes Go.WideShapes Go.ChangeAt Go.RowKit
set_option maxRecDepth 100000

theorem name_ok {D : Wd} (h : D.ok = true) (k : Nat) (hk : k < 3) : okB D.u (D.name k) = true := by
  obtain ⟨h1, h2, h3⟩ := Wd.ok_iff.1 h
  have hd : k = 0 ∨ k = 1 ∨ k = 2 := by omega
  rcases hd with rfl | rfl | rfl
  · exact h1
  · exact h2
  · exact h3
theorem things_mix {D : Wd} {q : List Int} (h : thingsFault D q = 0) : thingsA D q = mixW q D q.length 0 := by
  unfold thingsA
  rw [if_pos h]
  obtain ⟨_, hl, _⟩ := things_zero.1 h
  unfold thingsW mixW
  rw [show D.u.toNat = q.length by omega]
  rfl

theorem turnTells_of (va vc vq : Value) (ats : List At) (c q : List Int) (p : Nat → Int) (wu wa wb wc : Int) (w : World) (hA : ReadsA w va ats) (hC : Reads w vc c) (hQ : Reads w vq q) (hg : Laid w)
    (cTW : ∀ (D : Wd) (p : Nat → Int) (W : World), Below w.heap.size w W → Calls Tryd.prog 26 #[.agg #[.int .i64 D.u, .int .i64 D.a, .int .i64 D.b, .int .i64 D.c], .agg #[.int .i64 (p 0), .int .i64 (p 1), .int .i64 (p 2)]] W fun e w' => e = .returned (.tuple #[.agg #[.int .i64 (turnA p D).u, .int .i64 (turnA p D).a, .int .i64 (turnA p D).b, .int .i64 (turnA p D).c], errV (turnFault p D)]) ∧ Below W.heap.size W w')
    (cTh : ∀ (D : Wd) (v : Value) (q : List Int) (W : World), Below w.heap.size w W → Reads W v q → Calls Tryd.prog 28 #[.agg #[.int .i64 D.u, .int .i64 D.a, .int .i64 D.b, .int .i64 D.c], v] W fun e w' => e = .returned (.tuple #[.agg #[.int .i64 (thingsA D q).u, .int .i64 (thingsA D q).a, .int .i64 (thingsA D q).b, .int .i64 (thingsA D q).c], errV (thingsFault D q)]) ∧ Below W.heap.size W w')
    (cNm : ∀ (va vc : Value) (ats : List At) (c : List Int) (p : Nat → Int) (W : World), Below w.heap.size w W → ReadsA W va ats → Reads W vc c → Calls Tryd.prog 24 #[.agg #[va, vc], .agg #[.int .i64 (p 0), .int .i64 (p 1), .int .i64 (p 2)]] W fun e w' => ∃ va' vc', e = .returned (.tuple #[.agg #[va', vc'], errV (namesFault ats c p)]) ∧ (namesFault ats c p = 0 → ReadsA w' va' (renL p ats) ∧ Reads w' vc' c) ∧ (¬ namesFault ats c p = 0 → va' = .slice none 0 0 ∧ vc' = .slice none 0 0) ∧ Below W.heap.size W w') :
    Calls Tryd.prog 7 #[.agg #[va, vc], .agg #[.int .i64 (p 0), .int .i64 (p 1), .int .i64 (p 2)], .agg #[.int .i64 wu, .int .i64 wa, .int .i64 wb, .int .i64 wc], vq] w fun e w' => e = .returned (.bool true) ∧ Below w.heap.size w w' := by
  obtain ⟨D, hD⟩ : ∃ D, D = Wd.mk wu wa wb wc := ⟨_, rfl⟩
  obtain ⟨rfl, rfl, rfl, rfl⟩ : wu = D.u ∧ wa = D.a ∧ wb = D.b ∧ wc = D.c := by rw [hD]; exact ⟨rfl, rfl, rfl, rfl⟩
  clear hD
  obtain ⟨ao, acap, rfl, _⟩ := hA.slice
  obtain ⟨co, ccap, rfl, _⟩ := reads_sliceM hC
  obtain ⟨qo, qcap, rfl, hq63⟩ := reads_sliceM hQ
  have hW1 : (e1 : namesFault ats c p = 0) → (if namesFault ats c p = 0 then renL p ats else []) = renL p ats := fun e => if_pos e
  refine turnTells_in ao _ acap co _ ccap ats c p D qo _ qcap q (onceB (listP p)) (onceB q) (formFault ats c) (namesFault ats c p) (if D.ok = true then 0 else 1) (turnFault p D) (thingsFault D q) (turnA p D) (thingsA D q)
    (if namesFault ats c p = 0 then renL p ats else []) (if namesFault ats c p = 0 then c else []) w hA hC hQ rfl hq63 rfl rfl rfl ?_ ⟨fun h => ⟨if_pos h, if_pos h⟩, fun h => ⟨if_neg h, if_neg h⟩⟩ ⟨fun h => ?_, fun h => ?_⟩ ⟨fun h => ?_, fun h => ?_⟩ (fun h k hk => ?_) (fun h => ?_) (fun h => ?_)
    (fun W v hv => (refOnce_any (listP p) v W hv).mono fun _ _ g => ⟨g.1, g.2.symm⟩) (fun W hW => (refOnce_any q _ W (hQ.below hW)).mono fun _ _ g => ⟨g.1, g.2.symm⟩)
    (fun W hW => refForm_any _ _ ats c W (hA.below hW) (hC.below hW)) (fun W => refWorld_any D.u D.a D.b D.c W) (fun h i a ha => ?_) (fun h k i hk hi W => ?_) (fun _ n hn W => refPower_any n (by omega) W)
    (fun n W hW => merr_any n W (hg.below hW)) (fun W hW => ?_) (fun W hW => cTW D p W hW) (fun W hW => cTh D _ q W hW (hQ.below hW))
  · show thingsFault D q = _
    unfold thingsFault
    by_cases ho : D.ok = true
    · rw [if_pos ho, if_pos ho, if_pos rfl]
    · rw [if_neg ho, if_neg ho, if_neg (by decide)]
  · unfold turnA
    rw [if_pos h, turnTo_all (turn_zero.1 h).1]
  · unfold turnA; rw [if_neg h]
  · exact things_mix h
  · unfold thingsA; rw [if_neg h]
  · obtain ⟨h0, h2⟩ := ren_low (turn_zero.1 h).1 hk
    exact ⟨(p k).toNat, by omega, by omega⟩
  · exact (formFault_zero.1 (names_zero.1 h).1).1.2
  · obtain ⟨ho, hl, h1⟩ := things_zero.1 h
    have hu := ok_u ho
    have h2 := (once_in h1).2
    exact ⟨by omega, fun x hx => by have := h2 x hx; omega⟩
  · obtain ⟨hf, _⟩ := names_zero.1 h
    obtain ⟨_, hs, ht, _⟩ := atomFault_zero.1 ((formFault_zero.1 hf).2.2.1 a (List.mem_of_getElem? ha))
    obtain ⟨_, s2, s3, _⟩ := fault_zero.1 hs
    have ht2 : a.t.all signB = true ∧ a.t.length ≤ 12 := by
      unfold secondFault at ht
      by_cases hb : secondB a.k = true
      · rw [if_pos hb] at ht
        obtain ⟨_, t2, t3, _⟩ := fault_zero.1 ht
        exact ⟨t3, t2⟩
      · rw [if_neg hb] at ht
        have h0 : a.t = [] := by
          cases h : a.t with
          | nil => rfl
          | cons x l => rw [h] at ht; simp at ht
        rw [h0]; exact ⟨rfl, by decide⟩
    exact ⟨fun W v hv => refRenamed_any a.s p s3 s2 v W hv, fun W v hv => refRenamed_any a.t p ht2.1 ht2.2 v W hv⟩
  · obtain ⟨ho, hl, _⟩ := things_zero.1 h
    have hu := ok_u ho
    obtain ⟨_, _, n0, n1⟩ := okB_lt (name_ok ho k hk)
    exact refHas_any (D.name k) i n0 (by omega) (by omega) W
  · refine (cNm _ _ ats c p W hW (hA.below hW) (hC.below hW)).mono ?_
    rintro e w' ⟨va', vc', rfl, hr, hz, hb⟩
    refine ⟨?_, hb⟩
    by_cases hn : namesFault ats c p = 0
    · obtain ⟨r1, r2⟩ := hr hn
      obtain ⟨o1, q1, rfl, _⟩ := r1.slice
      obtain ⟨o2, q2, rfl, _⟩ := reads_sliceM r2
      refine ⟨o1, _, q1, o2, _, q2, rfl, fun W' ua uc hW' h1 h2 => ?_⟩
      rw [if_pos hn] at h1 h2
      exact form_same _ _ _ _ _ _ W' (r1.below hW') (r2.below hW') h1 h2
    · obtain ⟨rfl, rfl⟩ := hz hn
      refine ⟨none, 0, 0, none, 0, 0, rfl, fun W' ua uc _ h1 h2 => ?_⟩
      rw [if_neg hn] at h1 h2
      exact form_same _ _ _ _ [] [] W' (Or.inl ⟨none, 0, rfl, rfl⟩) (Or.inl ⟨none, 0, rfl, rfl⟩) h1 h2
end Go.Proofs.YteknlcachfhfkahDoor
