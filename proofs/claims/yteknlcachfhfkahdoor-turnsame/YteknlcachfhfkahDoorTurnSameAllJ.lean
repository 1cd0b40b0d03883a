/-
  Proved: vennlaw2.TurnSame returns true, of any formula, any other names, any world and any numbers, where turn's functions and worlds.Of answer as chapters 11 and 16 say; what was in memory is as it was (the walk that the statement leans on).
-/
import Derived.Test.YteknlcachfhfkahDoorTurnSameWalkJ
import Derived.Test.YteknlcachfhfkahDoorLibTU16
import Derived.Test.YteknlcachfhfkahDoorLibTU19
namespace Go.Proofs.YteknlcachfhfkahDoor
open Go.ChangeShapes Go.WideShapes Go.ChangeAt Go.RowKit
set_option maxRecDepth 100000

theorem turn_fact (p : Nat → Int) (h0 : p 0 = 2) (h1 : p 1 = 0) (h2 : p 2 = 1) : turnFault p ⟨1, 1, 0, 0⟩ = 0 ∧ turnA p ⟨1, 1, 0, 0⟩ = ⟨1, 0, 0, 1⟩ := by
  have e : turnFault p ⟨1, 1, 0, 0⟩ = 0 := turn_zero.2 ⟨by unfold listP; rw [h0, h1, h2]; decide, by decide⟩
  refine ⟨e, ?_⟩
  unfold turnA
  rw [if_pos e]
  unfold turnW pickN
  rw [h0, h1]
  rfl

theorem turnSame_of (va vc vq : Value) (ats : List At) (c q : List Int) (p : Nat → Int) (wu wa wb wc : Int) (w : World) (hA : ReadsA w va ats) (hC : Reads w vc c) (hQ : Reads w vq q) (hK : KindsLaid w)
    (cWo : ∀ (va vc : Value) (ats : List At) (c : List Int) (u : Int) (W : World), Below w.heap.size w W → ReadsA W va ats → Reads W vc c → Calls Tryd.prog 30 #[.agg #[va, vc], .int .i64 u] W fun e w' => e = .returned (.tuple #[.int .i64 (worldsN ats c u), errV (worldsFault ats c u)]) ∧ Below W.heap.size W w')
    (cTW : ∀ (D : Wd) (p : Nat → Int) (W : World), Below w.heap.size w W → Calls Tryd.prog 26 #[.agg #[.int .i64 D.u, .int .i64 D.a, .int .i64 D.b, .int .i64 D.c], .agg #[.int .i64 (p 0), .int .i64 (p 1), .int .i64 (p 2)]] W fun e w' => e = .returned (.tuple #[.agg #[.int .i64 (turnA p D).u, .int .i64 (turnA p D).a, .int .i64 (turnA p D).b, .int .i64 (turnA p D).c], errV (turnFault p D)]) ∧ Below W.heap.size W w')
    (cTh : ∀ (D : Wd) (v : Value) (q : List Int) (W : World), Below w.heap.size w W → Reads W v q → Calls Tryd.prog 28 #[.agg #[.int .i64 D.u, .int .i64 D.a, .int .i64 D.b, .int .i64 D.c], v] W fun e w' => e = .returned (.tuple #[.agg #[.int .i64 (thingsA D q).u, .int .i64 (thingsA D q).a, .int .i64 (thingsA D q).b, .int .i64 (thingsA D q).c], errV (thingsFault D q)]) ∧ Below W.heap.size W w')
    (cNm : ∀ (va vc : Value) (ats : List At) (c : List Int) (p : Nat → Int) (W : World), Below w.heap.size w W → ReadsA W va ats → Reads W vc c → Calls Tryd.prog 24 #[.agg #[va, vc], .agg #[.int .i64 (p 0), .int .i64 (p 1), .int .i64 (p 2)]] W fun e w' => ∃ va' vc', e = .returned (.tuple #[.agg #[va', vc'], errV (namesFault ats c p)]) ∧ (namesFault ats c p = 0 → ReadsA w' va' (renL p ats) ∧ Reads w' vc' c) ∧ (¬ namesFault ats c p = 0 → va' = .slice none 0 0 ∧ vc' = .slice none 0 0) ∧ Below W.heap.size W w') :
    Calls Tryd.prog 8 #[.agg #[va, vc], .agg #[.int .i64 (p 0), .int .i64 (p 1), .int .i64 (p 2)], .agg #[.int .i64 wu, .int .i64 wa, .int .i64 wb, .int .i64 wc], vq] w fun e w' => e = .returned (.bool true) ∧ Below w.heap.size w w' := by
  obtain ⟨D, hD⟩ : ∃ D, D = Wd.mk wu wa wb wc := ⟨_, rfl⟩
  obtain ⟨rfl, rfl, rfl, rfl⟩ : wu = D.u ∧ wa = D.a ∧ wb = D.b ∧ wc = D.c := by rw [hD]; exact ⟨rfl, rfl, rfl, rfl⟩
  clear hD
  have hOne : ∀ W, Below w.heap.size w W → Calls Tryd.prog 26 #[.agg #[.int .i64 1, .int .i64 1, .int .i64 0, .int .i64 0], .agg #[.int .i64 2, .int .i64 0, .int .i64 1]] W fun e w' => e = .returned (.tuple #[.agg #[.int .i64 1, .int .i64 0, .int .i64 0, .int .i64 1], .nilIface]) ∧ Below W.heap.size W w' := fun W hW => by
    have h := cTW ⟨1, 1, 0, 0⟩ (fun i => [2, 0, 1].getD i 0) W hW
    obtain ⟨e1, e2⟩ := turn_fact (fun i => [2, 0, 1].getD i 0) rfl rfl rfl
    rw [e1, e2] at h
    exact h
  have hHo := fun W (hW : Below w.heap.size w W) => fholds_any va vc ats c D.u D.a D.b D.c W (hA.below hW) (hC.below hW) (hK.below hW)
  have hTh := fun W (hW : Below w.heap.size w W) => cTh D vq q W hW (hQ.below hW)
  have hNm := fun W (hW : Below w.heap.size w W) => cNm va vc ats c p W hW (hA.below hW) (hC.below hW)
  have hTW := fun W (hW : Below w.heap.size w W) => cTW D p W hW
  have hWo := fun W (hW : Below w.heap.size w W) => cWo va vc ats c D.u W hW (hA.below hW) (hC.below hW)
  obtain ⟨ao, acap, rfl, _⟩ := hA.slice
  obtain ⟨co, ccap, rfl, _⟩ := hC.slice
  by_cases h0 : D.formFault ats c = 0
  · obtain ⟨hf, hok⟩ := wdForm_zero.1 h0
    have hu := ok_u hok
    rw [h0] at hHo
    have eW : worldsFault ats c D.u = 0 := by unfold worldsFault; rw [if_pos hf]; unfold allFault; rw [if_pos (by omega)]
    rw [eW] at hWo
    refine turnSame_good ao _ acap co _ ccap p D vq (D.formIs ats c) (thingsA D q) (turnA p D) D.cts (errV (thingsFault D q)) (worldsN ats c D.u) w hOne hHo hTh ?_ (fun W hW => ?_) (fun _ => hWo)
    · by_cases ht : thingsFault D q = 0
      · right
        obtain ⟨_, hl, ho⟩ := things_zero.1 ht
        have hal := things_alike hok hl ho
        have eA : thingsA D q = thingsW q D := by unfold thingsA; rw [if_pos ht]
        rw [eA]
        refine ⟨by rw [ht]; rfl, fun W hW => ?_, fun W hW => ?_, fun W hW => ?_⟩
        · have h := fholds_any _ _ ats c (thingsW q D).u (thingsW q D).a (thingsW q D).b (thingsW q D).c W (hA.below hW) (hC.below hW) (hK.below hW)
          rw [hal.form, hal.fault, h0] at h
          exact h
        · have h := fieldsOf_any D.u D.a D.b D.c W
          have e : D.wrong = 0 := by unfold Wd.wrong; rw [if_pos hok]
          rw [e] at h
          exact h
        · have h := fieldsOf_any (thingsW q D).u (thingsW q D).a (thingsW q D).b (thingsW q D).c W
          have e : (thingsW q D).wrong = 0 := by unfold Wd.wrong; rw [if_pos hal.ok']
          have e2 : arr8 (thingsW q D).cts = arr8 D.cts := by
            have k : ∀ f, f < 8 → (thingsW q D).cts f = D.cts f := fun f hf => by
              unfold Wd.cts
              rw [if_pos hok, if_pos hal.ok']
              exact hal.fc f hf
            unfold arr8
            rw [k 0 (by omega), k 1 (by omega), k 2 (by omega), k 3 (by omega), k 4 (by omega), k 5 (by omega), k 6 (by omega), k 7 (by omega)]
          rw [e, e2] at h
          exact h
      · left
        rcases errV_is (thingsFault D q) with h | ⟨m, h⟩
        · exact absurd (errV_nil h) ht
        · exact ⟨m, h⟩
    · refine (hNm W hW).mono ?_
      rintro e w' ⟨va', vc', rfl, hr, hz, hb⟩
      refine ⟨?_, hb⟩
      by_cases hn : namesFault ats c p = 0
      · left
        obtain ⟨_, ho⟩ := names_zero.1 hn
        obtain ⟨r1, r2⟩ := hr hn
        obtain ⟨p1, q1, rfl, _⟩ := r1.slice
        obtain ⟨p2, q2, rfl, _⟩ := r2.slice
        have et : turnFault p D = 0 := turn_zero.2 ⟨ho, hok⟩
        have eA : turnA p D = turnW p D := by unfold turnA; rw [if_pos et]
        rw [hn]
        refine ⟨p1, _, q1, p2, _, q2, rfl, fun W2 hW2 => ?_, fun W' hW' => ?_, fun h4 W' hW' => ?_⟩
        · have h := hTW W2 hW2
          rw [et] at h
          exact h
        · rw [eA]
          have h := fholds_any _ _ (renL p ats) c (turnW p D).u (turnW p D).a (turnW p D).b (turnW p D).c W' (r1.below hW') (r2.below hW') ((hK.below (hW.trans (hb.mono hW.size))).below hW')
          have e0 : (turnW p D).formFault (renL p ats) c = 0 := wdForm_zero.2 ⟨ren_form ho hf, by rw [turnW_ok ho]; exact hok⟩
          have e1 : (turnW p D).formIs (renL p ats) c = D.formIs ats c := ren_is ho D hf
          rw [e0, e1] at h
          exact h
        · have h := cWo _ _ (renL p ats) c D.u W' ((hW.trans (hb.mono hW.size)).trans (hW'.mono (hW.trans (hb.mono hW.size)).size)) (r1.below hW') (r2.below hW')
          have e0 : worldsFault (renL p ats) c D.u = 0 := by unfold worldsFault; rw [if_pos (ren_form ho hf)]; unfold allFault; rw [if_pos (by omega)]
          have e1 : worldsN (renL p ats) c D.u = worldsN ats c D.u := by
            unfold worldsN
            rw [if_pos e0, if_pos eW]
            exact ren_count ho hf (by omega)
          rw [e0, e1] at h
          exact h
      · right
        have hno : ¬ onceB (listP p) = true := fun h => hn (names_zero.2 ⟨hf, h⟩)
        have ht : ¬ turnFault p D = 0 := fun h => hno (turn_zero.1 h).1
        obtain ⟨rfl, rfl⟩ := hz hn
        rcases errV_is (namesFault ats c p) with h | ⟨m, h⟩
        · exact absurd (errV_nil h) hn
        · rcases errV_is (turnFault p D) with h2 | ⟨m2, h2⟩
          · exact absurd (errV_nil h2) ht
          · rw [h2] at hTW
            rw [h]
            exact ⟨m, rfl, turnA p D, m2, hTW⟩
  · rcases errV_is (D.formFault ats c) with h | ⟨m, h⟩
    · exact absurd (errV_nil h) h0
    · rw [h] at hHo
      exact turnSame_bad ao _ acap co _ ccap p D vq (D.formIs ats c) m w hOne hHo
end Go.Proofs.YteknlcachfhfkahDoor
