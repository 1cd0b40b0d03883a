/-
  Proved: venntop.TopThree returns true, of any formula and any number of things, where what it calls answers as the chapters say; what was in memory is as it was (the walk that the statement leans on).
-/
import Derived.Test.YtjaedfjfcghgcabGreatDoorTopThreeWalkJ
import Derived.Test.YtjaedfjfcghgcabGreatDoorLibT14
namespace Go.Proofs.YtjaedfjfcghgcabGreatDoor
open Go.ChangeShapes Go.WideShapes Go.ChangeAt Go.RowKit
set_option maxRecDepth 100000

/-- a cube's rows fit some counts just if as many fit as more than none. -/
theorem fit_some {A : List (Nat → Int)} {p : (Nat → Int) → Bool} : (A.find? p = none → manyD A p 0 = 0) ∧ ∀ N, A.find? p = some N → ¬ manyD A p 0 = 0 := by
  unfold manyD
  rw [List.drop_zero]
  refine ⟨fun h => ?_, fun N h h0 => ?_⟩
  · rw [List.length_eq_zero_iff, List.filter_eq_nil_iff]
    intro x hx
    simpa using List.find?_eq_none.1 h x hx
  · rw [List.length_eq_zero_iff, List.filter_eq_nil_iff] at h0
    exact absurd (List.find?_some h) (by simpa using h0 N (List.mem_of_find?_eq_some h))
theorem fit_model {ats : List At} {n : Nat} (hn : n ≤ 6) : ∀ {L : List (List Int)}, (∀ d ∈ L, rowsFault (cubeR ats d) = 0) → (L.any fun d => decide (0 < fitManyN (n : Int) (cubeR ats d))) = (modelL ats n L).isSome := by
  intro L
  induction L with
  | nil => intro _; rfl
  | cons d L ih =>
    intro h
    have hf : fitFault (n : Int) (cubeR ats d) = 0 := by unfold fitFault; rw [if_pos ⟨by omega, by omega⟩]; exact h d List.mem_cons_self
    have hm : fitManyN (n : Int) (cubeR ats d) = (manyD (everyC n) (fitB (cubeR ats d)) 0 : Int) := by unfold fitManyN; rw [if_pos hf, Int.toNat_natCast]
    obtain ⟨f1, f2⟩ := @fit_some (everyC n) (fitB (cubeR ats d))
    rw [List.any_cons, ih fun e he => h e (List.mem_cons_of_mem _ he), hm]
    have ec : modelL ats n (d :: L) = match (everyC n).find? (fitB (cubeR ats d)) with | some N => some N | none => modelL ats n L := rfl
    cases e : (everyC n).find? (fitB (cubeR ats d)) with
    | none =>
      rw [e] at ec
      rw [f1 e, ec]
      simp
    | some N =>
      have := f2 N e
      have h0 : decide ((0 : Int) < (manyD (everyC n) (fitB (cubeR ats d)) 0 : Int)) = true := decide_eq_true (by omega)
      rw [e] at ec
      rw [h0, ec]; rfl

-- the cubes are told as an error
set_option maxHeartbeats 8000000 in
theorem topThree_err (ao : Option Addr) (al acap : Nat) (co : Option Addr) (cl ccap : Nat) (u n : Int) (w : World)
    (HOn : Hid (∀ W, Below w.heap.size w W → Calls Tryz.prog 5 #[] W fun e w' => e = .returned (.bool true) ∧ Below W.heap.size W w'))
    (HCu : Hid (∀ W, Below w.heap.size w W → Calls Tryz.prog 6 #[.agg #[.slice ao al acap, .slice co cl ccap]] W fun e w' => e = .returned (.tuple #[.slice none 0 0, .iface 75 (.int .i64 n)]) ∧ Below W.heap.size W w')) :
    Calls Tryz.prog 3 #[.agg #[.slice ao al acap, .slice co cl ccap], .int .i64 u] w fun e w' => e = .returned (.bool true) ∧ Below w.heap.size w w' := by
  obtain ⟨w1, hw1⟩ : ∃ w1, w1 = w.alloc (.cells #[.slice ao al acap, .slice co cl ccap] 25) := ⟨_, rfl⟩
  have HB1 : Hid (Below w.heap.size w w1) := by unfold Hid; rw [hw1]; exact below_alloc1 _ _
  have HF1 : Hid (Blk w1 w.heap.size 25 #[.slice ao al acap, .slice co cl ccap]) := by unfold Hid; rw [hw1]; exact Blk.new _ _ _
  go_enter Tryz.func3, Tryz.ntmps3
  go_upto_region 1 with fail
  rw [← hw1]
  clear hw1
  go_wp2_with fail
  go_at_call 5
  refine (HOn.out _ HB1.out).mono ?_
  rintro e w2 ⟨rfl, hb⟩
  have HB2 : Hid (Below w.heap.size w w2) := HB1.out.trans (hb.mono HB1.out.size)
  have y0 : w2.cell? ⟨w.heap.size, 0, none⟩ = some (.slice ao al acap) := (HF1.out.below hb).cell 0
  have y1 : w2.cell? ⟨w.heap.size, 1, none⟩ = some (.slice co cl ccap) := (HF1.out.below hb).cell 1
  clear hb
  go_wp2_with fail
  go_at_call 6
  refine (HCu.out _ HB2.out).mono ?_
  rintro e w3 ⟨rfl, hb⟩
  have HB3 : Hid (Below w.heap.size w w3) := HB2.out.trans (hb.mono HB2.out.size)
  clear hb y0 y1
  go_wp2
  go_ret
  exact ⟨rfl, HB3.out⟩
-- no such number of things
set_option maxHeartbeats 8000000 in
theorem topThree_out (ao : Option Addr) (al acap : Nat) (co : Option Addr) (cl ccap : Nat) (u : Int) (hu : u < 0 ∨ 6 < u) (w : World)
    (HOn : Hid (∀ W, Below w.heap.size w W → Calls Tryz.prog 5 #[] W fun e w' => e = .returned (.bool true) ∧ Below W.heap.size W w'))
    (HCu : Hid (∀ W, Below w.heap.size w W → Calls Tryz.prog 6 #[.agg #[.slice ao al acap, .slice co cl ccap]] W fun e w' => ∃ lo ll lcap, e = .returned (.tuple #[.slice lo ll lcap, .nilIface]) ∧ Below W.heap.size W w')) :
    Calls Tryz.prog 3 #[.agg #[.slice ao al acap, .slice co cl ccap], .int .i64 u] w fun e w' => e = .returned (.bool true) ∧ Below w.heap.size w w' := by
  obtain ⟨w1, hw1⟩ : ∃ w1, w1 = w.alloc (.cells #[.slice ao al acap, .slice co cl ccap] 25) := ⟨_, rfl⟩
  have HB1 : Hid (Below w.heap.size w w1) := by unfold Hid; rw [hw1]; exact below_alloc1 _ _
  have HF1 : Hid (Blk w1 w.heap.size 25 #[.slice ao al acap, .slice co cl ccap]) := by unfold Hid; rw [hw1]; exact Blk.new _ _ _
  go_enter Tryz.func3, Tryz.ntmps3
  go_upto_region 1 with fail
  rw [← hw1]
  clear hw1
  go_wp2_with fail
  go_at_call 5
  refine (HOn.out _ HB1.out).mono ?_
  rintro e w2 ⟨rfl, hb⟩
  have HB2 : Hid (Below w.heap.size w w2) := HB1.out.trans (hb.mono HB1.out.size)
  have y0 : w2.cell? ⟨w.heap.size, 0, none⟩ = some (.slice ao al acap) := (HF1.out.below hb).cell 0
  have y1 : w2.cell? ⟨w.heap.size, 1, none⟩ = some (.slice co cl ccap) := (HF1.out.below hb).cell 1
  clear hb
  go_wp2_with fail
  go_at_call 6
  refine (HCu.out _ HB2.out).mono ?_
  rintro e w3 ⟨lo, ll, lcap, rfl, hb⟩
  have HB3 : Hid (Below w.heap.size w w3) := HB2.out.trans (hb.mono HB2.out.size)
  clear hb y0 y1
  rcases hu with hu | hu
  · go_wp2
    go_ret
    exact ⟨rfl, HB3.out⟩
  · have h0 : ¬ u < 0 := by omega
    go_wp2
    go_ret
    exact ⟨rfl, HB3.out⟩

/-- three ways to know it, whatever the formula and the number of things. -/
theorem topThree_of (va vc : Value) (ats : List At) (c : List Int) (u : Int) (w : World) (hA : ReadsA w va ats) (hC : Reads w vc c) (hg : Laid w)
    (cAs : ∀ (v va vc : Value) (fs : List Fm) (ats : List At) (c : List Int) (u : Int) (W : World), Below w.heap.size w W → ReadsF W v fs → ReadsA W va ats → Reads W vc c → Calls Tryz.prog 21 #[v, .agg #[va, vc], .int .i64 u] W fun e w' => e = .returned (.tuple #[.int .i64 (askN fs ats c u), errV (askFault fs ats c u)]) ∧ Below W.heap.size W w')
    (cCu : ∀ (va vc : Value) (ats : List At) (c : List Int) (W : World), Below w.heap.size w W → ReadsA W va ats → Reads W vc c → formFault ats c = 0 → ∀ L, cubesC c = some L → Calls Tryz.prog 6 #[.agg #[va, vc]] W fun e w' => (∃ v, e = .returned (.tuple #[v, .nilIface]) ∧ RS2 (fun _ => True) w' v L) ∧ Below W.heap.size W w')
    (cCn : ∀ (va vc : Value) (ats : List At) (c : List Int) (W : World), Below w.heap.size w W → ReadsA W va ats → Reads W vc c → formFault ats c = 0 → cubesC c = none → Calls Tryz.prog 6 #[.agg #[va, vc]] W fun e w' => e = .returned (.tuple #[.slice none 0 0, .iface 75 (.int .i64 4)]) ∧ Below W.heap.size W w')
    (cCb : ∀ (va vc : Value) (ats : List At) (c : List Int) (W : World), Below w.heap.size w W → ReadsA W va ats → Reads W vc c → ¬ formFault ats c = 0 → Calls Tryz.prog 6 #[.agg #[va, vc]] W fun e w' => e = .returned (.tuple #[.slice none 0 0, .iface 75 (.int .i64 (formFault ats c))]) ∧ Below W.heap.size W w')
    (cMo : ∀ (va vc : Value) (ats : List At) (c : List Int) (u : Int) (W : World), Below w.heap.size w W → ReadsA W va ats → Reads W vc c → Calls Tryz.prog 7 #[.agg #[va, vc], .int .i64 u] W fun e w' => e = .returned (.tuple #[.agg (arrW (modelW ats c u)), errV (modelFault ats c u)]) ∧ Below W.heap.size W w')
    (cWo : ∀ (va vc : Value) (ats : List At) (c : List Int) (u : Int) (W : World), Below w.heap.size w W → ReadsA W va ats → Reads W vc c → Calls Tryz.prog 8 #[.agg #[va, vc], .int .i64 u] W fun e w' => e = .returned (.tuple #[.int .i64 (worldsN ats c u), errV (worldsFault ats c u)]) ∧ Below W.heap.size W w')
    (cOp : ∀ (v : Value) (fs : List Fm) (u : Int) (W : World), Below w.heap.size w W → ReadsF W v fs → Calls Tryz.prog 9 #[v, .int .i64 u] W fun e w' => e = .returned (.tuple #[.bool (openB fs u), errV (formsFault fs u)]) ∧ Below W.heap.size W w')
    (cRo : ∀ (k n : Int) (h : Bool) (vs vt : Value) (s t : List Int) (W : World), Below w.heap.size w W → Reads W vs s → Reads W vt t → atomFault k s t n = 0 → Calls Tryz.prog 11 #[.agg #[.int .i64 k, vs, vt, .int .i64 n], .bool h] W fun e w' => e = .returned (.tuple #[.agg (arrR (rowT k s t h) (rowM k n h)), .nilIface]) ∧ Below W.heap.size W w')
    (cMa : ∀ (u : Int) (l : List Rw) (v : Value) (W : World), Below w.heap.size w W → ReadsR W v l → Calls Tryz.prog 12 #[.int .i64 u, v] W fun e w' => e = .returned (.tuple #[.int .i64 (fitManyN u l), errV (fitFault u l)]) ∧ Below W.heap.size W w') :
    Calls Tryz.prog 3 #[.agg #[va, vc], .int .i64 u] w fun e w' => e = .returned (.bool true) ∧ Below w.heap.size w w' := by
  have hOn : ∀ W, Below w.heap.size w W → Calls Tryz.prog 5 #[] W fun e w' => e = .returned (.bool true) ∧ Below W.heap.size W w' := fun W hW => topOne_any W fun v va vc fs ats c u W' hW' => cAs v va vc fs ats c u W' (hW.trans (hW'.mono hW.size))
  have hCu := fun h L hL W hW => cCu va vc ats c W hW (hA.below hW) (hC.below hW) h L hL
  have hCn := fun h hL W hW => cCn va vc ats c W hW (hA.below hW) (hC.below hW) h hL
  have hCb := fun h W hW => cCb va vc ats c W hW (hA.below hW) (hC.below hW) h
  have hMo := fun W hW => cMo va vc ats c u W hW (hA.below hW) (hC.below hW)
  have hWo := fun W hW => cWo va vc ats c u W hW (hA.below hW) (hC.below hW)
  have hAf : ∀ W, Below w.heap.size w W → ReadsA W va ats ∧ Reads W vc c := fun W hW => ⟨hA.below hW, hC.below hW⟩
  obtain ⟨ao, acap, rfl, _⟩ := hA.slice
  obtain ⟨co, ccap, rfl, _⟩ := hC.slice
  by_cases hf : formFault ats c = 0
  · cases hL : cubesC c with
    | none => exact topThree_err ao _ acap co _ ccap u 4 w hOn (hCn hf hL)
    | some L =>
      have hCo : ∀ W, Below w.heap.size w W → Calls Tryz.prog 6 #[.agg #[.slice ao ats.length acap, .slice co c.length ccap]] W fun e w' => ∃ lo lcap, e = .returned (.tuple #[.slice lo L.length lcap, .nilIface]) ∧ RS2 (fun _ => True) w' (.slice lo L.length lcap) L ∧ Below W.heap.size W w' := fun W hW => by
        refine (hCu hf L hL W hW).mono ?_
        rintro e w' ⟨⟨v, rfl, hr⟩, hb⟩
        obtain ⟨lo, lcap, rfl, _⟩ := hr.slice
        exact ⟨lo, lcap, rfl, hr, hb⟩
      by_cases hu : 0 ≤ u ∧ u ≤ 6
      · obtain ⟨n, rfl⟩ := Int.eq_ofNat_of_zero_le hu.1
        obtain ⟨⟨_, h6⟩, _, hflt, _, _⟩ := formFault_zero.1 hf
        obtain ⟨hok, hL40, _⟩ := cubes_say [] hf hL
        have eM : modelFault ats c (n : Int) = if (modelL ats n L).isSome = true then 0 else 5 := by
          unfold modelFault
          rw [if_pos hf, hL]
          show (if 0 ≤ (n : Int) ∧ (n : Int) ≤ 6 then (if (modelL ats (n : Int).toNat L).isSome = true then (0 : Int) else 5) else 1) = _
          rw [if_pos hu, Int.toNat_natCast]
        have hw0 : worldsFault ats c (n : Int) = 0 := by unfold worldsFault allFault; rw [if_pos hf, if_pos hu]
        have hfm : formsFault [⟨ats, c⟩] (n : Int) = 0 := forms_zero.2 ⟨⟨by simp, by simp⟩, fun f h => by
          obtain rfl : f = ⟨ats, c⟩ := by simpa using h
          exact hf, hu⟩
        have hso : ∀ D : Wd, D.so [⟨ats, c⟩] = D.formIs ats c := fun D => by unfold Wd.so; simp
        obtain ⟨B, hB⟩ : ∃ B, B = (modelL ats n L).isSome := ⟨_, rfl⟩
        have facts : decide (0 < worldsN ats c (n : Int)) = B ∧ openB [⟨ats, c⟩] (n : Int) = B := by
          have eo : openB [⟨ats, c⟩] (n : Int) = openN [⟨ats, c⟩] n := by unfold openB; rw [if_pos hfm, Int.toNat_natCast]
          have ew : worldsN ats c (n : Int) = sumL (fun N => (madeN N 8).formIs ats c) (everyC n) := by unfold worldsN; rw [if_pos hw0, Int.toNat_natCast]
          rw [eo, ew]
          cases hm : modelL ats n L with
          | some N =>
            rw [hm] at hB eM
            obtain rfl : B = true := hB
            have h0 : modelFault ats c (n : Int) = 0 := eM
            obtain ⟨_, g2, g3, g4⟩ := model_zero h0
            have ho := open_of (fs := [⟨ats, c⟩]) g2 (u := (n : Int)) g3 (by rw [hso]; exact g4)
            rw [Int.toNat_natCast] at ho
            refine ⟨decide_eq_true ?_, ho⟩
            unfold openN at ho
            rw [List.any_eq_true] at ho
            obtain ⟨N', hN', hs⟩ := ho
            rw [hso] at hs
            have h1 := sumL_has (A := everyC n) (fun N hN => like_pos (by omega) hN) (p := fun N => (madeN N 8).formIs ats c) hN' hs
            have h2 := like_pos (u := n) (by omega) hN'
            omega
          | none =>
            rw [hm] at hB eM
            obtain rfl : B = false := hB
            have h5 : modelFault ats c (n : Int) = 5 := eM
            have hno : ∀ N ∈ everyC n, (madeN N 8).formIs ats c = false := fun N hN => by
              have hc := everyC_right (by omega) hN
              exact model_five h5 hf (made_ok hc) (by rw [made_u hc, (everyC_sum hN).2])
            refine ⟨?_, ?_⟩
            · rw [sumL_none hno]; rfl
            · unfold openN
              rw [List.any_eq_false]
              intro N hN
              rw [hso, hno N hN]; decide
        rw [hw0] at hWo
        have her : modelFault ats c (n : Int) = if B = true then 0 else 5 := by rw [eM, hB]
        refine topThree_in ats L n (by omega) ao acap co _ ccap B (worldsN ats c (n : Int)) (errV (modelFault ats c (n : Int))) (fun d => fitManyN (n : Int) (cubeR ats d)) _ _ _ _ w hA h6 (fun d hd => hok.1 d hd) (by omega) ?_ facts.1 ?_ hOn hCo hMo hWo (fun W G hW hK => ?_) (fun W hW => ?_) (fun a h vs vt W ha hW hs ht => ?_) (fun k d v W hd hW hR => ?_)
        · cases B
          · exact Or.inr ⟨rfl, by rw [her]; rfl⟩
          · exact Or.inl ⟨rfl, by rw [her]; rfl⟩
        · unfold Hid
          rw [hB]
          exact fit_model (by omega) fun d hd => cube_rows hflt h6 (hok.1 d hd)
        · have hR : ReadsF W (.slice (some ⟨G, 0, none⟩) 1 1) [⟨ats, c⟩] := by
            refine Or.inr ⟨G, 0, 1, rfl, hK.lt, by simp, ⟨by simp, by simp⟩, fun i f hf => ?_⟩
            cases i with
            | zero =>
              obtain rfl : (⟨ats, c⟩ : Fm) = f := by simpa using hf
              exact ⟨_, _, hK.cell 0, hK.cell 1, (hAf W hW).1, (hAf W hW).2⟩
            | succ i => simp at hf
          have h := cOp _ _ (n : Int) W hW hR
          rw [hfm, facts.2] at h
          exact h
        · exact merr_any 5 W (hg.below hW)
        · exact cRo a.k a.n h vs vt a.s a.t W hW hs ht (hflt a ha)
        · have h := cMa (n : Int) (cubeR ats d) v W hW hR
          have e : fitFault (n : Int) (cubeR ats d) = 0 := by unfold fitFault; rw [if_pos hu]; exact cube_rows hflt h6 (hok.1 d (List.mem_of_getElem? hd))
          rw [e] at h
          exact h
      · refine topThree_out ao _ acap co _ ccap u (by omega) w hOn fun W hW => (hCo W hW).mono ?_
        rintro e w' ⟨lo, lcap, rfl, _, hb⟩
        exact ⟨lo, _, lcap, rfl, hb⟩
  · exact topThree_err ao _ acap co _ ccap u _ w hOn (hCb hf)
end Go.Proofs.YtjaedfjfcghgcabGreatDoor
