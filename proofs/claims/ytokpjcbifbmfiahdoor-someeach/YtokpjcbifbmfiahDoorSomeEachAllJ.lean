/-
  Proved: vennlaw2.SomeEach returns true, of any formula, any name, any world and any set, where some's functions answer as chapter 15 says; what was in memory is as it was (the walk that the statement leans on).
-/
import Derived.Test.YtokpjcbifbmfiahDoorSomeEachWalkJ
import Derived.Test.YtokpjcbifbmfiahDoorLibSM16
import Derived.Test.YtokpjcbifbmfiahDoorLibSM15
import Derived.Test.YtokpjcbifbmfiahDoorLibSM18
namespace Go.Proofs.YtokpjcbifbmfiahDoor
open Go.ChangeShapes Go.WideShapes Go.ChangeAt Go.RowKit
set_option maxRecDepth 100000

theorem some_fact : lowFault (manyA 0 1) [0] 0 ⟨2, 0, 0, 0⟩ = 0 ∧ firstS (manyA 0 1) [0] 0 ⟨2, 0, 0, 0⟩ = 1 := by decide +kernel
theorem someEach_of (va vc : Value) (ats : List At) (c : List Int) (name wu wa wb wc s : Int) (w : World) (hA : ReadsA w va ats) (hC : Reads w vc c) (hg : Laid w) (hK : KindsLaid w)
    (cIs : ∀ (va vc : Value) (ats : List At) (c : List Int) (name : Int) (D : Wd) (W : World), Below w.heap.size w W → ReadsA W va ats → Reads W vc c → Calls Tryd.prog 14 #[.agg #[va, vc], .int .i64 name, .agg (arrW D)] W fun e w' => e = .returned (.tuple #[.bool (someB ats c name D), errV (someFault ats c name D)]) ∧ Below W.heap.size W w')
    (cEc : ∀ (va vc : Value) (ats : List At) (c : List Int) (name : Int) (D : Wd) (W : World), Below w.heap.size w W → ReadsA W va ats → Reads W vc c → Calls Tryd.prog 16 #[.agg #[va, vc], .int .i64 name, .agg (arrW D)] W fun e w' => e = .returned (.tuple #[.bool (eachW ats c name D), errV (someFault ats c name D)]) ∧ Below W.heap.size W w')
    (cFi : ∀ (va vc : Value) (ats : List At) (c : List Int) (name : Int) (D : Wd) (W : World), Below w.heap.size w W → ReadsA W va ats → Reads W vc c → Calls Tryd.prog 17 #[.agg #[va, vc], .int .i64 name, .agg (arrW D)] W fun e w' => e = .returned (.tuple #[.int .i64 (firstS ats c name D), errV (lowFault ats c name D)]) ∧ Below W.heap.size W w') :
    Calls Tryd.prog 5 #[.agg #[va, vc], .int .i64 name, .agg #[.int .i64 wu, .int .i64 wa, .int .i64 wb, .int .i64 wc], .int .i64 s] w fun e w' => e = .returned (.bool true) ∧ Below w.heap.size w w' := by
  obtain ⟨D, hD⟩ : ∃ D, D = Wd.mk wu wa wb wc := ⟨_, rfl⟩
  obtain ⟨rfl, rfl, rfl, rfl⟩ : wu = D.u ∧ wa = D.a ∧ wb = D.b ∧ wc = D.c := by rw [hD]; exact ⟨rfl, rfl, rfl, rfl⟩
  clear hD
  have hOne : ∀ W b1 b2, Below w.heap.size w W → ReadsA W (.slice (some ⟨b1, 0, none⟩) 1 1) (manyA 0 1) → Reads W (.slice (some ⟨b2, 0, none⟩) 1 1) [0] → Calls Tryd.prog 17 #[.agg #[.slice (some ⟨b1, 0, none⟩) 1 1, .slice (some ⟨b2, 0, none⟩) 1 1], .int .i64 0, .agg #[.int .i64 2, .int .i64 0, .int .i64 0, .int .i64 0]] W fun e w' => e = .returned (.tuple #[.int .i64 1, .nilIface]) ∧ Below W.heap.size W w' := fun W b1 b2 hW h1 h2 => by
    have h := cFi _ _ (manyA 0 1) [0] 0 ⟨2, 0, 0, 0⟩ W hW h1 h2
    rw [some_fact.1, some_fact.2] at h
    exact h
  have hIs := fun (X : Wd) W hW => cIs va vc ats c name X W hW (hA.below hW) (hC.below hW)
  have hEc := fun W hW => cEc va vc ats c name D W hW (hA.below hW) (hC.below hW)
  have hFi := fun W hW => cFi va vc ats c name D W hW (hA.below hW) (hC.below hW)
  have hHo := fun (X : Wd) W (hW : Below w.heap.size w W) => fholds_any va vc ats c X.u X.a X.b X.c W (hA.below hW) (hC.below hW) (hK.below hW)
  have hNe := fun W (hW : Below w.heap.size w W) => negate_any va vc ats c W (hA.below hW) (hC.below hW) (hK.below hW)
  obtain ⟨ao, acap, rfl, _⟩ := hA.slice
  obtain ⟨co, ccap, rfl, _⟩ := hC.slice
  by_cases h0 : someFault ats c name D = 0
  · obtain ⟨hf, hn, hok⟩ := some_zero.1 h0
    obtain ⟨k, rfl⟩ := Int.eq_ofNat_of_zero_le hn.1
    have hk3 : k < 3 := by omega
    have hu := ok_u hok
    have hF := firstS_spec h0
    have hS := someB_iff h0
    have hE := eachW_iff h0
    rw [Int.toNat_natCast] at hF hS hE
    have hIsD := hIs D
    rw [h0] at hIsD hEc
    have hX0 : (D.put k s).ok = true → someFault ats c (k : Int) (D.put k s) = 0 := fun h => some_zero.2 ⟨hf, hn, h⟩
    have hSet : (D.put k s).ok = true → ∃ j : Nat, s = j ∧ j < setsN D.u := fun h => by
      have hs : okB D.u s = true := by
        obtain ⟨a1, a2, a3⟩ := Wd.ok_iff.1 h
        rcases (by omega : k = 0 ∨ k = 1 ∨ k = 2) with rfl | rfl | rfl
        · exact a1
        · exact a2
        · exact a3
      obtain ⟨j, rfl⟩ := Int.eq_ofNat_of_zero_le (okB_lt hs).2.2.1
      exact ⟨j, rfl, (set_ok hu.1 hu.2).1 hs⟩
    have hw : ∀ j : Nat, withB ats c k D j = (D.put k (j : Int)).formIs ats c := fun _ => rfl
    refine someEach_good ao _ acap co _ ccap k hk3 s (firstS ats c (k : Int) D) D (someB ats c (k : Int) D) (eachW ats c (k : Int) D) ((D.put k s).formIs ats c) (errV ((D.put k s).formFault ats c)) (errV (lowFault ats c (k : Int) D)) w hOne hIsD hEc (fun h => ?_) (fun W hW => ?_) (hHo (D.put k s)) ?_ (fun h W hW => ?_) hFi ?_ (fun W hW => merr_any 5 W (hg.below hW)) (fun h W hW => ?_)
    · exact hS.2 ⟨0, sets_pos _, hE.1 h 0 (sets_pos _)⟩
    · refine (hNe W hW).mono ?_
      rintro e w' ⟨va', vc', rfl, hr, hz, hb⟩
      refine ⟨?_, hb⟩
      by_cases hnf : negFault ats c = 0
      · left
        obtain ⟨r1, r2⟩ := hr hnf
        obtain ⟨_, h19, hf'⟩ := neg_good hnf
        obtain ⟨p1, q1, rfl, _⟩ := r1.slice
        obtain ⟨p2, q2, rfl, _⟩ := r2.slice
        rw [hnf]
        refine ⟨p1, _, q1, p2, _, q2, rfl, fun W' hW' => ?_⟩
        have hz' : someFault ats (c ++ [12]) (k : Int) D = 0 := some_zero.2 ⟨hf', hn, hok⟩
        have hS' := someB_iff hz'
        rw [Int.toNat_natCast] at hS'
        have hnot : ∀ j : Nat, j < setsN D.u → withB ats (c ++ [12]) k D j = !withB ats c k D j := fun j hj => by
          rw [show withB ats (c ++ [12]) k D j = (D.put k (j : Int)).formIs ats (c ++ [12]) from rfl, hw j]
          exact formIs_no hf h19 (wput_ok hok k ((set_ok hu.1 hu.2).2 hj))
        have eo : someB ats (c ++ [12]) (k : Int) D = !eachW ats c (k : Int) D := by
          rcases Bool.eq_false_or_eq_true (eachW ats c (k : Int) D) with he | he
          · rw [he]
            cases ho : someB ats (c ++ [12]) (k : Int) D
            · rfl
            · obtain ⟨j, hj, hg⟩ := hS'.1 ho
              rw [hnot j hj, hE.1 he j hj] at hg
              exact absurd hg (by decide)
          · rw [he]
            cases ho : someB ats (c ++ [12]) (k : Int) D
            · exfalso
              have : eachW ats c (k : Int) D = true := hE.2 fun j hj => by
                cases hx : withB ats c k D j
                · have := hS'.2 ⟨j, hj, by rw [hnot j hj, hx]; rfl⟩
                  rw [ho] at this; exact absurd this (by decide)
                · rfl
              rw [he] at this; exact absurd this (by decide)
            · rfl
        have h := cIs _ _ ats (c ++ [12]) (k : Int) D W' (hW.trans ((hb.trans (hW'.mono hb.size)).mono hW.size)) (r1.below hW') (r2.below hW')
        rw [hz', eo] at h
        exact h
      · right
        obtain ⟨rfl, rfl⟩ := hz hnf
        exact ⟨negFault ats c, by rw [errV_no hnf]⟩
    · by_cases hz : (D.put k s).formFault ats c = 0
      · right
        have hpo := (wdForm_zero.1 hz).2
        obtain ⟨j, rfl, hj⟩ := hSet hpo
        refine ⟨by rw [hz]; rfl, fun h => hS.2 ⟨j, hj, h⟩, fun h => ?_, fun h1 h2 => ?_⟩
        · cases he : eachW ats c (k : Int) D
          · rfl
          · have := hE.1 he j hj
            rw [hw j, h] at this; exact absurd this (by decide)
        · rcases hF with ⟨g, _⟩ | ⟨_, _, m, e1, e2, e3, e4⟩
          · rw [h1] at g; exact absurd g (by decide)
          · rw [e1]
            rcases Nat.lt_or_ge j m with hl | hl
            · have := e4 j hl
              rw [hw j, h2] at this; exact absurd this (by decide)
            · omega
      · left; exact ⟨_, errV_no hz⟩
    · have hz : (D.put k s).formFault ats c = 0 := by
        by_cases hz : (D.put k s).formFault ats c = 0
        · exact hz
        · rw [errV_no hz] at h; cases h
      have hpo := (wdForm_zero.1 hz).2
      have hx := hX0 hpo
      have hSx := someB_iff hx
      rw [Int.toNat_natCast, put_u] at hSx
      have e : someB ats c (k : Int) (D.put k s) = someB ats c (k : Int) D := by
        have hww : ∀ j : Nat, withB ats c k (D.put k s) j = withB ats c k D j := fun j => by unfold withB; rw [put_put]
        rw [Bool.eq_iff_iff, hSx, hS]
        constructor
        · rintro ⟨j, hj, g⟩; exact ⟨j, hj, by rw [← hww j]; exact g⟩
        · rintro ⟨j, hj, g⟩; exact ⟨j, hj, by rw [hww j]; exact g⟩
      have g := hIs (D.put k s) W hW
      rw [hx, e] at g
      exact g
    · rcases hF with ⟨g1, g2, _⟩ | ⟨g1, g2, _⟩
      · right; exact ⟨g1, by rw [g2]; rfl⟩
      · left; exact ⟨g1, by rw [g2]; rfl⟩
    · rcases hF with ⟨g, _⟩ | ⟨_, _, m, e1, e2, e3, _⟩
      · rw [h] at g; exact absurd g (by decide)
      · have hpo : (D.put k (firstS ats c (k : Int) D)).ok = true := by rw [e1]; exact wput_ok hok k ((set_ok hu.1 hu.2).2 e2)
        have hz : (D.put k (firstS ats c (k : Int) D)).formFault ats c = 0 := wdForm_zero.2 ⟨hf, hpo⟩
        have hi : (D.put k (firstS ats c (k : Int) D)).formIs ats c = true := by rw [e1]; exact e3
        have g := hHo (D.put k (firstS ats c (k : Int) D)) W hW
        have g' : Calls Tryd.prog 19 _ W fun e w' => e = .returned (.tuple #[.bool ((D.put k (firstS ats c (k : Int) D)).formIs ats c), errV ((D.put k (firstS ats c (k : Int) D)).formFault ats c)]) ∧ Below W.heap.size W w' := g
        rw [hz, hi] at g'
        exact g'
  · have hIsD := hIs D
    rw [errV_no h0] at hIsD
    exact someEach_bad ao _ acap co _ ccap name s D _ _ w hOne hIsD
end Go.Proofs.YtokpjcbifbmfiahDoor
