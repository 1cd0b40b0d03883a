/-
  Proved: venntop.TopNames returns true, of any formula, any row and any numbers, where what it calls answers as the chapters say; what was in memory is as it was (the walk that the statement leans on).
-/
import Derived.Test.YtjaedfjfcghgcabGreatDoorTopNamesWalkJ
namespace Go.Proofs.YtjaedfjfcghgcabGreatDoor
open Go.ChangeShapes Go.WideShapes Go.ChangeAt Go.RowKit
set_option maxRecDepth 100000
theorem err_two (n : Int) : errV n = .nilIface ∨ ∃ k, errV n = .iface 75 (.int .i64 k) := by
 unfold errV
 by_cases h : n = 0
 ·rw [if_pos h]; exact Or.inl rfl
 ·rw [if_neg h]; exact Or.inr ⟨n, rfl⟩
theorem topNames_of (va vc vt : Value) (ats : List At) (c t : List Int) (x y u : Int) (w : World) (hA : ReadsA w va ats) (hC : Reads w vc c) (hT : Reads w vt t)
    (cAs : ∀ (v va vc : Value) (fs : List Fm) (ats : List At) (c : List Int) (u : Int) (W : World), Below w.heap.size w W → ReadsF W v fs → ReadsA W va ats → Reads W vc c → Calls Tryz.prog 21 #[v, .agg #[va, vc], .int .i64 u] W (Bk W (.tuple #[.int .i64 (askN fs ats c u), errV (askFault fs ats c u)])))
    (cNm : ∀ (va vc : Value) (ats : List At) (c : List Int) (p : Nat → Int) (W : World), Below w.heap.size w W → ReadsA W va ats → Reads W vc c → Calls Tryz.prog 13 #[.agg #[va, vc], .agg #[.int .i64 (p 0), .int .i64 (p 1), .int .i64 (p 2)]] W fun e w' => ∃ va' vc', e = .returned (.tuple #[.agg #[va', vc'], errV (namesFault ats c p)]) ∧ (namesFault ats c p = 0 → ReadsA w' va' (renL p ats) ∧ Reads w' vc' c) ∧ (¬ namesFault ats c p = 0 → va' = .slice none 0 0 ∧ vc' = .slice none 0 0) ∧ Below W.heap.size W w')
    (cCk : ∀ (va vc : Value) (ats : List At) (c : List Int) (W : World), Below w.heap.size w W → ReadsA W va ats → Reads W vc c → Calls Tryz.prog 14 #[.agg #[va, vc]] W (Bk W (errV (formFault ats c))))
    (pr : List At → List Int → ByteArray)
    (cPr : ∀ (va vc : Value) (ats : List At) (c : List Int) (W : World), Below w.heap.size w W → ReadsA W va ats → Reads W vc c → formFault ats c = 0 → Calls Tryz.prog 15 #[.agg #[va, vc]] W (Bk W (.tuple #[.string (pr ats c), .nilIface])))
    (cPa : ∀ (ats : List At) (c : List Int) (W : World), Below w.heap.size w W → formFault ats c = 0 → Calls Tryz.prog 16 #[.string (pr ats c)] W fun e w' => ∃ va vc, e = .returned (.tuple #[.agg #[va, vc], .nilIface]) ∧ ReadsA w' va ats ∧ Reads w' vc c ∧ Below W.heap.size W w')
    (cSm : ∀ (va vc ua uc : Value) (ats : List At) (c : List Int) (W : World), ReadsA W va ats → Reads W vc c → ReadsA W ua ats → Reads W uc c → Calls Tryz.prog 17 #[.agg #[va, vc], .agg #[ua, uc]] W (Bk W (.bool true)))
    (cWo : ∀ (va vc : Value) (ats : List At) (c : List Int) (u : Int) (W : World), Below w.heap.size w W → ReadsA W va ats → Reads W vc c → Calls Tryz.prog 8 #[.agg #[va, vc], .int .i64 u] W (Bk W (.tuple #[.int .i64 (worldsN ats c u), errV (worldsFault ats c u)])))
    (cLe : ∀ (va vc : Value) (ats : List At) (c : List Int) (W : World), Below w.heap.size w W → ReadsA W va ats → Reads W vc c → Calls Tryz.prog 18 #[.agg #[va, vc]] W (Bk W (.tuple #[.int .i64 (leastOfN ats c), errV (leastFaultF ats c)])))
    (cSw : ∀ (vt : Value) (t : List Int) (x y : Int) (W : World), Below w.heap.size w W → Reads W vt t → 0 ≤ x ∧ x ≤ 2 → 0 ≤ y ∧ y ≤ 2 → Calls Tryz.prog 19 #[vt, .int .i64 x, .int .i64 y] W fun e w' => ((¬ faultN t = 0 ∧ e = .returned (.tuple #[.slice none 0 0, .iface 75 (.int .i64 (faultN t))])) ∨ (faultN t = 0 ∧ ∃ v, e = .returned (.tuple #[v, .nilIface]) ∧ Reads w' v (t.map fun s => if s = x then y else if s = y then x else s))) ∧ Below W.heap.size W w')
    (cSp : ∀ (va vc vt : Value) (ats : List At) (c t : List Int) (u : Int) (W : World), Below w.heap.size w W → ReadsA W va ats → Reads W vc c → Reads W vt t → Calls Tryz.prog 20 #[.agg #[va, vc], vt, .int .i64 u] W (Bk W (.tuple #[.agg (arrP (spanLo ats c t u, spanHi ats c t u)), errV (spanFault ats c t u)]))) :
    Calls Tryz.prog 4 #[.agg #[va, vc], vt, .int .i64 x, .int .i64 y, .int .i64 u] w (Bk w (.bool true)) := by
 have hOn : ∀ W, Below w.heap.size w W → Calls Tryz.prog 5 #[] W (Bk W (.bool true)) := fun W hW => topOne_any W fun v va vc fs ats c u W' hW' => cAs v va vc fs ats c u W' (hW.trans (hW'.mono hW.size))
 have hNm := fun p W hW => cNm va vc ats c p W hW (hA.below hW) (hC.below hW)
 have hCk := fun W hW => cCk va vc ats c W hW (hA.below hW) (hC.below hW)
 have hWo := fun W hW => cWo va vc ats c u W hW (hA.below hW) (hC.below hW)
 have hLe := fun W hW => cLe va vc ats c W hW (hA.below hW) (hC.below hW)
 have hSw := fun h1 h2 W hW => cSw vt t x y W hW (hT.below hW) h1 h2
 have hSp := fun W hW => cSp va vc vt ats c t u W hW (hA.below hW) (hC.below hW) (hT.below hW)
 obtain ⟨ao, acap, rfl, _⟩ := hA.slice
 obtain ⟨co, ccap, rfl, _⟩ := hC.slice
 by_cases hin : (0 ≤ x ∧ x ≤ 2) ∧ (0 ≤ y ∧ y ≤ 2) ∧ u ≤ 4
 ·obtain ⟨hx, hy, hu⟩ := hin
  obtain ⟨i, rfl⟩ := Int.eq_ofNat_of_zero_le hx.1
  obtain ⟨j, rfl⟩ := Int.eq_ofNat_of_zero_le hy.1
  have hp := swapP_once hx hy
  have hNp := fun W hW => hNm (swapP i j) W hW
  by_cases hf : formFault ats c = 0
  ·have hn0 : namesFault ats c (swapP i j) = 0 := by unfold namesFault; rw [if_pos hf, if_pos hp]
   have hg := ren_form hp hf
   obtain ⟨w1, w2⟩ := swap_worlds hx hy hf hu
   obtain ⟨l1, l2⟩ := swap_least hx hy hf
   have hNo : ∀ W, Below w.heap.size w W → Calls Tryz.prog 13 #[.agg #[.slice ao ats.length acap, .slice co c.length ccap], .agg #[.int .i64 (swapP i j 0), .int .i64 (swapP i j 1), .int .i64 (swapP i j 2)]] W fun e w' => ∃ va vc, e = .returned (.tuple #[.agg #[va, vc], .nilIface]) ∧ ReadsA w' va (renL (swapP i j) ats) ∧ Reads w' vc c ∧ Below W.heap.size W w' := fun W hW => by
    refine (hNp W hW).mono ?_
    rintro e w' ⟨va, vc, rfl, h1, _, h3⟩
    obtain ⟨r1, r2⟩ := h1 hn0
    exact ⟨va, vc, by rw [hn0]; rfl, r1, r2, h3⟩
   have key : ∀ (E3 E4 : Value) (Lo Hi : Int) (r : List Int) (T : Prop), ((E3 = .nilIface ∧ E4 = .nilIface) ∨ (∃ n, E3 = .iface 75 (.int .i64 n)) ∧ ∃ n, E4 = .iface 75 (.int .i64 n)) →
       (∀ W, Below w.heap.size w W → Calls Tryz.prog 19 #[vt, .int .i64 i, .int .i64 j] W fun e w' => ((∃ n, e = .returned (.tuple #[.slice none 0 0, .iface 75 (.int .i64 n)])) ∨ (T ∧ ∃ v, e = .returned (.tuple #[v, .nilIface]) ∧ Reads w' v r)) ∧ Below W.heap.size W w') →
       (T → ∀ W, Below w.heap.size w W → Calls Tryz.prog 20 #[.agg #[.slice ao ats.length acap, .slice co c.length ccap], vt, .int .i64 u] W (Bk W (.tuple #[.agg #[.int .i64 Lo, .int .i64 Hi], E3]))) →
       (T → ∀ va vc vr W, Below w.heap.size w W → ReadsA W va (renL (swapP i j) ats) → Reads W vc c → Reads W vr r → Calls Tryz.prog 20 #[.agg #[va, vc], vr, .int .i64 u] W (Bk W (.tuple #[.agg #[.int .i64 Lo, .int .i64 Hi], E4]))) →
       Calls Tryz.prog 4 #[.agg #[.slice ao ats.length acap, .slice co c.length ccap], vt, .int .i64 i, .int .i64 j, .int .i64 u] w (Bk w (.bool true)) := fun E3 E4 Lo Hi r T h3 hs hs1 hs2 =>
    topNames_in ao _ acap co _ ccap vt i j (by omega) (by omega) u (worldsN ats c u) (leastOfN ats c) Lo Hi hu (errV (worldsFault ats c u)) (errV (leastFaultF ats c)) E3 E4 (pr (renL (swapP i j) ats) c) (renL (swapP i j) ats) c r T w (err_two _) (err_two _) h3 hOn hNo
     (fun va vc W hW h1 h2 => cPr va vc _ _ W hW h1 h2 hg) (fun W hW => cPa _ _ W hW hg) (fun va vc ua uc W _ h1 h2 h3 h4 => cSm va vc ua uc _ _ W h1 h2 h3 h4) hWo
     (fun va vc W hW h1 h2 => by
      have h := cWo va vc _ _ u W hW h1 h2
      rw [w1, w2] at h
      exact h) hLe
     (fun va vc W hW h1 h2 => by
      have h := cLe va vc _ _ W hW h1 h2
      rw [l1, l2] at h
      exact h) hs hs1 hs2
   by_cases ht : faultN t = 0
   ·obtain ⟨q1, q2, q3⟩ := swap_span hx hy (t := t) hf ht u
    have er : (t.map fun s => if s = (i : Int) then (j : Int) else if s = (j : Int) then (i : Int) else s) = renT (swapP i j) t := by
     unfold renT
     exact List.map_congr_left fun s hs => (swapP_sign hx hy (signs_pos (fault_zero.1 ht).2.2.1 s hs)).symm
    refine key (errV (spanFault ats c t u)) (errV (spanFault (renL (swapP i j) ats) c (renT (swapP i j) t) u)) (spanLo ats c t u) (spanHi ats c t u) (renT (swapP i j) t) True ?_ (fun W hW => ?_) (fun _ => hSp) (fun _ va vc vr W hW h1 h2 h3 => ?_)
    ·by_cases h0 : spanFault ats c t u = 0
     ·left; rw [h0, q1.2 h0]; exact ⟨rfl, rfl⟩
     ·right
      have h1 : ¬ spanFault (renL (swapP i j) ats) c (renT (swapP i j) t) u = 0 := fun e => h0 (q1.1 e)
      exact ⟨⟨_, by unfold errV; rw [if_neg h0]⟩, _, by unfold errV; rw [if_neg h1]⟩
    ·refine (hSw hx hy W hW).mono ?_
     rintro e w' ⟨⟨h0, _⟩ | ⟨_, v, rfl, hr⟩, hb⟩
     ·exact absurd ht h0
     ·rw [er] at hr
      exact ⟨Or.inr ⟨trivial, v, rfl, hr⟩, hb⟩
    ·have h := cSp va vc vr _ _ _ u W hW h1 h2 h3
     rw [q2, q3] at h
     exact h
   ·-- no term: the span is never asked
    refine key .nilIface .nilIface 0 0 [] False (Or.inl ⟨rfl, rfl⟩) (fun W hW => ?_) (fun h => h.elim) (fun h => h.elim)
    refine (hSw hx hy W hW).mono ?_
    rintro e w' ⟨⟨_, rfl⟩ | ⟨h0, _⟩, hb⟩
    ·exact ⟨Or.inl ⟨_, rfl⟩, hb⟩
    ·exact absurd h0 ht
  ·have hn0 : namesFault ats c (swapP i j) = formFault ats c := by unfold namesFault; rw [if_neg hf]
   refine topNames_bad ao _ acap co _ ccap vt i j (by omega) (by omega) u (formFault ats c) (formFault ats c) hu w hOn (fun W hW => ?_) (fun W hW => ?_)
   ·refine (hNp W hW).mono ?_
    rintro e w' ⟨va, vc, rfl, _, h2, h3⟩
    rw [hn0] at h2 ⊢
    obtain ⟨rfl, rfl⟩ := h2 hf
    exact ⟨by unfold errV; rw [if_neg hf], h3⟩
   ·have h := hCk W hW
    unfold errV at h
    rw [if_neg hf] at h
    exact h
 ·exact topNames_out ao _ acap co _ ccap vt x y u hin w hOn
end Go.Proofs.YtjaedfjfcghgcabGreatDoor