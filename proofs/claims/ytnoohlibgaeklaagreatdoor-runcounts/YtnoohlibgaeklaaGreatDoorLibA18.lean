/-
  Facts and contracts that the statement leans on.
-/
import Derived.Test.YtnoohlibgaeklaaGreatDoorLibA17
import Derived.Test.YtnoohlibgaeklaaGreatDoorLibA1
import Derived.Test.YtnoohlibgaeklaaGreatDoorLibA4
import Derived.Test.YtnoohlibgaeklaaGreatDoorLibA2
namespace Go.Proofs.YtnoohlibgaeklaaGreatDoor
open Go.ChangeShapes Go.WideShapes Go.ChangeAt Go.RowKit
set_option maxRecDepth 100000
theorem stepF_leaf (held p : List Bool) (s : Int) (h : takesF s = 0) : stepF held p s = p.take p.length ++ [madeF held s []] := by
 unfold stepF restF
 rw [h, madeF_leaf held h, madeF_leaf held h]; rfl
theorem stepF_one (held p : List Bool) (h : 1 ≤ p.length) : stepF held p 12 = p.take (p.length - 1) ++ [madeF held 12 [p.getD (p.length - 1) false]] := by
 unfold stepF restF
 have e : (p.drop (p.length - 1)) = [p.getD (p.length - 1) false] := by
  rw [List.drop_eq_getElem_cons (by omega), List.drop_eq_nil_of_le (by omega)]
  simp [List.getElem?_eq_getElem (show p.length - 1 < p.length by omega)]
 simp only [show takesF 12 = 1 from rfl, show (1 : Int).toNat = 1 from rfl, e]
theorem stepF_two (held p : List Bool) (s : Int) (ht : takesF s = 2) (h : 2 ≤ p.length) : stepF held p s = p.take (p.length - 2) ++ [madeF held s [p.getD (p.length - 2) false, p.getD (p.length - 2 + 1) false]] := by
 unfold stepF restF
 have e : (p.drop (p.length - 2)) = [p.getD (p.length - 2) false, p.getD (p.length - 2 + 1) false] := by
  rw [List.drop_eq_getElem_cons (by omega), List.drop_eq_getElem_cons (by omega), List.drop_eq_nil_of_le (by omega)]
  simp [List.getElem?_eq_getElem (show p.length - 2 < p.length by omega), List.getElem?_eq_getElem (show p.length - 2 + 1 < p.length by omega)]
 rw [ht]
 simp only [show (2 : Int).toNat = 2 from rfl, e]
theorem ownsRow_bool {w : World} {base : Nat} {e : TypeId} {g cap : Nat} {p : List Bool} (h : w.ownsRow base e 1 (.slice (some ⟨g, 0, none⟩) p.length cap) p.length (p.map Value.bool)) {j : Nat} (hj : j < p.length) : w.cell? ⟨g, j, none⟩ = some (.bool (p.getD j false)) := by
 rw [h.cellAt j (by omega)]
 simp [List.getElem?_eq_getElem hj]
theorem fwork_rel {w1 wr w0 w2 : World} {K : Nat} {v v' : Value} {p q : List Bool} {r : Nat} {X : Bool} (hK : K ≤ wr.heap.size) (hb : Below K w1 wr) (h0 : Below wr.heap.size wr w0)
    (hown : w2.ownsRow K 4 1 v' (r + 1) (((p.take r).map Value.bool) ++ [.bool X])) (hv : ∀ k, v.ownBlock = some k → K ≤ k)
    (hg : w0.grownBy w2 v.ownBlock) (hr : r ≤ p.length) (hq : q = p.take r ++ [X]) :
    w2.ownsRow K 4 1 v' q.length (q.map Value.bool) ∧ Below K w1 w2 ∧ K ≤ w2.heap.size := by
 have hs : wr.heap.size ≤ w0.heap.size := h0.size
 have e1 : q.length = r + 1 := by rw [hq]; simp; omega
 have e2 : q.map Value.bool = ((p.take r).map Value.bool) ++ [.bool X] := by rw [hq]; simp
 have b1 : Below K w1 w0 := hb.trans (h0.mono hK)
 have b2 : Below K w1 w2 := b1.grown hg (by omega) hv
 refine ⟨by rw [e1, e2]; exact hown, b2, ?_⟩
 have := hg.size
 omega
set_option maxHeartbeats 4000000 in
theorem fwork_any (c : List Int) (B off cap : Nat) (held : List Bool) (hb ho hcap : Nat) (w : World) (hs : c.all (signF held.length) = true) (hone : cntF c 0 = some 1) (hl : c.length ≤ 20) (h6 : held.length ≤ 6) (hB : B < w.heap.size)
    (hc : ∀ k, k < c.length → w.cell? ⟨B, off + k, none⟩ = some (.int .i64 (c.getD k 0))) (hR : ReadsB w hb ho held) :
    Calls Tryz.prog 156 #[.slice (some ⟨B, off, none⟩) c.length cap, .slice (some ⟨hb, ho, none⟩) held.length hcap] w fun e w' => e = .returned (.bool (valF held c)) ∧ Below w.heap.size w w' := by
 obtain ⟨i0, hi, hz0, hz1, hz2⟩ := info_parts infoBool
 obtain ⟨K, hK⟩ := nm w.heap.size
 have HK1 := hide (hK.symm)
 have HC := hide hc
 have HBK : Hid (B < K) := by unfold Hid; omega
 have HRh : Hid (∀ W, Below K w W → ReadsB W hb ho held) := fun W hw => ⟨by have := hw.size; have := hR.1; omega, fun k hk => by rw [hw.cell (show (⟨hb, ho + k, none⟩ : Addr).block < K by have := hR.1; simp; omega)]; exact hR.2 k hk⟩
 rw [← hK]
 clear hc hB hK hR
 obtain ⟨n, hn⟩ := nm c.length
 rw [← hn] at hl ⊢
 have HN := hide hn
 clear hn
 have HL : Hid (∀ (s : Int) v W, 0 ≤ s → s < held.length → Below K w W → _) := fun s v W s0 s1 hw => fmade_leaf s held s0 s1 h6 hb ho hcap v W (HRh.out W hw)
 obtain ⟨m, hm⟩ := nm held.length
 rw [← hm] at hs h6 HL ⊢
 clear hm HRh
 have HS := hide hs
 have HO := hide hone
 clear hs hone
 obtain ⟨V, hV⟩ := nm (valF held c)
 rw [← hV]
 have HV := hide hV
 clear hV
 go_enter Tryz.func156, Tryz.ntmps156
 go_wp2
 go_loopw [5, 11] (fun v i wr => ∃ (k : Nat) (p : List Bool), k ≤ n ∧ i = .int .i64 k ∧ wr.ownsRow K 4 1 v p.length (p.map Value.bool) ∧ Below K w wr ∧ K ≤ wr.heap.size ∧ p = pileF held (c.take k) [])
  (fun _ i _ => n - (intOf i).toNat)
 case atStart => exact ⟨0, [], Nat.zero_le _, rfl, World.ownsRow_nil _ _ _ _, Below.refl _ _, by rw [HK1.out]; exact Nat.le_refl _, rfl⟩
 case round =>
  obtain ⟨k, p, hk, rfl, hown0, hbel0, hKw0, hp0⟩ := hrel
  have hkt0 : cntF (c.take k) 0 = some (p.length : Int) := by
   obtain ⟨j, hj⟩ := cntF_take_some c k HO.out
   have := pileF_length held (c.take k) [] hj
   rw [← hp0] at this
   rw [this]; exact hj
  by_cases hlt : k < n
  ·obtain ⟨s, hs⟩ := nm (c.getD k 0)
   have hkt : k < c.length := by rw [← HN.out]; exact hlt
   have hcell : wr.cell? ⟨B, off + k, none⟩ = some (.int .i64 s) := by rw [hs, hbel0.cell HBK.out]; exact HC.out k hkt
   have hsg : takesF s ≠ 0 ∨ (0 ≤ s ∧ s < m) := by
    refine signF_iff.1 (List.all_eq_true.1 HS.out s ?_)
    rw [hs, List.getD_eq_getElem?_getD, List.getElem?_eq_getElem hkt]; exact List.getElem_mem hkt
   have htk : takesF s ≤ p.length := by
    have h1 := cntF_take_succ c hkt hkt0
    rw [← hs] at h1
    obtain ⟨j, hj⟩ := cntF_take_some c (k + 1) HO.out
    by_cases h2 : (p.length : Int) < takesF s
    ·rw [if_pos h2] at h1; rw [h1] at hj; cases hj
    ·omega
   have HP : Hid (stepF held p s = pileF held (c.take (k + 1)) []) := by
    unfold Hid; rw [pileF_succ _ c [] hkt, ← hs, ← hp0]
   have hpl : p.length ≤ 20 := by
    have := (cntF_nonneg (Int.le_refl 0) hkt0).2
    simp at this; omega
   clear hs hkt hkt0 hp0
   have HBEL := hide hbel0
   have HKW := hide hKw0
   clear hbel0 hKw0
   by_cases h4 : takesF s = 0
   ·have hsr : 0 ≤ s ∧ s < m := hsg.resolve_left (by simp [h4])
    have HM : Hid (∀ v W, Below wr.heap.size wr W → Calls Tryz.prog 180 #[.int .i64 s, v, .slice (some ⟨hb, ho, none⟩) m hcap] W (Sk W (.bool (madeF held s [])))) := fun v W hW => HL.out s v W hsr.1 hsr.2 (HBEL.out.trans (hW.mono HKW.out))
    have HQ : Hid (stepF held p s = p.take p.length ++ [madeF held s []]) := stepF_leaf held p s h4
    have HT : Hid (∀ W, Calls Tryz.prog 115 #[.int .i64 s] W (Sk W (.int .i64 0))) := fun W => by
     have := ftakes_any s W
     rw [h4] at this; exact this
    obtain ⟨X, hX⟩ := nm (madeF held s [])
    rw [← hX] at HM HQ
    clear hX htk hsg h4
    rcases hown0.2 with ⟨rfl, hp0⟩ | ⟨g, cap', cur, rfl, hg, hh, hm, hmax, _, _⟩
    ·obtain rfl : p = [] := List.eq_nil_of_length_eq_zero hp0
     clear hown0 hp0
     go_wp2_with (go_at_call 115; refine (HT.out _).mono ?_; rintro e w' ⟨rfl, rfl⟩)
     go_region_held3 (fun _ => True) (trivial)
      (first
       | (go_at_call 180; refine (HM.out _ _ ((Below.refl _ wr).drew)).mono ?_; rintro e w' ⟨rfl, rfl⟩)
       | (refine step_append_lies _ (by rfl) _ _ _ (by rfl) K 4 i0 (.bool false) 1 1 Tryz.underlying224 hi hz0 hz1 hz2 rfl (by decide) (.slice none 0 0) 0 ([]) (by rfl) (World.ownsRow_nil _ _ _ _) ⟨wr.heap.size, 0, none⟩ 1 1 [.bool X] (by rfl) (by rfl) (World.news_of_block (cs := #[.bool X]) (t := 4) (fr := (0, 0)) (heap_alloc_new wr _)) (by simp [Value.oneCell']) (by omega) (by unfold maxLen; omega) (by omega) (by have := HKW.out; simp; omega) (wr.heap.size + 1) (by simp) ?_; intro gg cap1 w2 hown1 hgrow hat hlt1))
     have R := fwork_rel (q := pileF held (c.take (k + 1)) []) (p := []) (r := 0) HKW.out HBEL.out ((below_alloc1 wr _).drew) (hown1) (by intro k hk; cases hk) hgrow (Nat.zero_le _) (HP.out.symm.trans HQ.out)
     clear hown1 hgrow hat hlt1
     go_wp2
     go_roundw
     case rel => exact ⟨k + 1, _, by omega, by go_num, R.1, R.2.1, R.2.2, rfl⟩
     case measure => simp [intOf]; omega
    ·obtain ⟨m', hm0⟩ := nm p.length
     have HOW : Hid (wr.ownsRow K 4 1 (.slice (some ⟨g, 0, none⟩) m' cap') m' (p.map Value.bool)) := by
      unfold Hid; rw [hm0]; exact hown0
     rw [← hm0] at HQ hm hpl ⊢
     have HM0 := hide hm0
     clear hown0 hm0 hh
     by_cases hcap : cap' = m'
     ·subst hcap
      go_wp2_with (go_at_call 115; refine (HT.out _).mono ?_; rintro e w' ⟨rfl, rfl⟩)
      go_region_held3 (fun _ => True) (trivial)
       (first
        | (go_at_call 180; refine (HM.out _ _ ((Below.refl _ wr).drew)).mono ?_; rintro e w' ⟨rfl, rfl⟩)
        | (refine step_append_lies _ (by rfl) _ _ _ (by rfl) K 4 i0 (.bool false) 1 1 Tryz.underlying224 hi hz0 hz1 hz2 rfl (by decide) (.slice (some ⟨g, 0, none⟩) cap' cap') cap' ((p.map Value.bool).take cap') (by rfl) (((ownsRow_take HOW.out (by omega)).alloc _).drew) ⟨wr.heap.size, 0, none⟩ 1 1 [.bool X] (by rfl) (by rfl) (World.news_of_block (cs := #[.bool X]) (t := 4) (fr := (0, 0)) (heap_alloc_new wr _)) (by simp [Value.oneCell']) (by omega) (by unfold maxLen; omega) (by omega) (by have := HKW.out; simp; omega) (wr.heap.size + 1) (by simp) ?_; intro gg cap1 w2 hown1 hgrow hat hlt1))
      have R := fwork_rel (q := pileF held (c.take (k + 1)) []) (p := p) (r := cap') HKW.out HBEL.out ((below_alloc1 wr _).drew) (by rw [List.map_take]; exact hown1) (by intro k hk; cases hk; exact hg) hgrow (by have := HM0.out; omega) (HP.out.symm.trans HQ.out)
      clear hown1 hgrow hat hlt1
      go_wp2
      go_roundw
      case rel => exact ⟨k + 1, _, by omega, by go_num, R.1, R.2.1, R.2.2, rfl⟩
      case measure => simp [intOf]; omega
     ·go_wp2_with (go_at_call 115; refine (HT.out _).mono ?_; rintro e w' ⟨rfl, rfl⟩)
      go_region_held3 (fun _ => True) (trivial)
       (first
        | (go_at_call 180; refine (HM.out _ _ ((Below.refl _ wr).drew)).mono ?_; rintro e w' ⟨rfl, rfl⟩)
        | (refine step_append_lies _ (by rfl) _ _ _ (by rfl) K 4 i0 (.bool false) 1 1 Tryz.underlying224 hi hz0 hz1 hz2 rfl (by decide) (.slice (some ⟨g, 0, none⟩) m' cap') m' ((p.map Value.bool).take m') (by rfl) (((ownsRow_take HOW.out (by omega)).alloc _).drew) ⟨wr.heap.size, 0, none⟩ 1 1 [.bool X] (by rfl) (by rfl) (World.news_of_block (cs := #[.bool X]) (t := 4) (fr := (0, 0)) (heap_alloc_new wr _)) (by simp [Value.oneCell']) (by omega) (by unfold maxLen; omega) (by omega) (by have := HKW.out; simp; omega) (wr.heap.size + 1) (by simp) ?_; intro gg cap1 w2 hown1 hgrow hat hlt1))
      have R := fwork_rel (q := pileF held (c.take (k + 1)) []) (p := p) (r := m') HKW.out HBEL.out ((below_alloc1 wr _).drew) (by rw [List.map_take]; exact hown1) (by intro k hk; cases hk; exact hg) hgrow (by have := HM0.out; omega) (HP.out.symm.trans HQ.out)
      clear hown1 hgrow hat hlt1
      go_wp2
      go_roundw
      case rel => exact ⟨k + 1, _, by omega, by go_num, R.1, R.2.1, R.2.2, rfl⟩
      case measure => simp [intOf]; omega
   by_cases h8 : s = 12
   ·subst h8
    have htk1 : 1 ≤ p.length := by
     rw [show takesF 12 = 1 from rfl] at htk; omega
    have HT : Hid (∀ W, Calls Tryz.prog 115 #[.int .i64 12] W (Sk W (.int .i64 1))) := fun W => ftakes_any 12 W
    rcases hown0.2 with ⟨rfl, hp0⟩ | ⟨g, cap', cur, rfl, hg, hh, hm, hmax, _, _⟩
    ·omega
    ·obtain ⟨r, hr⟩ : ∃ r, p.length = r + 1 := ⟨p.length - 1, by omega⟩
     have HM0 := hide hr
     have HOW : Hid (wr.ownsRow K 4 1 (.slice (some ⟨g, 0, none⟩) (r + 1) cap') (r + 1) (p.map Value.bool)) := by
      unfold Hid; rw [← hr]; exact hown0
     have hcx : Hid (∀ W, Below wr.heap.size wr W → W.cell? ⟨g, r, none⟩ = some (.bool (p.getD r false))) := fun W hb => by
      rw [hb.cell (ownsRow_block hown0).2.1]; exact ownsRow_bool hown0 (by omega)
     obtain ⟨x, hx⟩ := nm (p.getD r false)
     rw [← hx] at hcx
     have HM : Hid (∀ W c' v, Below wr.heap.size wr W → _) := fun W c' v hb => fmade_no x g r c' v W (hcx.out W hb) held
     have HQ : Hid (stepF held p 12 = p.take r ++ [madeF held 12 [x]]) := by
      have := stepF_one held p (by omega)
      rw [hr, Nat.add_sub_cancel, ← hx] at this; exact this
     obtain ⟨X, hX⟩ := nm (madeF held 12 [x])
     rw [← hX] at HM HQ
     have hle : (r : Int) ≤ (r : Int) + 1 := by omega
     have hcap : ¬ cap' = r := by omega
     have hcap2 : r < cap' := by omega
     have hcap3 : (r : Int) ≤ (cap' : Int) := by omega
     have hr0 : (0 : Int) ≤ (r : Int) := by omega
     rw [hr] at hm hpl ⊢
     clear hX hx hcx hown0 hh hr htk htk1 h4 hsg
     go_wp2_with (go_at_call 115; refine (HT.out _).mono ?_; rintro e w' ⟨rfl, rfl⟩)
     go_region_held3 (fun _ => True) (trivial)
      (first
       | (go_at_call 180; refine (HM.out _ _ _ ((Below.refl _ wr).drew)).mono ?_; rintro e w' ⟨rfl, rfl⟩)
       | (refine step_append_lies _ (by rfl) _ _ _ (by rfl) K 4 i0 (.bool false) 1 1 Tryz.underlying224 hi hz0 hz1 hz2 rfl (by decide) (.slice (some ⟨g, 0, none⟩) r cap') r ((p.map Value.bool).take r) (by rfl) (((ownsRow_take HOW.out (by omega)).alloc _).drew) ⟨wr.heap.size, 0, none⟩ 1 1 [.bool X] (by rfl) (by rfl) (World.news_of_block (cs := #[.bool X]) (t := 4) (fr := (0, 0)) (heap_alloc_new wr _)) (by simp [Value.oneCell']) (by omega) (by unfold maxLen; omega) (by omega) (by have := HKW.out; simp; omega) (wr.heap.size + 1) (by simp) ?_; intro gg cap1 w2 hown1 hgrow hat hlt1))
     have R := fwork_rel (q := pileF held (c.take (k + 1)) []) (p := p) (r := r) HKW.out HBEL.out ((below_alloc1 wr _).drew) (by rw [List.map_take]; exact hown1) (by intro k hk; cases hk; exact hg) hgrow (by have := HM0.out; omega) (HP.out.symm.trans HQ.out)
     clear hown1 hgrow hat hlt1
     go_wp2
     go_roundw
     case rel => exact ⟨k + 1, _, by omega, by go_num, R.1, R.2.1, R.2.2, rfl⟩
     case measure => simp [intOf]; omega
   ·have hs3 : s = 10 ∨ s = 11 ∨ s = 13 := by
     by_cases h3 : s = 10 ∨ s = 11 ∨ s = 13
     ·exact h3
     ·exact absurd (show takesF s = 0 by unfold takesF; rw [if_neg h3, if_neg h8]) h4
    have ht2 : takesF s = 2 := by unfold takesF; rw [if_pos hs3]
    rw [ht2] at htk
    have HT : Hid (∀ W, Calls Tryz.prog 115 #[.int .i64 s] W (Sk W (.int .i64 2))) := fun W => by
     have := ftakes_any s W
     rw [ht2] at this; exact this
    rcases hown0.2 with ⟨rfl, hp0⟩ | ⟨g, cap', cur, rfl, hg, hh, hm, hmax, _, _⟩
    ·omega
    ·obtain ⟨r, hr⟩ : ∃ r, p.length = r + 2 := ⟨p.length - 2, by omega⟩
     have HM0 := hide hr
     have HOW : Hid (wr.ownsRow K 4 1 (.slice (some ⟨g, 0, none⟩) (r + 2) cap') (r + 2) (p.map Value.bool)) := by
      unfold Hid; rw [← hr]; exact hown0
     have hcx : Hid (∀ W, Below wr.heap.size wr W → W.cell? ⟨g, r, none⟩ = some (.bool (p.getD r false)) ∧ W.cell? ⟨g, r + 1, none⟩ = some (.bool (p.getD (r + 1) false))) := fun W hb => by
      refine ⟨?_, ?_⟩
      ·rw [hb.cell (ownsRow_block hown0).2.1]; exact ownsRow_bool hown0 (by omega)
      ·rw [hb.cell (ownsRow_block hown0).2.1]; exact ownsRow_bool hown0 (by omega)
     obtain ⟨x, hx⟩ := nm (p.getD r false)
     obtain ⟨y, hy⟩ := nm (p.getD (r + 1) false)
     rw [← hx, ← hy] at hcx
     have HM : Hid (∀ W c' v, Below wr.heap.size wr W → _) := fun W c' v hb => fmade_op s x y hs3 g r c' v W (hcx.out W hb).1 (hcx.out W hb).2 held
     have HQ : Hid (stepF held p s = p.take r ++ [madeF held s [x, y]]) := by
      have := stepF_two held p s ht2 (by omega)
      rw [hr, show r + 2 - 2 = r by omega, ← hx, ← hy] at this; exact this
     obtain ⟨X, hX⟩ := nm (madeF held s [x, y])
     rw [← hX] at HM HQ
     have hle : (r : Int) ≤ (r : Int) + 2 := by omega
     have hcap : ¬ cap' = r := by omega
     have hcap2 : r < cap' := by omega
     have hcap3 : (r : Int) ≤ (cap' : Int) := by omega
     have hr0 : (0 : Int) ≤ (r : Int) := by omega
     rw [hr] at hm hpl ⊢
     clear hX hx hy hcx hown0 hh hr htk h4 hsg h8 ht2 hs3
     go_wp2_with (go_at_call 115; refine (HT.out _).mono ?_; rintro e w' ⟨rfl, rfl⟩)
     go_region_held3 (fun _ => True) (trivial)
      (first
       | (go_at_call 180; refine (HM.out _ _ _ ((Below.refl _ wr).drew)).mono ?_; rintro e w' ⟨rfl, rfl⟩)
       | (refine step_append_lies _ (by rfl) _ _ _ (by rfl) K 4 i0 (.bool false) 1 1 Tryz.underlying224 hi hz0 hz1 hz2 rfl (by decide) (.slice (some ⟨g, 0, none⟩) r cap') r ((p.map Value.bool).take r) (by rfl) (((ownsRow_take HOW.out (by omega)).alloc _).drew) ⟨wr.heap.size, 0, none⟩ 1 1 [.bool X] (by rfl) (by rfl) (World.news_of_block (cs := #[.bool X]) (t := 4) (fr := (0, 0)) (heap_alloc_new wr _)) (by simp [Value.oneCell']) (by omega) (by unfold maxLen; omega) (by omega) (by have := HKW.out; simp; omega) (wr.heap.size + 1) (by simp) ?_; intro gg cap1 w2 hown1 hgrow hat hlt1))
     have R := fwork_rel (q := pileF held (c.take (k + 1)) []) (p := p) (r := r) HKW.out HBEL.out ((below_alloc1 wr _).drew) (by rw [List.map_take]; exact hown1) (by intro k hk; cases hk; exact hg) hgrow (by have := HM0.out; omega) (HP.out.symm.trans HQ.out)
     clear hown1 hgrow hat hlt1
     go_wp2
     go_roundw
     case rel => exact ⟨k + 1, _, by omega, by go_num, R.1, R.2.1, R.2.2, rfl⟩
     case measure => simp [intOf]; omega
  ·have hpv : p = [V] := by
    rw [hp0, List.take_of_length_le (by have := HN.out; omega), pileF_one held HO.out, HV.out]; rfl
   subst hpv
   rcases hown0.2 with ⟨_, h0⟩ | ⟨g, cap', cur, rfl, hg, hh, hm, hmax, _, _⟩
   ·simp at h0
   have hx : wr.cell? ⟨g, 0, none⟩ = some (.bool V) := ownsRow_bool hown0 (j := 0) (by simp)
   have HBEL := hide hbel0
   clear hown0 hbel0 hh hm hkt0 hp0
   simp only [List.length_singleton]
   go_wp2
   go_ret
   exact ⟨rfl, HBEL.out⟩
end Go.Proofs.YtnoohlibgaeklaaGreatDoor
namespace Go.Proofs.YtnoohlibgaeklaaGreatDoor
open Go.ChangeShapes Go.WideShapes Go.ChangeAt Go.RowKit
theorem ones64_any (x : Int) (h0 : 0 ≤ x) (h1 : x < 64) (w : World) :
    Calls Tryz.prog 203 #[.int .u64 x] w (Sk w (.int .i64 (pcN x))) := by
 go_enter Tryz.func203, Tryz.ntmps203
 go_wp2
 go_ret
 refine ⟨ret_int ?_, rfl⟩
 revert h1 h0
 intro h0 h1
 obtain ⟨n, rfl⟩ := Int.eq_ofNat_of_zero_le h0
 have h : n < 64 := by omega
 clear h0 h1
 revert n
 decide +kernel
theorem ones_any (x : Int) (h0 : 0 ≤ x) (h1 : x < 64) (w : World) :
    Calls Tryz.prog 196 #[.int .u64 x] w (Sk w (.int .i64 (pcN x))) := by
 go_enter Tryz.func196, Tryz.ntmps196
 go_wp2_with (go_at_call 203; refine (ones64_any _ h0 h1 _).mono ?_; rintro e w' ⟨rfl, rfl⟩)
 go_ret
 exact ⟨rfl, rfl⟩
end Go.Proofs.YtnoohlibgaeklaaGreatDoor
namespace Go.Proofs.YtnoohlibgaeklaaGreatDoor
open Go.ChangeShapes Go.WideShapes Go.ChangeAt Go.RowKit
set_option maxRecDepth 100000
theorem quiet_ones (x : Int) (h0 : 0 ≤ x) (h1 : x < 64) (W : World) : Calls Tryz.prog 196 #[.int .u64 x] W fun e w' => e = .returned (.int .i64 (pcN x)) ∧ w' = W := (ones_any x h0 h1 W).mono fun _ _ h => And.intro h.1 h.2.symm
set_option maxHeartbeats 1000000 in
theorem says_1 (n x y : Int) (sao tao : Option Addr) (sl scap tl tcap : Nat) (w : World) (x0 : 0 ≤ x) (x1 : x < 64) (y0 : 0 ≤ y) (y1 : y < 64) :
    Calls Tryz.prog 179 #[.agg #[.int .i64 1, .slice sao sl scap, .slice tao tl tcap, .int .i64 n], .int .i64 x, .int .i64 y] w (Bk w (.bool (saysB 1 n x y))) := by
 have HB : Hid (Below w.heap.size w (w.alloc (.cells #[.int .i64 1, .slice sao sl scap, .slice tao tl tcap, .int .i64 n] 71))) := below_alloc1 w _
 have hp := pcN_le x
 have hq := pcN_le y
 have HR : Hid (saysB 1 n x y = (bits .andNot .i64 x y == 0)) := by
  unfold Hid saysB
  rw [less_bits x y x0 x1 y0 y1]; simp; rfl
 obtain ⟨R, hR⟩ := nm (saysB 1 n x y)
 rw [← hR] at HR ⊢
 clear hR
 go_enter Tryz.func179, Tryz.ntmps179
 go_wp2_with (go_at_call 196; refine (ones_any _ ?_ ?_ _).mono ?_; omega; omega; rintro e w' ⟨rfl, rfl⟩)
 go_ret
 exact ⟨back_b HR.out.symm, HB.out⟩
set_option maxHeartbeats 1000000 in
theorem says_2 (n x y : Int) (sao tao : Option Addr) (sl scap tl tcap : Nat) (w : World) (x0 : 0 ≤ x) (x1 : x < 64) (y0 : 0 ≤ y) (y1 : y < 64) :
    Calls Tryz.prog 179 #[.agg #[.int .i64 2, .slice sao sl scap, .slice tao tl tcap, .int .i64 n], .int .i64 x, .int .i64 y] w (Bk w (.bool (saysB 2 n x y))) := by
 have HB : Hid (Below w.heap.size w (w.alloc (.cells #[.int .i64 2, .slice sao sl scap, .slice tao tl tcap, .int .i64 n] 71))) := below_alloc1 w _
 have hp := pcN_le x
 have hq := pcN_le y
 have HR : Hid (saysB 2 n x y = (x == y)) := by
  unfold Hid saysB
  simp; rfl
 obtain ⟨R, hR⟩ := nm (saysB 2 n x y)
 rw [← hR] at HR ⊢
 clear hR
 go_enter Tryz.func179, Tryz.ntmps179
 go_wp2_with (go_at_call 196; refine (ones_any _ ?_ ?_ _).mono ?_; omega; omega; rintro e w' ⟨rfl, rfl⟩)
 go_ret
 exact ⟨back_b HR.out.symm, HB.out⟩
set_option maxHeartbeats 1000000 in
theorem says_3 (n x y : Int) (sao tao : Option Addr) (sl scap tl tcap : Nat) (w : World) (x0 : 0 ≤ x) (x1 : x < 64) (y0 : 0 ≤ y) (y1 : y < 64) :
    Calls Tryz.prog 179 #[.agg #[.int .i64 3, .slice sao sl scap, .slice tao tl tcap, .int .i64 n], .int .i64 x, .int .i64 y] w (Bk w (.bool (saysB 3 n x y))) := by
 have HB : Hid (Below w.heap.size w (w.alloc (.cells #[.int .i64 3, .slice sao sl scap, .slice tao tl tcap, .int .i64 n] 71))) := below_alloc1 w _
 have hp := pcN_le x
 have hq := pcN_le y
 have HR : Hid (saysB 3 n x y = decide (n ≤ pcN x)) := by
  unfold Hid saysB
  simp
 obtain ⟨R, hR⟩ := nm (saysB 3 n x y)
 rw [← hR] at HR ⊢
 clear hR
 go_enter Tryz.func179, Tryz.ntmps179
 go_wp2_with (go_at_call 196; refine (ones_any _ ?_ ?_ _).mono ?_; omega; omega; rintro e w' ⟨rfl, rfl⟩)
 go_ret
 exact ⟨back_b HR.out.symm, HB.out⟩
set_option maxHeartbeats 1000000 in
theorem says_4 (n x y : Int) (sao tao : Option Addr) (sl scap tl tcap : Nat) (w : World) (x0 : 0 ≤ x) (x1 : x < 64) (y0 : 0 ≤ y) (y1 : y < 64) :
    Calls Tryz.prog 179 #[.agg #[.int .i64 4, .slice sao sl scap, .slice tao tl tcap, .int .i64 n], .int .i64 x, .int .i64 y] w (Bk w (.bool (saysB 4 n x y))) := by
 have HB : Hid (Below w.heap.size w (w.alloc (.cells #[.int .i64 4, .slice sao sl scap, .slice tao tl tcap, .int .i64 n] 71))) := below_alloc1 w _
 have hp := pcN_le x
 have hq := pcN_le y
 have HR : Hid (saysB 4 n x y = decide (pcN x ≤ n)) := by
  unfold Hid saysB
  simp
 obtain ⟨R, hR⟩ := nm (saysB 4 n x y)
 rw [← hR] at HR ⊢
 clear hR
 go_enter Tryz.func179, Tryz.ntmps179
 go_wp2_with (go_at_call 196; refine (ones_any _ ?_ ?_ _).mono ?_; omega; omega; rintro e w' ⟨rfl, rfl⟩)
 go_ret
 exact ⟨back_b HR.out.symm, HB.out⟩
set_option maxHeartbeats 1000000 in
theorem says_5 (n x y : Int) (sao tao : Option Addr) (sl scap tl tcap : Nat) (w : World) (x0 : 0 ≤ x) (x1 : x < 64) (y0 : 0 ≤ y) (y1 : y < 64) (n0 : -20 ≤ n) (n1 : n ≤ 20) :
    Calls Tryz.prog 179 #[.agg #[.int .i64 5, .slice sao sl scap, .slice tao tl tcap, .int .i64 n], .int .i64 x, .int .i64 y] w (Bk w (.bool (saysB 5 n x y))) := by
 have HB : Hid (Below w.heap.size w (w.alloc (.cells #[.int .i64 5, .slice sao sl scap, .slice tao tl tcap, .int .i64 n] 71))) := below_alloc1 w _
 have hp := pcN_le x
 have hq := pcN_le y
 have HR : Hid (saysB 5 n x y = decide (pcN x ≤ pcN y + n)) := by
  unfold Hid saysB
  simp
 obtain ⟨R, hR⟩ := nm (saysB 5 n x y)
 rw [← hR] at HR ⊢
 clear hR
 go_enter Tryz.func179, Tryz.ntmps179
 go_wp2_with (go_at_call 196; refine (ones_any _ ?_ ?_ _).mono ?_; omega; omega; rintro e w' ⟨rfl, rfl⟩)
 go_ret
 exact ⟨back_b HR.out.symm, HB.out⟩
theorem says_any (k n x y : Int) (sao tao : Option Addr) (sl scap tl tcap : Nat) (w : World) (hk : 1 ≤ k ∧ k ≤ 5) (x0 : 0 ≤ x) (x1 : x < 64) (y0 : 0 ≤ y) (y1 : y < 64) (n0 : -20 ≤ n) (n1 : n ≤ 20) :
    Calls Tryz.prog 179 #[.agg #[.int .i64 k, .slice sao sl scap, .slice tao tl tcap, .int .i64 n], .int .i64 x, .int .i64 y] w (Bk w (.bool (saysB k n x y))) := by
 rcases five hk.1 hk.2 with rfl | rfl | rfl | rfl | rfl
 ·exact says_1 n x y sao tao sl scap tl tcap w x0 x1 y0 y1
 ·exact says_2 n x y sao tao sl scap tl tcap w x0 x1 y0 y1
 ·exact says_3 n x y sao tao sl scap tl tcap w x0 x1 y0 y1
 ·exact says_4 n x y sao tao sl scap tl tcap w x0 x1 y0 y1
 ·exact says_5 n x y sao tao sl scap tl tcap w x0 x1 y0 y1 n0 n1
def Boxes (w : World) (B : Nat) (k n : Int) (vs vt : Value) (u a b c : Int) : Prop :=
 w.cell? ⟨B, 0, none⟩ = some (.int .i64 k) ∧ w.cell? ⟨B, 1, none⟩ = some vs ∧ w.cell? ⟨B, 2, none⟩ = some vt ∧ w.cell? ⟨B, 3, none⟩ = some (.int .i64 n) ∧ w.cell? ⟨B + 1, 0, none⟩ = some (.int .i64 u) ∧ w.cell? ⟨B + 1, 1, none⟩ = some (.int .i64 a) ∧ w.cell? ⟨B + 1, 2, none⟩ = some (.int .i64 b) ∧ w.cell? ⟨B + 1, 3, none⟩ = some (.int .i64 c)
theorem Boxes.below {w w' : World} {B K : Nat} {k n : Int} {vs vt : Value} {u a b c : Int} (h : Boxes w B k n vs vt u a b c) (hb : Below K w w') (hK : B + 1 < K) : Boxes w' B k n vs vt u a b c := by
 obtain ⟨x0, x1, x2, x3, x4, x5, x6, x7⟩ := h
 have h0 : B < K := by omega
 refine ⟨?_, ?_, ?_, ?_, ?_, ?_, ?_, ?_⟩
 ·rw [hb.cell h0]; exact x0
 ·rw [hb.cell h0]; exact x1
 ·rw [hb.cell h0]; exact x2
 ·rw [hb.cell h0]; exact x3
 ·rw [hb.cell hK]; exact x4
 ·rw [hb.cell hK]; exact x5
 ·rw [hb.cell hK]; exact x6
 ·rw [hb.cell hK]; exact x7
theorem boxes_alloc (w : World) (k n : Int) (vs vt : Value) (u a b c : Int) : Boxes ((w.alloc (.cells #[.int .i64 k, vs, vt, .int .i64 n] 71)).alloc (.cells #[.int .i64 u, .int .i64 a, .int .i64 b, .int .i64 c] 58)) w.heap.size k n vs vt u a b c := by
 have h : ∀ j, ((w.alloc (.cells #[.int .i64 k, vs, vt, .int .i64 n] 71)).alloc (.cells #[.int .i64 u, .int .i64 a, .int .i64 b, .int .i64 c] 58)).cell? ⟨w.heap.size, j, none⟩ = (w.alloc (.cells #[.int .i64 k, vs, vt, .int .i64 n] 71)).cell? ⟨w.heap.size, j, none⟩ := fun j => World.cell?_alloc_lt _ _ ⟨w.heap.size, j, none⟩ (by simp)
 have e : w.heap.size + 1 = (w.alloc (.cells #[.int .i64 k, vs, vt, .int .i64 n] 71)).heap.size := by simp
 refine ⟨?_, ?_, ?_, ?_, ?_, ?_, ?_, ?_⟩
 ·rw [h]; simp
 ·rw [h]; simp
 ·rw [h]; simp
 ·rw [h]; simp
 ·rw [e]; simp
 ·rw [e]; simp
 ·rw [e]; simp
 ·rw [e]; simp
theorem holds_bad (k F : Int) (n : Int) (sao tao : Option Addr) (sl scap tl tcap : Nat) (u a b c : Int) (w : World)
    (hC : ∀ W, Below w.heap.size w W → Calls Tryz.prog 92 #[.agg #[.int .i64 k, .slice sao sl scap, .slice tao tl tcap, .int .i64 n]] W (Bk W (.iface 91 (.int .i64 F)))) :
    Calls Tryz.prog 155 #[.agg #[.int .i64 k, .slice sao sl scap, .slice tao tl tcap, .int .i64 n], .agg #[.int .i64 u, .int .i64 a, .int .i64 b, .int .i64 c]] w (Bk w (.tuple #[.bool false, (.iface 91 (.int .i64 F))])) := by
 obtain ⟨w1, hw1⟩ := nm ((w.alloc (.cells #[.int .i64 k, .slice sao sl scap, .slice tao tl tcap, .int .i64 n] 71)).alloc (.cells #[.int .i64 u, .int .i64 a, .int .i64 b, .int .i64 c] 58))
 have HB1 : Hid (Below w.heap.size w w1) := by unfold Hid; rw [hw1]; exact (below_alloc1 w _).trans ((below_alloc1 _ _).mono (by simp))
 have HX : Hid (Boxes w1 w.heap.size k n (.slice sao sl scap) (.slice tao tl tcap) u a b c) := by rw [hw1]; exact boxes_alloc w _ _ _ _ _ _ _ _
 have HK1 : Hid (w.heap.size + 1 < w1.heap.size) := by unfold Hid; rw [hw1]; simp
 have HC := hide (hC w1 HB1.out)
 clear hC
 obtain ⟨x0, x1, x2, x3, x4, x5, x6, x7⟩ := HX.out
 go_enter Tryz.func155, Tryz.ntmps155
 go_wp2_with fail
 rw [← hw1]
 clear hw1
 go_wp2_with (go_at_call 92; refine HC.out.mono ?_; rintro e w2 ⟨rfl, hb⟩; have HB2 : Hid (Below w.heap.size w w2) := HB1.out.trans (hb.mono (Nat.le_of_lt (Nat.lt_of_succ_lt HK1.out))); clear hb)
 go_ret2
 exact ⟨rfl, HB2.out⟩
theorem holds_world (k : Int) (n : Int) (sao tao : Option Addr) (sl scap tl tcap : Nat) (u a b c : Int) (w : World)
    (hC : ∀ W, Below w.heap.size w W → (Calls Tryz.prog 92 #[.agg #[.int .i64 k, .slice sao sl scap, .slice tao tl tcap, .int .i64 n]] W (Bk W .nilIface)))
    (hV : ∀ W, Below w.heap.size w W → Calls Tryz.prog 178 #[.slice sao sl scap, .agg #[.int .i64 u, .int .i64 a, .int .i64 b, .int .i64 c]] W (Bk W (.tuple #[.int .i64 0, (.iface 91 (.int .i64 1))]))) :
    Calls Tryz.prog 155 #[.agg #[.int .i64 k, .slice sao sl scap, .slice tao tl tcap, .int .i64 n], .agg #[.int .i64 u, .int .i64 a, .int .i64 b, .int .i64 c]] w (Bk w (.tuple #[.bool false, (.iface 91 (.int .i64 1))])) := by
 obtain ⟨w1, hw1⟩ := nm ((w.alloc (.cells #[.int .i64 k, .slice sao sl scap, .slice tao tl tcap, .int .i64 n] 71)).alloc (.cells #[.int .i64 u, .int .i64 a, .int .i64 b, .int .i64 c] 58))
 have HB1 : Hid (Below w.heap.size w w1) := by unfold Hid; rw [hw1]; exact (below_alloc1 w _).trans ((below_alloc1 _ _).mono (by simp))
 have HX : Hid (Boxes w1 w.heap.size k n (.slice sao sl scap) (.slice tao tl tcap) u a b c) := by rw [hw1]; exact boxes_alloc w _ _ _ _ _ _ _ _
 have HK1 : Hid (w.heap.size + 1 < w1.heap.size) := by unfold Hid; rw [hw1]; simp
 have HC := hide (hC w1 HB1.out)
 have HV : Hid (∀ W, Below w1.heap.size w1 W → Calls Tryz.prog 178 #[.slice sao sl scap, .agg #[.int .i64 u, .int .i64 a, .int .i64 b, .int .i64 c]] W (Bk W (.tuple #[.int .i64 0, (.iface 91 (.int .i64 1))]))) := fun W hW => hV W (HB1.out.trans (hW.mono (Nat.le_of_lt (Nat.lt_of_succ_lt HK1.out))))
 clear hC hV
 obtain ⟨x0, x1, x2, x3, x4, x5, x6, x7⟩ := HX.out
 go_enter Tryz.func155, Tryz.ntmps155
 go_wp2_with fail
 rw [← hw1]
 clear hw1
 go_wp2_with (first | (go_at_call 92; refine HC.out.mono ?_; rintro e w2 ⟨rfl, hb⟩; have HZ2 : Hid (Below w1.heap.size w1 w2) := hb; clear hb x0 x1 x2 x3 x4 x5 x6 x7; obtain ⟨x0, x1, x2, x3, x4, x5, x6, x7⟩ := HX.out.below HZ2.out HK1.out) | (go_at_call 178; refine (HV.out _ HZ2.out).mono ?_; rintro e w3 ⟨rfl, hb⟩; have HZ3 : Hid (Below w1.heap.size w1 w3) := HZ2.out.trans (hb.mono HZ2.out.size); clear hb))
 go_ret2
 exact ⟨rfl, HB1.out.trans (HZ3.out.mono (Nat.le_of_lt (Nat.lt_of_succ_lt HK1.out)))⟩
set_option maxHeartbeats 2000000 in
theorem holds_sec (k : Nat) (h0 : 0 < k) (h6 : k < 6) (x y : Int) (n : Int) (sao tao : Option Addr) (sl scap tl tcap : Nat) (u a b c : Int) (w : World) (hK : KindsLaid w) (hb : secondB (k : Int) = true) (x0 : 0 ≤ x) (x1 : x < 64) (y0 : 0 ≤ y) (y1 : y < 64) (n0 : -20 ≤ n) (n1 : n ≤ 20)
    (hC : ∀ W, Below w.heap.size w W → (Calls Tryz.prog 92 #[.agg #[.int .i64 (k : Int), .slice sao sl scap, .slice tao tl tcap, .int .i64 n]] W (Bk W .nilIface)))
    (hV : ∀ W, Below w.heap.size w W → Calls Tryz.prog 178 #[.slice sao sl scap, .agg #[.int .i64 u, .int .i64 a, .int .i64 b, .int .i64 c]] W (Bk W (.tuple #[.int .i64 x, .nilIface])))
    (hV2 : ∀ W, Below w.heap.size w W → Calls Tryz.prog 178 #[.slice tao tl tcap, .agg #[.int .i64 u, .int .i64 a, .int .i64 b, .int .i64 c]] W (Bk W (.tuple #[.int .i64 y, .nilIface]))) :
    Calls Tryz.prog 155 #[.agg #[.int .i64 (k : Int), .slice sao sl scap, .slice tao tl tcap, .int .i64 n], .agg #[.int .i64 u, .int .i64 a, .int .i64 b, .int .i64 c]] w (Bk w (.tuple #[.bool (saysB (k : Int) n x y), .nilIface])) := by
 have HS : Hid (∀ W, Calls Tryz.prog 179 #[.agg #[.int .i64 (k : Int), .slice sao sl scap, .slice tao tl tcap, .int .i64 n], .int .i64 x, .int .i64 y] W (Bk W (.bool (saysB (k : Int) n x y)))) := fun W => says_any (k : Int) n x y sao tao sl scap tl tcap W (by omega) x0 x1 y0 y1 n0 n1
 clear x0 x1 y0 y1 n0 n1
 obtain ⟨R, hR⟩ := nm (saysB (k : Int) n x y)
 rw [← hR] at HS ⊢
 clear hR
 obtain ⟨w1, hw1⟩ := nm ((w.alloc (.cells #[.int .i64 (k : Int), .slice sao sl scap, .slice tao tl tcap, .int .i64 n] 71)).alloc (.cells #[.int .i64 u, .int .i64 a, .int .i64 b, .int .i64 c] 58))
 have HB1 : Hid (Below w.heap.size w w1) := by unfold Hid; rw [hw1]; exact (below_alloc1 w _).trans ((below_alloc1 _ _).mono (by simp))
 have HX : Hid (Boxes w1 w.heap.size (k : Int) n (.slice sao sl scap) (.slice tao tl tcap) u a b c) := by rw [hw1]; exact boxes_alloc w _ _ _ _ _ _ _ _
 have HK1 : Hid (w.heap.size + 1 < w1.heap.size) := by unfold Hid; rw [hw1]; simp
 have HQ : Hid (∀ W, Below w1.heap.size w1 W → W.cell? ⟨1, k * 3 + 1, none⟩ = some (.bool true)) := fun W hW => by rw [← hb]; exact (kind_has ((hK.below HB1.out).below hW) h0 h6).1
 have HC := hide (hC w1 HB1.out)
 have HV : Hid (∀ W, Below w1.heap.size w1 W → Calls Tryz.prog 178 #[.slice sao sl scap, .agg #[.int .i64 u, .int .i64 a, .int .i64 b, .int .i64 c]] W (Bk W (.tuple #[.int .i64 x, .nilIface]))) := fun W hW => hV W (HB1.out.trans (hW.mono (Nat.le_of_lt (Nat.lt_of_succ_lt HK1.out))))
 have HV2 : Hid (∀ W, Below w1.heap.size w1 W → Calls Tryz.prog 178 #[.slice tao tl tcap, .agg #[.int .i64 u, .int .i64 a, .int .i64 b, .int .i64 c]] W (Bk W (.tuple #[.int .i64 y, .nilIface]))) := fun W hW => hV2 W (HB1.out.trans (hW.mono (Nat.le_of_lt (Nat.lt_of_succ_lt HK1.out))))
 clear hC hV hK hb hV2
 obtain ⟨x0, x1, x2, x3, x4, x5, x6, x7⟩ := HX.out
 go_enter Tryz.func155, Tryz.ntmps155
 go_wp2_with fail
 rw [← hw1]
 clear hw1
 go_wp2_with (go_at_call 92; refine HC.out.mono ?_; rintro e w2 ⟨rfl, hb⟩; have HZ2 : Hid (Below w1.heap.size w1 w2) := hb; clear hb x0 x1 x2 x3 x4 x5 x6 x7; obtain ⟨x0, x1, x2, x3, x4, x5, x6, x7⟩ := HX.out.below HZ2.out HK1.out)
 go_wp2_with fail
 go_at_call 178
 refine (HV.out _ HZ2.out).mono ?_
 rintro e w3 ⟨rfl, hb⟩
 have HZ3 := hide (HZ2.out.trans (hb.mono HZ2.out.size))
 have q0 : w3.cell? ⟨1, k * 3 + 1, none⟩ = some (.bool true) := HQ.out _ HZ3.out
 clear hb x0 x1 x2 x3 x4 x5 x6 x7
 obtain ⟨x0, x1, x2, x3, x4, x5, x6, x7⟩ := HX.out.below HZ3.out HK1.out
 go_wp2_with fail
 go_at_call 178
 refine (HV2.out _ HZ3.out).mono ?_
 rintro e w4 ⟨rfl, hb⟩
 have HZ4 := hide (HZ3.out.trans (hb.mono HZ3.out.size))
 clear hb x0 x1 x2 x3 x4 x5 x6 x7
 obtain ⟨x0, x1, x2, x3, x4, x5, x6, x7⟩ := HX.out.below HZ4.out HK1.out
 go_wp2_with fail
 go_at_call 179
 refine (HS.out _).mono ?_
 rintro e w5 ⟨rfl, hb⟩
 have HZ5 := hide (HZ4.out.trans (hb.mono HZ4.out.size))
 clear hb
 go_wp2
 go_ret2
 exact ⟨rfl, HB1.out.trans (HZ5.out.mono (Nat.le_of_lt (Nat.lt_of_succ_lt HK1.out)))⟩
set_option maxHeartbeats 2000000 in
theorem holds_one (k : Nat) (h0 : 0 < k) (h6 : k < 6) (x y : Int) (n : Int) (sao tao : Option Addr) (sl scap tl tcap : Nat) (u a b c : Int) (w : World) (hK : KindsLaid w) (hb : secondB (k : Int) = false) (x0 : 0 ≤ x) (x1 : x < 64) (y0 : 0 ≤ y) (y1 : y < 64) (n0 : -20 ≤ n) (n1 : n ≤ 20)
    (hC : ∀ W, Below w.heap.size w W → (Calls Tryz.prog 92 #[.agg #[.int .i64 (k : Int), .slice sao sl scap, .slice tao tl tcap, .int .i64 n]] W (Bk W .nilIface)))
    (hV : ∀ W, Below w.heap.size w W → Calls Tryz.prog 178 #[.slice sao sl scap, .agg #[.int .i64 u, .int .i64 a, .int .i64 b, .int .i64 c]] W (Bk W (.tuple #[.int .i64 x, .nilIface])))
    (hy : y = 0) :
    Calls Tryz.prog 155 #[.agg #[.int .i64 (k : Int), .slice sao sl scap, .slice tao tl tcap, .int .i64 n], .agg #[.int .i64 u, .int .i64 a, .int .i64 b, .int .i64 c]] w (Bk w (.tuple #[.bool (saysB (k : Int) n x y), .nilIface])) := by
 subst hy
 have HS : Hid (∀ W, Calls Tryz.prog 179 #[.agg #[.int .i64 (k : Int), .slice sao sl scap, .slice tao tl tcap, .int .i64 n], .int .i64 x, .int .i64 0] W (Bk W (.bool (saysB (k : Int) n x 0)))) := fun W => says_any (k : Int) n x 0 sao tao sl scap tl tcap W (by omega) x0 x1 y0 y1 n0 n1
 clear x0 x1 y0 y1 n0 n1
 obtain ⟨R, hR⟩ := nm (saysB (k : Int) n x 0)
 rw [← hR] at HS ⊢
 clear hR
 obtain ⟨w1, hw1⟩ := nm ((w.alloc (.cells #[.int .i64 (k : Int), .slice sao sl scap, .slice tao tl tcap, .int .i64 n] 71)).alloc (.cells #[.int .i64 u, .int .i64 a, .int .i64 b, .int .i64 c] 58))
 have HB1 : Hid (Below w.heap.size w w1) := by unfold Hid; rw [hw1]; exact (below_alloc1 w _).trans ((below_alloc1 _ _).mono (by simp))
 have HX : Hid (Boxes w1 w.heap.size (k : Int) n (.slice sao sl scap) (.slice tao tl tcap) u a b c) := by rw [hw1]; exact boxes_alloc w _ _ _ _ _ _ _ _
 have HK1 : Hid (w.heap.size + 1 < w1.heap.size) := by unfold Hid; rw [hw1]; simp
 have HQ : Hid (∀ W, Below w1.heap.size w1 W → W.cell? ⟨1, k * 3 + 1, none⟩ = some (.bool false)) := fun W hW => by rw [← hb]; exact (kind_has ((hK.below HB1.out).below hW) h0 h6).1
 have HC := hide (hC w1 HB1.out)
 have HV : Hid (∀ W, Below w1.heap.size w1 W → Calls Tryz.prog 178 #[.slice sao sl scap, .agg #[.int .i64 u, .int .i64 a, .int .i64 b, .int .i64 c]] W (Bk W (.tuple #[.int .i64 x, .nilIface]))) := fun W hW => hV W (HB1.out.trans (hW.mono (Nat.le_of_lt (Nat.lt_of_succ_lt HK1.out))))
 clear hC hV hK hb
 obtain ⟨x0, x1, x2, x3, x4, x5, x6, x7⟩ := HX.out
 go_enter Tryz.func155, Tryz.ntmps155
 go_wp2_with fail
 rw [← hw1]
 clear hw1
 go_wp2_with (go_at_call 92; refine HC.out.mono ?_; rintro e w2 ⟨rfl, hb⟩; have HZ2 : Hid (Below w1.heap.size w1 w2) := hb; clear hb x0 x1 x2 x3 x4 x5 x6 x7; obtain ⟨x0, x1, x2, x3, x4, x5, x6, x7⟩ := HX.out.below HZ2.out HK1.out)
 go_wp2_with fail
 go_at_call 178
 refine (HV.out _ HZ2.out).mono ?_
 rintro e w3 ⟨rfl, hb⟩
 have HZ3 := hide (HZ2.out.trans (hb.mono HZ2.out.size))
 have q0 : w3.cell? ⟨1, k * 3 + 1, none⟩ = some (.bool false) := HQ.out _ HZ3.out
 clear hb x0 x1 x2 x3 x4 x5 x6 x7
 obtain ⟨x0, x1, x2, x3, x4, x5, x6, x7⟩ := HX.out.below HZ3.out HK1.out
 go_wp2_with fail
 go_at_call 179
 refine (HS.out _).mono ?_
 rintro e w5 ⟨rfl, hb⟩
 have HZ5 := hide (HZ3.out.trans (hb.mono HZ3.out.size))
 clear hb
 go_wp2
 go_ret2
 exact ⟨rfl, HB1.out.trans (HZ5.out.mono (Nat.le_of_lt (Nat.lt_of_succ_lt HK1.out)))⟩
theorem back_bool {a b : Bool} {x y : Value} (h : a = b) (h' : x = y) : Ending.returned (.tuple #[.bool a, x]) = .returned (.tuple #[.bool b, y]) := by rw [h, h']
theorem aholds_any (k n : Int) (vs vt : Value) (s t : List Int) (u a b c : Int) (w : World) (hS : Reads w vs s) (hT : Reads w vt t) (hK : KindsLaid w) :
    Calls Tryz.prog 155 #[.agg #[.int .i64 k, vs, vt, .int .i64 n], .agg #[.int .i64 u, .int .i64 a, .int .i64 b, .int .i64 c]] w (Bk w (.tuple #[.bool ((Wd.mk u a b c).holdsIs k s t n), errV ((Wd.mk u a b c).holdsFault k s t n)])) := by
 have hC : ∀ W, Below w.heap.size w W → _ := fun W hW => acheck_any k n vs vt s t W (hS.below hW) (hT.below hW) (hK.below hW)
 have hV : ∀ W, Below w.heap.size w W → _ := fun W hW => value_any s vs u a b c W (hS.below hW)
 have hV2 : ∀ W, Below w.heap.size w W → _ := fun W hW => value_any t vt u a b c W (hT.below hW)
 obtain ⟨sao, scap, rfl, _⟩ := hS.slice
 obtain ⟨tao, tcap, rfl, _⟩ := hT.slice
 by_cases hf : atomFault k s t n = 0
 ·obtain ⟨hk, hs, ht, n0, n1⟩ := atomFault_zero.1 hf
  rw [hf, errV_0] at hC
  have hm : mostN k ≤ 20 := by unfold mostN; split <;> omega
  by_cases hw : (Wd.mk u a b c).ok = true
  ·have e1 : (Wd.mk u a b c).holdsFault k s t n = 0 := by unfold Wd.holdsFault; rw [if_pos hf, if_pos hw]
   have e2 : (Wd.mk u a b c).holdsIs k s t n = saysB k n ((Wd.mk u a b c).val s) ((Wd.mk u a b c).snd k t) := by unfold Wd.holdsIs; rw [if_pos e1]; rfl
   have e3 : (Wd.mk u a b c).answer s = (Wd.mk u a b c).val s := by unfold Wd.answer; rw [if_pos hs, if_pos hw]
   have e4 : (Wd.mk u a b c).fault s = 0 := by unfold Wd.fault; rw [if_pos hs, if_pos hw]
   rw [e1, e2, errV_0]
   rw [e3, e4, errV_0] at hV
   have ox := okB_lt (ok_val hw s)
   have oy := okB_lt (ok_val hw t)
   have hsec : secondB k = true → (Wd.mk u a b c).answer t = (Wd.mk u a b c).val t ∧ (Wd.mk u a b c).fault t = 0 ∧ (Wd.mk u a b c).snd k t = (Wd.mk u a b c).val t := by
    intro h
    have h0 := second_reads ht h
    refine ⟨?_, ?_, ?_⟩
    ·unfold Wd.answer; rw [if_pos h0, if_pos hw]
    ·unfold Wd.fault; rw [if_pos h0, if_pos hw]
    ·unfold Wd.snd; rw [if_pos h]
   obtain ⟨k, rfl⟩ := Int.eq_ofNat_of_zero_le (show 0 ≤ k by omega)
   cases hb : secondB (k : Int)
   ·have g3 : (Wd.mk u a b c).snd (k : Int) t = 0 := by unfold Wd.snd; rw [hb]; rfl
    rw [g3]
    exact holds_one k (by omega) (by omega) _ 0 n sao tao _ scap _ tcap u a b c w hK hb ox.2.2.1 ox.2.2.2 (Int.le_refl 0) (by decide) (by omega) (by omega) hC hV rfl
   ·obtain ⟨g1, g2, g3⟩ := hsec hb
    rw [g1, g2, errV_0] at hV2; rw [g3]
    exact holds_sec k (by omega) (by omega) _ _ n sao tao _ scap _ tcap u a b c w hK hb ox.2.2.1 ox.2.2.2 oy.2.2.1 oy.2.2.2 (by omega) (by omega) hC hV hV2
  ·have e1 : (Wd.mk u a b c).holdsFault k s t n = 1 := by unfold Wd.holdsFault; rw [if_pos hf, if_neg hw]
   have e2 : (Wd.mk u a b c).holdsIs k s t n = false := by unfold Wd.holdsIs; rw [if_neg (by rw [e1]; decide)]
   have e3 : (Wd.mk u a b c).answer s = 0 := by unfold Wd.answer; rw [if_pos hs, if_neg hw]
   have e4 : (Wd.mk u a b c).fault s = 1 := by unfold Wd.fault; rw [if_pos hs, if_neg hw]
   rw [e1, e2, errV_no (by decide)]
   rw [e3, e4, errV_no (by decide)] at hV
   exact holds_world k n sao tao _ scap _ tcap u a b c w hC hV
 ·have e1 : (Wd.mk u a b c).holdsFault k s t n = atomFault k s t n := by unfold Wd.holdsFault; rw [if_neg hf]
  have e2 : (Wd.mk u a b c).holdsIs k s t n = false := by unfold Wd.holdsIs; rw [if_neg (by rw [e1]; exact hf)]
  rw [e1, e2, errV_no hf]
  rw [errV_no hf] at hC
  exact holds_bad k _ n sao tao _ scap _ tcap u a b c w hC
end Go.Proofs.YtnoohlibgaeklaaGreatDoor
namespace Go.Proofs.YtnoohlibgaeklaaGreatDoor
open Go.ChangeShapes Go.WideShapes Go.ChangeAt Go.RowKit
set_option maxRecDepth 100000
theorem fholds_bad (va vc : Value) (ats : List At) (c : List Int) (u a b d : Int) (w : World) (hA : ReadsA w va ats) (hC : Reads w vc c) (hK : KindsLaid w) (hf : ¬ formFault ats c = 0) :
    Calls Tryz.prog 122 #[.agg #[va, vc], .agg #[.int .i64 u, .int .i64 a, .int .i64 b, .int .i64 d]] w (Bk w (.tuple #[.bool false, .iface 91 (.int .i64 (formFault ats c))])) := by
 obtain ⟨ao, acap, rfl, _⟩ := hA.slice
 obtain ⟨co, ccap, rfl, _⟩ := hC.slice
 obtain ⟨w1, hw1⟩ := nm ((w.alloc (.cells #[.slice ao ats.length acap, .slice co c.length ccap] 78)).alloc (.cells #[.int .i64 u, .int .i64 a, .int .i64 b, .int .i64 d] 58))
 have HB1 : Hid (Below w.heap.size w w1) := by unfold Hid; rw [hw1]; exact (below_alloc1 _ _).trans ((below_alloc1 _ _).mono (by simp))
 have HC : Hid (Calls Tryz.prog 78 #[.agg #[.slice ao ats.length acap, .slice co c.length ccap]] w1 (Bk w1 (.iface 91 (.int .i64 (formFault ats c))))) := by
  have := fcheck_any _ _ ats c w1 (hA.below HB1.out) (hC.below HB1.out) (hK.below HB1.out)
  rw [errV_no hf] at this
  exact this
 clear hA hC hK
 obtain ⟨F, hF⟩ := nm (formFault ats c)
 rw [← hF] at HC ⊢
 clear hF hf
 obtain ⟨m, hm⟩ := nm ats.length
 obtain ⟨n, hn⟩ := nm c.length
 rw [← hm, ← hn] at HC hw1 ⊢
 clear hm hn
 have x0 : ((w.alloc (.cells #[.slice ao m acap, .slice co n ccap] 78)).alloc (.cells #[.int .i64 u, .int .i64 a, .int .i64 b, .int .i64 d] 58)).cell? ⟨w.heap.size, 0, none⟩ = some (.slice ao m acap) := by
  rw [World.cell?_alloc_lt _ _ ⟨w.heap.size, 0, none⟩ (by simp)]; simp
 have x1 : ((w.alloc (.cells #[.slice ao m acap, .slice co n ccap] 78)).alloc (.cells #[.int .i64 u, .int .i64 a, .int .i64 b, .int .i64 d] 58)).cell? ⟨w.heap.size, 1, none⟩ = some (.slice co n ccap) := by
  rw [World.cell?_alloc_lt _ _ ⟨w.heap.size, 1, none⟩ (by simp)]; simp
 go_enter Tryz.func122, Tryz.ntmps122
 go_wp2_with fail
 rw [← hw1]
 clear hw1 x0 x1
 go_at_call 78
 refine HC.out.mono ?_
 rintro e w2 ⟨rfl, hb⟩
 have HB2 := hide (HB1.out.trans (hb.mono HB1.out.size))
 clear hb
 go_wp2
 go_ret2
 exact ⟨rfl, HB2.out⟩
theorem fholds_right (ao co : Option Addr) (acap ccap : Nat) (ats : List At) (c : List Int) (u a b d : Int) (w : World) (hA : ReadsA w (.slice ao ats.length acap) ats) (hC : Reads w (.slice co c.length ccap) c) (hK : KindsLaid w) (hf : formFault ats c = 0) (ok : Bool) (hok : (Wd.mk u a b d).ok = ok) :
    Calls Tryz.prog 122 #[.agg #[.slice ao ats.length acap, .slice co c.length ccap], .agg #[.int .i64 u, .int .i64 a, .int .i64 b, .int .i64 d]] w fun e w' => (if ok = true then e = .returned (.tuple #[.bool (valF ((Wd.mk u a b d).heldL ats) c), .nilIface]) else e = .returned (.tuple #[.bool false, .iface 91 (.int .i64 1)])) ∧ Below w.heap.size w w' := by
 obtain ⟨i0, hi, hz0, hz1, hz2⟩ := info_parts infoBool
 obtain ⟨⟨m1, m6⟩, ⟨n1, n20⟩, hall, hsg, hone⟩ := formFault_zero.1 hf
 obtain ⟨w1, hw1⟩ := nm ((w.alloc (.cells #[.slice ao ats.length acap, .slice co c.length ccap] 78)).alloc (.cells #[.int .i64 u, .int .i64 a, .int .i64 b, .int .i64 d] 58))
 have HB1 : Hid (Below w.heap.size w w1) := by unfold Hid; rw [hw1]; exact (below_alloc1 _ _).trans ((below_alloc1 _ _).mono (by simp))
 have HS1 : Hid (w1.heap.size = w.heap.size + 2) := by unfold Hid; rw [hw1]; simp
 have HCk : Hid (Calls Tryz.prog 78 #[.agg #[.slice ao ats.length acap, .slice co c.length ccap]] w1 (Bk w1 .nilIface)) := by
  have := fcheck_any _ _ ats c w1 (hA.below HB1.out) (hC.below HB1.out) (hK.below HB1.out)
  rw [hf, errV_0] at this
  exact this
 have HA := hide (hA.below HB1.out)
 have HC := hide (hC.below HB1.out)
 have HK := hide (hK.below HB1.out)
 clear hA hC hK
 have HX : Hid (∀ W, Below w1.heap.size w1 W → (W.cell? ⟨w.heap.size, 0, none⟩ = some (.slice ao ats.length acap) ∧ W.cell? ⟨w.heap.size, 1, none⟩ = some (.slice co c.length ccap)) ∧ (W.cell? ⟨w.heap.size + 1, 0, none⟩ = some (.int .i64 u) ∧ W.cell? ⟨w.heap.size + 1, 1, none⟩ = some (.int .i64 a) ∧ W.cell? ⟨w.heap.size + 1, 2, none⟩ = some (.int .i64 b) ∧ W.cell? ⟨w.heap.size + 1, 3, none⟩ = some (.int .i64 d))) := fun W hc => by
  have l0 : w.heap.size < w1.heap.size := by have := HS1.out; omega
  have l1 : w.heap.size + 1 < w1.heap.size := by have := HS1.out; omega
  have e0 : ∀ j, W.cell? ⟨w.heap.size, j, none⟩ = w1.cell? ⟨w.heap.size, j, none⟩ := fun j => hc.cell (show (⟨w.heap.size, j, none⟩ : Addr).block < _ from l0)
  have e1 : ∀ j, W.cell? ⟨w.heap.size + 1, j, none⟩ = w1.cell? ⟨w.heap.size + 1, j, none⟩ := fun j => hc.cell (show (⟨w.heap.size + 1, j, none⟩ : Addr).block < _ from l1)
  simp only [e0, e1]
  rw [hw1]
  have q : w.heap.size + 1 = (w.alloc (.cells #[.slice ao ats.length acap, .slice co c.length ccap] 78)).heap.size := by simp
  have r : ∀ o j, ((w.alloc (.cells #[.slice ao ats.length acap, .slice co c.length ccap] 78)).alloc o).cell? ⟨w.heap.size, j, none⟩ = (w.alloc (.cells #[.slice ao ats.length acap, .slice co c.length ccap] 78)).cell? ⟨w.heap.size, j, none⟩ := fun o j => World.cell?_alloc_lt _ _ ⟨w.heap.size, j, none⟩ (by simp)
  simp only [r]
  rw [q]
  simp
 have HH : Hid (∀ (x : At) vs vt W, x ∈ ats → Reads W vs x.s → Reads W vt x.t → Below w1.heap.size w1 W → Calls Tryz.prog 155 #[.agg #[.int .i64 x.k, vs, vt, .int .i64 x.n], .agg #[.int .i64 u, .int .i64 a, .int .i64 b, .int .i64 d]] W (Bk W (.tuple #[.bool (if ok = true then (Wd.mk u a b d).holds x.k x.s x.t x.n else false), if ok = true then .nilIface else .iface 91 (.int .i64 1)]))) := fun x vs vt W hx h1 h2 hW => by
  have := aholds_any x.k x.n vs vt x.s x.t u a b d W h1 h2 (HK.out.below hW)
  have hxf : atomFault x.k x.s x.t x.n = 0 := hall x hx
  have e0 : (Wd.mk u a b d).holdsFault x.k x.s x.t x.n = if ok = true then 0 else 1 := by unfold Wd.holdsFault; rw [if_pos hxf, hok]
  have e1 : (Wd.mk u a b d).holdsIs x.k x.s x.t x.n = if ok = true then (Wd.mk u a b d).holds x.k x.s x.t x.n else false := by
   unfold Wd.holdsIs; rw [e0]; cases ok <;> rfl
  rw [e0, e1] at this
  cases ok <;> exact this
 have HWk : Hid (∀ G W, ok = true → Below w1.heap.size w1 W → ReadsB W G 0 ((Wd.mk u a b d).heldL ats) → Calls Tryz.prog 156 #[.slice co c.length ccap, .slice (some ⟨G, 0, none⟩) ats.length ats.length] W (Bk W (.bool (valF ((Wd.mk u a b d).heldL ats) c)))) := fun G W _ hW hR => by
  have hlen : ((Wd.mk u a b d).heldL ats).length = ats.length := by simp [Wd.heldL]
  rcases HC.out.below hW with ⟨_, _, hv, hcn⟩ | ⟨B, off, cap, hv, hb, _, _, hc⟩
  ·rw [hcn] at n1; simp at n1
  cases hv
  have := fwork_any c B off ccap ((Wd.mk u a b d).heldL ats) G 0 ats.length W (by rw [hlen]; exact hsg) hone n20 (by rw [hlen]; exact m6) hb hc hR
  rw [hlen] at this
  exact this
 clear hall hsg hone hf hok
 obtain ⟨Hd, hHd⟩ : ∃ Hd : At → Bool, Hd = fun x => (Wd.mk u a b d).holds x.k x.s x.t x.n := ⟨_, rfl⟩
 have HHd : Hid ((Wd.mk u a b d).heldL ats = ats.map Hd) := by unfold Hid; rw [hHd]; rfl
 have HH' : Hid (∀ (x : At) vs vt W, x ∈ ats → Reads W vs x.s → Reads W vt x.t → Below w1.heap.size w1 W → Calls Tryz.prog 155 #[.agg #[.int .i64 x.k, vs, vt, .int .i64 x.n], .agg #[.int .i64 u, .int .i64 a, .int .i64 b, .int .i64 d]] W (Bk W (.tuple #[.bool (if ok = true then Hd x else false), if ok = true then .nilIface else .iface 91 (.int .i64 1)]))) := by
  rw [hHd]; exact HH
 rw [HHd.out] at HWk ⊢
 obtain ⟨V, hV⟩ := nm (valF (ats.map Hd) c)
 rw [← hV] at HWk ⊢
 clear hHd HH hV HHd
 obtain ⟨m, hm⟩ := nm ats.length
 obtain ⟨n, hn⟩ := nm c.length
 rw [← hm] at m1 m6 HCk HA HX HWk hw1 ⊢
 rw [← hn] at n1 n20 HCk HX HWk hw1 HC ⊢
 have HM := hide hm
 clear hm hn
 obtain ⟨f, hf⟩ : ∃ f : Nat → Value, f = fun j => .bool ((ats.map Hd).getD j false) := ⟨_, rfl⟩
 have HF := hide hf
 clear hf
 obtain ⟨⟨x0, x1⟩, ⟨y0, y1, y2, y3⟩⟩ := HX.out w1 (Below.refl _ _)
 rw [hw1] at x0 x1 y0 y1 y2 y3
 go_enter Tryz.func122, Tryz.ntmps122
 go_wp2_with fail
 rw [← hw1]
 clear hw1 x0 x1 y0 y1 y2 y3
 go_at_call 78
 refine HCk.out.mono ?_
 rintro e w2 ⟨rfl, hb⟩
 have HB2 := hide hb
 clear hb HCk
 obtain ⟨⟨x0, x1⟩, ⟨y0, y1, y2, y3⟩⟩ := HX.out w2 HB2.out
 obtain ⟨G, hG⟩ := nm w2.heap.size
 have HG := hide hG
 go_wp2_with (first | (at_make; refine wpList_make_full _ rfl _ _ 224 rfl G 4 i0 (.bool false) 1 Tryz.underlying224 hi hz0 hz1 .i64 .i64 _ _ m rfl rfl ?m0 ?m1 ?m2 ?m3 ?m4 ?_))
 case m0 => rfl
 case m1 => rfl
 case m2 => rw [hz2]; omega
 case m3 => unfold maxLen; omega
 case m4 => omega
 intro w3 hown1 hgrow1
 have HO : Hid (w3.ownsRow G 4 1 (.slice (some ⟨G, 0, none⟩) m m) m (fill f (.bool false) m 0) ∧ Below G w2 w3) := by
  refine ⟨?_, ?_⟩
  ·rw [fill_zero, ← toList_madeCells_one, hG]
   simpa [Value.cells, hG] using hown1
  ·exact (Below.refl _ _).grown hgrow1 (by omega) (fun k hk => by cases hk)
 rw [← hG]
 clear hown1 hgrow1 hG x0 x1 y0 y1 y2 y3
 have HB3 : Hid (∀ W, Below G w2 W → Below w1.heap.size w1 W) := fun W h => HB2.out.trans (h.mono (by rw [HG.out]; exact HB2.out.size))
 obtain ⟨⟨x0, x1⟩, ⟨y0, y1, y2, y3⟩⟩ := HX.out w3 (HB3.out _ HO.out.2)
 go_wp2
 go_loopw [24] (fun i wr => ∃ k : Nat, k ≤ m ∧ i = .int .i64 k ∧ wr.ownsRow G 4 1 (.slice (some ⟨G, 0, none⟩) m m) m (fill f (.bool false) m k) ∧ Below G w2 wr ∧ (0 < k → ok = true)) (fun i _ => m - (intOf i).toNat)
 case atStart => exact ⟨0, Nat.zero_le _, rfl, HO.out.1, HO.out.2, fun h => by omega⟩
 case round =>
  clear x0 x1 y0 y1 y2 y3
  obtain ⟨k, hk, rfl, hown, hbel, hkok⟩ := hrel
  have HB := hide hbel
  have HOW := hide hown
  clear hbel hown
  obtain ⟨⟨x0, x1⟩, ⟨y0, y1, y2, y3⟩⟩ := HX.out wr (HB3.out _ HB.out)
  by_cases hlt : k < m
  ·obtain ⟨x, hx⟩ : ∃ x, ats[k]? = some x := ⟨_, List.getElem?_eq_getElem (by have := HM.out; omega)⟩
   have HXm : Hid (x ∈ ats ∧ f k = .bool (Hd x)) := by
    refine ⟨List.mem_of_getElem? hx, ?_⟩
    rw [HF.out]; simp [hx]
   rcases HA.out.below (HB3.out _ HB.out) with ⟨_, _, _, hn0⟩ | ⟨B, off, cap, hv, hb, _, _, hatm⟩
   ·have := HM.out; rw [hn0] at this; simp at this; omega
   obtain rfl : ao = some ⟨B, off, none⟩ := by cases hv; rfl
   obtain ⟨vs, vt, c0, c1, c2, c3, r1, r2⟩ := hatm k x hx
   obtain ⟨sao, scap, rfl, _⟩ := r1.slice
   obtain ⟨tao, tcap, rfl, _⟩ := r2.slice
   clear hv hatm
   obtain ⟨w4, hw4⟩ := nm (wr.alloc (.cells #[.int .i64 x.k, .slice sao x.s.length scap, .slice tao x.t.length tcap, .int .i64 x.n] 71))
   have HB4 : Hid (Below wr.heap.size wr w4) := by unfold Hid; rw [hw4]; exact below_alloc1 wr _
   have HGr : Hid (G < wr.heap.size) := (ownsRow_block HOW.out).2.1
   have HBw : Hid (∀ W, Below wr.heap.size wr W → Below G w2 W) := fun W h => HB.out.trans (h.mono (by have := HGr.out; omega))
   have HCa : Hid (Calls Tryz.prog 155 #[.agg #[.int .i64 x.k, .slice sao x.s.length scap, .slice tao x.t.length tcap, .int .i64 x.n], .agg #[.int .i64 u, .int .i64 a, .int .i64 b, .int .i64 d]] w4 (Bk w4 (.tuple #[.bool (if ok = true then Hd x else false), if ok = true then .nilIface else .iface 91 (.int .i64 1)]))) :=
    HH'.out x _ _ w4 HXm.out.1 (r1.below HB4.out) (r2.below HB4.out) (HB3.out _ (HBw.out _ HB4.out))
   clear r1 r2 x0 x1 y0 y1 y2 y3
   obtain ⟨⟨x0, x1⟩, ⟨y0, y1, y2, y3⟩⟩ := HX.out w4 (HB3.out _ (HBw.out _ HB4.out))
   rw [hw4] at x0 x1 y0 y1 y2 y3
   go_wp2_with fail
   rw [← hw4]
   clear hw4 x0 x1 y0 y1 y2 y3
   go_at_call 155
   refine HCa.out.mono ?_
   rintro e w5 ⟨rfl, hb5⟩
   have HB5 := hide (HB4.out.trans (hb5.mono HB4.out.size))
   clear hb5 HCa
   cases ok
   ·simp only [Bool.false_eq_true, if_false]
    go_wp2
    go_ret2
    exact ⟨by simp, HB1.out.trans ((HB3.out _ (HBw.out _ HB5.out)).mono HB1.out.size)⟩
   ·simp only [if_true]
    have hown5 := ownsRow_below HOW.out HB5.out
    have hfr : w5.frozen? ⟨G, k, none⟩ = false := hown5.frozenAt k
    have hcg : w5.cell? ⟨G, k, none⟩ = some (.bool false) := by rw [hown5.cellAt k (by omega), fill_get _ _ _ _ _ hlt, if_neg (by omega)]
    have HR : Hid ((w5.setCell ⟨G, k, none⟩ (.bool (Hd x))).ownsRow G 4 1 (.slice (some ⟨G, 0, none⟩) m m) m (fill f (.bool false) m (k + 1)) ∧ Below G w2 (w5.setCell ⟨G, k, none⟩ (.bool (Hd x)))) := by
     have := hown5.stored k (f k)
     rw [fill_set, HXm.out.2] at this
     exact ⟨this.1, (HBw.out _ HB5.out).setCell (Nat.le_refl _) _⟩
    clear hown5
    go_wp2
    go_roundw
    case rel => exact ⟨k + 1, by omega, by go_num, HR.out.1, HR.out.2, fun _ => by first | rfl | trivial⟩
    case measure => simp [intOf]; omega
  ·have hok : ok = true := hkok (by omega)
   subst hok
   have HRb : Hid (ReadsB wr G 0 (ats.map Hd)) := by
    refine ⟨(ownsRow_block HOW.out).2.1, fun j hj => ?_⟩
    have hj' : j < m := by rw [HM.out]; simpa using hj
    rw [Nat.zero_add, HOW.out.cellAt j (by omega), fill_get _ _ _ _ _ hj', if_pos (by omega), HF.out]
   have HCw := HWk.out G wr rfl (HB3.out _ HB.out) HRb.out
   go_wp2_with (go_at_call 156; refine HCw.mono ?_; rintro e w' ⟨rfl, hb⟩)
   go_ret2
   exact ⟨by simp, HB1.out.trans ((HB3.out _ (HB.out.trans (hb.mono (by have := (ownsRow_block HOW.out).2.1; omega)))).mono HB1.out.size)⟩
theorem fholds_any (va vc : Value) (ats : List At) (c : List Int) (u a b d : Int) (w : World) (hA : ReadsA w va ats) (hC : Reads w vc c) (hK : KindsLaid w) :
    Calls Tryz.prog 122 #[.agg #[va, vc], .agg #[.int .i64 u, .int .i64 a, .int .i64 b, .int .i64 d]] w (Bk w (.tuple #[.bool ((Wd.mk u a b d).formIs ats c), errV ((Wd.mk u a b d).formFault ats c)])) := by
 by_cases hf : formFault ats c = 0
 ·obtain ⟨ao, acap, rfl, _⟩ := hA.slice
  obtain ⟨co, ccap, rfl, _⟩ := hC.slice
  have := fholds_right ao co acap ccap ats c u a b d w hA hC hK hf _ rfl
  by_cases ho : (Wd.mk u a b d).ok = true
  ·have e0 : (Wd.mk u a b d).formFault ats c = 0 := wdForm_zero.2 ⟨hf, ho⟩
   have e1 : (Wd.mk u a b d).formIs ats c = valF ((Wd.mk u a b d).heldL ats) c := by unfold Wd.formIs; rw [if_pos e0]
   rw [e0, e1, errV_0]
   exact this.mono fun e w' h => ⟨by have := h.1; rw [if_pos ho] at this; exact this, h.2⟩
  ·have e0 : (Wd.mk u a b d).formFault ats c = 1 := by unfold Wd.formFault; rw [if_pos hf, if_neg ho]
   have e1 : (Wd.mk u a b d).formIs ats c = false := by unfold Wd.formIs; rw [e0]; rfl
   rw [e0, e1]
   exact this.mono fun e w' h => ⟨by have := h.1; rw [if_neg ho] at this; exact this, h.2⟩
 ·have e0 : (Wd.mk u a b d).formFault ats c = formFault ats c := by unfold Wd.formFault; rw [if_neg hf]
  have e1 : (Wd.mk u a b d).formIs ats c = false := by unfold Wd.formIs; rw [e0, if_neg hf]
  rw [e0, e1, errV_no hf]
  exact fholds_bad va vc ats c u a b d w hA hC hK hf
end Go.Proofs.YtnoohlibgaeklaaGreatDoor