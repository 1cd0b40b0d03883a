/-
  Facts and contracts that the statement leans on.
-/
import Derived.Test.YtjmeakkmfeoigaaGreatDoorLibT16
import Derived.Test.YtjmeakkmfeoigaaGreatDoorLibT7
import Derived.Test.YtjmeakkmfeoigaaGreatDoorLibT13
import Derived.Test.YtjmeakkmfeoigaaGreatDoorLibT8
import Derived.Test.YtjmeakkmfeoigaaGreatDoorLibT6
import Derived.Deep.RegionHeld3
import Derived.Deep.AppendLies
namespace Go.Proofs.YtjmeakkmfeoigaaGreatDoor
open Go.ChangeShapes Go.WideShapes Go.ChangeAt Go.RowKit
set_option maxRecDepth 100000
theorem infoL : (Tryz.prog.info? 94).map (fun i => (i.zero, i.size, i.bytes)) = some (some (.slice none 0 0), 1, 24) := by kernel_rfl
def Own3 (K : Nat) (w : World) (v : Value) (P : List (List (List Int))) : Prop :=
 ∃ xs : List Value, w.ownsRow K 94 1 v P.length xs ∧ ∀ (k : Nat) L, P[k]? = some L → ∃ u, xs[k]? = some u ∧ RS2 (fun b => K ≤ b ∧ some b ≠ v.ownBlock) w u L
theorem Own3.nil (K : Nat) (w : World) : Own3 K w (.slice none 0 0) [] := ⟨[], World.ownsRow_nil _ _ _ _, fun k t h => (by simp at h)⟩
theorem Own3.push {K : Nat} {w w' : World} {v u : Value} {P : List (List (List Int))} {L : List (List Int)} {xs : List Value} {g cap : Nat} (hl : xs.length = P.length)
    (hx : ∀ (k : Nat) t, P[k]? = some t → ∃ u, xs[k]? = some u ∧ RS2 (fun b => K ≤ b ∧ some b ≠ v.ownBlock) w u t) (hu : RS2 (fun b => K ≤ b ∧ some b ≠ v.ownBlock) w u L)
    (hown : w'.ownsRow K 94 1 (.slice (some ⟨g, 0, none⟩) (P.length + 1) cap) (P.length + 1) (xs ++ [u])) (hg : w.grownBy w' v.ownBlock) (hat : v.ownBlock = some g ∨ g = w.heap.size) :
    Own3 K w' (.slice (some ⟨g, 0, none⟩) (P.length + 1) cap) (P ++ [L]) := by
 have key : ∀ x s, RS2 (fun b => K ≤ b ∧ some b ≠ v.ownBlock) w x s → RS2 (fun b => K ≤ b ∧ some b ≠ (Value.slice (some ⟨g, 0, none⟩) (P.length + 1) cap).ownBlock) w' x s := by
  intro x s hxs
  have h1 : RS2 (fun b => (K ≤ b ∧ some b ≠ v.ownBlock) ∧ some b ≠ (Value.slice (some ⟨g, 0, none⟩) (P.length + 1) cap).ownBlock) w x s := hxs.mono fun b hb h => ⟨h, by
   show some b ≠ some g
   rcases hat with e | e
   ·rw [← e]; exact h.2
   ·intro e2; rw [Option.some.inj e2, e] at hb; omega⟩
  have h2 := h1.kept (Kept.of_grown hg fun b hb => hb.1.2)
  exact h2.mono fun b _ hb => ⟨hb.1.1, hb.2⟩
 refine ⟨xs ++ [u], by rw [List.length_append]; exact hown, fun k s hk => ?_⟩
 by_cases hlt : k < P.length
 ·rw [List.getElem?_append_left hlt] at hk
  obtain ⟨x, hx1, hx2⟩ := hx k s hk
  exact ⟨x, by rw [List.getElem?_append_left (by omega)]; exact hx1, key _ _ hx2⟩
 ·rw [List.getElem?_append_right (by omega)] at hk
  have e : k - P.length = 0 := by
   have := (List.getElem?_eq_some_iff.1 hk).1; simp at this; omega
  rw [e] at hk
  simp at hk; subst hk
  exact ⟨u, by rw [List.getElem?_append_right (by omega), hl, e]; rfl, key _ _ hu⟩
theorem stepC_leaf (p : List (List (List Int))) {s : Int} (h : takesF s = 0) : stepC p s = some (p ++ [[[s + 1]]]) := by
 have h4 := takesF_leaf h
 unfold stepC restC
 rw [h]
 simp [madeC, h4.1, h4.2.1, h4.2.2.1, h4.2.2.2]
theorem drop_one (p : List (List (List Int))) {r : Nat} (h : p.length = r + 1) : p.drop r = [p.getD r []] := by
 rw [List.drop_eq_getElem_cons (by omega), List.drop_eq_nil_of_le (by omega)]
 simp [List.getElem?_eq_getElem (show r < p.length by omega)]
theorem drop_two (p : List (List (List Int))) {r : Nat} (h : p.length = r + 2) : p.drop r = [p.getD r [], p.getD (r + 1) []] := by
 rw [List.drop_eq_getElem_cons (by omega), List.drop_eq_getElem_cons (by omega), List.drop_eq_nil_of_le (by omega)]
 simp [List.getElem?_eq_getElem (show r < p.length by omega), List.getElem?_eq_getElem (show r + 1 < p.length by omega)]
theorem stepC_one (p : List (List (List Int))) {r : Nat} (h : p.length = r + 1) : stepC p 12 = (madeC 12 [p.getD r []]).map (fun x => p.take r ++ [x]) := by
 unfold stepC restC
 rw [show takesF 12 = 1 from rfl, show p.length - (1 : Int).toNat = r by simp; omega, drop_one p h]
theorem stepC_two (p : List (List (List Int))) {s : Int} (hs : takesF s = 2) {r : Nat} (h : p.length = r + 2) : stepC p s = (madeC s [p.getD r [], p.getD (r + 1) []]).map (fun x => p.take r ++ [x]) := by
 unfold stepC restC
 rw [hs, show p.length - (2 : Int).toNat = r by simp; omega, drop_two p h]
theorem take_get {xs : List Value} {P : List (List (List Int))} {w : World} {T : Nat → Prop} (h : ∀ (k : Nat) L, P[k]? = some L → ∃ u, xs[k]? = some u ∧ RS2 T w u L) (r : Nat) : ∀ (k : Nat) L, (P.take r)[k]? = some L → ∃ u, (xs.take r)[k]? = some u ∧ RS2 T w u L := fun k L hk => by
 rw [List.getElem?_take] at hk ⊢
 split at hk
 ·rename_i hlt
  rw [if_pos hlt]; exact h k L hk
 ·cases hk
set_option maxHeartbeats 16000000 in
theorem of_good (va vc : Value) (ats : List At) (c : List Int) (w : World) (hA : ReadsA w va ats) (hC : Reads w vc c) (hK : KindsLaid w) (hf : formFault ats c = 0) :
    Calls Tryz.prog 52 #[.agg #[va, vc]] w fun e w' => OutC (fun _ => False) w.heap.size w' e (cubesC c) ∧ Below w.heap.size w w' := by
 obtain ⟨i0, hi, hz0, hz1, hz2⟩ := info_parts infoL
 obtain ⟨⟨_, h6⟩, ⟨hn1, hn20⟩, _, hsg0, hone⟩ := formFault_zero.1 hf
 obtain ⟨ao, acap, rfl, _⟩ := hA.slice
 obtain ⟨co, ccap, rfl, _⟩ := hC.slice
 obtain ⟨w1, hw1⟩ := nm (w.alloc (.cells #[.slice ao ats.length acap, .slice co c.length ccap] 39))
 have HB1 : Hid (Below w.heap.size w w1 ∧ w1.heap.size = w.heap.size + 1) := by unfold Hid; rw [hw1]; exact ⟨below_alloc1 _ _, by simp⟩
 have HX : Hid (∀ W, Below w1.heap.size w1 W → W.cell? ⟨w.heap.size, 0, none⟩ = some (.slice ao ats.length acap) ∧ W.cell? ⟨w.heap.size, 1, none⟩ = some (.slice co c.length ccap)) := fun W hW => by
  have e : ∀ j, W.cell? ⟨w.heap.size, j, none⟩ = w1.cell? ⟨w.heap.size, j, none⟩ := fun j => hW.cell (show (⟨w.heap.size, j, none⟩ : Addr).block < _ by have := HB1.out.2; simp; omega)
  rw [e, e, hw1]; simp
 have HCk : Hid (Calls Tryz.prog 14 #[.agg #[.slice ao ats.length acap, .slice co c.length ccap]] w1 (Bk w1 .nilIface)) := by
  have := fcheck_any _ _ ats c w1 (hA.below HB1.out.1) (hC.below HB1.out.1) (hK.below HB1.out.1)
  rw [hf, errV_0] at this; exact this
 obtain ⟨K, hKe⟩ := nm w1.heap.size
 have HKe : Hid (K = w1.heap.size ∧ w.heap.size ≤ K) := ⟨hKe, by have := HB1.out.2; omega⟩
 have HCc : Hid (∀ W, Below K w1 W → ∀ k, k < c.length → ∃ b off, co = some ⟨b, off, none⟩ ∧ W.cell? ⟨b, off + k, none⟩ = some (.int .i64 (c.getD k 0))) := fun W hW k hk => by
  rcases hC with ⟨_, _, hv, e⟩ | ⟨b, off, cap, hv, hB, _, _, hcs⟩
  ·rw [e] at hk; simp at hk
  ·cases hv
   refine ⟨b, off, rfl, ?_⟩
   rw [hW.cell (show (⟨b, off + k, none⟩ : Addr).block < _ by have := HKe.out.2; simp; omega), HB1.out.1.cell hB]
   exact hcs k hk
 have HSg : Hid (∀ k, k < c.length → takesF (c.getD k 0) ≠ 0 ∨ (0 ≤ c.getD k 0 ∧ c.getD k 0 < ats.length)) := fun k hk => signF_iff.1 (List.all_eq_true.1 hsg0 _ (by rw [List.getD_eq_getElem?_getD, List.getElem?_eq_getElem hk]; exact List.getElem_mem hk))
 have HCn : Hid (∀ k p, k ≤ c.length → pileC (c.take k) [] = some p → cntF (c.take k) 0 = some (p.length : Int)) := fun k p hk hp => by
  obtain ⟨j, hj⟩ := cntF_take_some c k hone
  have := pileC_length (c.take k) [] p hj hp
  rw [this]; exact hj
 have HOne := hide hone
 have HOk : Hid (∀ k p, pileC (c.take k) [] = some p → okP ats.length p) := fun k p hp => (pile_ok [] h6 (c.take k) [] p (by
  rw [List.all_eq_true] at hsg0 ⊢
  exact fun x hx => hsg0 x (List.mem_of_mem_take hx)) (fun L hL => by cases hL) hp).1
 have hm6 : ats.length ≤ 6 := h6
 clear hA hC hK hf hsg0 hone h6
 obtain ⟨m, hm⟩ := nm ats.length
 obtain ⟨n, hn⟩ := nm c.length
 rw [← hm] at HX hw1 HCk HSg HOk hm6 ⊢
 rw [← hn] at HX hw1 HCk HSg HCn HCc hn1 hn20 ⊢
 have HN := hide hn
 clear hm hn
 obtain ⟨x0, x1⟩ := HX.out w1 (Below.refl _ _)
 rw [hw1] at x0 x1
 go_enter Tryz.func52, Tryz.ntmps52
 go_wp2_with fail
 rw [← hw1]
 clear hw1 x0 x1
 go_at_call 14
 refine HCk.out.mono ?_
 rintro e w2 ⟨rfl, hb⟩
 have HB2 : Hid (Below K w1 w2 ∧ K ≤ w2.heap.size) := by rw [HKe.out.1]; exact ⟨hb, hb.size⟩
 clear hb HCk
 obtain ⟨x0, x1⟩ := HX.out w2 (by rw [← HKe.out.1]; exact HB2.out.1)
 clear hKe
 go_wp2_with fail
 clear x0 x1
 go_loopw [5, 7, 8, 9, 10, 19] (fun v _ _ _ _ i wr => ∃ (k : Nat) (p : List (List (List Int))), k ≤ n ∧ i = .int .i64 k ∧ pileC (c.take k) [] = some p ∧ Own3 K wr v p ∧ Below K w1 wr ∧ K ≤ wr.heap.size) (fun _ _ _ _ _ i _ => n - (intOf i).toNat)
 case atStart => exact ⟨0, [], Nat.zero_le _, rfl, rfl, Own3.nil _ _, HB2.out.1, HB2.out.2⟩
 case round =>
  obtain ⟨k, p, hk, rfl, hp, hown0, hbel, hKw⟩ := hrel
  have HI : Hid (pileC (c.take k) [] = some p ∧ Own3 K wr u5 p ∧ Below K w1 wr ∧ K ≤ wr.heap.size) := ⟨hp, hown0, hbel, hKw⟩
  have hcn := HCn.out k p hk hp
  have HPo := hide (HOk.out k p hp)
  by_cases hlt : k < n
  ·have hkc : k < c.length := by rw [← HN.out]; exact hlt
   obtain ⟨b, off, rfl, hcell⟩ := HCc.out wr hbel k hlt
   have hsg := HSg.out k hlt
   have htk : takesF (c.getD k 0) ≤ p.length := by
    have h1 := cntF_take_succ c hkc hcn
    obtain ⟨j, hj⟩ := cntF_take_some c (k + 1) HOne.out
    by_cases h2 : (p.length : Int) < takesF (c.getD k 0)
    ·rw [if_pos h2] at h1; rw [h1] at hj; cases hj
    ·omega
   have HS : Hid (pileC (c.take (k + 1)) [] = stepC p (c.getD k 0)) := by
    unfold Hid
    rw [pileC_succ c [] hkc, hp]; rfl
   have hpl : p.length ≤ 20 := by
    have := (cntF_nonneg (Int.le_refl 0) hcn).2
    simp at this; omega
   have hltz : (k : Int) < (n : Int) := by omega
   have HKC := hide hkc
   obtain ⟨s, hs⟩ := nm (c.getD k 0)
   rw [← hs] at hcell hsg htk HS
   clear hs hkc hcn hp hbel hKw
   obtain ⟨xs, hrow, hxs⟩ := hown0
   have hxl : xs.length = p.length := by have := hrow.1; simpa using this
   have HXS := hide hxs
   have HXL := hide hxl
   clear hxs hxl
   by_cases h4 : takesF s = 0
   ·have hsr : 0 ≤ s ∧ s < m := hsg.resolve_left (by simp [h4])
    have HT : Hid (∀ W, Calls Tryz.prog 38 #[.int .i64 s] W (Sk W (.int .i64 0))) := fun W => by
     have := ftakes_any s W
     rw [h4] at this; exact this
    obtain ⟨L, hL⟩ : ∃ L : List (List Int), L = [[s + 1]] := ⟨_, rfl⟩
    have HSt : Hid (pileC (c.take (k + 1)) [] = some (p ++ [L])) := by unfold Hid; rw [HS.out, stepC_leaf p h4, hL]
    have HMs : Hid (∀ v, Calls Tryz.prog 83 #[.int .i64 s, v] wr fun e w' => ∃ oo ol oc, e = .returned (.tuple #[.slice oo ol oc, .nilIface]) ∧ RS2 (fun b => (K ≤ b ∧ some b ≠ u5.ownBlock) ∨ wr.heap.size ≤ b) w' (.slice oo ol oc) L ∧ Below wr.heap.size wr w') := fun v => by
     refine out_some (S := fun b => K ≤ b ∧ some b ≠ u5.ownBlock) (c := madeC s []) ?_ (fun W _ => cmade_leaf (fun b => K ≤ b ∧ some b ≠ u5.ownBlock) s hsr.1 (by omega) v W) wr (Below.refl _ _)
     have h4' := takesF_leaf h4
     rw [hL]
     simp [madeC, h4'.1, h4'.2.1, h4'.2.2.1, h4'.2.2.2]
    have HXR : Hid (∀ (j : Nat) t, p[j]? = some t → ∃ u, xs[j]? = some u ∧ RS2 (fun b => K ≤ b ∧ some b ≠ u5.ownBlock) wr u t) := HXS.out
    have HXr : Hid (xs.length = p.length) := HXL.out
    clear hL htk hsg h4 HS
    rcases hrow.2 with ⟨rfl, hp0⟩ | ⟨g, cap', cur, rfl, hg, hh, hmc, hmax, _, _⟩
    ·have HLr := hide (hp0.symm)
     rw [hp0] at hrow
     have HRW := hide hrow
     clear hrow hp0
     go_wp2_with (first | (go_at_call 38; refine (HT.out _).mono ?_; rintro e w' ⟨rfl, rfl⟩))
     go_at_call 83
     refine (HMs.out _).mono ?_
     rintro e w3 ⟨oo, ol, oc, rfl, hr3, hb3⟩
     have HB3 : Hid (Below wr.heap.size wr w3 ∧ Below K w1 w3 ∧ K ≤ w3.heap.size) := ⟨hb3, HI.out.2.2.1.trans (hb3.mono HI.out.2.2.2), by have := hb3.size; have := HI.out.2.2.2; omega⟩
     have HR3 : Hid (RS2 (fun b => K ≤ b ∧ some b ≠ (Value.slice none 0 0).ownBlock) w3 (.slice oo ol oc) L) := hr3.mono fun b _ hb => by
      rcases hb with hb | hb
      ·exact hb
      ·refine ⟨Nat.le_trans HI.out.2.2.2 hb, fun e => ?_⟩
       have := (HRW.out.lt b e.symm).2
       omega
     clear hr3 hb3
     obtain ⟨w4, hw4⟩ := nm (w3.alloc (.cells #[.slice oo ol oc] 94))
     have HB4 : Hid (Below wr.heap.size wr w4 ∧ Below K w1 w4 ∧ (w4.heap.size = w3.heap.size + 1 ∧ K ≤ w4.heap.size)) := by
      have b : Below w3.heap.size w3 w4 := by rw [hw4]; exact below_alloc1 _ _
      exact ⟨HB3.out.1.trans (b.mono HB3.out.1.size), HB3.out.2.1.trans (b.mono HB3.out.2.2), by rw [hw4]; simp, by have := b.size; have := HB3.out.2.2; omega⟩
     have HR4 : Hid (RS2 (fun b => K ≤ b ∧ some b ≠ (Value.slice none 0 0).ownBlock) w4 (.slice oo ol oc) L) := HR3.out.kept (Kept.of_below (by rw [hw4]; exact below_alloc1 _ _))
     have HRW4 : Hid (w4.ownsRow K 94 1 (Value.slice none 0 0) 0 (xs)) := ownsRow_same HRW.out HB4.out.1.block
     have HX4 : Hid (∀ (j : Nat) t, (p)[j]? = some t → ∃ u, (xs)[j]? = some u ∧ RS2 (fun b => K ≤ b ∧ some b ≠ (Value.slice none 0 0).ownBlock) w4 u t) := fun j t hj => by
      obtain ⟨u, hu, hr⟩ := HXR.out j t hj
      exact ⟨u, hu, hr.kept (Kept.of_below HB4.out.1)⟩
     have hca : w4.cell? ((⟨w3.heap.size, 0, none⟩ : Addr).add 0) = some (.slice oo ol oc) := by rw [hw4]; simp [Addr.add]
     have HCa : Hid (∀ j u, ([Value.slice oo ol oc] : List Value)[j]? = some u → w4.cell? ((⟨w3.heap.size, 0, none⟩ : Addr).add j) = some u) := fun j u hu => by
      match j, hu with
      | 0, hu => simp at hu; subst hu; exact hca
     clear hca
     go_wp2_with (first | (at_builtin; rw [← hw4]; refine wpList_append_lies _ rfl (.tmp 41) (.tmp 43) 135 rfl K 94 i0 (.slice none 0 0) 1 24 Tryz.underlying135 hi hz0 hz1 hz2 rfl (by decide) (Value.slice none 0 0) 0 (xs) rfl HRW4.out ⟨w3.heap.size, 0, none⟩ 1 1 [.slice oo ol oc] rfl rfl HCa.out (by intro y hy; simp at hy; subst hy; rfl) (by decide) ?d3 ?d4 HB4.out.2.2.2 w4.heap.size rfl ?_))
     case d3 => unfold maxLen; omega
     case d4 => omega
     intro g5 cap5 w5 hown5 hgrow5 hat5 hlt5
     have HG5 : Hid (w4.grownBy w5 (Value.slice none 0 0).ownBlock) := by first | exact hgrow5 | (rw [hw4]; exact hgrow5)
     have HA5 : Hid ((Value.slice none 0 0).ownBlock = some g5 ∨ g5 = w4.heap.size) := by first | exact hat5 | (rw [HB4.out.2.2.1]; exact hat5)
     have HN5 : Hid (pileC (c.take (k + 1)) [] = some (p ++ [L]) ∧ Own3 K w5 (.slice (some ⟨g5, 0, none⟩) (0 + 1) cap5) (p ++ [L]) ∧ Below K w1 w5 ∧ K ≤ w5.heap.size) := by
      refine ⟨HSt.out, ?_, HB4.out.2.1.grown HG5.out HB4.out.2.2.2 (fun j hj => (HRW4.out.lt j hj).1), by have := HG5.out.size; have := HB4.out.2.2.2; omega⟩
      have e := HLr.out
      have h := Own3.push (P := p) (L := L) (g := g5) (cap := cap5) HXr.out HX4.out HR4.out (by rw [← e]; simpa using hown5) HG5.out HA5.out
      rw [← e] at h
      exact h
     clear hown5 hgrow5 hat5 hlt5 hw4
     go_wp2
     go_roundw
     case rel => exact ⟨k + 1, _, by omega, by go_num, HN5.out.1, HN5.out.2.1, HN5.out.2.2.1, HN5.out.2.2.2⟩
     case measure => simp [intOf]; omega
    ·obtain ⟨q, hq⟩ := nm p.length
     have HLr := hide hq
     rw [← hq] at hrow hpl hmc ⊢
     rw [← hq] at HMs HXR
     have HRW := hide hrow
     clear hrow hq hh
     by_cases hcap : cap' = q
     ·subst hcap
      go_wp2_with (first | (go_at_call 38; refine (HT.out _).mono ?_; rintro e w' ⟨rfl, rfl⟩))
      go_at_call 83
      refine (HMs.out _).mono ?_
      rintro e w3 ⟨oo, ol, oc, rfl, hr3, hb3⟩
      have HB3 : Hid (Below wr.heap.size wr w3 ∧ Below K w1 w3 ∧ K ≤ w3.heap.size) := ⟨hb3, HI.out.2.2.1.trans (hb3.mono HI.out.2.2.2), by have := hb3.size; have := HI.out.2.2.2; omega⟩
      have HR3 : Hid (RS2 (fun b => K ≤ b ∧ some b ≠ (Value.slice (some ⟨g, 0, none⟩) cap' cap').ownBlock) w3 (.slice oo ol oc) L) := hr3.mono fun b _ hb => by
       rcases hb with hb | hb
       ·exact hb
       ·refine ⟨Nat.le_trans HI.out.2.2.2 hb, fun e => ?_⟩
        have := (HRW.out.lt b e.symm).2
        omega
      clear hr3 hb3
      obtain ⟨w4, hw4⟩ := nm (w3.alloc (.cells #[.slice oo ol oc] 94))
      have HB4 : Hid (Below wr.heap.size wr w4 ∧ Below K w1 w4 ∧ (w4.heap.size = w3.heap.size + 1 ∧ K ≤ w4.heap.size)) := by
       have b : Below w3.heap.size w3 w4 := by rw [hw4]; exact below_alloc1 _ _
       exact ⟨HB3.out.1.trans (b.mono HB3.out.1.size), HB3.out.2.1.trans (b.mono HB3.out.2.2), by rw [hw4]; simp, by have := b.size; have := HB3.out.2.2; omega⟩
      have HR4 : Hid (RS2 (fun b => K ≤ b ∧ some b ≠ (Value.slice (some ⟨g, 0, none⟩) cap' cap').ownBlock) w4 (.slice oo ol oc) L) := HR3.out.kept (Kept.of_below (by rw [hw4]; exact below_alloc1 _ _))
      have HRW4 : Hid (w4.ownsRow K 94 1 (Value.slice (some ⟨g, 0, none⟩) cap' cap') cap' (xs)) := ownsRow_same HRW.out HB4.out.1.block
      have HX4 : Hid (∀ (j : Nat) t, (p)[j]? = some t → ∃ u, (xs)[j]? = some u ∧ RS2 (fun b => K ≤ b ∧ some b ≠ (Value.slice (some ⟨g, 0, none⟩) cap' cap').ownBlock) w4 u t) := fun j t hj => by
       obtain ⟨u, hu, hr⟩ := HXR.out j t hj
       exact ⟨u, hu, hr.kept (Kept.of_below HB4.out.1)⟩
      have hca : w4.cell? ((⟨w3.heap.size, 0, none⟩ : Addr).add 0) = some (.slice oo ol oc) := by rw [hw4]; simp [Addr.add]
      have HCa : Hid (∀ j u, ([Value.slice oo ol oc] : List Value)[j]? = some u → w4.cell? ((⟨w3.heap.size, 0, none⟩ : Addr).add j) = some u) := fun j u hu => by
       match j, hu with
       | 0, hu => simp at hu; subst hu; exact hca
      clear hca
      go_wp2_with (first | (at_builtin; rw [← hw4]; refine wpList_append_lies _ rfl (.tmp 41) (.tmp 43) 135 rfl K 94 i0 (.slice none 0 0) 1 24 Tryz.underlying135 hi hz0 hz1 hz2 rfl (by decide) (Value.slice (some ⟨g, 0, none⟩) cap' cap') cap' (xs) rfl HRW4.out ⟨w3.heap.size, 0, none⟩ 1 1 [.slice oo ol oc] rfl rfl HCa.out (by intro y hy; simp at hy; subst hy; rfl) (by decide) ?d3 ?d4 HB4.out.2.2.2 w4.heap.size rfl ?_))
      case d3 => unfold maxLen; omega
      case d4 => omega
      intro g5 cap5 w5 hown5 hgrow5 hat5 hlt5
      have HG5 : Hid (w4.grownBy w5 (Value.slice (some ⟨g, 0, none⟩) cap' cap').ownBlock) := by first | exact hgrow5 | (rw [hw4]; exact hgrow5)
      have HA5 : Hid ((Value.slice (some ⟨g, 0, none⟩) cap' cap').ownBlock = some g5 ∨ g5 = w4.heap.size) := by first | exact hat5 | (rw [HB4.out.2.2.1]; exact hat5)
      have HN5 : Hid (pileC (c.take (k + 1)) [] = some (p ++ [L]) ∧ Own3 K w5 (.slice (some ⟨g5, 0, none⟩) (cap' + 1) cap5) (p ++ [L]) ∧ Below K w1 w5 ∧ K ≤ w5.heap.size) := by
       refine ⟨HSt.out, ?_, HB4.out.2.1.grown HG5.out HB4.out.2.2.2 (fun j hj => (HRW4.out.lt j hj).1), by have := HG5.out.size; have := HB4.out.2.2.2; omega⟩
       have e := HLr.out
       have h := Own3.push (P := p) (L := L) (g := g5) (cap := cap5) HXr.out HX4.out HR4.out (by rw [← e]; simpa using hown5) HG5.out HA5.out
       rw [← e] at h
       exact h
      clear hown5 hgrow5 hat5 hlt5 hw4
      go_wp2
      go_roundw
      case rel => exact ⟨k + 1, _, by omega, by go_num, HN5.out.1, HN5.out.2.1, HN5.out.2.2.1, HN5.out.2.2.2⟩
      case measure => simp [intOf]; omega
     ·go_wp2_with (first | (go_at_call 38; refine (HT.out _).mono ?_; rintro e w' ⟨rfl, rfl⟩))
      go_at_call 83
      refine (HMs.out _).mono ?_
      rintro e w3 ⟨oo, ol, oc, rfl, hr3, hb3⟩
      have HB3 : Hid (Below wr.heap.size wr w3 ∧ Below K w1 w3 ∧ K ≤ w3.heap.size) := ⟨hb3, HI.out.2.2.1.trans (hb3.mono HI.out.2.2.2), by have := hb3.size; have := HI.out.2.2.2; omega⟩
      have HR3 : Hid (RS2 (fun b => K ≤ b ∧ some b ≠ (Value.slice (some ⟨g, 0, none⟩) q cap').ownBlock) w3 (.slice oo ol oc) L) := hr3.mono fun b _ hb => by
       rcases hb with hb | hb
       ·exact hb
       ·refine ⟨Nat.le_trans HI.out.2.2.2 hb, fun e => ?_⟩
        have := (HRW.out.lt b e.symm).2
        omega
      clear hr3 hb3
      obtain ⟨w4, hw4⟩ := nm (w3.alloc (.cells #[.slice oo ol oc] 94))
      have HB4 : Hid (Below wr.heap.size wr w4 ∧ Below K w1 w4 ∧ (w4.heap.size = w3.heap.size + 1 ∧ K ≤ w4.heap.size)) := by
       have b : Below w3.heap.size w3 w4 := by rw [hw4]; exact below_alloc1 _ _
       exact ⟨HB3.out.1.trans (b.mono HB3.out.1.size), HB3.out.2.1.trans (b.mono HB3.out.2.2), by rw [hw4]; simp, by have := b.size; have := HB3.out.2.2; omega⟩
      have HR4 : Hid (RS2 (fun b => K ≤ b ∧ some b ≠ (Value.slice (some ⟨g, 0, none⟩) q cap').ownBlock) w4 (.slice oo ol oc) L) := HR3.out.kept (Kept.of_below (by rw [hw4]; exact below_alloc1 _ _))
      have HRW4 : Hid (w4.ownsRow K 94 1 (Value.slice (some ⟨g, 0, none⟩) q cap') q (xs)) := ownsRow_same HRW.out HB4.out.1.block
      have HX4 : Hid (∀ (j : Nat) t, (p)[j]? = some t → ∃ u, (xs)[j]? = some u ∧ RS2 (fun b => K ≤ b ∧ some b ≠ (Value.slice (some ⟨g, 0, none⟩) q cap').ownBlock) w4 u t) := fun j t hj => by
       obtain ⟨u, hu, hr⟩ := HXR.out j t hj
       exact ⟨u, hu, hr.kept (Kept.of_below HB4.out.1)⟩
      have hca : w4.cell? ((⟨w3.heap.size, 0, none⟩ : Addr).add 0) = some (.slice oo ol oc) := by rw [hw4]; simp [Addr.add]
      have HCa : Hid (∀ j u, ([Value.slice oo ol oc] : List Value)[j]? = some u → w4.cell? ((⟨w3.heap.size, 0, none⟩ : Addr).add j) = some u) := fun j u hu => by
       match j, hu with
       | 0, hu => simp at hu; subst hu; exact hca
      clear hca
      go_wp2_with (first | (at_builtin; rw [← hw4]; refine wpList_append_lies _ rfl (.tmp 41) (.tmp 43) 135 rfl K 94 i0 (.slice none 0 0) 1 24 Tryz.underlying135 hi hz0 hz1 hz2 rfl (by decide) (Value.slice (some ⟨g, 0, none⟩) q cap') q (xs) rfl HRW4.out ⟨w3.heap.size, 0, none⟩ 1 1 [.slice oo ol oc] rfl rfl HCa.out (by intro y hy; simp at hy; subst hy; rfl) (by decide) ?d3 ?d4 HB4.out.2.2.2 w4.heap.size rfl ?_))
      case d3 => unfold maxLen; omega
      case d4 => omega
      intro g5 cap5 w5 hown5 hgrow5 hat5 hlt5
      have HG5 : Hid (w4.grownBy w5 (Value.slice (some ⟨g, 0, none⟩) q cap').ownBlock) := by first | exact hgrow5 | (rw [hw4]; exact hgrow5)
      have HA5 : Hid ((Value.slice (some ⟨g, 0, none⟩) q cap').ownBlock = some g5 ∨ g5 = w4.heap.size) := by first | exact hat5 | (rw [HB4.out.2.2.1]; exact hat5)
      have HN5 : Hid (pileC (c.take (k + 1)) [] = some (p ++ [L]) ∧ Own3 K w5 (.slice (some ⟨g5, 0, none⟩) (q + 1) cap5) (p ++ [L]) ∧ Below K w1 w5 ∧ K ≤ w5.heap.size) := by
       refine ⟨HSt.out, ?_, HB4.out.2.1.grown HG5.out HB4.out.2.2.2 (fun j hj => (HRW4.out.lt j hj).1), by have := HG5.out.size; have := HB4.out.2.2.2; omega⟩
       have e := HLr.out
       have h := Own3.push (P := p) (L := L) (g := g5) (cap := cap5) HXr.out HX4.out HR4.out (by rw [← e]; simpa using hown5) HG5.out HA5.out
       rw [← e] at h
       exact h
      clear hown5 hgrow5 hat5 hlt5 hw4
      go_wp2
      go_roundw
      case rel => exact ⟨k + 1, _, by omega, by go_num, HN5.out.1, HN5.out.2.1, HN5.out.2.2.1, HN5.out.2.2.2⟩
      case measure => simp [intOf]; omega
   by_cases h8 : s = 12
   ·subst h8
    have HT : Hid (∀ W, Calls Tryz.prog 38 #[.int .i64 12] W (Sk W (.int .i64 1))) := fun W => ftakes_any 12 W
    rw [show takesF 12 = 1 from rfl] at htk
    rcases hrow.2 with ⟨rfl, hp0⟩ | ⟨g, cap', cur, rfl, hg, hh, hmc, hmax, _, _⟩
    ·omega
    ·obtain ⟨r, hr⟩ : ∃ r, p.length = r + 1 := ⟨p.length - 1, by omega⟩
     have cell : ∀ j, j < p.length → ∃ u, wr.cell? ⟨g, j, none⟩ = some u ∧ GoodC (fun b => K ≤ b ∧ some b ≠ some g) m wr u (p.getD j []) := fun j hj => by
      obtain ⟨u, hu, hr⟩ := HXS.out j _ (List.getElem?_eq_getElem hj)
      have hm := HPo.out _ (List.getElem_mem hj)
      refine ⟨u, by rw [hrow.cellAt j (by omega)]; exact hu, ?_⟩
      rw [List.getD_eq_getElem?_getD, List.getElem?_eq_getElem hj]
      exact ⟨hr, hm⟩
     obtain ⟨y0, hc0, hg0⟩ := cell r (by omega)
     have HM0 : Hid (Calls Tryz.prog 83 #[.int .i64 12, .slice (some ⟨g, r, none⟩) 1 (cap' - r)] wr fun e w' => OutC (fun b => K ≤ b ∧ some b ≠ some g) wr.heap.size w' e (madeC 12 [p.getD r []]) ∧ Below wr.heap.size wr w') := by
      exact cmade_12 (fun b => K ≤ b ∧ some b ≠ some g) m hm6 g r _ wr y0 _ hc0 hg0
     have HXR : Hid (∀ (j : Nat) t, (p.take r)[j]? = some t → ∃ u, (xs.take r)[j]? = some u ∧ RS2 (fun b => K ≤ b ∧ some b ≠ (Value.slice (some ⟨g, 0, none⟩) r cap').ownBlock) wr u t) := take_get HXS.out r
     have HXr : Hid ((xs.take r).length = (p.take r).length) := by have := HXL.out; unfold Hid; simp; omega
     have HLr : Hid (r = (p.take r).length) := by unfold Hid; simp; omega
     have HRW : Hid (wr.ownsRow K 94 1 (.slice (some ⟨g, 0, none⟩) r cap') r (xs.take r)) := ownsRow_take hrow (by omega)
     have HSr : Hid (pileC (c.take (k + 1)) [] = (madeC 12 [p.getD r []]).map (fun x => p.take r ++ [x])) := by unfold Hid; rw [HS.out, stepC_one p hr]
     have hcap : ¬ cap' = r := by omega
     have hcap2 : r < cap' := by omega
     have hcap3 : (r : Int) ≤ (cap' : Int) := by omega
     have hr0 : (0 : Int) ≤ (r : Int) := by omega
     have hle : (r : Int) ≤ (r : Int) + 1 := by omega
     obtain ⟨q, hq⟩ := nm p.length
     rw [← hq] at hmc hpl ⊢
     have hqr : q = r + 1 := by rw [hq]; exact hr
     subst hqr
     clear hrow hh hq hr htk hsg HS h4
     cases hmd : madeC 12 [p.getD r []] with
     | none =>
      have HMn : Hid (Calls Tryz.prog 83 #[.int .i64 12, .slice (some ⟨g, r, none⟩) 1 (cap' - r)] wr (Bk wr (.tuple #[.slice none 0 0, .iface 64 (.int .i64 4)]))) := by
       have h := HM0.out
       rw [hmd] at h
       exact h
      have HNo : Hid (cubesC c = none) := by
       have h := HSr.out
       rw [hmd] at h
       unfold Hid cubesC
       rw [pileC_none c [] (k + 1) h]; rfl
      clear hmd HM0
      go_wp2_with (first | (go_at_call 38; refine (HT.out _).mono ?_; rintro e w' ⟨rfl, rfl⟩))
      go_at_call 83
      refine HMn.out.mono ?_
      rintro e w3 ⟨rfl, hb3⟩
      have HB3 : Hid (Below w.heap.size w w3) := HB1.out.1.trans ((HI.out.2.2.1.trans (hb3.mono HI.out.2.2.2)).mono HKe.out.2)
      clear hb3
      go_wp2
      go_ret2
      refine ⟨?_, HB3.out⟩
      rw [HNo.out]; rfl
     | some L =>
      have HMs : Hid (Calls Tryz.prog 83 #[.int .i64 12, .slice (some ⟨g, r, none⟩) 1 (cap' - r)] wr fun e w' => ∃ oo ol oc, e = .returned (.tuple #[.slice oo ol oc, .nilIface]) ∧ RS2 (fun b => (K ≤ b ∧ some b ≠ some g) ∨ wr.heap.size ≤ b) w' (.slice oo ol oc) L ∧ Below wr.heap.size wr w') := by
       refine HM0.out.mono ?_
       rintro e w' ⟨he, hb⟩
       rw [hmd] at he
       obtain ⟨v, rfl, hr⟩ : ∃ v, e = .returned (.tuple #[v, .nilIface]) ∧ RS2 (fun b => (K ≤ b ∧ some b ≠ some g) ∨ wr.heap.size ≤ b) w' v L := he
       obtain ⟨oo, oc, rfl, _⟩ := hr.slice
       exact ⟨oo, _, oc, rfl, hr, hb⟩
      have HSt : Hid (pileC (c.take (k + 1)) [] = some (p.take r ++ [L])) := by
       have h := HSr.out
       rw [hmd] at h
       exact h
      clear hmd HM0
      go_wp2_with (first | (go_at_call 38; refine (HT.out _).mono ?_; rintro e w' ⟨rfl, rfl⟩))
      go_at_call 83
      refine HMs.out.mono ?_
      rintro e w3 ⟨oo, ol, oc, rfl, hr3, hb3⟩
      have HB3 : Hid (Below wr.heap.size wr w3 ∧ Below K w1 w3 ∧ K ≤ w3.heap.size) := ⟨hb3, HI.out.2.2.1.trans (hb3.mono HI.out.2.2.2), by have := hb3.size; have := HI.out.2.2.2; omega⟩
      have HR3 : Hid (RS2 (fun b => K ≤ b ∧ some b ≠ (Value.slice (some ⟨g, 0, none⟩) r cap').ownBlock) w3 (.slice oo ol oc) L) := hr3.mono fun b _ hb => by
       rcases hb with hb | hb
       ·exact hb
       ·refine ⟨Nat.le_trans HI.out.2.2.2 hb, fun e => ?_⟩
        have := (HRW.out.lt b e.symm).2
        omega
      clear hr3 hb3
      obtain ⟨w4, hw4⟩ := nm (w3.alloc (.cells #[.slice oo ol oc] 94))
      have HB4 : Hid (Below wr.heap.size wr w4 ∧ Below K w1 w4 ∧ (w4.heap.size = w3.heap.size + 1 ∧ K ≤ w4.heap.size)) := by
       have b : Below w3.heap.size w3 w4 := by rw [hw4]; exact below_alloc1 _ _
       exact ⟨HB3.out.1.trans (b.mono HB3.out.1.size), HB3.out.2.1.trans (b.mono HB3.out.2.2), by rw [hw4]; simp, by have := b.size; have := HB3.out.2.2; omega⟩
      have HR4 : Hid (RS2 (fun b => K ≤ b ∧ some b ≠ (Value.slice (some ⟨g, 0, none⟩) r cap').ownBlock) w4 (.slice oo ol oc) L) := HR3.out.kept (Kept.of_below (by rw [hw4]; exact below_alloc1 _ _))
      have HRW4 : Hid (w4.ownsRow K 94 1 (Value.slice (some ⟨g, 0, none⟩) r cap') r (xs.take r)) := ownsRow_same HRW.out HB4.out.1.block
      have HX4 : Hid (∀ (j : Nat) t, (p.take r)[j]? = some t → ∃ u, (xs.take r)[j]? = some u ∧ RS2 (fun b => K ≤ b ∧ some b ≠ (Value.slice (some ⟨g, 0, none⟩) r cap').ownBlock) w4 u t) := fun j t hj => by
       obtain ⟨u, hu, hr⟩ := HXR.out j t hj
       exact ⟨u, hu, hr.kept (Kept.of_below HB4.out.1)⟩
      have hca : w4.cell? ((⟨w3.heap.size, 0, none⟩ : Addr).add 0) = some (.slice oo ol oc) := by rw [hw4]; simp [Addr.add]
      have HCa : Hid (∀ j u, ([Value.slice oo ol oc] : List Value)[j]? = some u → w4.cell? ((⟨w3.heap.size, 0, none⟩ : Addr).add j) = some u) := fun j u hu => by
       match j, hu with
       | 0, hu => simp at hu; subst hu; exact hca
      clear hca
      go_wp2_with (first | (at_builtin; rw [← hw4]; refine wpList_append_lies _ rfl (.tmp 41) (.tmp 43) 135 rfl K 94 i0 (.slice none 0 0) 1 24 Tryz.underlying135 hi hz0 hz1 hz2 rfl (by decide) (Value.slice (some ⟨g, 0, none⟩) r cap') r (xs.take r) rfl HRW4.out ⟨w3.heap.size, 0, none⟩ 1 1 [.slice oo ol oc] rfl rfl HCa.out (by intro y hy; simp at hy; subst hy; rfl) (by decide) ?d3 ?d4 HB4.out.2.2.2 w4.heap.size rfl ?_))
      case d3 => unfold maxLen; omega
      case d4 => omega
      intro g5 cap5 w5 hown5 hgrow5 hat5 hlt5
      have HG5 : Hid (w4.grownBy w5 (Value.slice (some ⟨g, 0, none⟩) r cap').ownBlock) := by first | exact hgrow5 | (rw [hw4]; exact hgrow5)
      have HA5 : Hid ((Value.slice (some ⟨g, 0, none⟩) r cap').ownBlock = some g5 ∨ g5 = w4.heap.size) := by first | exact hat5 | (rw [HB4.out.2.2.1]; exact hat5)
      have HN5 : Hid (pileC (c.take (k + 1)) [] = some (p.take r ++ [L]) ∧ Own3 K w5 (.slice (some ⟨g5, 0, none⟩) (r + 1) cap5) (p.take r ++ [L]) ∧ Below K w1 w5 ∧ K ≤ w5.heap.size) := by
       refine ⟨HSt.out, ?_, HB4.out.2.1.grown HG5.out HB4.out.2.2.2 (fun j hj => (HRW4.out.lt j hj).1), by have := HG5.out.size; have := HB4.out.2.2.2; omega⟩
       have e := HLr.out
       have h := Own3.push (P := p.take r) (L := L) (g := g5) (cap := cap5) HXr.out HX4.out HR4.out (by rw [← e]; simpa using hown5) HG5.out HA5.out
       rw [← e] at h
       exact h
      clear hown5 hgrow5 hat5 hlt5 hw4
      go_wp2
      go_roundw
      case rel => exact ⟨k + 1, _, by omega, by go_num, HN5.out.1, HN5.out.2.1, HN5.out.2.2.1, HN5.out.2.2.2⟩
      case measure => simp [intOf]; omega
   ·have hs3 : s = 10 ∨ s = 11 ∨ s = 13 := by
     by_cases h3 : s = 10 ∨ s = 11 ∨ s = 13
     ·exact h3
     ·exact absurd (show takesF s = 0 by unfold takesF; rw [if_neg h3, if_neg h8]) h4
    have ht2 : takesF s = 2 := by unfold takesF; rw [if_pos hs3]
    have HT : Hid (∀ W, Calls Tryz.prog 38 #[.int .i64 s] W (Sk W (.int .i64 2))) := fun W => by
     have := ftakes_any s W
     rw [ht2] at this; exact this
    rw [ht2] at htk
    rcases hrow.2 with ⟨rfl, hp0⟩ | ⟨g, cap', cur, rfl, hg, hh, hmc, hmax, _, _⟩
    ·omega
    ·obtain ⟨r, hr⟩ : ∃ r, p.length = r + 2 := ⟨p.length - 2, by omega⟩
     have cell : ∀ j, j < p.length → ∃ u, wr.cell? ⟨g, j, none⟩ = some u ∧ GoodC (fun b => K ≤ b ∧ some b ≠ some g) m wr u (p.getD j []) := fun j hj => by
      obtain ⟨u, hu, hr⟩ := HXS.out j _ (List.getElem?_eq_getElem hj)
      have hm := HPo.out _ (List.getElem_mem hj)
      refine ⟨u, by rw [hrow.cellAt j (by omega)]; exact hu, ?_⟩
      rw [List.getD_eq_getElem?_getD, List.getElem?_eq_getElem hj]
      exact ⟨hr, hm⟩
     obtain ⟨y0, hc0, hg0⟩ := cell r (by omega)
     obtain ⟨y1, hc1, hg1⟩ := cell (r + 1) (by omega)
     have HM0 : Hid (Calls Tryz.prog 83 #[.int .i64 s, .slice (some ⟨g, r, none⟩) 2 (cap' - r)] wr fun e w' => OutC (fun b => K ≤ b ∧ some b ≠ some g) wr.heap.size w' e (madeC s [p.getD r [], p.getD (r + 1) []]) ∧ Below wr.heap.size wr w') := by
      rcases hs3 with rfl | rfl | rfl
      ·exact cmade_10 (fun b => K ≤ b ∧ some b ≠ some g) m hm6 g r _ wr y0 _ hc0 hg0 y1 _ hc1 hg1
      ·exact cmade_11 (fun b => K ≤ b ∧ some b ≠ some g) m hm6 g r _ wr y0 _ hc0 hg0 y1 _ hc1 hg1
      ·exact cmade_13 (fun b => K ≤ b ∧ some b ≠ some g) m hm6 g r _ wr y0 _ hc0 hg0 y1 _ hc1 hg1 (Array.getElem?_eq_some_iff.1 hh).1
     have HXR : Hid (∀ (j : Nat) t, (p.take r)[j]? = some t → ∃ u, (xs.take r)[j]? = some u ∧ RS2 (fun b => K ≤ b ∧ some b ≠ (Value.slice (some ⟨g, 0, none⟩) r cap').ownBlock) wr u t) := take_get HXS.out r
     have HXr : Hid ((xs.take r).length = (p.take r).length) := by have := HXL.out; unfold Hid; simp; omega
     have HLr : Hid (r = (p.take r).length) := by unfold Hid; simp; omega
     have HRW : Hid (wr.ownsRow K 94 1 (.slice (some ⟨g, 0, none⟩) r cap') r (xs.take r)) := ownsRow_take hrow (by omega)
     have HSr : Hid (pileC (c.take (k + 1)) [] = (madeC s [p.getD r [], p.getD (r + 1) []]).map (fun x => p.take r ++ [x])) := by unfold Hid; rw [HS.out, stepC_two p ht2 hr]
     have hcap : ¬ cap' = r := by omega
     have hcap2 : r < cap' := by omega
     have hcap3 : (r : Int) ≤ (cap' : Int) := by omega
     have hr0 : (0 : Int) ≤ (r : Int) := by omega
     have hle : (r : Int) ≤ (r : Int) + 2 := by omega
     obtain ⟨q, hq⟩ := nm p.length
     rw [← hq] at hmc hpl ⊢
     have hqr : q = r + 2 := by rw [hq]; exact hr
     subst hqr
     clear hrow hh hq hr htk hsg HS h4
     cases hmd : madeC s [p.getD r [], p.getD (r + 1) []] with
     | none =>
      have HMn : Hid (Calls Tryz.prog 83 #[.int .i64 s, .slice (some ⟨g, r, none⟩) 2 (cap' - r)] wr (Bk wr (.tuple #[.slice none 0 0, .iface 64 (.int .i64 4)]))) := by
       have h := HM0.out
       rw [hmd] at h
       exact h
      have HNo : Hid (cubesC c = none) := by
       have h := HSr.out
       rw [hmd] at h
       unfold Hid cubesC
       rw [pileC_none c [] (k + 1) h]; rfl
      clear hmd HM0
      go_wp2_with (first | (go_at_call 38; refine (HT.out _).mono ?_; rintro e w' ⟨rfl, rfl⟩))
      go_at_call 83
      refine HMn.out.mono ?_
      rintro e w3 ⟨rfl, hb3⟩
      have HB3 : Hid (Below w.heap.size w w3) := HB1.out.1.trans ((HI.out.2.2.1.trans (hb3.mono HI.out.2.2.2)).mono HKe.out.2)
      clear hb3
      go_wp2
      go_ret2
      refine ⟨?_, HB3.out⟩
      rw [HNo.out]; rfl
     | some L =>
      have HMs : Hid (Calls Tryz.prog 83 #[.int .i64 s, .slice (some ⟨g, r, none⟩) 2 (cap' - r)] wr fun e w' => ∃ oo ol oc, e = .returned (.tuple #[.slice oo ol oc, .nilIface]) ∧ RS2 (fun b => (K ≤ b ∧ some b ≠ some g) ∨ wr.heap.size ≤ b) w' (.slice oo ol oc) L ∧ Below wr.heap.size wr w') := by
       refine HM0.out.mono ?_
       rintro e w' ⟨he, hb⟩
       rw [hmd] at he
       obtain ⟨v, rfl, hr⟩ : ∃ v, e = .returned (.tuple #[v, .nilIface]) ∧ RS2 (fun b => (K ≤ b ∧ some b ≠ some g) ∨ wr.heap.size ≤ b) w' v L := he
       obtain ⟨oo, oc, rfl, _⟩ := hr.slice
       exact ⟨oo, _, oc, rfl, hr, hb⟩
      have HSt : Hid (pileC (c.take (k + 1)) [] = some (p.take r ++ [L])) := by
       have h := HSr.out
       rw [hmd] at h
       exact h
      clear hmd HM0
      go_wp2_with (first | (go_at_call 38; refine (HT.out _).mono ?_; rintro e w' ⟨rfl, rfl⟩))
      go_at_call 83
      refine HMs.out.mono ?_
      rintro e w3 ⟨oo, ol, oc, rfl, hr3, hb3⟩
      have HB3 : Hid (Below wr.heap.size wr w3 ∧ Below K w1 w3 ∧ K ≤ w3.heap.size) := ⟨hb3, HI.out.2.2.1.trans (hb3.mono HI.out.2.2.2), by have := hb3.size; have := HI.out.2.2.2; omega⟩
      have HR3 : Hid (RS2 (fun b => K ≤ b ∧ some b ≠ (Value.slice (some ⟨g, 0, none⟩) r cap').ownBlock) w3 (.slice oo ol oc) L) := hr3.mono fun b _ hb => by
       rcases hb with hb | hb
       ·exact hb
       ·refine ⟨Nat.le_trans HI.out.2.2.2 hb, fun e => ?_⟩
        have := (HRW.out.lt b e.symm).2
        omega
      clear hr3 hb3
      obtain ⟨w4, hw4⟩ := nm (w3.alloc (.cells #[.slice oo ol oc] 94))
      have HB4 : Hid (Below wr.heap.size wr w4 ∧ Below K w1 w4 ∧ (w4.heap.size = w3.heap.size + 1 ∧ K ≤ w4.heap.size)) := by
       have b : Below w3.heap.size w3 w4 := by rw [hw4]; exact below_alloc1 _ _
       exact ⟨HB3.out.1.trans (b.mono HB3.out.1.size), HB3.out.2.1.trans (b.mono HB3.out.2.2), by rw [hw4]; simp, by have := b.size; have := HB3.out.2.2; omega⟩
      have HR4 : Hid (RS2 (fun b => K ≤ b ∧ some b ≠ (Value.slice (some ⟨g, 0, none⟩) r cap').ownBlock) w4 (.slice oo ol oc) L) := HR3.out.kept (Kept.of_below (by rw [hw4]; exact below_alloc1 _ _))
      have HRW4 : Hid (w4.ownsRow K 94 1 (Value.slice (some ⟨g, 0, none⟩) r cap') r (xs.take r)) := ownsRow_same HRW.out HB4.out.1.block
      have HX4 : Hid (∀ (j : Nat) t, (p.take r)[j]? = some t → ∃ u, (xs.take r)[j]? = some u ∧ RS2 (fun b => K ≤ b ∧ some b ≠ (Value.slice (some ⟨g, 0, none⟩) r cap').ownBlock) w4 u t) := fun j t hj => by
       obtain ⟨u, hu, hr⟩ := HXR.out j t hj
       exact ⟨u, hu, hr.kept (Kept.of_below HB4.out.1)⟩
      have hca : w4.cell? ((⟨w3.heap.size, 0, none⟩ : Addr).add 0) = some (.slice oo ol oc) := by rw [hw4]; simp [Addr.add]
      have HCa : Hid (∀ j u, ([Value.slice oo ol oc] : List Value)[j]? = some u → w4.cell? ((⟨w3.heap.size, 0, none⟩ : Addr).add j) = some u) := fun j u hu => by
       match j, hu with
       | 0, hu => simp at hu; subst hu; exact hca
      clear hca
      go_wp2_with (first | (at_builtin; rw [← hw4]; refine wpList_append_lies _ rfl (.tmp 41) (.tmp 43) 135 rfl K 94 i0 (.slice none 0 0) 1 24 Tryz.underlying135 hi hz0 hz1 hz2 rfl (by decide) (Value.slice (some ⟨g, 0, none⟩) r cap') r (xs.take r) rfl HRW4.out ⟨w3.heap.size, 0, none⟩ 1 1 [.slice oo ol oc] rfl rfl HCa.out (by intro y hy; simp at hy; subst hy; rfl) (by decide) ?d3 ?d4 HB4.out.2.2.2 w4.heap.size rfl ?_))
      case d3 => unfold maxLen; omega
      case d4 => omega
      intro g5 cap5 w5 hown5 hgrow5 hat5 hlt5
      have HG5 : Hid (w4.grownBy w5 (Value.slice (some ⟨g, 0, none⟩) r cap').ownBlock) := by first | exact hgrow5 | (rw [hw4]; exact hgrow5)
      have HA5 : Hid ((Value.slice (some ⟨g, 0, none⟩) r cap').ownBlock = some g5 ∨ g5 = w4.heap.size) := by first | exact hat5 | (rw [HB4.out.2.2.1]; exact hat5)
      have HN5 : Hid (pileC (c.take (k + 1)) [] = some (p.take r ++ [L]) ∧ Own3 K w5 (.slice (some ⟨g5, 0, none⟩) (r + 1) cap5) (p.take r ++ [L]) ∧ Below K w1 w5 ∧ K ≤ w5.heap.size) := by
       refine ⟨HSt.out, ?_, HB4.out.2.1.grown HG5.out HB4.out.2.2.2 (fun j hj => (HRW4.out.lt j hj).1), by have := HG5.out.size; have := HB4.out.2.2.2; omega⟩
       have e := HLr.out
       have h := Own3.push (P := p.take r) (L := L) (g := g5) (cap := cap5) HXr.out HX4.out HR4.out (by rw [← e]; simpa using hown5) HG5.out HA5.out
       rw [← e] at h
       exact h
      clear hown5 hgrow5 hat5 hlt5 hw4
      go_wp2
      go_roundw
      case rel => exact ⟨k + 1, _, by omega, by go_num, HN5.out.1, HN5.out.2.1, HN5.out.2.2.1, HN5.out.2.2.2⟩
      case measure => simp [intOf]; omega
  ·have hkn : k = n := by omega
   have hall : c.take k = c := List.take_of_length_le (by have := HN.out; omega)
   rw [hall] at hcn hp
   have h1 : p.length = 1 := by
    have := HOne.out.symm.trans hcn
    have := Option.some.inj this
    omega
   have HE : Hid (cubesC c = some (p.getD 0 [])) := by unfold Hid cubesC; rw [hp]; rfl
   obtain ⟨xs, hrow, hxs⟩ := hown0
   rw [h1] at hrow
   rcases hrow.2 with ⟨_, hz⟩ | ⟨g, cap', cur, rfl, hg, hh, hmc, hmax, _, _⟩
   ·omega
   ·obtain ⟨u, hu, hr⟩ := hxs 0 _ (List.getElem?_eq_getElem (show 0 < p.length by omega))
    obtain ⟨oo, oc, rfl, _⟩ := hr.slice
    have hcell : wr.cell? ⟨g, 0, none⟩ = some (.slice oo p[0].length oc) := by rw [hrow.cellAt 0 (by omega)]; exact hu
    have HR : Hid (RS2 (fun b => False ∨ w.heap.size ≤ b) wr (.slice oo p[0].length oc) (p.getD 0 [])) := by
     unfold Hid
     rw [List.getD_eq_getElem?_getD, List.getElem?_eq_getElem (show 0 < p.length by omega)]
     exact hr.mono fun b _ hb => Or.inr (Nat.le_trans HKe.out.2 hb.1)
    have HB3 := hide (HB1.out.1.trans (hbel.mono HKe.out.2))
    obtain ⟨ol, hol⟩ := nm (p[0].length)
    rw [← hol] at hcell HR
    have hltz : ¬ (k : Int) < (n : Int) := by omega
    clear hrow hxs hr hu hh hol hp hcn hall hbel hKw HI
    go_wp2
    go_ret2
    refine ⟨?_, HB3.out⟩
    rw [HE.out]
    exact ⟨_, rfl, HR.out⟩
set_option maxHeartbeats 4000000 in
theorem of_bad (va vc : Value) (ats : List At) (c : List Int) (w : World) (hA : ReadsA w va ats) (hC : Reads w vc c) (hK : KindsLaid w) (hf : ¬ formFault ats c = 0) :
    Calls Tryz.prog 52 #[.agg #[va, vc]] w (Bk w (.tuple #[.slice none 0 0, .iface 64 (.int .i64 (formFault ats c))])) := by
 obtain ⟨ao, acap, rfl, _⟩ := hA.slice
 obtain ⟨co, ccap, rfl, _⟩ := hC.slice
 obtain ⟨w1, hw1⟩ := nm (w.alloc (.cells #[.slice ao ats.length acap, .slice co c.length ccap] 39))
 have HB1 : Hid (Below w.heap.size w w1 ∧ w1.heap.size = w.heap.size + 1) := by unfold Hid; rw [hw1]; exact ⟨below_alloc1 _ _, by simp⟩
 have HCk : Hid (Calls Tryz.prog 14 #[.agg #[.slice ao ats.length acap, .slice co c.length ccap]] w1 (Bk w1 (.iface 64 (.int .i64 (formFault ats c))))) := by
  have := fcheck_any _ _ ats c w1 (hA.below HB1.out.1) (hC.below HB1.out.1) (hK.below HB1.out.1)
  rw [errV_no hf] at this; exact this
 obtain ⟨F, hF⟩ := nm (formFault ats c)
 rw [← hF] at HCk ⊢
 obtain ⟨m, hm⟩ := nm ats.length
 obtain ⟨n, hn⟩ := nm c.length
 rw [← hm] at HCk hw1 ⊢
 rw [← hn] at HCk hw1 ⊢
 clear hA hC hK hF hf hm hn
 have x0 : w1.cell? ⟨w.heap.size, 0, none⟩ = some (.slice ao m acap) := by rw [hw1]; simp
 have x1 : w1.cell? ⟨w.heap.size, 1, none⟩ = some (.slice co n ccap) := by rw [hw1]; simp
 rw [hw1] at x0 x1
 go_enter Tryz.func52, Tryz.ntmps52
 go_wp2_with fail
 rw [← hw1]
 clear hw1 x0 x1
 go_at_call 14
 refine HCk.out.mono ?_
 rintro e w2 ⟨rfl, hb⟩
 have HB2 := hide (HB1.out.1.trans (hb.mono HB1.out.1.size))
 clear hb HCk
 go_wp2
 go_ret2
 exact ⟨rfl, HB2.out⟩
end Go.Proofs.YtjmeakkmfeoigaaGreatDoor
namespace Go.Proofs.YtjmeakkmfeoigaaGreatDoor
open Go.ChangeShapes Go.WideShapes Go.ChangeAt Go.RowKit
set_option maxRecDepth 100000
theorem modelOf_any (va vc : Value) (ats : List At) (c : List Int) (u : Int) (w : World) (hA : ReadsA w va ats) (hC : Reads w vc c) (hK : KindsLaid w) (hT : TimesLaid w) (hg : Laid w) :
    Calls Tryz.prog 25 #[.agg #[va, vc], .int .i64 u] w (Bk w (.tuple #[.agg (arrW (modelW ats c u)), errV (modelFault ats c u)])) := by
 obtain ⟨ao, acap, rfl, _⟩ := hA.slice
 obtain ⟨co, ccap, rfl, _⟩ := hC.slice
 by_cases hf : formFault ats c = 0
 ·cases hL : cubesC c with
  | none =>
   have ef : modelFault ats c u = 4 := by unfold modelFault; rw [if_pos hf, hL]
   have ew : modelW ats c u = ⟨0, 0, 0, 0⟩ := by unfold modelW; rw [if_neg (by rw [ef]; decide)]
   rw [ef, ew, errV_no (by decide)]
   refine modelOf_err ao _ acap co _ ccap u 4 w fun W hW => ?_
   have h := of_good _ _ ats c W (hA.below hW) (hC.below hW) (hK.below hW) hf
   rw [hL] at h
   exact h
  | some L =>
   have hCu : ∀ W, Below w.heap.size w W → Calls Tryz.prog 52 #[.agg #[.slice ao ats.length acap, .slice co c.length ccap]] W fun e w' => ∃ lo lcap, e = .returned (.tuple #[.slice lo L.length lcap, .nilIface]) ∧ RS2 (fun _ => True) w' (.slice lo L.length lcap) L ∧ Below W.heap.size W w' := fun W hW => by
    refine (of_good _ _ ats c W (hA.below hW) (hC.below hW) (hK.below hW) hf).mono ?_
    rintro e w' ⟨ho, hb⟩
    rw [hL] at ho
    obtain ⟨v, rfl, hr⟩ := ho
    obtain ⟨lo, lcap, rfl, _⟩ := hr.slice
    exact ⟨lo, lcap, rfl, hr.mono fun _ _ _ => trivial, hb⟩
   by_cases hu : 0 ≤ u ∧ u ≤ 6
   ·obtain ⟨n, rfl⟩ := Int.eq_ofNat_of_zero_le hu.1
    refine (modelOf_in n (by omega) ats c L ao acap co ccap w hA hK hT hg hf hL hCu).mono ?_
    rintro e w' ⟨hor, hb⟩
    refine ⟨?_, hb⟩
    rcases hor with ⟨N, hN, rfl⟩ | ⟨hN, rfl⟩
    ·have ef : modelFault ats c n = 0 := by unfold modelFault; rw [if_pos hf, hL]; simp only; rw [if_pos hu, Int.toNat_natCast, hN]; rfl
     have ew : modelW ats c n = madeN N 8 := by unfold modelW modelN; rw [if_pos ef, hL, Int.toNat_natCast]; simp only [Option.getD_some]; rw [hN]; rfl
     rw [ef, ew]; rfl
    ·have ef : modelFault ats c n = 5 := by unfold modelFault; rw [if_pos hf, hL]; simp only; rw [if_pos hu, Int.toNat_natCast, hN]; rfl
     have ew : modelW ats c n = ⟨0, 0, 0, 0⟩ := by unfold modelW; rw [if_neg (by rw [ef]; decide)]
     rw [ef, ew, errV_no (by decide)]
   ·have ef : modelFault ats c u = 1 := by unfold modelFault; rw [if_pos hf, hL]; simp only; rw [if_neg hu]
    have ew : modelW ats c u = ⟨0, 0, 0, 0⟩ := by unfold modelW; rw [if_neg (by rw [ef]; decide)]
    rw [ef, ew, errV_no (by decide)]
    refine modelOf_out ao _ acap co _ ccap u hu w fun W hW => ?_
    refine (hCu W hW).mono ?_
    rintro e w' ⟨lo, lcap, rfl, _, hb⟩
    exact ⟨lo, _, lcap, rfl, hb⟩
 ·have ef : modelFault ats c u = formFault ats c := by unfold modelFault; rw [if_neg hf]
  have ew : modelW ats c u = ⟨0, 0, 0, 0⟩ := by unfold modelW; rw [if_neg (by rw [ef]; exact hf)]
  rw [ef, ew, errV_no hf]
  exact modelOf_err ao _ acap co _ ccap u _ w fun W hW => of_bad _ _ ats c W (hA.below hW) (hC.below hW) (hK.below hW) hf
end Go.Proofs.YtjmeakkmfeoigaaGreatDoor
namespace Go.Proofs.YtjmeakkmfeoigaaGreatDoor
open Go.ChangeShapes Go.WideShapes Go.ChangeAt Go.RowKit
set_option maxRecDepth 100000
set_option maxHeartbeats 8000000 in
theorem coreCheck_any (v : Value) (fs : List Fm) (u : Int) (w : World) (hF : ReadsF w v fs) (hK : KindsLaid w) :
    Calls Tryz.prog 76 #[v, .int .i64 u] w (Bk w (errV (formsFault fs u))) := by
 obtain ⟨lo, lcap, rfl, hl63⟩ := hF.slice
 have HF := hide hF
 have HFm : Hid (∀ f va vc W, Below w.heap.size w W → ReadsA W va f.ats → Reads W vc f.c → Calls Tryz.prog 14 #[.agg #[va, vc]] W (Bk W (errV (Fm.fault f)))) := fun f va vc W hW hA hC => fcheck_any va vc f.ats f.c W hA hC (hK.below hW)
 obtain ⟨R, hR⟩ := nm (formsFault fs u)
 have H0 : Hid (fs.length = 0 → R = 5) := fun h => by rw [hR]; unfold formsFault; rw [if_pos h]
 have H6 : Hid (¬ fs.length = 0 → 6 < fs.length → R = 4) := fun h1 h2 => by rw [hR]; unfold formsFault; rw [if_neg h1, if_pos h2]
 have HBad : Hid (¬ fs.length = 0 → ¬ 6 < fs.length → ∀ (k : Nat) f, fs[k]? = some f → (∀ j, j < k → ∀ g, fs[j]? = some g → Fm.fault g = 0) → ¬ Fm.fault f = 0 → R = Fm.fault f) := fun h1 h2 k f hk hj hf => by
  have e := firstForm_at hk hj hf
  rw [hR]; unfold formsFault; rw [if_neg h1, if_neg h2, if_neg (by rw [e]; exact hf), e]
 have HEnd : Hid (¬ fs.length = 0 → ¬ 6 < fs.length → (∀ j, j < fs.length → ∀ g, fs[j]? = some g → Fm.fault g = 0) → R = if 0 ≤ u ∧ u ≤ 6 then 0 else 1) := fun h1 h2 hj => by
  have e : firstForm fs = 0 := firstForm_zero.2 fun f hf => by
   obtain ⟨i, hi⟩ := List.mem_iff_getElem?.1 hf
   exact hj i (List.getElem?_eq_some_iff.1 hi).1 f hi
  rw [hR]; unfold formsFault; rw [if_neg h1, if_neg h2, if_pos e]
 rw [← hR]
 obtain ⟨n, hn⟩ := nm fs.length
 rw [← hn] at HF hl63 H0 H6 HBad HEnd ⊢
 have HN := hide hn
 clear hF hR hn hK
 by_cases hz : n = 0
 ·have HR := hide (H0.out hz)
  subst hz
  go_enter Tryz.func76, Tryz.ntmps76
  go_wp2
  go_ret
  exact ⟨by first | (rw [HR.out]; done) | (rw [HR.out]; rfl), Below.refl _ _⟩
 ·by_cases h6 : 6 < n
  ·have HR := hide (H6.out hz h6)
   have dz : ((n : Int) == 0) = false := by simp; omega
   have h6' : (6 : Int) < (n : Int) := by omega
   go_enter Tryz.func76, Tryz.ntmps76
   go_wp2
   go_ret
   exact ⟨by first | (rw [HR.out]; done) | (rw [HR.out]; rfl), Below.refl _ _⟩
  ·have dz : ((n : Int) == 0) = false := by simp; omega
   have h6' : (n : Int) ≤ 6 := by omega
   have HBad' := hide (HBad.out hz h6)
   have HEnd' := hide (HEnd.out hz h6)
   have Hz := hide hz
   clear hz h6 H0 H6 HBad HEnd
   go_enter Tryz.func76, Tryz.ntmps76
   go_wp2
   go_loopw [18] (fun i wr => ∃ k : Nat, k ≤ n ∧ i = .int .i64 k ∧ Below w.heap.size w wr ∧ ∀ j, j < k → ∀ g, fs[j]? = some g → Fm.fault g = 0) (fun i _ => n - (intOf i).toNat)
   case atStart => exact ⟨0, Nat.zero_le _, rfl, Below.refl _ _, fun j hj => by omega⟩
   case round =>
    obtain ⟨k, hk, rfl, hbr, hso⟩ := hrel
    have HBr := hide hbr
    have HSo := hide hso
    clear hbr hso
    by_cases hlt : k < n
    ·obtain ⟨f, hf⟩ : ∃ f, fs[k]? = some f := ⟨_, List.getElem?_eq_getElem (by rw [← HN.out]; exact hlt)⟩
     have HFk := hide hf
     obtain ⟨bL, oL, cL, hv⟩ := HF.out.place (by rw [← HN.out]; omega)
     obtain ⟨hlo, hx1, hx2⟩ := Value.slice.inj hv
     clear hx1 hx2
     subst hlo
     obtain ⟨hbL, va, vc, c0, c1, hA, hC⟩ := HF.out.at hf
     have HFc : Hid (∀ W, Below wr.heap.size wr W → Calls Tryz.prog 14 #[.agg #[va, vc]] W (Bk w (errV (Fm.fault f)))) := fun W hW => by
      have hb' := HBr.out.trans (hW.mono HBr.out.size)
      exact (HFm.out f va vc W hb' (hA.below hb') (hC.below hb')).mono fun e w' ⟨h1, h2⟩ => ⟨h1, hb'.trans (h2.mono hb'.size)⟩
     have x0 : wr.cell? ⟨bL, oL + k * 2, none⟩ = some va := (HBr.out.cell hbL).trans c0
     have x1 : wr.cell? ⟨bL, oL + k * 2 + 1, none⟩ = some vc := (HBr.out.cell hbL).trans c1
     obtain ⟨ao, acap, rfl, _⟩ := hA.slice
     obtain ⟨co, ccap, rfl, _⟩ := hC.slice
     obtain ⟨al, hal⟩ := nm f.ats.length
     obtain ⟨cl, hcl⟩ := nm f.c.length
     rw [← hal] at x0 HFc
     rw [← hcl] at x1 HFc
     obtain ⟨q, hq⟩ := nm (Fm.fault f)
     have HQ := hide hq
     rw [← hq] at HFc
     clear hf hv hbL c0 c1 hA hC hq hal hcl
     have hkn : (k : Int) < (n : Int) := by omega
     by_cases h0 : q = 0
     ·have HFz : Hid (∀ W, Below wr.heap.size wr W → Calls Tryz.prog 14 #[.agg #[.slice ao al acap, .slice co cl ccap]] W (Bk w .nilIface)) := by
       have h := HFc.out
       rw [h0] at h
       exact h
      have HQ0 : Hid (Fm.fault f = 0) := by unfold Hid; rw [← HQ.out, h0]
      clear h0 HFc HQ
      go_wp2_with fail
      go_at_call 14
      refine (HFz.out _ (by first | exact below_alloc1 _ _ | exact ((((Below.refl _ _).alloc (Nat.le_refl _) _).setCell (by simp) _).setCell (by simp) _))).mono ?_
      rintro e w8 ⟨rfl, hb8⟩
      have HB8 := hide hb8
      clear hb8 x0 x1
      go_wp2
      go_roundw
      case rel =>
       refine ⟨k + 1, by omega, by go_num, HB8.out, fun j hj g hg => ?_⟩
       by_cases e : j = k
       ·subst e
        obtain rfl : f = g := Option.some.inj (HFk.out.symm.trans hg)
        exact HQ0.out
       ·exact HSo.out j (by omega) g hg
      case measure => simp [intOf]; omega
     ·have HFz : Hid (∀ W, Below wr.heap.size wr W → Calls Tryz.prog 14 #[.agg #[.slice ao al acap, .slice co cl ccap]] W (Bk w (.iface 64 (.int .i64 q)))) := by
       have h := HFc.out
       rw [show errV q = .iface 64 (.int .i64 q) by unfold errV; rw [if_neg h0]] at h
       exact h
      have HR : Hid (errV R = .iface 64 (.int .i64 q)) := by
       unfold Hid
       rw [HBad'.out k f HFk.out HSo.out (by rw [← HQ.out]; exact h0), ← HQ.out]
       unfold errV; rw [if_neg h0]
      clear h0 HFc HQ
      go_wp2_with fail
      go_at_call 14
      refine (HFz.out _ (by first | exact below_alloc1 _ _ | exact ((((Below.refl _ _).alloc (Nat.le_refl _) _).setCell (by simp) _).setCell (by simp) _))).mono ?_
      rintro e w8 ⟨rfl, hb8⟩
      have HB8 := hide hb8
      clear hb8 x0 x1
      go_wp2
      go_ret
      exact ⟨by first | (rw [HR.out]; done) | (rw [HR.out]; rfl), HB8.out⟩
    ·obtain rfl : k = n := by omega
     have hE := HEnd'.out HSo.out
     by_cases hu : 0 ≤ u ∧ u ≤ 6
     ·rw [if_pos hu] at hE
      have HR := hide hE
      have h : okB u 0 = true := ok_zero hu.1 hu.2
      have HC : Hid (∀ W, Calls Tryz.prog 27 #[.int .i64 u, .int .i64 0] W (Sk W .nilIface)) := fun W => check_ok _ _ h W
      clear hE hu h
      go_wp2_with fail
      go_at_call 27
      refine (HC.out _).mono ?_
      rintro e w' ⟨rfl, rfl⟩
      go_wp2
      go_ret
      exact ⟨by first | (rw [HR.out]; done) | (rw [HR.out]; rfl), HBr.out⟩
     ·rw [if_neg hu] at hE
      have HR := hide hE
      have h : okB u 0 = false := okB_not.2 fun h => hu ⟨h.1, h.2.1⟩
      have HC : Hid (∀ W, Calls Tryz.prog 27 #[.int .i64 u, .int .i64 0] W (Sk W (.iface 64 (.int .i64 1)))) := fun W => check_no _ _ h W
      clear hE hu h
      go_wp2_with fail
      go_at_call 27
      refine (HC.out _).mono ?_
      rintro e w' ⟨rfl, rfl⟩
      go_wp2
      go_ret
      exact ⟨by first | (rw [HR.out]; done) | (rw [HR.out]; rfl), HBr.out⟩
end Go.Proofs.YtjmeakkmfeoigaaGreatDoor
namespace Go.Proofs.YtjmeakkmfeoigaaGreatDoor
open Go.ChangeShapes Go.WideShapes Go.ChangeAt Go.RowKit
set_option maxRecDepth 100000
theorem infoBool : (Tryz.prog.info? 4).map (fun i => (i.zero, i.size, i.bytes)) = some (some (.bool false), 1, 1) := by kernel_rfl
def ReadsB (w : World) (b off : Nat) (hs : List Bool) : Prop := b < w.heap.size ∧ ∀ k, k < hs.length → w.cell? ⟨b, off + k, none⟩ = some (.bool (hs.getD k false))
end Go.Proofs.YtjmeakkmfeoigaaGreatDoor
namespace Go.Proofs.YtjmeakkmfeoigaaGreatDoor
open Go.ChangeShapes Go.WideShapes Go.ChangeAt Go.RowKit
set_option maxRecDepth 100000
theorem fmade_op (s : Int) (x y : Bool) (hs : s = 10 ∨ s = 11 ∨ s = 13) (B off cap : Nat) (vh : Value) (w : World) (c0 : w.cell? ⟨B, off, none⟩ = some (.bool x)) (c1 : w.cell? ⟨B, off + 1, none⟩ = some (.bool y)) (held : List Bool) :
    Calls Tryz.prog 88 #[.int .i64 s, .slice (some ⟨B, off, none⟩) 2 cap, vh] w (Sk w (.bool (madeF held s [x, y]))) := by
 rcases hs with rfl | rfl | rfl
 ·cases x
  all_goals
   go_enter Tryz.func88, Tryz.ntmps88
   go_wp2
   go_ret
   exact ⟨rfl, rfl⟩
 ·cases x
  all_goals
   go_enter Tryz.func88, Tryz.ntmps88
   go_wp2
   go_ret
   exact ⟨rfl, rfl⟩
 ·cases x
  all_goals
   go_enter Tryz.func88, Tryz.ntmps88
   go_wp2
   go_ret
   exact ⟨rfl, rfl⟩
theorem fmade_no (x : Bool) (B off cap : Nat) (vh : Value) (w : World) (c0 : w.cell? ⟨B, off, none⟩ = some (.bool x)) (held : List Bool) :
    Calls Tryz.prog 88 #[.int .i64 12, .slice (some ⟨B, off, none⟩) 1 cap, vh] w (Sk w (.bool (madeF held 12 [x]))) := by
 go_enter Tryz.func88, Tryz.ntmps88
 go_wp2
 go_ret
 exact ⟨rfl, rfl⟩
theorem fmade_leaf (s : Int) (held : List Bool) (h0 : 0 ≤ s) (h1 : s < held.length) (h6 : held.length ≤ 6) (hb ho hcap : Nat) (v : Value) (w : World) (hR : ReadsB w hb ho held) :
    Calls Tryz.prog 88 #[.int .i64 s, v, .slice (some ⟨hb, ho, none⟩) held.length hcap] w (Sk w (.bool (madeF held s []))) := by
 obtain ⟨k, rfl⟩ := Int.eq_ofNat_of_zero_le h0
 have e : madeF held (k : Int) [] = held.getD k false := by rw [madeF_leaf held (takesF_low (by omega)) []]; simp
 rw [e]
 have hc := hR.2 k (by omega)
 obtain ⟨x, hx⟩ := nm (held.getD k false)
 rw [← hx] at hc ⊢
 obtain ⟨m, hm⟩ := nm held.length
 rw [← hm] at h1 h6 ⊢
 clear hx hm hR e
 have g0 : ((k : Int) == 10) = false := by simp; omega
 have g1 : ((k : Int) == 11) = false := by simp; omega
 have g2 : ((k : Int) == 13) = false := by simp; omega
 have g3 : ((k : Int) == 12) = false := by simp; omega
 have h0' : (0 : Int) ≤ (k : Int) := by omega
 go_enter Tryz.func88, Tryz.ntmps88
 go_wp2
 go_ret
 exact ⟨rfl, rfl⟩
end Go.Proofs.YtjmeakkmfeoigaaGreatDoor