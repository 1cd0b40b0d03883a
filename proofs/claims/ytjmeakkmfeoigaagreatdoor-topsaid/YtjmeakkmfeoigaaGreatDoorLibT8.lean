/-
  Facts and contracts that the statement leans on.
-/
import Derived.Test.YtjmeakkmfeoigaaGreatDoorLibT7
import Derived.Test.YtjmeakkmfeoigaaGreatDoorLibT3
import Derived.Handy
import Derived.Test.YtjmeakkmfeoigaaGreatDoorLibT6
namespace Go.Proofs.YtjmeakkmfeoigaaGreatDoor
open Go.ChangeShapes Go.WideShapes Go.ChangeAt Go.RowKit
theorem below_of_drew {w wm : World} (h : Below w.drew.heap.size w.drew wm) : Below w.heap.size w wm := ((Below.refl _ w).drew).trans h
set_option maxRecDepth 100000 in
set_option maxHeartbeats 4000000 in
theorem work_any (u a b c : Int) (t : List Int) (B off cap : Nat) (w : World) (hw : (Wd.mk u a b c).ok = true) (hs : t.all signB = true) (hone : cnt t 0 = some 1) (hl : t.length ≤ 12) (hB : B < w.heap.size)
    (hc : ∀ k, k < t.length → w.cell? ⟨B, off + k, none⟩ = some (.int .i64 (t.getD k 0))) :
    Calls Tryz.prog 126 #[.slice (some ⟨B, off, none⟩) t.length cap, .agg #[.int .i64 u, .int .i64 a, .int .i64 b, .int .i64 c]] w (Bk w (.tuple #[.int .i64 ((Wd.mk u a b c).val t), .nilIface])) := by
 obtain ⟨i0, hi, hz0, hz1, hz2⟩ := info_parts infoInt
 obtain ⟨w1, hw1⟩ := nm (w.alloc (.cells #[.int .i64 u, .int .i64 a, .int .i64 b, .int .i64 c] 55))
 obtain ⟨K, hK⟩ := nm (w.heap.size + 1)
 have HK1 : Hid (w1.heap.size = K) := by unfold Hid; rw [hw1, hK]; simp
 have HC : Hid (∀ k, k < t.length → w1.cell? ⟨B, off + k, none⟩ = some (.int .i64 (t.getD k 0))) := fun k hk => by
  rw [hw1, World.cell?_alloc_lt _ _ ⟨B, off + k, none⟩ hB]; exact hc k hk
 have HX : Hid (w1.cell? ⟨w.heap.size, 0, none⟩ = some (.int .i64 u) ∧ w1.cell? ⟨w.heap.size, 1, none⟩ = some (.int .i64 a) ∧ w1.cell? ⟨w.heap.size, 2, none⟩ = some (.int .i64 b) ∧ w1.cell? ⟨w.heap.size, 3, none⟩ = some (.int .i64 c)) := by
  unfold Hid; rw [hw1]; simp
 have HBK : Hid (B < K ∧ w.heap.size < K) := ⟨by omega, by omega⟩
 have HW : Hid (Below w.heap.size w w1) := by unfold Hid; rw [hw1]; exact below_alloc1 _ _
 have HKs : Hid (w.heap.size ≤ K) := by unfold Hid; omega
 clear hc hB hK
 obtain ⟨n, hn⟩ := nm t.length
 rw [← hn] at hl ⊢
 have HN := hide hn
 clear hn
 have HOK := hide hw
 have HS := hide hs
 have HO := hide hone
 clear hw hs hone
 obtain ⟨V, hV⟩ := nm ((Wd.mk u a b c).val t)
 rw [← hV]
 have HV := hide hV
 clear hV
 go_enter Tryz.func126, Tryz.ntmps126
 go_wp2
 rw [← hw1]
 clear hw1
 go_loopw [6, 14] (fun v i wr => ∃ (k : Nat) (p : List Int), k ≤ n ∧ i = .int .i64 k ∧ wr.ownsRow K 3 1 v p.length (p.map (Value.int .i64)) ∧ Below K w1 wr ∧ K ≤ wr.heap.size ∧ p = (Wd.mk u a b c).pile (t.take k) [])
  (fun _ i _ => n - (intOf i).toNat)
 case atStart => exact ⟨0, [], Nat.zero_le _, rfl, World.ownsRow_nil _ _ _ _, Below.refl _ _, by rw [HK1.out]; exact Nat.le_refl _, rfl⟩
 case round =>
  obtain ⟨k, p, hk, rfl, hown0, hbel0, hKw0, hp0⟩ := hrel
  have hkt0 : cnt (t.take k) 0 = some (p.length : Int) := by
   obtain ⟨m, hm⟩ := cnt_take_some t k HO.out
   have := pile_length (Wd.mk u a b c) (t.take k) [] hm
   rw [← hp0] at this
   rw [this]; exact hm
  by_cases hlt : k < n
  ·obtain ⟨s, hs⟩ := nm (t.getD k 0)
   have hkt : k < t.length := by rw [← HN.out]; exact hlt
   have hcell : wr.cell? ⟨B, off + k, none⟩ = some (.int .i64 s) := by rw [hs, hbel0.cell HBK.out.1]; exact HC.out k hkt
   have x0 : wr.cell? ⟨w.heap.size, 0, none⟩ = some (.int .i64 u) := by rw [hbel0.cell HBK.out.2]; exact HX.out.1
   have x1 : wr.cell? ⟨w.heap.size, 1, none⟩ = some (.int .i64 a) := by rw [hbel0.cell HBK.out.2]; exact HX.out.2.1
   have x2 : wr.cell? ⟨w.heap.size, 2, none⟩ = some (.int .i64 b) := by rw [hbel0.cell HBK.out.2]; exact HX.out.2.2.1
   have x3 : wr.cell? ⟨w.heap.size, 3, none⟩ = some (.int .i64 c) := by rw [hbel0.cell HBK.out.2]; exact HX.out.2.2.2
   have hsg : 0 ≤ s ∧ s ≤ 8 := by
    refine signB_iff.1 (List.all_eq_true.1 HS.out s ?_)
    rw [hs, List.getD_eq_getElem?_getD, List.getElem?_eq_getElem hkt]; exact List.getElem_mem hkt
   have htk : takesN s ≤ p.length := by
    have h1 := cnt_take_succ t hkt hkt0
    rw [← hs] at h1
    obtain ⟨m, hm⟩ := cnt_take_some t (k + 1) HO.out
    by_cases h2 : (p.length : Int) < takesN s
    ·rw [if_pos h2] at h1; rw [h1] at hm; cases hm
    ·omega
   have HP : Hid ((Wd.mk u a b c).step p s = (Wd.mk u a b c).pile (t.take (k + 1)) []) := by
    unfold Hid; rw [pile_succ _ t [] hkt, ← hs, ← hp0]
   have hpl : p.length ≤ 12 := by
    have := (cnt_nonneg (Int.le_refl 0) hkt0).2
    simp at this; omega
   have HOKP : Hid (∀ j, okB u (p.getD j 0) = true) := fun j => by
    rw [hp0]
    exact ok_getD HOK.out (ok_pile HOK.out (t.take k) (p := []) (by intro x hx; cases hx)) j
   clear hs hkt hkt0 hp0
   have HBEL := hide hbel0
   have HKW := hide hKw0
   clear hbel0 hKw0
   by_cases h4 : s ≤ 4
   ·have ht : takesN s = 0 := takes5 s (by omega)
    have HM : Hid (∀ v W, Calls Tryz.prog 158 #[.int .i64 s, v, .agg #[.int .i64 u, .int .i64 a, .int .i64 b, .int .i64 c]] W (Bk W (.tuple #[.int .i64 ((Wd.mk u a b c).made s []), .nilIface]))) := fun v W => made_leaf_any u a b c s v W hsg.1 h4 HOK.out
    have HQ : Hid ((Wd.mk u a b c).step p s = p.take p.length ++ [(Wd.mk u a b c).made s []]) := step_leaf _ p s h4
    obtain ⟨X, hX⟩ := nm ((Wd.mk u a b c).made s [])
    rw [← hX] at HM HQ
    clear hX htk hsg h4
    rcases hown0.2 with ⟨rfl, hp0⟩ | ⟨g, cap', cur, rfl, hg, hh, hm, hmax, _, _⟩
    ·obtain rfl : p = [] := List.eq_nil_of_length_eq_zero hp0
     clear hown0 hp0
     go_wp2_with (go_at_call 146; refine (takes_any _ _).mono ?_; rintro e w' ⟨rfl, rfl⟩)
     go_region_with (first | (go_at_call 158; refine (HM.out _ _).mono ?_; rintro e wm ⟨rfl, hbm⟩))
     go_wp2_with (first | (at_builtin; refine wpList_append_own _ rfl (.tmp 37) (.tmp 39) 27 rfl K 3 i0 (.int .i64 0) 1 8 Tryz.underlying27 hi hz0 hz1 hz2 rfl (by decide) (.slice none 0 0) 0 [] rfl (World.ownsRow_nil _ _ _ _) ⟨wm.heap.size, 0, none⟩ 1 1 [.int .i64 X] rfl rfl ?a1 ?a2 ?a3 ?a4 ?a5 ?_))
     case a1 =>
      intro j y hj
      match j, hj with
      | 0, hj => simp at hj; subst hj; simp [Addr.add]
     case a2 => intro y hy; simp at hy; subst hy; rfl
     case a3 => unfold maxLen; omega
     case a4 => omega
     case a5 => have h1 := hbm.size; have h2 := HKW.out; simp at h1 ⊢; omega
     intro v' w2 hown' hgrow _
     have R := work_rel (q := (Wd.mk u a b c).pile (t.take (k + 1)) []) HKW.out HBEL.out (below_of_drew hbm) hown' (by intro k hk; cases hk) hgrow (Nat.le_refl _) (HP.out.symm.trans HQ.out)
     clear hown' hgrow hbm
     go_wp2
     go_roundw
     case rel => exact ⟨k + 1, _, by omega, by go_num, R.1, R.2.1, R.2.2, rfl⟩
     case measure => simp [intOf]; omega
    ·obtain ⟨m, hm0⟩ := nm p.length
     have HOW : Hid (wr.ownsRow K 3 1 (.slice (some ⟨g, 0, none⟩) m cap') m (p.map (Value.int .i64))) := by
      unfold Hid; rw [hm0]; exact hown0
     rw [← hm0] at HQ hm hpl ⊢
     have HM0 := hide hm0
     clear hown0 hm0 hh
     by_cases hcap : cap' = m
     ·subst hcap
      go_wp2_with (go_at_call 146; refine (takes_any _ _).mono ?_; rintro e w' ⟨rfl, rfl⟩)
      go_region_with (first | (go_at_call 158; refine (HM.out _ _).mono ?_; rintro e wm ⟨rfl, hbm⟩))
      have HOm := ownsRow_below HOW.out (below_of_drew hbm)
      go_wp2_with (first | (at_builtin; refine wpList_append_own _ rfl (.tmp 37) (.tmp 39) 27 rfl K 3 i0 (.int .i64 0) 1 8 Tryz.underlying27 hi hz0 hz1 hz2 rfl (by decide) (.slice (some ⟨g, 0, none⟩) cap' cap') cap' ((p.map (Value.int .i64)).take cap') rfl ((ownsRow_take HOm (by have := HM0.out; omega)).alloc _) ⟨wm.heap.size, 0, none⟩ 1 1 [.int .i64 X] rfl rfl ?e1 ?e2 ?e3 ?e4 ?e5 ?_))
      case e1 =>
       intro j y hj
       match j, hj with
       | 0, hj => simp at hj; subst hj; simp [Addr.add]
      case e2 => intro y hy; simp at hy; subst hy; rfl
      case e3 => unfold maxLen; omega
      case e4 => omega
      case e5 => have h1 := hbm.size; have h2 := HKW.out; simp at h1 ⊢; omega
      intro v' w2 hown' hgrow _
      have R := work_rel (q := (Wd.mk u a b c).pile (t.take (k + 1)) []) HKW.out HBEL.out (below_of_drew hbm) (by rw [List.map_take]; exact hown') (by intro k hk; cases hk; exact hg) hgrow (by have := HM0.out; omega) (HP.out.symm.trans HQ.out)
      clear hown' hgrow hbm HOm
      go_wp2
      go_roundw
      case rel => exact ⟨k + 1, _, by omega, by go_num, R.1, R.2.1, R.2.2, rfl⟩
      case measure => simp [intOf]; omega
     ·go_wp2_with (go_at_call 146; refine (takes_any _ _).mono ?_; rintro e w' ⟨rfl, rfl⟩)
      go_region_with (first | (go_at_call 158; refine (HM.out _ _).mono ?_; rintro e wm ⟨rfl, hbm⟩))
      have HOm := ownsRow_below HOW.out (below_of_drew hbm)
      go_wp2_with (first | (at_builtin; refine wpList_append_own _ rfl (.tmp 37) (.tmp 39) 27 rfl K 3 i0 (.int .i64 0) 1 8 Tryz.underlying27 hi hz0 hz1 hz2 rfl (by decide) (.slice (some ⟨g, 0, none⟩) m cap') m ((p.map (Value.int .i64)).take m) rfl ((ownsRow_take HOm (by have := HM0.out; omega)).alloc _) ⟨wm.heap.size, 0, none⟩ 1 1 [.int .i64 X] rfl rfl ?b1 ?b2 ?b3 ?b4 ?b5 ?_))
      case b1 =>
       intro j y hj
       match j, hj with
       | 0, hj => simp at hj; subst hj; simp [Addr.add]
      case b2 => intro y hy; simp at hy; subst hy; rfl
      case b3 => unfold maxLen; omega
      case b4 => omega
      case b5 => have h1 := hbm.size; have h2 := HKW.out; simp at h1 ⊢; omega
      intro v' w2 hown' hgrow _
      have R := work_rel (q := (Wd.mk u a b c).pile (t.take (k + 1)) []) HKW.out HBEL.out (below_of_drew hbm) (by rw [List.map_take]; exact hown') (by intro k hk; cases hk; exact hg) hgrow (by have := HM0.out; omega) (HP.out.symm.trans HQ.out)
      clear hown' hgrow hbm HOm
      go_wp2
      go_roundw
      case rel => exact ⟨k + 1, _, by omega, by go_num, R.1, R.2.1, R.2.2, rfl⟩
      case measure => simp [intOf]; omega
   by_cases h8 : s = 8
   ·subst h8
    rw [takes1] at htk
    have ht : takesN 8 = 1 := takes1
    rcases hown0.2 with ⟨rfl, hp0⟩ | ⟨g, cap', cur, rfl, hg, hh, hm, hmax, _, _⟩
    ·omega
    ·obtain ⟨r, hr⟩ : ∃ r, p.length = r + 1 := ⟨p.length - 1, by omega⟩
     have HM0 := hide hr
     have HOW : Hid (wr.ownsRow K 3 1 (.slice (some ⟨g, 0, none⟩) (r + 1) cap') (r + 1) (p.map (Value.int .i64))) := by
      unfold Hid; rw [← hr]; exact hown0
     have hcx : Hid (∀ W, Below wr.heap.size wr W → W.cell? ⟨g, r, none⟩ = some (.int .i64 (p.getD r 0))) := fun W hb => by
      rw [hb.cell (ownsRow_block hown0).2.1]; exact ownsRow_int hown0 (by omega)
     have HG : Hid (g < wr.heap.size) := (ownsRow_block hown0).2.1
     obtain ⟨x, hx⟩ := nm (p.getD r 0)
     have HX' : Hid (okB u x = true) := by unfold Hid; rw [hx]; exact HOKP.out r
     rw [← hx] at hcx
     have HM : Hid (∀ W c', Below wr.heap.size wr W → Calls Tryz.prog 158 #[.int .i64 8, .slice (some ⟨g, r, none⟩) 1 c', .agg #[.int .i64 u, .int .i64 a, .int .i64 b, .int .i64 c]] W (Bk W (.tuple #[.int .i64 (doN 8 u x x), .nilIface]))) := fun W c' hb => made_one_any u a b c 8 x g r c' W (by omega) (by omega) HX'.out (Nat.lt_of_lt_of_le HG.out hb.size) (hcx.out W hb)
     have HQ : Hid ((Wd.mk u a b c).step p 8 = p.take r ++ [doN 8 u x x]) := by
      have := step_one (Wd.mk u a b c) p (by omega)
      rw [hr, Nat.add_sub_cancel, ← hx] at this; exact this
     obtain ⟨X, hX⟩ := nm (doN 8 u x x)
     rw [← hX] at HM HQ
     have hle : (r : Int) ≤ (r : Int) + 1 := by omega
     have hcap : ¬ cap' = r := by omega
     have hcap2 : r < cap' := by omega
     rw [hr] at hm hpl ⊢
     clear hX hx hcx hown0 hh hr htk
     go_wp2_with (go_at_call 146; refine (takes_any _ _).mono ?_; rintro e w' ⟨rfl, rfl⟩)
     go_region_with (first | (go_at_call 158; refine (HM.out _ _ ((Below.refl _ wr).drew)).mono ?_; rintro e wm ⟨rfl, hbm⟩))
     have HOm := ownsRow_below HOW.out (below_of_drew hbm)
     go_wp2_with (first | (at_builtin; refine wpList_append_own _ rfl (.tmp 37) (.tmp 39) 27 rfl K 3 i0 (.int .i64 0) 1 8 Tryz.underlying27 hi hz0 hz1 hz2 rfl (by decide) (.slice (some ⟨g, 0, none⟩) r cap') r ((p.map (Value.int .i64)).take r) rfl ((ownsRow_take HOm (by have := HM0.out; omega)).alloc _) ⟨wm.heap.size, 0, none⟩ 1 1 [.int .i64 X] rfl rfl ?c1 ?c2 ?c3 ?c4 ?c5 ?_))
     case c1 =>
      intro j y hj
      match j, hj with
      | 0, hj => simp at hj; subst hj; simp [Addr.add]
     case c2 => intro y hy; simp at hy; subst hy; rfl
     case c3 => unfold maxLen; omega
     case c4 => omega
     case c5 => have h1 := hbm.size; have h2 := HKW.out; simp at h1 ⊢; omega
     intro v' w2 hown' hgrow _
     have R := work_rel (q := (Wd.mk u a b c).pile (t.take (k + 1)) []) HKW.out HBEL.out (below_of_drew hbm) (by rw [List.map_take]; exact hown') (by intro k hk; cases hk; exact hg) hgrow (by have := HM0.out; omega) (HP.out.symm.trans HQ.out)
     clear hown' hgrow hbm HOm
     go_wp2
     go_roundw
     case rel => exact ⟨k + 1, _, by omega, by go_num, R.1, R.2.1, R.2.2, rfl⟩
     case measure => simp [intOf]; omega
   ·have h7 : s ≤ 7 := by omega
    have h5 : 5 ≤ s := by omega
    have ht : takesN s = 2 := takes2 s h5 h7
    rw [ht] at htk
    rcases hown0.2 with ⟨rfl, hp0⟩ | ⟨g, cap', cur, rfl, hg, hh, hm, hmax, _, _⟩
    ·omega
    ·obtain ⟨r, hr⟩ : ∃ r, p.length = r + 2 := ⟨p.length - 2, by omega⟩
     have HM0 := hide hr
     have HOW : Hid (wr.ownsRow K 3 1 (.slice (some ⟨g, 0, none⟩) (r + 2) cap') (r + 2) (p.map (Value.int .i64))) := by
      unfold Hid; rw [← hr]; exact hown0
     have hcx : Hid (∀ W, Below wr.heap.size wr W → W.cell? ⟨g, r, none⟩ = some (.int .i64 (p.getD r 0))) := fun W hb => by
      rw [hb.cell (ownsRow_block hown0).2.1]; exact ownsRow_int hown0 (by omega)
     have hcy : Hid (∀ W, Below wr.heap.size wr W → W.cell? ⟨g, r + 1, none⟩ = some (.int .i64 (p.getD (r + 1) 0))) := fun W hb => by
      rw [hb.cell (ownsRow_block hown0).2.1]; exact ownsRow_int hown0 (by omega)
     have HG : Hid (g < wr.heap.size) := (ownsRow_block hown0).2.1
     obtain ⟨x, hx⟩ := nm (p.getD r 0)
     obtain ⟨y, hy⟩ := nm (p.getD (r + 1) 0)
     have HX' : Hid (okB u x = true) := by unfold Hid; rw [hx]; exact HOKP.out r
     have HY' : Hid (okB u y = true) := by unfold Hid; rw [hy]; exact HOKP.out (r + 1)
     rw [← hx] at hcx
     rw [← hy] at hcy
     have HM : Hid (∀ W c', Below wr.heap.size wr W → Calls Tryz.prog 158 #[.int .i64 s, .slice (some ⟨g, r, none⟩) 2 c', .agg #[.int .i64 u, .int .i64 a, .int .i64 b, .int .i64 c]] W (Bk W (.tuple #[.int .i64 (doN s u x y), .nilIface]))) := fun W c' hb => made_two_any u a b c s x y g r c' W (by omega) (by omega) HX'.out HY'.out (Nat.lt_of_lt_of_le HG.out hb.size) (hcx.out W hb) (hcy.out W hb)
     have HQ : Hid ((Wd.mk u a b c).step p s = p.take r ++ [doN s u x y]) := by
      have := step_two (Wd.mk u a b c) p s h5 h7 (by omega)
      rw [hr, Nat.add_sub_cancel, ← hx, ← hy] at this; exact this
     obtain ⟨X, hX⟩ := nm (doN s u x y)
     rw [← hX] at HM HQ
     have hle : (r : Int) ≤ (r : Int) + 2 := by omega
     have hcap : ¬ cap' = r := by omega
     have hcap2 : r < cap' := by omega
     rw [hr] at hm hpl ⊢
     clear hX hx hy hcx hcy hown0 hh hr htk h4 h8
     go_wp2_with (go_at_call 146; refine (takes_any _ _).mono ?_; rintro e w' ⟨rfl, rfl⟩)
     go_region_with (first | (go_at_call 158; refine (HM.out _ _ ((Below.refl _ wr).drew)).mono ?_; rintro e wm ⟨rfl, hbm⟩))
     have HOm := ownsRow_below HOW.out (below_of_drew hbm)
     go_wp2_with (first | (at_builtin; refine wpList_append_own _ rfl (.tmp 37) (.tmp 39) 27 rfl K 3 i0 (.int .i64 0) 1 8 Tryz.underlying27 hi hz0 hz1 hz2 rfl (by decide) (.slice (some ⟨g, 0, none⟩) r cap') r ((p.map (Value.int .i64)).take r) rfl ((ownsRow_take HOm (by have := HM0.out; omega)).alloc _) ⟨wm.heap.size, 0, none⟩ 1 1 [.int .i64 X] rfl rfl ?d1 ?d2 ?d3 ?d4 ?d5 ?_))
     case d1 =>
      intro j y hj
      match j, hj with
      | 0, hj => simp at hj; subst hj; simp [Addr.add]
     case d2 => intro y hy; simp at hy; subst hy; rfl
     case d3 => unfold maxLen; omega
     case d4 => omega
     case d5 => have h1 := hbm.size; have h2 := HKW.out; simp at h1 ⊢; omega
     intro v' w2 hown' hgrow _
     have R := work_rel (q := (Wd.mk u a b c).pile (t.take (k + 1)) []) HKW.out HBEL.out (below_of_drew hbm) (by rw [List.map_take]; exact hown') (by intro k hk; cases hk; exact hg) hgrow (by have := HM0.out; omega) (HP.out.symm.trans HQ.out)
     clear hown' hgrow hbm HOm
     go_wp2
     go_roundw
     case rel => exact ⟨k + 1, _, by omega, by go_num, R.1, R.2.1, R.2.2, rfl⟩
     case measure => simp [intOf]; omega
  ·obtain rfl : k = n := by omega
   rw [List.take_of_length_le (by rw [← HN.out]; exact Nat.le_refl _)] at hkt0 hp0
   have h1 : p.length = 1 := by
    rw [HO.out] at hkt0
    have := Option.some.inj hkt0
    omega
   have HVp : Hid (p.getD 0 0 = V) := by unfold Hid; rw [HV.out, hp0]; rfl
   have HF := hide (HW.out.trans (hbel0.mono HKs.out))
   rcases hown0.2 with ⟨rfl, hp0⟩ | ⟨g, cap', cur, rfl, hg, hh, hm, hmax, _, _⟩
   ·omega
   ·have hcx : wr.cell? ⟨g, 0, none⟩ = some (.int .i64 V) := by rw [← HVp.out]; exact ownsRow_int hown0 (by omega)
    rw [h1]
    clear hown0 hh hkt0 hp0 hbel0 hKw0
    go_wp2
    go_ret2
    exact ⟨rfl, HF.out⟩
end Go.Proofs.YtjmeakkmfeoigaaGreatDoor
namespace Go.Proofs.YtjmeakkmfeoigaaGreatDoor
open Go.ChangeShapes Go.WideShapes Go.ChangeAt Go.RowKit
theorem quiet_check_ok (u s : Int) (h : okB u s = true) (W : World) : Calls Tryz.prog 27 #[.int .i64 u, .int .i64 s] W fun e w' => e = .returned .nilIface ∧ w' = W := (check_ok u s h W).mono fun _ _ h => (And.intro h.1 h.2.symm)
theorem quiet_check_no (u s : Int) (h : okB u s = false) (W : World) : Calls Tryz.prog 27 #[.int .i64 u, .int .i64 s] W fun e w' => e = .returned (.iface 64 (.int .i64 1)) ∧ w' = W := (check_no u s h W).mono fun _ _ h => (And.intro h.1 h.2.symm)
set_option maxRecDepth 100000 in
set_option maxHeartbeats 4000000 in
theorem checkWorld_any (u a b c : Int) (w : World) :
    Calls Tryz.prog 125 #[.agg #[.int .i64 u, .int .i64 a, .int .i64 b, .int .i64 c]] w (Bk w (if (Wd.mk u a b c).ok = true then .nilIface else .iface 64 (.int .i64 1))) := by
 obtain ⟨w1, hw1⟩ := nm (w.alloc (.cells #[.int .i64 u, .int .i64 a, .int .i64 b, .int .i64 c] 55))
 obtain ⟨K, hK⟩ := nm (w.heap.size + 1)
 have HK1 : Hid (w1.heap.size = K) := by unfold Hid; rw [hw1, hK]; simp
 have HX : Hid (w1.cell? ⟨w.heap.size, 0, none⟩ = some (.int .i64 u) ∧ w1.cell? ⟨w.heap.size, 1, none⟩ = some (.int .i64 a) ∧ w1.cell? ⟨w.heap.size, 2, none⟩ = some (.int .i64 b) ∧ w1.cell? ⟨w.heap.size, 3, none⟩ = some (.int .i64 c)) := by
  unfold Hid; rw [hw1]; simp
 have HBK : Hid (w.heap.size < K) := by unfold Hid; omega
 have HW : Hid (Below w.heap.size w w1) := by unfold Hid; rw [hw1]; exact below_alloc1 _ _
 have HKs : Hid (w.heap.size ≤ K) := by unfold Hid; omega
 clear hK
 obtain ⟨E, hE⟩ : ∃ E, E = if (Wd.mk u a b c).ok = true then Value.nilIface else .iface 64 (.int .i64 1) := ⟨_, rfl⟩
 rw [← hE]
 have HE : Hid ((okB u a = true → okB u b = true → okB u c = true → E = .nilIface) ∧ ((okB u a = false ∨ okB u b = false ∨ okB u c = false) → E = .iface 64 (.int .i64 1))) := by
  refine ⟨fun h1 h2 h3 => ?_, fun h => ?_⟩
  ·have ho : (Wd.mk u a b c).ok = true := Wd.ok_iff.2 ⟨h1, h2, h3⟩
   rw [if_pos ho] at hE
   exact hE
  ·have ho : ¬ (Wd.mk u a b c).ok = true := by
    intro ho
    obtain ⟨h1, h2, h3⟩ := Wd.ok_iff.1 ho
    simp only at h1 h2 h3
    rw [h1, h2, h3] at h
    simp at h
   rw [if_neg ho] at hE
   exact hE
 clear hE
 go_enter Tryz.func125, Tryz.ntmps125
 go_wp2_with fail
 rw [← hw1]
 clear hw1
 go_loopw [5] (fun i wr => ∃ k : Nat, k ≤ 3 ∧ i = .int .i64 k ∧ Below K w1 wr ∧ (1 ≤ k → okB u a = true) ∧ (2 ≤ k → okB u b = true) ∧ (3 ≤ k → okB u c = true)) (fun i _ => 3 - (intOf i).toNat)
 case atStart => exact ⟨0, Nat.zero_le _, rfl, Below.refl _ _, by omega, by omega, by omega⟩
 case round =>
  obtain ⟨k, hk, rfl, hbel, k1, k2, k3⟩ := hrel
  have x0 : wr.cell? ⟨w.heap.size, 0, none⟩ = some (.int .i64 u) := by rw [hbel.cell HBK.out]; exact HX.out.1
  have x1 : wr.cell? ⟨w.heap.size, 1, none⟩ = some (.int .i64 a) := by rw [hbel.cell HBK.out]; exact HX.out.2.1
  have x2 : wr.cell? ⟨w.heap.size, 2, none⟩ = some (.int .i64 b) := by rw [hbel.cell HBK.out]; exact HX.out.2.2.1
  have x3 : wr.cell? ⟨w.heap.size, 3, none⟩ = some (.int .i64 c) := by rw [hbel.cell HBK.out]; exact HX.out.2.2.2
  have HB := hide hbel
  have HKw : Hid (K ≤ wr.heap.size) := by unfold Hid; rw [← HK1.out]; exact hbel.size
  clear hbel
  obtain rfl | rfl | rfl | rfl : k = 0 ∨ k = 1 ∨ k = 2 ∨ k = 3 := by omega
  ·clear k1 k2 k3 hk
   rcases (Bool.eq_false_or_eq_true (okB u a)).symm with ho | ho
   ·have HO := hide ho
    clear ho
    go_wp2_with fail
    go_quiet (first | (go_at_call 27; exact Calls.quiet_of_same (quiet_check_no _ _ HO.out _)))
    go_wp2
    go_ret
    exact ⟨back_v (HE.out.2 (Or.inl HO.out)).symm, HW.out.trans ((HB.out.mono HKs.out).trans ((below_drewNs _ _).mono (Nat.le_trans HKs.out HKw.out)))⟩
   ·have HO := hide ho
    clear ho
    go_wp2_with fail
    go_quiet (first | (go_at_call 27; exact Calls.quiet_of_same (quiet_check_ok _ _ HO.out _)))
    go_wp2
    go_roundw
    case rel => exact ⟨1, by omega, by go_num, HB.out.trans ((below_drewNs _ _).mono HKw.out), fun _ => HO.out, fun h => by omega, fun h => by omega⟩
    case measure => simp [intOf]
  ·have HO1 := hide (k1 (by omega))
   clear k1 k2 k3 hk
   rcases (Bool.eq_false_or_eq_true (okB u b)).symm with ho | ho
   ·have HO := hide ho
    clear ho
    go_wp2_with fail
    go_quiet (first | (go_at_call 27; exact Calls.quiet_of_same (quiet_check_no _ _ HO.out _)))
    go_wp2
    go_ret
    exact ⟨back_v (HE.out.2 (Or.inr (Or.inl HO.out))).symm, HW.out.trans ((HB.out.mono HKs.out).trans ((below_drewNs _ _).mono (Nat.le_trans HKs.out HKw.out)))⟩
   ·have HO := hide ho
    clear ho
    go_wp2_with fail
    go_quiet (first | (go_at_call 27; exact Calls.quiet_of_same (quiet_check_ok _ _ HO.out _)))
    go_wp2
    go_roundw
    case rel => exact ⟨2, by omega, by go_num, HB.out.trans ((below_drewNs _ _).mono HKw.out), fun _ => HO1.out, fun _ => HO.out, fun h => by omega⟩
    case measure => simp [intOf]
  ·have HO1 := hide (k1 (by omega))
   have HO2 := hide (k2 (by omega))
   clear k1 k2 k3 hk
   rcases (Bool.eq_false_or_eq_true (okB u c)).symm with ho | ho
   ·have HO := hide ho
    clear ho
    go_wp2_with fail
    go_quiet (first | (go_at_call 27; exact Calls.quiet_of_same (quiet_check_no _ _ HO.out _)))
    go_wp2
    go_ret
    exact ⟨back_v (HE.out.2 (Or.inr (Or.inr HO.out))).symm, HW.out.trans ((HB.out.mono HKs.out).trans ((below_drewNs _ _).mono (Nat.le_trans HKs.out HKw.out)))⟩
   ·have HO := hide ho
    clear ho
    go_wp2_with fail
    go_quiet (first | (go_at_call 27; exact Calls.quiet_of_same (quiet_check_ok _ _ HO.out _)))
    go_wp2
    go_roundw
    case rel => exact ⟨3, by omega, by go_num, HB.out.trans ((below_drewNs _ _).mono HKw.out), fun _ => HO1.out, fun _ => HO2.out, fun _ => HO.out⟩
    case measure => simp [intOf]
  ·have HO : Hid (okB u a = true ∧ okB u b = true ∧ okB u c = true) := ⟨k1 (by omega), k2 (by omega), k3 (by omega)⟩
   clear k1 k2 k3 hk
   go_wp2
   go_ret
   exact ⟨back_v (HE.out.1 HO.out.1 HO.out.2.1 HO.out.2.2).symm, HW.out.trans (HB.out.mono HKs.out)⟩
def Wd.answer (w : Wd) (t : List Int) : Int := if faultN t = 0 then (if w.ok = true then w.val t else 0) else 0
def Wd.fault (w : Wd) (t : List Int) : Int := if faultN t = 0 then (if w.ok = true then 0 else 1) else faultN t
theorem back_2 {a b x y : Value} (h : a = b) (h' : x = y) : Ending.returned (.tuple #[a, x]) = .returned (.tuple #[b, y]) := by rw [h, h']
theorem value_bad (t : List Int) (v : Value) (u a b c : Int) (w : World) (h : Reads w v t) (hf : ¬ faultN t = 0) :
    Calls Tryz.prog 86 #[v, .agg #[.int .i64 u, .int .i64 a, .int .i64 b, .int .i64 c]] w (Bk w (.tuple #[.int .i64 0, .iface 64 (.int .i64 (faultN t))])) := by
 have HC : Hid (Calls Tryz.prog 68 #[v] (w.alloc (.cells #[.int .i64 u, .int .i64 a, .int .i64 b, .int .i64 c] 55)) fun e w' => e = .returned (.iface 64 (.int .i64 (faultN t))) ∧ (w.alloc (.cells #[.int .i64 u, .int .i64 a, .int .i64 b, .int .i64 c] 55)) = w') := by
  have := tcheck_any t v _ (h.below (below_alloc1 w (.cells #[.int .i64 u, .int .i64 a, .int .i64 b, .int .i64 c] 55)))
  unfold errV at this
  rw [if_neg hf] at this
  exact this
 clear h hf
 obtain ⟨F, hF⟩ := nm (faultN t)
 rw [← hF] at HC ⊢
 clear hF
 go_enter Tryz.func86, Tryz.ntmps86
 go_wp2_with (go_at_call 68; refine HC.out.mono ?_; rintro e w' ⟨rfl, rfl⟩)
 go_ret2
 exact ⟨rfl, below_alloc1 _ _⟩
set_option maxRecDepth 100000 in
set_option maxHeartbeats 4000000 in
theorem value_good (t : List Int) (B off cap : Nat) (u a b c : Int) (w : World) (hB : B < w.heap.size) (hcap : t.length ≤ cap) (hf : faultN t = 0) (hc : ∀ k, k < t.length → w.cell? ⟨B, off + k, none⟩ = some (.int .i64 (t.getD k 0))) :
    Calls Tryz.prog 86 #[.slice (some ⟨B, off, none⟩) t.length cap, .agg #[.int .i64 u, .int .i64 a, .int .i64 b, .int .i64 c]] w (Bk w (.tuple #[.int .i64 (if (Wd.mk u a b c).ok = true then (Wd.mk u a b c).val t else 0), if (Wd.mk u a b c).ok = true then .nilIface else .iface 64 (.int .i64 1)])) := by
 obtain ⟨f1, f2, f3, f4⟩ := fault_zero.1 hf
 obtain ⟨w1, hw1⟩ := nm (w.alloc (.cells #[.int .i64 u, .int .i64 a, .int .i64 b, .int .i64 c] 55))
 obtain ⟨K, hK⟩ := nm (w.heap.size + 1)
 have HK1 : Hid (w1.heap.size = K) := by unfold Hid; rw [hw1, hK]; simp
 have HC1 : Hid (∀ k, k < t.length → w1.cell? ⟨B, off + k, none⟩ = some (.int .i64 (t.getD k 0))) := fun k hk => by
  rw [hw1, World.cell?_alloc_lt _ _ ⟨B, off + k, none⟩ hB]; exact hc k hk
 have HBK : Hid (B < K ∧ w.heap.size < K) := ⟨by omega, by omega⟩
 have HW : Hid (Below w.heap.size w w1) := by unfold Hid; rw [hw1]; exact below_alloc1 _ _
 have HKs : Hid (w.heap.size ≤ K) := by unfold Hid; omega
 have HC : Hid (Calls Tryz.prog 68 #[.slice (some ⟨B, off, none⟩) t.length cap] w1 (Sk w1 .nilIface)) := by
  have := tcheck_any t (.slice (some ⟨B, off, none⟩) t.length cap) w1 (Or.inr ⟨B, off, cap, rfl, by have := HK1.out; have := HBK.out.1; omega, by omega, ⟨by omega, hcap⟩, HC1.out⟩)
  rw [hf] at this
  exact this
 clear hc hB hK hcap
 have HWK : Hid (∀ W, Below K w1 W → (Wd.mk u a b c).ok = true → Calls Tryz.prog 126 #[.slice (some ⟨B, off, none⟩) t.length cap, .agg #[.int .i64 u, .int .i64 a, .int .i64 b, .int .i64 c]] W (Bk W (.tuple #[.int .i64 ((Wd.mk u a b c).val t), .nilIface]))) := fun W hb hok =>
  work_any u a b c t B off cap W hok f3 f4 f2 (by have := hb.size; have := HK1.out; have := HBK.out.1; omega) (fun k hk => by rw [hb.cell HBK.out.1]; exact HC1.out k hk)
 clear HC1 f1 f2 f3 f4 hf
 obtain ⟨V, hV⟩ := nm ((Wd.mk u a b c).val t)
 rw [← hV] at HWK ⊢
 clear hV
 obtain ⟨n, hn⟩ := nm t.length
 rw [← hn] at HWK HC ⊢
 clear hn
 have HCW : Hid (Calls Tryz.prog 125 #[.agg #[.int .i64 u, .int .i64 a, .int .i64 b, .int .i64 c]] w1 (Bk w1 (if (Wd.mk u a b c).ok = true then .nilIface else .iface 64 (.int .i64 1)))) := checkWorld_any u a b c w1
 have HX : Hid (∀ W, Below w1.heap.size w1 W → W.cell? ⟨w.heap.size, 0, none⟩ = some (.int .i64 u) ∧ W.cell? ⟨w.heap.size, 1, none⟩ = some (.int .i64 a) ∧ W.cell? ⟨w.heap.size, 2, none⟩ = some (.int .i64 b) ∧ W.cell? ⟨w.heap.size, 3, none⟩ = some (.int .i64 c)) := fun W hc => by
  have hlt : w.heap.size < w1.heap.size := by rw [hw1]; simp
  rw [hc.cell (p := ⟨w.heap.size, 0, none⟩) hlt, hc.cell (p := ⟨w.heap.size, 1, none⟩) hlt, hc.cell (p := ⟨w.heap.size, 2, none⟩) hlt, hc.cell (p := ⟨w.heap.size, 3, none⟩) hlt, hw1]
  simp
 rcases (Bool.eq_false_or_eq_true (Wd.mk u a b c).ok).symm with ho | ho
 ·rw [if_neg (by rw [ho]; decide), if_neg (by rw [ho]; decide)]
  have HCE : Hid (Calls Tryz.prog 125 #[.agg #[.int .i64 u, .int .i64 a, .int .i64 b, .int .i64 c]] w1 (Bk w1 (.iface 64 (.int .i64 1)))) := by
   have := HCW.out
   rw [if_neg (by rw [ho]; decide)] at this
   exact this
  clear HCW ho HWK
  go_enter Tryz.func86, Tryz.ntmps86
  go_wp2_with fail
  rw [← hw1]
  clear hw1
  obtain ⟨y0, y1, y2, y3⟩ := HX.out w1 (Below.refl _ _)
  go_wp2_with fail
  go_at_call 68
  refine HC.out.mono ?_
  rintro e w' ⟨rfl, rfl⟩
  go_wp2_with fail
  go_at_call 125
  refine HCE.out.mono ?_
  rintro e w2 ⟨rfl, hb⟩
  have HB := hide hb
  clear hb y0 y1 y2 y3
  go_wp2
  go_ret2
  exact ⟨rfl, HW.out.trans (HB.out.mono (by have := HK1.out; have := HKs.out; omega))⟩
 ·rw [if_pos ho, if_pos ho]
  have HCE : Hid (Calls Tryz.prog 125 #[.agg #[.int .i64 u, .int .i64 a, .int .i64 b, .int .i64 c]] w1 (Bk w1 .nilIface)) := by
   have := HCW.out
   rw [if_pos ho] at this
   exact this
  have HO := hide ho
  clear HCW ho
  go_enter Tryz.func86, Tryz.ntmps86
  go_wp2_with fail
  rw [← hw1]
  clear hw1
  obtain ⟨y0, y1, y2, y3⟩ := HX.out w1 (Below.refl _ _)
  go_wp2_with fail
  go_at_call 68
  refine HC.out.mono ?_
  rintro e w' ⟨rfl, rfl⟩
  go_wp2_with fail
  go_at_call 125
  refine HCE.out.mono ?_
  rintro e w2 ⟨rfl, hb⟩
  have HB := hide hb
  obtain ⟨x0, x1, x2, x3⟩ := HX.out w2 hb
  clear hb y0 y1 y2 y3
  go_wp2_with fail
  go_at_call 126
  refine (HWK.out w2 (by rw [← HK1.out]; exact HB.out) HO.out).mono ?_
  rintro e w3 ⟨rfl, hb⟩
  have HB3 := hide hb
  clear hb x0 x1 x2 x3
  go_wp2
  go_ret2
  have hs : w.heap.size ≤ w1.heap.size := by have := HK1.out; have := HKs.out; omega
  exact ⟨rfl, HW.out.trans ((HB.out.mono hs).trans (HB3.out.mono (Nat.le_trans hs HB.out.size)))⟩
theorem value_any (t : List Int) (v : Value) (u a b c : Int) (w : World) (h : Reads w v t) :
    Calls Tryz.prog 86 #[v, .agg #[.int .i64 u, .int .i64 a, .int .i64 b, .int .i64 c]] w (Bk w (.tuple #[.int .i64 ((Wd.mk u a b c).answer t), errV ((Wd.mk u a b c).fault t)])) := by
 by_cases hf : faultN t = 0
 ·have e1 : (Wd.mk u a b c).answer t = if (Wd.mk u a b c).ok = true then (Wd.mk u a b c).val t else 0 := by unfold Wd.answer; rw [if_pos hf]
  have e2 : errV ((Wd.mk u a b c).fault t) = if (Wd.mk u a b c).ok = true then .nilIface else .iface 64 (.int .i64 1) := by
   unfold Wd.fault; rw [if_pos hf]
   by_cases ho : (Wd.mk u a b c).ok = true
   ·rw [if_pos ho, if_pos ho]; rfl
   ·rw [if_neg ho, if_neg ho]; rfl
  rw [e1, e2]
  rcases h with ⟨ao, cap, rfl, rfl⟩ | ⟨B, off, cap, rfl, hB, _, ⟨_, hcap⟩, hc⟩
  ·exact absurd hf (by decide)
  ·exact value_good t B off cap u a b c w hB hcap hf hc
 ·have e1 : (Wd.mk u a b c).answer t = 0 := by unfold Wd.answer; rw [if_neg hf]
  have e2 : errV ((Wd.mk u a b c).fault t) = .iface 64 (.int .i64 (faultN t)) := by
   unfold Wd.fault errV; rw [if_neg hf, if_neg hf]
  rw [e1, e2]
  exact value_bad t v u a b c w h hf
end Go.Proofs.YtjmeakkmfeoigaaGreatDoor
namespace Go.Proofs.YtjmeakkmfeoigaaGreatDoor
open Go.ChangeShapes Go.WideShapes Go.ChangeAt Go.RowKit
theorem bit_at (s : Int) (i : Nat) (h0 : 0 ≤ s) (h1 : s < 256) (hi : i < 8) : bits .and .i64 (s / 2 ^ i) 1 = oneB (hasB s i) := by
 have e : ∀ n : Nat, n < 256 → ∀ i : Nat, i < 8 → bits .and .i64 ((n : Int) / 2 ^ i) 1 = oneB (hasB n i) := by decide +kernel
 obtain ⟨n, rfl⟩ := Int.eq_ofNat_of_zero_le h0
 exact e n (by omega) i hi
theorem or_more {n : Nat} {a : Int} (h : okB n a = true) (h5 : n ≤ 5) (x : Bool) : bits .or .i64 a (wrap64 (oneB x * 2 ^ n)) = a + oneB x * pw n := by
 have e := uptoSets (P := fun u a _ => u ≤ 5 → ∀ x, bits .or .i64 a (wrap64 (oneB x * 2 ^ u.toNat)) = a + oneB x * pw u.toNat) (by decide +kernel) n a a h h (by omega) x
 simpa using e
theorem and_bit : ∀ f : Nat, f < 8 → bits .and .i64 (f : Int) 1 = oneB (bitB f 0) ∧ bits .and .i64 ((f : Int) / 2) 1 = oneB (bitB f 1) ∧ bits .and .i64 ((f : Int) / 4) 1 = oneB (bitB f 2) := by decide +kernel
set_option maxRecDepth 100000 in
set_option maxHeartbeats 4000000 in
theorem with_field (n : Nat) (a b c : Int) (f : Nat) (hok : (Wd.mk n a b c).ok = true) (h5 : n ≤ 5) (hf : f < 8) (w : World) :
    Calls Tryz.prog 119 #[.agg #[.int .i64 n, .int .i64 a, .int .i64 b, .int .i64 c], .int .i64 f] w (Bk w (((Wd.mk n a b c).more f).v)) := by
 have HV : Hid (Value.agg #[.int .i64 ((n : Int) + 1), .int .i64 (bits .or .i64 a (wrap64 (bits .and .i64 (f : Int) 1 * 2 ^ n))), .int .i64 (bits .or .i64 b (wrap64 (bits .and .i64 ((f : Int) / 2) 1 * 2 ^ n))), .int .i64 (bits .or .i64 c (wrap64 (bits .and .i64 ((f : Int) / 4) 1 * 2 ^ n)))] = ((Wd.mk n a b c).more f).v) := by
  obtain ⟨h1, h2, h3⟩ := Wd.ok_iff.1 hok
  obtain ⟨e1, e2, e3⟩ := and_bit f hf
  unfold Hid
  rw [e1, e2, e3, or_more h1 h5, or_more h2 h5, or_more h3 h5]
  rfl
 clear hok
 go_enter Tryz.func119, Tryz.ntmps119
 go_wp2
 refine wp_loop_rounds 4 ?_
 rw [rounds_succ]
 go_wp2
 go_region
 go_wp2
 rw [rounds_succ]
 go_wp2
 go_region
 go_wp2
 rw [rounds_succ]
 go_wp2
 go_region
 go_wp2
 rw [rounds_succ]
 go_wp2
 go_returns
 exact ⟨back_v HV.out, by go_grown⟩
end Go.Proofs.YtjmeakkmfeoigaaGreatDoor
namespace Go.Proofs.YtjmeakkmfeoigaaGreatDoor
open Go.ChangeShapes Go.WideShapes Go.ChangeAt Go.RowKit
def maskN (t : List Int) : Int := if faultN t = 0 then maskTo (liesB t) 8 else 0
theorem with_one (f : Nat) (hf : f < 8) (w : World) :
    Calls Tryz.prog 119 #[.agg #[.int .i64 0, .int .i64 0, .int .i64 0, .int .i64 0], .int .i64 f] w (Bk w (.agg #[.int .i64 1, .int .i64 (oneW f).a, .int .i64 (oneW f).b, .int .i64 (oneW f).c])) :=
 with_field 0 0 0 0 f (by decide) (by omega) hf w
theorem one_value (t : List Int) (v : Value) (f : Nat) (w : World) (h : Reads w v t) :
    Calls Tryz.prog 86 #[v, .agg #[.int .i64 1, .int .i64 (oneW f).a, .int .i64 (oneW f).b, .int .i64 (oneW f).c]] w (Bk w (.tuple #[.int .i64 (if faultN t = 0 then oneB (liesB t f) else 0), errV (faultN t)])) := by
 have hv := value_any t v 1 (oneW f).a (oneW f).b (oneW f).c w h
 have e : (Wd.mk 1 (oneW f).a (oneW f).b (oneW f).c) = oneW f := rfl
 rw [e] at hv
 have e1 : (oneW f).answer t = if faultN t = 0 then oneB (liesB t f) else 0 := by unfold Wd.answer; rw [if_pos (oneW_ok f), oneW_val]
 have e2 : (oneW f).fault t = faultN t := by
  unfold Wd.fault; rw [if_pos (oneW_ok f)]
  split
  ·rename_i h0; exact h0.symm
  ·rfl
 rw [e1, e2] at hv
 exact hv
theorem or_mask1 : ∀ k : Nat, k < 8 → ∀ m : Nat, m < 2 ^ k → ∀ x, bits .or .i64 (m : Int) (wrap64 (oneB x * 2 ^ k)) = (m : Int) + oneB x * pw k := by decide +kernel
theorem or_mask (L : Nat → Bool) {k : Nat} (hk : k < 8) : bits .or .i64 (maskTo L k) (wrap64 (oneB (L k) * 2 ^ k)) = maskTo L (k + 1) := by
 obtain ⟨m0, m1⟩ := maskTo_le L k
 obtain ⟨m, hm⟩ := Int.eq_ofNat_of_zero_le m0
 have hp : pw k = ((2 ^ k : Nat) : Int) := by unfold pw; simp
 have h := or_mask1 k hk m (by rw [hm, hp] at m1; omega) (L k)
 show _ = maskTo L k + oneB (L k) * pw k
 rw [hm]; exact h
set_option maxRecDepth 100000 in
set_option maxHeartbeats 4000000 in
theorem mask_any (t : List Int) (v : Value) (w : World) (h : Reads w v t) :
    Calls Tryz.prog 183 #[v] w (Bk w (.tuple #[.int .i64 (maskN t), errV (faultN t)])) := by
 have HV : Hid (∀ f W, Below w.heap.size w W → Calls Tryz.prog 86 #[v, .agg #[.int .i64 1, .int .i64 (oneW f).a, .int .i64 (oneW f).b, .int .i64 (oneW f).c]] W (Bk W (.tuple #[.int .i64 (if faultN t = 0 then oneB (liesB t f) else 0), errV (faultN t)]))) := fun f W hb => one_value t v f W (h.below hb)
 clear h
 by_cases hf : faultN t = 0
 ·have e1 : maskN t = maskTo (liesB t) 8 := by unfold maskN; rw [if_pos hf]
  have e2 : errV (faultN t) = .nilIface := by rw [hf]; rfl
  rw [e1, e2]
  rw [e2] at HV
  simp only [if_pos hf] at HV
  clear e1 e2 hf
  obtain ⟨L, hL⟩ := nm (liesB t)
  rw [← hL] at HV ⊢
  clear hL
  go_enter Tryz.func183, Tryz.ntmps183
  go_wp2
  go_loopw [4, 8] (fun m i wr => ∃ k : Nat, k ≤ 8 ∧ i = .int .i64 k ∧ m = .int .i64 (maskTo L k) ∧ Below w.heap.size w wr) (fun _ i _ => 8 - (intOf i).toNat)
  case atStart => exact ⟨0, Nat.zero_le _, rfl, rfl, Below.refl _ _⟩
  case round =>
   obtain ⟨k, hk, rfl, rfl, hb⟩ := hrel
   have HB := hide hb
   clear hb
   by_cases hlt : k < 8
   ·have HS : Hid (bits .or .i64 (maskTo L k) (wrap64 (oneB (L k) * 2 ^ k)) = maskTo L (k + 1)) := or_mask L hlt
    go_wp2_with fail
    go_at_call 119
    refine (with_one k hlt _).mono ?_
    rintro e w2 ⟨rfl, hb2⟩
    have HB2 := hide (HB.out.trans (hb2.mono HB.out.size))
    clear hb2
    go_wp2_with fail
    go_at_call 86
    refine (HV.out k w2 HB2.out).mono ?_
    rintro e w3 ⟨rfl, hb3⟩
    have HB3 := hide (HB2.out.trans (hb3.mono HB2.out.size))
    clear hb3
    go_wp2
    go_roundw
    case rel => exact ⟨k + 1, by omega, by go_num, by rw [HS.out], HB3.out⟩
    case measure => simp [intOf]; omega
   ·obtain rfl : k = 8 := by omega
    go_wp2
    go_ret2
    exact ⟨rfl, HB.out⟩
 ·have e1 : maskN t = 0 := by unfold maskN; rw [if_neg hf]
  have e2 : errV (faultN t) = .iface 64 (.int .i64 (faultN t)) := by unfold errV; rw [if_neg hf]
  rw [e1, e2]
  rw [e2] at HV
  simp only [if_neg hf] at HV
  clear e1 e2 hf
  obtain ⟨F, hF⟩ := nm (faultN t)
  rw [← hF] at HV ⊢
  clear hF
  go_enter Tryz.func183, Tryz.ntmps183
  go_wp2
  refine wp_loop_rounds 1 ?_
  rw [rounds_succ]
  go_wp2_with fail
  go_at_call 119
  refine (with_one 0 (by omega) _).mono ?_
  rintro e w2 ⟨rfl, hb2⟩
  have HB2 := hide hb2
  clear hb2
  go_wp2_with fail
  go_at_call 86
  refine (HV.out 0 w2 HB2.out).mono ?_
  rintro e w3 ⟨rfl, hb3⟩
  have HB3 := hide (HB2.out.trans (hb3.mono HB2.out.size))
  clear hb3
  go_wp2
  go_ret2
  exact ⟨rfl, HB3.out⟩
end Go.Proofs.YtjmeakkmfeoigaaGreatDoor
namespace Go.Proofs.YtjmeakkmfeoigaaGreatDoor
open Go.ChangeShapes Go.WideShapes Go.ChangeAt Go.RowKit
def Blk (w : World) (G : Nat) (T : TypeId) (cs : Array Value) : Prop := w.heap[G]? = some (.cells cs T (0, 0))
theorem Blk.lt {w : World} {G : Nat} {T : TypeId} {cs : Array Value} (h : Blk w G T cs) : G < w.heap.size := (Array.getElem?_eq_some_iff.1 h).1
theorem Blk.below {w w' : World} {G : Nat} {T : TypeId} {cs : Array Value} (h : Blk w G T cs) (hb : Below w.heap.size w w') : Blk w' G T cs := by
 unfold Blk; rw [hb.block G h.lt]; exact h
theorem Blk.cell {w : World} {G : Nat} {T : TypeId} {cs : Array Value} (h : Blk w G T cs) (j : Nat) : w.cell? ⟨G, j, none⟩ = cs[j]? := cell_of_row w G j cs T (0, 0) h
theorem Blk.frozen {w : World} {G : Nat} {T : TypeId} {cs : Array Value} (h : Blk w G T cs) (j : Nat) : w.frozen? ⟨G, j, none⟩ = false := frozen_of_row w G j cs T h
theorem Blk.set {w : World} {G : Nat} {T : TypeId} {cs : Array Value} (h : Blk w G T cs) (j : Nat) (u : Value) : Blk (w.setCell ⟨G, j, none⟩ u) G T (cs.setIfInBounds j u) := heap_setCell_same w G j cs T u h
theorem Blk.far {w : World} {G : Nat} {T : TypeId} {cs : Array Value} (h : Blk w G T cs) {R : Nat} (hR : G ≠ R) (j : Nat) (u : Value) : Blk (w.setCell ⟨R, j, none⟩ u) G T cs := by
 unfold Blk; rw [heap_setCell_other w ⟨R, j, none⟩ G u hR]; exact h
theorem Blk.drew {w : World} {G : Nat} {T : TypeId} {cs : Array Value} (h : Blk w G T cs) : Blk w.drew G T cs := h
theorem Blk.new (w : World) (T : TypeId) (cs : Array Value) : Blk (w.alloc (.cells cs T)) w.heap.size T cs := heap_alloc_new w _
theorem Blk.old {w : World} {G : Nat} {T : TypeId} {cs : Array Value} (h : Blk w G T cs) (o : Obj) : Blk (w.alloc o) G T cs := by
 unfold Blk; rw [heap_alloc_old w o h.lt]; exact h
def arr8 (N : Nat → Int) : Array Value := #[.int .i64 (N 0), .int .i64 (N 1), .int .i64 (N 2), .int .i64 (N 3), .int .i64 (N 4), .int .i64 (N 5), .int .i64 (N 6), .int .i64 (N 7)]
theorem arr8_get (N : Nat → Int) {f : Nat} (hf : f < 8) : (arr8 N)[f]? = some (.int .i64 (N f)) := by
 rcases eight hf with rfl | rfl | rfl | rfl | rfl | rfl | rfl | rfl <;> rfl
theorem arr8_same {N M : Nat → Int} (h : ∀ f, f < 8 → N f = M f) : arr8 N = arr8 M := by
 unfold arr8
 rw [h 0 (by omega), h 1 (by omega), h 2 (by omega), h 3 (by omega), h 4 (by omega), h 5 (by omega), h 6 (by omega), h 7 (by omega)]
theorem arr8_all (N M : Nat → Int) : ((((((((arr8 N).setIfInBounds 0 (.int .i64 (M 0))).setIfInBounds 1 (.int .i64 (M 1))).setIfInBounds 2 (.int .i64 (M 2))).setIfInBounds 3 (.int .i64 (M 3))).setIfInBounds 4 (.int .i64 (M 4))).setIfInBounds 5 (.int .i64 (M 5))).setIfInBounds 6 (.int .i64 (M 6))).setIfInBounds 7 (.int .i64 (M 7)) = arr8 M := by
 simp [arr8]
def arrW (w : Wd) : Array Value := #[.int .i64 w.u, .int .i64 w.a, .int .i64 w.b, .int .i64 w.c]
theorem load8 {W : World} {R : Nat} {N : Nat → Int} (h : Blk W R 122 (arr8 N)) : (loadVar 122 ⟨R, 0, none⟩).run Tryz.prog W = .ok (.agg (arr8 N)) W := by
 have hl := run_loadCells_list (P := Tryz.prog) W ⟨R, 0, none⟩ (arr8 N).toList (fun j v hj => by
  have := h.cell j
  rw [← Array.getElem?_toList] at this
  rw [hj] at this
  have ha : (⟨R, 0, none⟩ : Addr).add j = ⟨R, j, none⟩ := by unfold Addr.add; split <;> simp_all
  rw [ha]; exact this)
 simp [loadVar, Tryz.isAgg122, Tryz.sizeOf122, Result.andThen, arr8] at hl ⊢
 simp [hl]
theorem Blk.cells8 {w : World} {G : Nat} {T : TypeId} {N : Nat → Int} (h : Blk w G T (arr8 N)) : w.cell? ⟨G, 0, none⟩ = some (.int .i64 (N 0)) ∧ w.cell? ⟨G, 1, none⟩ = some (.int .i64 (N 1)) ∧ w.cell? ⟨G, 2, none⟩ = some (.int .i64 (N 2)) ∧ w.cell? ⟨G, 3, none⟩ = some (.int .i64 (N 3)) ∧ w.cell? ⟨G, 4, none⟩ = some (.int .i64 (N 4)) ∧ w.cell? ⟨G, 5, none⟩ = some (.int .i64 (N 5)) ∧ w.cell? ⟨G, 6, none⟩ = some (.int .i64 (N 6)) ∧ w.cell? ⟨G, 7, none⟩ = some (.int .i64 (N 7)) :=
 ⟨h.cell 0, h.cell 1, h.cell 2, h.cell 3, h.cell 4, h.cell 5, h.cell 6, h.cell 7⟩
theorem Blk.frozen8 {w : World} {G : Nat} {T : TypeId} {cs : Array Value} (h : Blk w G T cs) : w.frozen? ⟨G, 0, none⟩ = false ∧ w.frozen? ⟨G, 1, none⟩ = false ∧ w.frozen? ⟨G, 2, none⟩ = false ∧ w.frozen? ⟨G, 3, none⟩ = false ∧ w.frozen? ⟨G, 4, none⟩ = false ∧ w.frozen? ⟨G, 5, none⟩ = false ∧ w.frozen? ⟨G, 6, none⟩ = false ∧ w.frozen? ⟨G, 7, none⟩ = false :=
 ⟨h.frozen 0, h.frozen 1, h.frozen 2, h.frozen 3, h.frozen 4, h.frozen 5, h.frozen 6, h.frozen 7⟩
theorem Blk.cells4 {w : World} {G : Nat} {T : TypeId} {W : Wd} (h : Blk w G T (arrW W)) : w.cell? ⟨G, 0, none⟩ = some (.int .i64 W.u) ∧ w.cell? ⟨G, 1, none⟩ = some (.int .i64 W.a) ∧ w.cell? ⟨G, 2, none⟩ = some (.int .i64 W.b) ∧ w.cell? ⟨G, 3, none⟩ = some (.int .i64 W.c) :=
 ⟨h.cell 0, h.cell 1, h.cell 2, h.cell 3⟩
theorem Blk.frozen4 {w : World} {G : Nat} {T : TypeId} {cs : Array Value} (h : Blk w G T cs) : w.frozen? ⟨G, 0, none⟩ = false ∧ w.frozen? ⟨G, 1, none⟩ = false ∧ w.frozen? ⟨G, 2, none⟩ = false ∧ w.frozen? ⟨G, 3, none⟩ = false :=
 ⟨h.frozen 0, h.frozen 1, h.frozen 2, h.frozen 3⟩
def put8 (w : World) (R : Nat) (M : Nat → Int) : World := (((((((w.setCell ⟨R, 0, none⟩ (.int .i64 (M 0))).setCell ⟨R, 1, none⟩ (.int .i64 (M 1))).setCell ⟨R, 2, none⟩ (.int .i64 (M 2))).setCell ⟨R, 3, none⟩ (.int .i64 (M 3))).setCell ⟨R, 4, none⟩ (.int .i64 (M 4))).setCell ⟨R, 5, none⟩ (.int .i64 (M 5))).setCell ⟨R, 6, none⟩ (.int .i64 (M 6))).setCell ⟨R, 7, none⟩ (.int .i64 (M 7))
def putW (w : World) (R : Nat) (M : Wd) : World := (((w.setCell ⟨R, 0, none⟩ (.int .i64 M.u)).setCell ⟨R, 1, none⟩ (.int .i64 M.a)).setCell ⟨R, 2, none⟩ (.int .i64 M.b)).setCell ⟨R, 3, none⟩ (.int .i64 M.c)
theorem put8_blk {w : World} {R : Nat} {T : TypeId} {N : Nat → Int} (h : Blk w R T (arr8 N)) (M : Nat → Int) : Blk (put8 w R M) R T (arr8 M) := by
 have := (((((((h.set 0 (.int .i64 (M 0))).set 1 (.int .i64 (M 1))).set 2 (.int .i64 (M 2))).set 3 (.int .i64 (M 3))).set 4 (.int .i64 (M 4))).set 5 (.int .i64 (M 5))).set 6 (.int .i64 (M 6))).set 7 (.int .i64 (M 7))
 rw [arr8_all] at this
 exact this
theorem put8_far {w : World} {R : Nat} {G : Nat} {T : TypeId} {cs : Array Value} (h : Blk w G T cs) (hR : G ≠ R) (M : Nat → Int) : Blk (put8 w R M) G T cs :=
 (((((((h.far hR 0 _).far hR 1 _).far hR 2 _).far hR 3 _).far hR 4 _).far hR 5 _).far hR 6 _).far hR 7 _
theorem put8_below {B : Nat} {w w' : World} {R : Nat} (h : Below B w w') (hR : B ≤ R) (M : Nat → Int) : Below B w (put8 w' R M) :=
 (((((((h.setCell hR _).setCell hR _).setCell hR _).setCell hR _).setCell hR _).setCell hR _).setCell hR _).setCell hR _
theorem putW_blk {w : World} {R : Nat} {T : TypeId} {N : Wd} (h : Blk w R T (arrW N)) (M : Wd) : Blk (putW w R M) R T (arrW M) := by
 have := (((h.set 0 (.int .i64 M.u)).set 1 (.int .i64 M.a)).set 2 (.int .i64 M.b)).set 3 (.int .i64 M.c)
 have e : ((((arrW N).setIfInBounds 0 (.int .i64 M.u)).setIfInBounds 1 (.int .i64 M.a)).setIfInBounds 2 (.int .i64 M.b)).setIfInBounds 3 (.int .i64 M.c) = arrW M := by simp [arrW]
 rw [e] at this
 exact this
theorem putW_far {w : World} {R : Nat} {G : Nat} {T : TypeId} {cs : Array Value} (h : Blk w G T cs) (hR : G ≠ R) (M : Wd) : Blk (putW w R M) G T cs :=
 (((h.far hR 0 _).far hR 1 _).far hR 2 _).far hR 3 _
theorem putW_below {B : Nat} {w w' : World} {R : Nat} (h : Below B w w') (hR : B ≤ R) (M : Wd) : Below B w (putW w' R M) :=
 (((h.setCell hR _).setCell hR _).setCell hR _).setCell hR _
theorem loadW {W : World} {R : Nat} {M : Wd} (h : Blk W R 55 (arrW M)) : (loadVar 55 ⟨R, 0, none⟩).run Tryz.prog W = .ok (.agg (arrW M)) W := by
 have hl := run_loadCells_list (P := Tryz.prog) W ⟨R, 0, none⟩ (arrW M).toList (fun j v hj => by
  have := h.cell j
  rw [← Array.getElem?_toList] at this
  rw [hj] at this
  have ha : (⟨R, 0, none⟩ : Addr).add j = ⟨R, j, none⟩ := by unfold Addr.add; split <;> simp_all
  rw [ha]; exact this)
 simp [loadVar, Tryz.isAgg55, Tryz.sizeOf55, Result.andThen, arrW] at hl ⊢
 simp [hl]
end Go.Proofs.YtjmeakkmfeoigaaGreatDoor
namespace Go.Proofs.YtjmeakkmfeoigaaGreatDoor
open Go.ChangeShapes Go.WideShapes Go.ChangeAt Go.RowKit
structure LKeep (S : Nat → Prop) (W W' : World) : Prop where
 os : W'.os = W.os
 tape : W'.tape = W.tape
 output : W'.output = W.output
 size : W.heap.size ≤ W'.heap.size
 block : ∀ b, b < W.heap.size → ¬ S b → W'.heap[b]? = W.heap[b]?
theorem LKeep.below {S : Nat → Prop} {K : Nat} {W W' : World} (h : LKeep S W W') (hS : ∀ b, S b → K ≤ b) (hK : K ≤ W.heap.size) : Below K W W' :=
 ⟨h.os, h.tape, h.output, h.size, fun k hk => h.block k (by omega) fun hs => by have := hS k hs; omega⟩
theorem LKeep.blk {S : Nat → Prop} {W W' : World} (h : LKeep S W W') {G : Nat} {T : TypeId} {cs : Array Value} (hb : Blk W G T cs) (hG : ¬ S G) : Blk W' G T cs := by
 unfold Blk; rw [h.block G hb.lt hG]; exact hb
def Grows (S S' : Nat → Prop) (W : World) : Prop := ∀ b, S' b → S b ∨ W.heap.size ≤ b
theorem Grows.off {S S' : Nat → Prop} {W : World} (h : Grows S S' W) {G : Nat} (hG : ¬ S G) (hl : G < W.heap.size) : ¬ S' G := fun hs => by
 rcases h G hs with h | h
 ·exact hG h
 ·omega
theorem Grows.ge {S S' : Nat → Prop} {W : World} (h : Grows S S' W) {K : Nat} (hS : ∀ b, S b → K ≤ b) (hK : K ≤ W.heap.size) : ∀ b, S' b → K ≤ b := fun b hb => by
 rcases h b hb with h | h
 ·exact hS b h
 ·omega
theorem LKeep.refl (S : Nat → Prop) (W : World) : LKeep S W W := ⟨rfl, rfl, rfl, Nat.le_refl _, fun _ _ _ => rfl⟩
theorem LKeep.of_below {S : Nat → Prop} {W W' : World} (h : Below W.heap.size W W') : LKeep S W W' := ⟨h.os, h.tape, h.output, h.size, fun b hb _ => h.block b hb⟩
theorem LKeep.trans {S S' : Nat → Prop} {W W1 W2 : World} (h : LKeep S W W1) (hg : Grows S S' W) (k : LKeep S' W1 W2) : LKeep S W W2 :=
 ⟨k.os.trans h.os, k.tape.trans h.tape, k.output.trans h.output, Nat.le_trans h.size k.size, fun b hb hs => (k.block b (Nat.lt_of_lt_of_le hb h.size) (hg.off hs hb)).trans (h.block b hb hs)⟩
theorem Grows.refl (S : Nat → Prop) (W : World) : Grows S S W := fun _ h => Or.inl h
def Kp (S : Nat → Prop) (W : World) (P : World → Prop) : Prop := ∀ X, LKeep S W X → P X
theorem Kp.now {S : Nat → Prop} {W : World} {P : World → Prop} (h : Kp S W P) : P W := h W (LKeep.refl _ _)
theorem Kp.move {S S' : Nat → Prop} {W W' : World} {P : World → Prop} (h : Kp S W P) (hk : LKeep S W W') (hg : Grows S S' W) : Kp S' W' P := fun X hX => h X (hk.trans hg hX)
theorem Kp.step {S : Nat → Prop} {W W' : World} {P : World → Prop} (h : Kp S W P) (hb : Below W.heap.size W W') : Kp S W' P := h.move (LKeep.of_below hb) (Grows.refl _ _)
theorem Kp.mono {S : Nat → Prop} {W : World} {P Q : World → Prop} (h : Kp S W P) (hpq : ∀ X, P X → Q X) : Kp S W Q := fun X hX => hpq X (h X hX)
def Off (S : Nat → Prop) (g : Nat) : Nat → Prop := fun b => S b ∨ b = g
theorem LKeep.off {S : Nat → Prop} {W W' : World} (h : LKeep S W W') (g : Nat) : LKeep (Off S g) W W' := ⟨h.os, h.tape, h.output, h.size, fun b hb hs => h.block b hb fun k => hs (Or.inl k)⟩
theorem LKeep.old {S : Nat → Prop} {w W X : World} (h : LKeep S W X) (hS : ∀ b, S b → w.heap.size ≤ b) (hb : Below w.heap.size w W) : Below w.heap.size w X := hb.trans (h.below hS hb.size)
theorem Kp.new {S : Nat → Prop} {W : World} {G : Nat} {T : TypeId} {cs : Array Value} (h : Blk W G T cs) (hG : ¬ S G) : Kp S W (fun X => Blk X G T cs) := fun _ hX => hX.blk h hG
end Go.Proofs.YtjmeakkmfeoigaaGreatDoor
namespace Go.Proofs.YtjmeakkmfeoigaaGreatDoor
open Go.ChangeShapes Go.WideShapes Go.ChangeAt Go.RowKit
structure LogOk (w : World) (Rep : Addr → Lg → (Nat → Prop) → World → Prop) : Prop where
 same : ∀ p l S W W', Rep p l S W → W.heap.size ≤ W'.heap.size → (∀ b, S b → W'.heap[b]? = W.heap[b]?) → Rep p l S W'
 lt : ∀ p l S W, Rep p l S W → ∀ b, S b → b < W.heap.size
 new : ∀ (u : Int) W, Below w.heap.size w W → 0 ≤ u ∧ u ≤ 6 → Calls Tryz.prog 7 #[.int .i64 u] W fun e w' => ∃ p S, e = .returned (.tuple #[.pointer (some p), .nilIface]) ∧ Rep p (lg0 u) S w' ∧ (∀ b, S b → W.heap.size ≤ b) ∧ Below W.heap.size W w'
 newE : ∀ (u : Int) W, Below w.heap.size w W → ¬ (0 ≤ u ∧ u ≤ 6) → Calls Tryz.prog 7 #[.int .i64 u] W fun e w' => ∃ q, e = .returned (.tuple #[.pointer q, .iface 64 (.int .i64 1)]) ∧ Below W.heap.size W w'
 say : ∀ p l S W (a : At) (h : Bool) vs vt, Below w.heap.size w W → Rep p l S W → Reads W vs a.s → Reads W vt a.t → Calls Tryz.prog 9 #[.pointer (some p), .agg #[.int .i64 a.k, vs, vt, .int .i64 a.n], .bool h] W fun e w' => ∃ n S', (2 ≤ n ∧ n ≤ 1000000) ∧ e = .returned (errV (l.sayE a h)) ∧ Rep p (l.say a h n) S' w' ∧ LKeep S W w' ∧ Grows S S' W
 sync : ∀ p l S W, Below w.heap.size w W → Rep p l S W → Calls Tryz.prog 11 #[.pointer (some p)] W fun e w' => ∃ S', e = .returned (errV l.syncE) ∧ Rep p l.sync S' w' ∧ LKeep S W w' ∧ Grows S S' W
 fail : ∀ p l S W (n : Int), Below w.heap.size w W → Rep p l S W → Calls Tryz.prog 8 #[.pointer (some p), .int .i64 n] W fun e w' => ∃ S', (∃ v, e = .returned v) ∧ Rep p (l.fail n) S' w' ∧ LKeep S W w' ∧ Grows S S' W
 crash : ∀ p l S W (n : Int), Below w.heap.size w W → Rep p l S W → Calls Tryz.prog 12 #[.pointer (some p), .int .i64 n] W fun e w' => ∃ S', (∃ v, e = .returned v) ∧ Rep p (l.crash n) S' w' ∧ LKeep S W w' ∧ Grows S S' W
 all : ∀ p l S W, Below w.heap.size w W → Rep p l S W → Calls Tryz.prog 13 #[.pointer (some p)] W fun e w' => ∃ v, e = .returned v ∧ ReadsF w' v l.fs ∧ Rep p l S w' ∧ Below W.heap.size W w'
 openS : ∀ p l S W, Below w.heap.size w W → Rep p l S W → Calls Tryz.prog 17 #[.pointer (some p)] W fun e w' => e = .returned (.bool l.openB) ∧ Rep p l S w' ∧ Below W.heap.size W w'
 bytes : ∀ p l S W, Below w.heap.size w W → Rep p l S W → Calls Tryz.prog 16 #[.pointer (some p)] W fun e w' => e = .returned (.int .i64 l.bytes) ∧ Rep p l S w' ∧ Below W.heap.size W w'
 safe : ∀ p l S W, Below w.heap.size w W → Rep p l S W → Calls Tryz.prog 15 #[.pointer (some p)] W fun e w' => e = .returned (.int .i64 l.safe) ∧ Rep p l S w' ∧ Below W.heap.size W w'
theorem LogOk.step {w : World} {Rep : Addr → Lg → (Nat → Prop) → World → Prop} (h : LogOk w Rep) {p : Addr} {l : Lg} {S : Nat → Prop} {W W' : World} (hr : Rep p l S W) (hb : Below W.heap.size W W') : Rep p l S W' :=
 h.same p l S W W' hr hb.size fun b hs => hb.block b (h.lt p l S W hr b hs)
end Go.Proofs.YtjmeakkmfeoigaaGreatDoor