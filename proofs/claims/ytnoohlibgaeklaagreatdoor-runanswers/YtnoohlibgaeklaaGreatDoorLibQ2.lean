/-
  Facts and contracts that the statement leans on.
-/
import Derived.Test.YtnoohlibgaeklaaGreatDoorLibQ1
import Derived.Lib.Bytealg
import Derived.Lib.OthersKept
import Derived.Laws.RangeAny
import Derived.Deep.LoopGhost
import Derived.Scope
import Derived.WalkMore
namespace Go.Proofs.YtnoohlibgaeklaaGreatDoor
open Go.ChangeShapes Go.WideShapes Go.ChangeAt Go.RowKit
set_option maxRecDepth 100000
set_option maxHeartbeats 16000000
theorem below_of_drew {w wm : World} (h : Below w.drew.heap.size w.drew wm) : Bw w wm := ((Below.refl _ w).drew).trans h
theorem work_any (u a b c : Int) (t : List Int) (B off cap : Nat) (w : World) (hw : (Wd.mk u a b c).ok = true) (hs : t.all signB = true) (hone : cnt t 0 = some 1) (hl : t.length ≤ 12) (hB : B < w.heap.size)
    (hc : ∀ k, k < t.length → w.cell? ⟨B, off + k, none⟩ = some (.int .i64 (t.getD k 0))) :
    Calls Tryz.prog 195 #[.slice (some ⟨B, off, none⟩) t.length cap, .agg #[.int .i64 u, .int .i64 a, .int .i64 b, .int .i64 c]] w (Bk w (.tuple #[.int .i64 ((Wd.mk u a b c).val t), .nilIface])) := by
 obtain ⟨i0, hi, hz0, hz1, hz2⟩ := info_parts infoInt
 obtain ⟨w1, hw1⟩ := nm (w.alloc (.cells #[.int .i64 u, .int .i64 a, .int .i64 b, .int .i64 c] 58))
 obtain ⟨K, hK⟩ := nm (w.heap.size + 1)
 have HK1 : Hid (w1.heap.size = K) := by unfold Hid; rw [hw1, hK]; simp
 have HC : Hid (∀ k, k < t.length → w1.cell? ⟨B, off + k, none⟩ = some (.int .i64 (t.getD k 0))) := fun k hk => by
  rw [hw1, World.cell?_alloc_lt _ _ ⟨B, off + k, none⟩ hB]; exact hc k hk
 have HX : Hid (w1.cell? ⟨w.heap.size, 0, none⟩ = some (.int .i64 u) ∧ w1.cell? ⟨w.heap.size, 1, none⟩ = some (.int .i64 a) ∧ w1.cell? ⟨w.heap.size, 2, none⟩ = some (.int .i64 b) ∧ w1.cell? ⟨w.heap.size, 3, none⟩ = some (.int .i64 c)) := by
  unfold Hid; rw [hw1]; simp
 have HBK : Hid (B < K ∧ w.heap.size < K) := ⟨by omega, by omega⟩
 have HW : Hid (Bw w w1) := by unfold Hid; rw [hw1]; exact below_alloc1 _ _
 have HKs : Hid (w.heap.size ≤ K) := by unfold Hid; omega
 clear hc hB hK
 obtain ⟨n, hn⟩ := nm t.length
 rw [← hn] at hl ⊢
 have HN := hide hn
 clear hn
 have HOK := hide hw
 have HS := hide hs
 have HO := hide hone
 clear hw hs hone
 obtain ⟨V, hV⟩ := nm ((Wd.mk u a b c).val t)
 rw [← hV]
 have HV := hide hV
 clear hV
 go_enter Tryz.func195, Tryz.ntmps195
 go_wp2
 rw [← hw1]
 clear hw1
 go_loopw [6, 14] (fun v i wr => ∃ (k : Nat) (p : List Int), k ≤ n ∧ i = .int .i64 k ∧ wr.ownsRow K 3 1 v p.length (p.map (Value.int .i64)) ∧ Below K w1 wr ∧ K ≤ wr.heap.size ∧ p = (Wd.mk u a b c).pile (t.take k) [])
  (fun _ i _ => n - (intOf i).toNat)
 case atStart => exact ⟨0, [], Nat.zero_le _, rfl, World.ownsRow_nil _ _ _ _, Below.refl _ _, by rw [HK1.out]; exact Nat.le_refl _, rfl⟩
 case round =>
  obtain ⟨k, p, hk, rfl, hown0, hbel0, hKw0, hp0⟩ := hrel
  have hkt0 : cnt (t.take k) 0 = some (p.length : Int) := by
   obtain ⟨m, hm⟩ := cnt_take_some t k HO.out
   have := pile_length (Wd.mk u a b c) (t.take k) [] hm
   rw [← hp0] at this
   rw [this]; exact hm
  by_cases hlt : k < n
  ·obtain ⟨s, hs⟩ := nm (t.getD k 0)
   have hkt : k < t.length := by rw [← HN.out]; exact hlt
   have hcell : wr.cell? ⟨B, off + k, none⟩ = some (.int .i64 s) := by rw [hs, hbel0.cell HBK.out.1]; exact HC.out k hkt
   have x0 : wr.cell? ⟨w.heap.size, 0, none⟩ = some (.int .i64 u) := by rw [hbel0.cell HBK.out.2]; exact HX.out.1
   have x1 : wr.cell? ⟨w.heap.size, 1, none⟩ = some (.int .i64 a) := by rw [hbel0.cell HBK.out.2]; exact HX.out.2.1
   have x2 : wr.cell? ⟨w.heap.size, 2, none⟩ = some (.int .i64 b) := by rw [hbel0.cell HBK.out.2]; exact HX.out.2.2.1
   have x3 : wr.cell? ⟨w.heap.size, 3, none⟩ = some (.int .i64 c) := by rw [hbel0.cell HBK.out.2]; exact HX.out.2.2.2
   have hsg : 0 ≤ s ∧ s ≤ 8 := by
    refine signB_iff.1 (List.all_eq_true.1 HS.out s ?_)
    rw [hs, List.getD_eq_getElem?_getD, List.getElem?_eq_getElem hkt]; exact List.getElem_mem hkt
   have htk : takesN s ≤ p.length := by
    have h1 := cnt_take_succ t hkt hkt0
    rw [← hs] at h1
    obtain ⟨m, hm⟩ := cnt_take_some t (k + 1) HO.out
    by_cases h2 : (p.length : Int) < takesN s
    ·rw [if_pos h2] at h1; rw [h1] at hm; cases hm
    ·omega
   have HP : Hid ((Wd.mk u a b c).step p s = (Wd.mk u a b c).pile (t.take (k + 1)) []) := by
    unfold Hid; rw [pile_succ _ t [] hkt, ← hs, ← hp0]
   have hpl : p.length ≤ 12 := by
    have := (cnt_nonneg (Int.le_refl 0) hkt0).2
    simp at this; omega
   have HOKP : Hid (∀ j, okB u (p.getD j 0) = true) := fun j => by
    rw [hp0]
    exact ok_getD HOK.out (ok_pile HOK.out (t.take k) (p := []) (by intro x hx; cases hx)) j
   clear hs hkt hkt0 hp0
   have HBEL := hide hbel0
   have HKW := hide hKw0
   clear hbel0 hKw0
   by_cases h4 : s ≤ 4
   ·have ht : takesN s = 0 := takes5 s (by omega)
    have HM : Hid (∀ v W, Calls Tryz.prog 201 #[.int .i64 s, v, .agg #[.int .i64 u, .int .i64 a, .int .i64 b, .int .i64 c]] W (Bk W (.tuple #[.int .i64 ((Wd.mk u a b c).made s []), .nilIface]))) := fun v W => made_leaf_any u a b c s v W hsg.1 h4 HOK.out
    have HQ : Hid ((Wd.mk u a b c).step p s = p.take p.length ++ [(Wd.mk u a b c).made s []]) := step_leaf _ p s h4
    obtain ⟨X, hX⟩ := nm ((Wd.mk u a b c).made s [])
    rw [← hX] at HM HQ
    clear hX htk hsg h4
    rcases hown0.2 with ⟨rfl, hp0⟩ | ⟨g, cap', cur, rfl, hg, hh, hm, hmax, _, _⟩
    ·obtain rfl : p = [] := List.eq_nil_of_length_eq_zero hp0
     clear hown0 hp0
     go_wp2_with (go_at_call 177; refine (takes_any _ _).mono ?_; rintro e w' ⟨rfl, rfl⟩)
     go_region_with (first | (go_at_call 201; refine (HM.out _ _).mono ?_; rintro e wm ⟨rfl, hbm⟩))
     go_wp2_with (first | (at_builtin; refine wpList_append_own _ rfl (.tmp 37) (.tmp 39) 62 rfl K 3 i0 (.int .i64 0) 1 8 Tryz.underlying62 hi hz0 hz1 hz2 rfl (by decide) (.slice none 0 0) 0 [] rfl (World.ownsRow_nil _ _ _ _) ⟨wm.heap.size, 0, none⟩ 1 1 [.int .i64 X] rfl rfl ?a1 ?a2 ?a3 ?a4 ?a5 ?_))
     case a1 =>
      intro j y hj
      match j, hj with
      | 0, hj => simp at hj; subst hj; simp [Addr.add]
     case a2 => intro y hy; simp at hy; subst hy; rfl
     case a3 => unfold maxLen; omega
     case a4 => omega
     case a5 => have h1 := hbm.size; have h2 := HKW.out; simp at h1 ⊢; omega
     intro v' w2 hown' hgrow _
     have R := work_rel (q := (Wd.mk u a b c).pile (t.take (k + 1)) []) HKW.out HBEL.out (below_of_drew hbm) hown' (by intro k hk; cases hk) hgrow (Nat.le_refl _) (HP.out.symm.trans HQ.out)
     clear hown' hgrow hbm
     go_wp2
     go_roundw
     case rel => exact ⟨k + 1, _, by omega, by go_num, R.1, R.2.1, R.2.2, rfl⟩
     case measure => simp [intOf]; omega
    ·obtain ⟨m, hm0⟩ := nm p.length
     have HOW : Hid (wr.ownsRow K 3 1 (.slice (some ⟨g, 0, none⟩) m cap') m (p.map (Value.int .i64))) := by
      unfold Hid; rw [hm0]; exact hown0
     rw [← hm0] at HQ hm hpl ⊢
     have HM0 := hide hm0
     clear hown0 hm0 hh
     by_cases hcap : cap' = m
     ·subst hcap
      go_wp2_with (go_at_call 177; refine (takes_any _ _).mono ?_; rintro e w' ⟨rfl, rfl⟩)
      go_region_with (first | (go_at_call 201; refine (HM.out _ _).mono ?_; rintro e wm ⟨rfl, hbm⟩))
      have HOm := ownsRow_below HOW.out (below_of_drew hbm)
      go_wp2_with (first | (at_builtin; refine wpList_append_own _ rfl (.tmp 37) (.tmp 39) 62 rfl K 3 i0 (.int .i64 0) 1 8 Tryz.underlying62 hi hz0 hz1 hz2 rfl (by decide) (.slice (some ⟨g, 0, none⟩) cap' cap') cap' ((p.map (Value.int .i64)).take cap') rfl ((ownsRow_take HOm (by have := HM0.out; omega)).alloc _) ⟨wm.heap.size, 0, none⟩ 1 1 [.int .i64 X] rfl rfl ?e1 ?e2 ?e3 ?e4 ?e5 ?_))
      case e1 =>
       intro j y hj
       match j, hj with
       | 0, hj => simp at hj; subst hj; simp [Addr.add]
      case e2 => intro y hy; simp at hy; subst hy; rfl
      case e3 => unfold maxLen; omega
      case e4 => omega
      case e5 => have h1 := hbm.size; have h2 := HKW.out; simp at h1 ⊢; omega
      intro v' w2 hown' hgrow _
      have R := work_rel (q := (Wd.mk u a b c).pile (t.take (k + 1)) []) HKW.out HBEL.out (below_of_drew hbm) (by rw [List.map_take]; exact hown') (by intro k hk; cases hk; exact hg) hgrow (by have := HM0.out; omega) (HP.out.symm.trans HQ.out)
      clear hown' hgrow hbm HOm
      go_wp2
      go_roundw
      case rel => exact ⟨k + 1, _, by omega, by go_num, R.1, R.2.1, R.2.2, rfl⟩
      case measure => simp [intOf]; omega
     ·go_wp2_with (go_at_call 177; refine (takes_any _ _).mono ?_; rintro e w' ⟨rfl, rfl⟩)
      go_region_with (first | (go_at_call 201; refine (HM.out _ _).mono ?_; rintro e wm ⟨rfl, hbm⟩))
      have HOm := ownsRow_below HOW.out (below_of_drew hbm)
      go_wp2_with (first | (at_builtin; refine wpList_append_own _ rfl (.tmp 37) (.tmp 39) 62 rfl K 3 i0 (.int .i64 0) 1 8 Tryz.underlying62 hi hz0 hz1 hz2 rfl (by decide) (.slice (some ⟨g, 0, none⟩) m cap') m ((p.map (Value.int .i64)).take m) rfl ((ownsRow_take HOm (by have := HM0.out; omega)).alloc _) ⟨wm.heap.size, 0, none⟩ 1 1 [.int .i64 X] rfl rfl ?b1 ?b2 ?b3 ?b4 ?b5 ?_))
      case b1 =>
       intro j y hj
       match j, hj with
       | 0, hj => simp at hj; subst hj; simp [Addr.add]
      case b2 => intro y hy; simp at hy; subst hy; rfl
      case b3 => unfold maxLen; omega
      case b4 => omega
      case b5 => have h1 := hbm.size; have h2 := HKW.out; simp at h1 ⊢; omega
      intro v' w2 hown' hgrow _
      have R := work_rel (q := (Wd.mk u a b c).pile (t.take (k + 1)) []) HKW.out HBEL.out (below_of_drew hbm) (by rw [List.map_take]; exact hown') (by intro k hk; cases hk; exact hg) hgrow (by have := HM0.out; omega) (HP.out.symm.trans HQ.out)
      clear hown' hgrow hbm HOm
      go_wp2
      go_roundw
      case rel => exact ⟨k + 1, _, by omega, by go_num, R.1, R.2.1, R.2.2, rfl⟩
      case measure => simp [intOf]; omega
   by_cases h8 : s = 8
   ·subst h8
    rw [takes1] at htk
    have ht : takesN 8 = 1 := takes1
    rcases hown0.2 with ⟨rfl, hp0⟩ | ⟨g, cap', cur, rfl, hg, hh, hm, hmax, _, _⟩
    ·omega
    ·obtain ⟨r, hr⟩ : ∃ r, p.length = r + 1 := ⟨p.length - 1, by omega⟩
     have HM0 := hide hr
     have HOW : Hid (wr.ownsRow K 3 1 (.slice (some ⟨g, 0, none⟩) (r + 1) cap') (r + 1) (p.map (Value.int .i64))) := by
      unfold Hid; rw [← hr]; exact hown0
     have hcx : Hid (∀ W, Bw wr W → W.cell? ⟨g, r, none⟩ = some (.int .i64 (p.getD r 0))) := fun W hb => by
      rw [hb.cell (ownsRow_block hown0).2.1]; exact ownsRow_int hown0 (by omega)
     have HG : Hid (g < wr.heap.size) := (ownsRow_block hown0).2.1
     obtain ⟨x, hx⟩ := nm (p.getD r 0)
     have HX' : Hid (okB u x = true) := by unfold Hid; rw [hx]; exact HOKP.out r
     rw [← hx] at hcx
     have HM : Hid (∀ W c', Bw wr W → Calls Tryz.prog 201 #[.int .i64 8, .slice (some ⟨g, r, none⟩) 1 c', .agg #[.int .i64 u, .int .i64 a, .int .i64 b, .int .i64 c]] W (Bk W (.tuple #[.int .i64 (doN 8 u x x), .nilIface]))) := fun W c' hb => made_one_any u a b c 8 x g r c' W (by omega) (by omega) HX'.out (Nat.lt_of_lt_of_le HG.out hb.size) (hcx.out W hb)
     have HQ : Hid ((Wd.mk u a b c).step p 8 = p.take r ++ [doN 8 u x x]) := by
      have := step_one (Wd.mk u a b c) p (by omega)
      rw [hr, Nat.add_sub_cancel, ← hx] at this; exact this
     obtain ⟨X, hX⟩ := nm (doN 8 u x x)
     rw [← hX] at HM HQ
     have hle : (r : Int) ≤ (r : Int) + 1 := by omega
     have hcap : ¬ cap' = r := by omega
     have hcap2 : r < cap' := by omega
     rw [hr] at hm hpl ⊢
     clear hX hx hcx hown0 hh hr htk
     go_wp2_with (go_at_call 177; refine (takes_any _ _).mono ?_; rintro e w' ⟨rfl, rfl⟩)
     go_region_with (first | (go_at_call 201; refine (HM.out _ _ ((Below.refl _ wr).drew)).mono ?_; rintro e wm ⟨rfl, hbm⟩))
     have HOm := ownsRow_below HOW.out (below_of_drew hbm)
     go_wp2_with (first | (at_builtin; refine wpList_append_own _ rfl (.tmp 37) (.tmp 39) 62 rfl K 3 i0 (.int .i64 0) 1 8 Tryz.underlying62 hi hz0 hz1 hz2 rfl (by decide) (.slice (some ⟨g, 0, none⟩) r cap') r ((p.map (Value.int .i64)).take r) rfl ((ownsRow_take HOm (by have := HM0.out; omega)).alloc _) ⟨wm.heap.size, 0, none⟩ 1 1 [.int .i64 X] rfl rfl ?c1 ?c2 ?c3 ?c4 ?c5 ?_))
     case c1 =>
      intro j y hj
      match j, hj with
      | 0, hj => simp at hj; subst hj; simp [Addr.add]
     case c2 => intro y hy; simp at hy; subst hy; rfl
     case c3 => unfold maxLen; omega
     case c4 => omega
     case c5 => have h1 := hbm.size; have h2 := HKW.out; simp at h1 ⊢; omega
     intro v' w2 hown' hgrow _
     have R := work_rel (q := (Wd.mk u a b c).pile (t.take (k + 1)) []) HKW.out HBEL.out (below_of_drew hbm) (by rw [List.map_take]; exact hown') (by intro k hk; cases hk; exact hg) hgrow (by have := HM0.out; omega) (HP.out.symm.trans HQ.out)
     clear hown' hgrow hbm HOm
     go_wp2
     go_roundw
     case rel => exact ⟨k + 1, _, by omega, by go_num, R.1, R.2.1, R.2.2, rfl⟩
     case measure => simp [intOf]; omega
   ·have h7 : s ≤ 7 := by omega
    have h5 : 5 ≤ s := by omega
    have ht : takesN s = 2 := takes2 s h5 h7
    rw [ht] at htk
    rcases hown0.2 with ⟨rfl, hp0⟩ | ⟨g, cap', cur, rfl, hg, hh, hm, hmax, _, _⟩
    ·omega
    ·obtain ⟨r, hr⟩ : ∃ r, p.length = r + 2 := ⟨p.length - 2, by omega⟩
     have HM0 := hide hr
     have HOW : Hid (wr.ownsRow K 3 1 (.slice (some ⟨g, 0, none⟩) (r + 2) cap') (r + 2) (p.map (Value.int .i64))) := by
      unfold Hid; rw [← hr]; exact hown0
     have hcx : Hid (∀ W, Bw wr W → W.cell? ⟨g, r, none⟩ = some (.int .i64 (p.getD r 0))) := fun W hb => by
      rw [hb.cell (ownsRow_block hown0).2.1]; exact ownsRow_int hown0 (by omega)
     have hcy : Hid (∀ W, Bw wr W → W.cell? ⟨g, r + 1, none⟩ = some (.int .i64 (p.getD (r + 1) 0))) := fun W hb => by
      rw [hb.cell (ownsRow_block hown0).2.1]; exact ownsRow_int hown0 (by omega)
     have HG : Hid (g < wr.heap.size) := (ownsRow_block hown0).2.1
     obtain ⟨x, hx⟩ := nm (p.getD r 0)
     obtain ⟨y, hy⟩ := nm (p.getD (r + 1) 0)
     have HX' : Hid (okB u x = true) := by unfold Hid; rw [hx]; exact HOKP.out r
     have HY' : Hid (okB u y = true) := by unfold Hid; rw [hy]; exact HOKP.out (r + 1)
     rw [← hx] at hcx
     rw [← hy] at hcy
     have HM : Hid (∀ W c', Bw wr W → Calls Tryz.prog 201 #[.int .i64 s, .slice (some ⟨g, r, none⟩) 2 c', .agg #[.int .i64 u, .int .i64 a, .int .i64 b, .int .i64 c]] W (Bk W (.tuple #[.int .i64 (doN s u x y), .nilIface]))) := fun W c' hb => made_two_any u a b c s x y g r c' W (by omega) (by omega) HX'.out HY'.out (Nat.lt_of_lt_of_le HG.out hb.size) (hcx.out W hb) (hcy.out W hb)
     have HQ : Hid ((Wd.mk u a b c).step p s = p.take r ++ [doN s u x y]) := by
      have := step_two (Wd.mk u a b c) p s h5 h7 (by omega)
      rw [hr, Nat.add_sub_cancel, ← hx, ← hy] at this; exact this
     obtain ⟨X, hX⟩ := nm (doN s u x y)
     rw [← hX] at HM HQ
     have hle : (r : Int) ≤ (r : Int) + 2 := by omega
     have hcap : ¬ cap' = r := by omega
     have hcap2 : r < cap' := by omega
     rw [hr] at hm hpl ⊢
     clear hX hx hy hcx hcy hown0 hh hr htk h4 h8
     go_wp2_with (go_at_call 177; refine (takes_any _ _).mono ?_; rintro e w' ⟨rfl, rfl⟩)
     go_region_with (first | (go_at_call 201; refine (HM.out _ _ ((Below.refl _ wr).drew)).mono ?_; rintro e wm ⟨rfl, hbm⟩))
     have HOm := ownsRow_below HOW.out (below_of_drew hbm)
     go_wp2_with (first | (at_builtin; refine wpList_append_own _ rfl (.tmp 37) (.tmp 39) 62 rfl K 3 i0 (.int .i64 0) 1 8 Tryz.underlying62 hi hz0 hz1 hz2 rfl (by decide) (.slice (some ⟨g, 0, none⟩) r cap') r ((p.map (Value.int .i64)).take r) rfl ((ownsRow_take HOm (by have := HM0.out; omega)).alloc _) ⟨wm.heap.size, 0, none⟩ 1 1 [.int .i64 X] rfl rfl ?d1 ?d2 ?d3 ?d4 ?d5 ?_))
     case d1 =>
      intro j y hj
      match j, hj with
      | 0, hj => simp at hj; subst hj; simp [Addr.add]
     case d2 => intro y hy; simp at hy; subst hy; rfl
     case d3 => unfold maxLen; omega
     case d4 => omega
     case d5 => have h1 := hbm.size; have h2 := HKW.out; simp at h1 ⊢; omega
     intro v' w2 hown' hgrow _
     have R := work_rel (q := (Wd.mk u a b c).pile (t.take (k + 1)) []) HKW.out HBEL.out (below_of_drew hbm) (by rw [List.map_take]; exact hown') (by intro k hk; cases hk; exact hg) hgrow (by have := HM0.out; omega) (HP.out.symm.trans HQ.out)
     clear hown' hgrow hbm HOm
     go_wp2
     go_roundw
     case rel => exact ⟨k + 1, _, by omega, by go_num, R.1, R.2.1, R.2.2, rfl⟩
     case measure => simp [intOf]; omega
  ·obtain rfl : k = n := by omega
   rw [List.take_of_length_le (by rw [← HN.out]; exact Nat.le_refl _)] at hkt0 hp0
   have h1 : p.length = 1 := by
    rw [HO.out] at hkt0
    have := Option.some.inj hkt0
    omega
   have HVp : Hid (p.getD 0 0 = V) := by unfold Hid; rw [HV.out, hp0]; rfl
   have HF := hide (HW.out.trans (hbel0.mono HKs.out))
   rcases hown0.2 with ⟨rfl, hp0⟩ | ⟨g, cap', cur, rfl, hg, hh, hm, hmax, _, _⟩
   ·omega
   ·have hcx : wr.cell? ⟨g, 0, none⟩ = some (.int .i64 V) := by rw [← HVp.out]; exact ownsRow_int hown0 (by omega)
    rw [h1]
    clear hown0 hh hkt0 hp0 hbel0 hKw0
    go_wp2
    go_ret2
    exact ⟨rfl, HF.out⟩
theorem quiet_check_ok (u s : Int) (h : okB u s = true) (W : World) : Calls Tryz.prog 32 #[.int .i64 u, .int .i64 s] W fun e w' => e = .returned .nilIface ∧ w' = W := (check_ok u s h W).mono fun _ _ h => (And.intro h.1 h.2.symm)
theorem quiet_check_no (u s : Int) (h : okB u s = false) (W : World) : Calls Tryz.prog 32 #[.int .i64 u, .int .i64 s] W fun e w' => e = .returned (.iface 91 (.int .i64 1)) ∧ w' = W := (check_no u s h W).mono fun _ _ h => (And.intro h.1 h.2.symm)
theorem checkWorld_any (u a b c : Int) (w : World) :
    Calls Tryz.prog 194 #[.agg #[.int .i64 u, .int .i64 a, .int .i64 b, .int .i64 c]] w (Bk w (if (Wd.mk u a b c).ok = true then .nilIface else .iface 91 (.int .i64 1))) := by
 obtain ⟨w1, hw1⟩ := nm (w.alloc (.cells #[.int .i64 u, .int .i64 a, .int .i64 b, .int .i64 c] 58))
 obtain ⟨K, hK⟩ := nm (w.heap.size + 1)
 have HK1 : Hid (w1.heap.size = K) := by unfold Hid; rw [hw1, hK]; simp
 have HX : Hid (w1.cell? ⟨w.heap.size, 0, none⟩ = some (.int .i64 u) ∧ w1.cell? ⟨w.heap.size, 1, none⟩ = some (.int .i64 a) ∧ w1.cell? ⟨w.heap.size, 2, none⟩ = some (.int .i64 b) ∧ w1.cell? ⟨w.heap.size, 3, none⟩ = some (.int .i64 c)) := by
  unfold Hid; rw [hw1]; simp
 have HBK : Hid (w.heap.size < K) := by unfold Hid; omega
 have HW : Hid (Bw w w1) := by unfold Hid; rw [hw1]; exact below_alloc1 _ _
 have HKs : Hid (w.heap.size ≤ K) := by unfold Hid; omega
 clear hK
 obtain ⟨E, hE⟩ : ∃ E, E = if (Wd.mk u a b c).ok = true then Value.nilIface else .iface 91 (.int .i64 1) := ⟨_, rfl⟩
 rw [← hE]
 have HE : Hid ((okB u a = true → okB u b = true → okB u c = true → E = .nilIface) ∧ ((okB u a = false ∨ okB u b = false ∨ okB u c = false) → E = .iface 91 (.int .i64 1))) := by
  refine ⟨fun h1 h2 h3 => ?_, fun h => ?_⟩
  ·have ho : (Wd.mk u a b c).ok = true := Wd.ok_iff.2 ⟨h1, h2, h3⟩
   rw [if_pos ho] at hE
   exact hE
  ·have ho : ¬ (Wd.mk u a b c).ok = true := by
    intro ho
    obtain ⟨h1, h2, h3⟩ := Wd.ok_iff.1 ho
    simp only at h1 h2 h3
    rw [h1, h2, h3] at h
    simp at h
   rw [if_neg ho] at hE
   exact hE
 clear hE
 go_enter Tryz.func194, Tryz.ntmps194
 go_wp2_with fail
 rw [← hw1]
 clear hw1
 go_loopw [5] (fun i wr => ∃ k : Nat, k ≤ 3 ∧ i = .int .i64 k ∧ Below K w1 wr ∧ (1 ≤ k → okB u a = true) ∧ (2 ≤ k → okB u b = true) ∧ (3 ≤ k → okB u c = true)) (fun i _ => 3 - (intOf i).toNat)
 case atStart => exact ⟨0, Nat.zero_le _, rfl, Below.refl _ _, by omega, by omega, by omega⟩
 case round =>
  obtain ⟨k, hk, rfl, hbel, k1, k2, k3⟩ := hrel
  have x0 : wr.cell? ⟨w.heap.size, 0, none⟩ = some (.int .i64 u) := by rw [hbel.cell HBK.out]; exact HX.out.1
  have x1 : wr.cell? ⟨w.heap.size, 1, none⟩ = some (.int .i64 a) := by rw [hbel.cell HBK.out]; exact HX.out.2.1
  have x2 : wr.cell? ⟨w.heap.size, 2, none⟩ = some (.int .i64 b) := by rw [hbel.cell HBK.out]; exact HX.out.2.2.1
  have x3 : wr.cell? ⟨w.heap.size, 3, none⟩ = some (.int .i64 c) := by rw [hbel.cell HBK.out]; exact HX.out.2.2.2
  have HB := hide hbel
  have HKw : Hid (K ≤ wr.heap.size) := by unfold Hid; rw [← HK1.out]; exact hbel.size
  clear hbel
  obtain rfl | rfl | rfl | rfl : k = 0 ∨ k = 1 ∨ k = 2 ∨ k = 3 := by omega
  ·clear k1 k2 k3 hk
   rcases (Bool.eq_false_or_eq_true (okB u a)).symm with ho | ho
   ·have HO := hide ho
    clear ho
    go_wp2_with fail
    go_quiet (first | (go_at_call 32; exact Calls.quiet_of_same (quiet_check_no _ _ HO.out _)))
    go_wp2
    go_ret
    exact ⟨back_v (HE.out.2 (Or.inl HO.out)).symm, HW.out.trans ((HB.out.mono HKs.out).trans ((below_drewNs _ _).mono (Nat.le_trans HKs.out HKw.out)))⟩
   ·have HO := hide ho
    clear ho
    go_wp2_with fail
    go_quiet (first | (go_at_call 32; exact Calls.quiet_of_same (quiet_check_ok _ _ HO.out _)))
    go_wp2
    go_roundw
    case rel => exact ⟨1, by omega, by go_num, HB.out.trans ((below_drewNs _ _).mono HKw.out), fun _ => HO.out, fun h => by omega, fun h => by omega⟩
    case measure => simp [intOf]
  ·have HO1 := hide (k1 (by omega))
   clear k1 k2 k3 hk
   rcases (Bool.eq_false_or_eq_true (okB u b)).symm with ho | ho
   ·have HO := hide ho
    clear ho
    go_wp2_with fail
    go_quiet (first | (go_at_call 32; exact Calls.quiet_of_same (quiet_check_no _ _ HO.out _)))
    go_wp2
    go_ret
    exact ⟨back_v (HE.out.2 (Or.inr (Or.inl HO.out))).symm, HW.out.trans ((HB.out.mono HKs.out).trans ((below_drewNs _ _).mono (Nat.le_trans HKs.out HKw.out)))⟩
   ·have HO := hide ho
    clear ho
    go_wp2_with fail
    go_quiet (first | (go_at_call 32; exact Calls.quiet_of_same (quiet_check_ok _ _ HO.out _)))
    go_wp2
    go_roundw
    case rel => exact ⟨2, by omega, by go_num, HB.out.trans ((below_drewNs _ _).mono HKw.out), fun _ => HO1.out, fun _ => HO.out, fun h => by omega⟩
    case measure => simp [intOf]
  ·have HO1 := hide (k1 (by omega))
   have HO2 := hide (k2 (by omega))
   clear k1 k2 k3 hk
   rcases (Bool.eq_false_or_eq_true (okB u c)).symm with ho | ho
   ·have HO := hide ho
    clear ho
    go_wp2_with fail
    go_quiet (first | (go_at_call 32; exact Calls.quiet_of_same (quiet_check_no _ _ HO.out _)))
    go_wp2
    go_ret
    exact ⟨back_v (HE.out.2 (Or.inr (Or.inr HO.out))).symm, HW.out.trans ((HB.out.mono HKs.out).trans ((below_drewNs _ _).mono (Nat.le_trans HKs.out HKw.out)))⟩
   ·have HO := hide ho
    clear ho
    go_wp2_with fail
    go_quiet (first | (go_at_call 32; exact Calls.quiet_of_same (quiet_check_ok _ _ HO.out _)))
    go_wp2
    go_roundw
    case rel => exact ⟨3, by omega, by go_num, HB.out.trans ((below_drewNs _ _).mono HKw.out), fun _ => HO1.out, fun _ => HO2.out, fun _ => HO.out⟩
    case measure => simp [intOf]
  ·have HO : Hid (okB u a = true ∧ okB u b = true ∧ okB u c = true) := ⟨k1 (by omega), k2 (by omega), k3 (by omega)⟩
   clear k1 k2 k3 hk
   go_wp2
   go_ret
   exact ⟨back_v (HE.out.1 HO.out.1 HO.out.2.1 HO.out.2.2).symm, HW.out.trans (HB.out.mono HKs.out)⟩
def Wd.answer (w : Wd) (t : List Int) : Int := if faultN t = 0 then (if w.ok = true then w.val t else 0) else 0
def Wd.fault (w : Wd) (t : List Int) : Int := if faultN t = 0 then (if w.ok = true then 0 else 1) else faultN t
theorem back_2 {a b x y : Value} (h : a = b) (h' : x = y) : Ending.returned (.tuple #[a, x]) = .returned (.tuple #[b, y]) := by rw [h, h']
theorem value_bad (t : List Int) (v : Value) (u a b c : Int) (w : World) (h : Reads w v t) (hf : ¬ faultN t = 0) :
    Calls Tryz.prog 178 #[v, .agg #[.int .i64 u, .int .i64 a, .int .i64 b, .int .i64 c]] w (Bk w (.tuple #[.int .i64 0, .iface 91 (.int .i64 (faultN t))])) := by
 have HC : Hid (Calls Tryz.prog 102 #[v] (w.alloc (.cells #[.int .i64 u, .int .i64 a, .int .i64 b, .int .i64 c] 58)) fun e w' => e = .returned (.iface 91 (.int .i64 (faultN t))) ∧ (w.alloc (.cells #[.int .i64 u, .int .i64 a, .int .i64 b, .int .i64 c] 58)) = w') := by
  have := tcheck_any t v _ (h.below (below_alloc1 w (.cells #[.int .i64 u, .int .i64 a, .int .i64 b, .int .i64 c] 58)))
  unfold errV at this
  rw [if_neg hf] at this
  exact this
 clear h hf
 obtain ⟨F, hF⟩ := nm (faultN t)
 rw [← hF] at HC ⊢
 clear hF
 go_enter Tryz.func178, Tryz.ntmps178
 go_wp2_with (go_at_call 102; refine HC.out.mono ?_; rintro e w' ⟨rfl, rfl⟩)
 go_ret2
 exact ⟨rfl, below_alloc1 _ _⟩
theorem value_good (t : List Int) (B off cap : Nat) (u a b c : Int) (w : World) (hB : B < w.heap.size) (hcap : t.length ≤ cap) (hf : faultN t = 0) (hc : ∀ k, k < t.length → w.cell? ⟨B, off + k, none⟩ = some (.int .i64 (t.getD k 0))) :
    Calls Tryz.prog 178 #[.slice (some ⟨B, off, none⟩) t.length cap, .agg #[.int .i64 u, .int .i64 a, .int .i64 b, .int .i64 c]] w (Bk w (.tuple #[.int .i64 (if (Wd.mk u a b c).ok = true then (Wd.mk u a b c).val t else 0), if (Wd.mk u a b c).ok = true then .nilIface else .iface 91 (.int .i64 1)])) := by
 obtain ⟨f1, f2, f3, f4⟩ := fault_zero.1 hf
 obtain ⟨w1, hw1⟩ := nm (w.alloc (.cells #[.int .i64 u, .int .i64 a, .int .i64 b, .int .i64 c] 58))
 obtain ⟨K, hK⟩ := nm (w.heap.size + 1)
 have HK1 : Hid (w1.heap.size = K) := by unfold Hid; rw [hw1, hK]; simp
 have HC1 : Hid (∀ k, k < t.length → w1.cell? ⟨B, off + k, none⟩ = some (.int .i64 (t.getD k 0))) := fun k hk => by
  rw [hw1, World.cell?_alloc_lt _ _ ⟨B, off + k, none⟩ hB]; exact hc k hk
 have HBK : Hid (B < K ∧ w.heap.size < K) := ⟨by omega, by omega⟩
 have HW : Hid (Bw w w1) := by unfold Hid; rw [hw1]; exact below_alloc1 _ _
 have HKs : Hid (w.heap.size ≤ K) := by unfold Hid; omega
 have HC : Hid (Calls Tryz.prog 102 #[.slice (some ⟨B, off, none⟩) t.length cap] w1 (Sk w1 .nilIface)) := by
  have := tcheck_any t (.slice (some ⟨B, off, none⟩) t.length cap) w1 (Or.inr ⟨B, off, cap, rfl, by have := HK1.out; have := HBK.out.1; omega, by omega, ⟨by omega, hcap⟩, HC1.out⟩)
  rw [hf] at this
  exact this
 clear hc hB hK hcap
 have HWK : Hid (∀ W, Below K w1 W → (Wd.mk u a b c).ok = true → Calls Tryz.prog 195 #[.slice (some ⟨B, off, none⟩) t.length cap, .agg #[.int .i64 u, .int .i64 a, .int .i64 b, .int .i64 c]] W (Bk W (.tuple #[.int .i64 ((Wd.mk u a b c).val t), .nilIface]))) := fun W hb hok =>
  work_any u a b c t B off cap W hok f3 f4 f2 (by have := hb.size; have := HK1.out; have := HBK.out.1; omega) (fun k hk => by rw [hb.cell HBK.out.1]; exact HC1.out k hk)
 clear HC1 f1 f2 f3 f4 hf
 obtain ⟨V, hV⟩ := nm ((Wd.mk u a b c).val t)
 rw [← hV] at HWK ⊢
 clear hV
 obtain ⟨n, hn⟩ := nm t.length
 rw [← hn] at HWK HC ⊢
 clear hn
 have HCW : Hid (Calls Tryz.prog 194 #[.agg #[.int .i64 u, .int .i64 a, .int .i64 b, .int .i64 c]] w1 (Bk w1 (if (Wd.mk u a b c).ok = true then .nilIface else .iface 91 (.int .i64 1)))) := checkWorld_any u a b c w1
 have HX : Hid (∀ W, Bw w1 W → W.cell? ⟨w.heap.size, 0, none⟩ = some (.int .i64 u) ∧ W.cell? ⟨w.heap.size, 1, none⟩ = some (.int .i64 a) ∧ W.cell? ⟨w.heap.size, 2, none⟩ = some (.int .i64 b) ∧ W.cell? ⟨w.heap.size, 3, none⟩ = some (.int .i64 c)) := fun W hc => by
  have hlt : w.heap.size < w1.heap.size := by rw [hw1]; simp
  rw [hc.cell (p := ⟨w.heap.size, 0, none⟩) hlt, hc.cell (p := ⟨w.heap.size, 1, none⟩) hlt, hc.cell (p := ⟨w.heap.size, 2, none⟩) hlt, hc.cell (p := ⟨w.heap.size, 3, none⟩) hlt, hw1]
  simp
 rcases (Bool.eq_false_or_eq_true (Wd.mk u a b c).ok).symm with ho | ho
 ·rw [if_neg (by rw [ho]; decide), if_neg (by rw [ho]; decide)]
  have HCE : Hid (Calls Tryz.prog 194 #[.agg #[.int .i64 u, .int .i64 a, .int .i64 b, .int .i64 c]] w1 (Bk w1 (.iface 91 (.int .i64 1)))) := by
   have := HCW.out
   rw [if_neg (by rw [ho]; decide)] at this
   exact this
  clear HCW ho HWK
  go_enter Tryz.func178, Tryz.ntmps178
  go_wp2_with fail
  rw [← hw1]
  clear hw1
  obtain ⟨y0, y1, y2, y3⟩ := HX.out w1 (Below.refl _ _)
  go_wp2_with fail
  go_at_call 102
  refine HC.out.mono ?_
  rintro e w' ⟨rfl, rfl⟩
  go_wp2_with fail
  go_at_call 194
  refine HCE.out.mono ?_
  rintro e w2 ⟨rfl, hb⟩
  have HB := hide hb
  clear hb y0 y1 y2 y3
  go_wp2
  go_ret2
  exact ⟨rfl, HW.out.trans (HB.out.mono (by have := HK1.out; have := HKs.out; omega))⟩
 ·rw [if_pos ho, if_pos ho]
  have HCE : Hid (Calls Tryz.prog 194 #[.agg #[.int .i64 u, .int .i64 a, .int .i64 b, .int .i64 c]] w1 (Bk w1 .nilIface)) := by
   have := HCW.out
   rw [if_pos ho] at this
   exact this
  have HO := hide ho
  clear HCW ho
  go_enter Tryz.func178, Tryz.ntmps178
  go_wp2_with fail
  rw [← hw1]
  clear hw1
  obtain ⟨y0, y1, y2, y3⟩ := HX.out w1 (Below.refl _ _)
  go_wp2_with fail
  go_at_call 102
  refine HC.out.mono ?_
  rintro e w' ⟨rfl, rfl⟩
  go_wp2_with fail
  go_at_call 194
  refine HCE.out.mono ?_
  rintro e w2 ⟨rfl, hb⟩
  have HB := hide hb
  obtain ⟨x0, x1, x2, x3⟩ := HX.out w2 hb
  clear hb y0 y1 y2 y3
  go_wp2_with fail
  go_at_call 195
  refine (HWK.out w2 (by rw [← HK1.out]; exact HB.out) HO.out).mono ?_
  rintro e w3 ⟨rfl, hb⟩
  have HB3 := hide hb
  clear hb x0 x1 x2 x3
  go_wp2
  go_ret2
  have hs : w.heap.size ≤ w1.heap.size := by have := HK1.out; have := HKs.out; omega
  exact ⟨rfl, HW.out.trans ((HB.out.mono hs).trans (HB3.out.mono (Nat.le_trans hs HB.out.size)))⟩
theorem value_any (t : List Int) (v : Value) (u a b c : Int) (w : World) (h : Reads w v t) :
    Calls Tryz.prog 178 #[v, .agg #[.int .i64 u, .int .i64 a, .int .i64 b, .int .i64 c]] w (Bk w (.tuple #[.int .i64 ((Wd.mk u a b c).answer t), errV ((Wd.mk u a b c).fault t)])) := by
 by_cases hf : faultN t = 0
 ·have e1 : (Wd.mk u a b c).answer t = if (Wd.mk u a b c).ok = true then (Wd.mk u a b c).val t else 0 := by unfold Wd.answer; rw [if_pos hf]
  have e2 : errV ((Wd.mk u a b c).fault t) = if (Wd.mk u a b c).ok = true then .nilIface else .iface 91 (.int .i64 1) := by
   unfold Wd.fault; rw [if_pos hf]
   by_cases ho : (Wd.mk u a b c).ok = true
   ·rw [if_pos ho, if_pos ho]; rfl
   ·rw [if_neg ho, if_neg ho]; rfl
  rw [e1, e2]
  rcases h with ⟨ao, cap, rfl, rfl⟩ | ⟨B, off, cap, rfl, hB, _, ⟨_, hcap⟩, hc⟩
  ·exact absurd hf (by decide)
  ·exact value_good t B off cap u a b c w hB hcap hf hc
 ·have e1 : (Wd.mk u a b c).answer t = 0 := by unfold Wd.answer; rw [if_neg hf]
  have e2 : errV ((Wd.mk u a b c).fault t) = .iface 91 (.int .i64 (faultN t)) := by
   unfold Wd.fault errV; rw [if_neg hf, if_neg hf]
  rw [e1, e2]
  exact value_bad t v u a b c w h hf
end Go.Proofs.YtnoohlibgaeklaaGreatDoor
namespace Go.Proofs.YtnoohlibgaeklaaGreatDoor
open Go.RowKit
set_option maxRecDepth 100000
set_option maxHeartbeats 16000000
theorem has_do {what u a b : Int} (hl : 5 ≤ what) (hm : what ≤ 8) (ha : okB u a = true) (hb : okB u b = true) (i : Nat) (hi : (i : Int) < u) : hasB (doN what u a b) i = inB what (hasB a i) (hasB b i) := by
 have hd : what = 5 ∨ what = 6 ∨ what = 7 ∨ what = 8 := by omega
 have hj : i < u.toNat := by omega
 rcases hd with rfl | rfl | rfl | rfl
 ·exact uptoSets (P := fun u a b => ∀ i < u.toNat, hasB (doN 5 u a b) i = inB 5 (hasB a i) (hasB b i)) (by decide +kernel) u a b ha hb i hj
 ·exact uptoSets (P := fun u a b => ∀ i < u.toNat, hasB (doN 6 u a b) i = inB 6 (hasB a i) (hasB b i)) (by decide +kernel) u a b ha hb i hj
 ·exact uptoSets (P := fun u a b => ∀ i < u.toNat, hasB (doN 7 u a b) i = inB 7 (hasB a i) (hasB b i)) (by decide +kernel) u a b ha hb i hj
 ·exact uptoSets (P := fun u a b => ∀ i < u.toNat, hasB (doN 8 u a b) i = inB 8 (hasB a i) (hasB b i)) (by decide +kernel) u a b ha hb i hj
theorem has_none (i : Nat) : hasB 0 i = false := by simp [hasB]
theorem has_opp {w : Wd} (h : w.ok = true) {n : Nat} {t : List Int} (ht : isTm n t) (i : Nat) (hi : (i : Int) < w.u) : hasB (w.val (t ++ [8])) i = !hasB (w.val t) i := by
 rw [val_opp w ht]
 exact has_do (by omega) (by omega) (ok_val h t) (ok_val h t) i hi
theorem has_two {w : Wd} (h : w.ok = true) {s : Int} (h5 : 5 ≤ s) (h7 : s ≤ 7) {n m : Nat} {a b : List Int} (ha : isTm n a) (hb : isTm m b) (i : Nat) (hi : (i : Int) < w.u) : hasB (w.val (a ++ (b ++ [s]))) i = inB s (hasB (w.val a) i) (hasB (w.val b) i) := by
 rw [val_bin w h5 h7 ha hb]
 exact has_do (by omega) (by omega) (ok_val h a) (ok_val h b) i hi
theorem has_leaf {w : Wd} (h : w.ok = true) (s : Int) (h0 : 0 ≤ s) (h4 : s ≤ 4) (i : Nat) (hi : (i : Int) < w.u) : hasB (w.val [s]) i = if s < 3 then hasB (w.name s) i else s == 4 := by
 have z := ok_zero (ok_u h).1 (ok_u h).2
 rw [val_leaf w s h4]
 unfold Wd.made
 by_cases h3 : s < 3
 ·rw [if_pos h3, if_pos h3]
 rw [if_neg h3, if_neg h3]
 by_cases h3' : s = 3
 ·subst h3'; rw [if_pos rfl]; exact has_none i
 obtain rfl : s = 4 := by omega
 rw [if_neg h3', if_pos rfl, has_do (by omega) (by omega) z z i hi, has_none]; rfl
def sumTo (v : Int) : Nat → Int
 | 0 => 0
 | k + 1 => sumTo v k + if hasB v k = true then pw k else 0
theorem sumTo_le (v : Int) (k : Nat) : 0 ≤ sumTo v k ∧ sumTo v k < pw k := by
 induction k with
 | zero => exact ⟨Int.le_refl _, show (0 : Int) < pw 0 by decide⟩
 | succ k ih =>
  have := pw_pos k
  unfold sumTo
  rw [pw_succ]
  split <;> omega
theorem sumTo_all {u v : Int} (h : okB u v = true) : sumTo v u.toNat = v :=
 uptoSets (P := fun u v _ => sumTo v u.toNat = v) (by decide +kernel) u v v h h
def letterL : List UInt8 := [65, 66, 67, 48, 49, 43, 42, 45, 126]
def letterB : ByteArray := ⟨#[65, 66, 67, 48, 49, 43, 42, 45, 126]⟩
def signOf (b : UInt8) : Int := if b = 65 then 0 else if b = 66 then 1 else if b = 67 then 2 else if b = 48 then 3 else if b = 49 then 4 else if b = 43 then 5 else if b = 42 then 6 else if b = 45 then 7 else if b = 126 then 8 else -1
def byteOf (s : Int) : UInt8 := if s = 0 then 65 else if s = 1 then 66 else if s = 2 then 67 else if s = 3 then 48 else if s = 4 then 49 else if s = 5 then 43 else if s = 6 then 42 else if s = 7 then 45 else 126
theorem nine {s : Int} (h : signB s = true) : s = 0 ∨ s = 1 ∨ s = 2 ∨ s = 3 ∨ s = 4 ∨ s = 5 ∨ s = 6 ∨ s = 7 ∨ s = 8 := by
 have := signB_iff.1 h; omega
theorem sign_byte {s : Int} (h : signB s = true) : signOf (byteOf s) = s := by
 rcases nine h with rfl | rfl | rfl | rfl | rfl | rfl | rfl | rfl | rfl <;> decide
theorem byte_all : ∀ b : UInt8, (signOf b = -1 ∨ (signB (signOf b) = true ∧ byteOf (signOf b) = b)) := by
 intro b
 have h : ∀ n : Fin 256, (signOf ⟨⟨n⟩⟩ = -1 ∨ (signB (signOf ⟨⟨n⟩⟩) = true ∧ byteOf (signOf ⟨⟨n⟩⟩) = ⟨⟨n⟩⟩)) := by decide +kernel
 exact h b.toBitVec.toFin
theorem byte_sign {b : UInt8} (h : signOf b ≠ -1) : signB (signOf b) = true ∧ byteOf (signOf b) = b := (byte_all b).resolve_left h
def textN (t : List Int) : List UInt8 := t.map byteOf
def readN (l : List UInt8) : List Int := l.map signOf
def lettersB (l : List UInt8) : Bool := l.all fun b => signOf b != -1
def textFault (l : List UInt8) : Int := if lettersB l = true then faultN (readN l) else 2
theorem read_text {t : List Int} (h : t.all signB = true) : readN (textN t) = t := by
 induction t with
 | nil => rfl
 | cons s l ih =>
  simp only [List.all_cons, Bool.and_eq_true] at h
  simp only [textN, readN, List.map_cons, sign_byte h.1]
  exact congrArg _ (ih h.2)
theorem letters_text {t : List Int} (h : t.all signB = true) : lettersB (textN t) = true := by
 induction t with
 | nil => rfl
 | cons s l ih =>
  simp only [List.all_cons, Bool.and_eq_true] at h
  have := signB_iff.1 h.1
  simp only [lettersB, textN, List.map_cons, List.all_cons, sign_byte h.1, Bool.and_eq_true, bne_iff_ne, ne_eq]
  exact ⟨by omega, ih h.2⟩
end Go.Proofs.YtnoohlibgaeklaaGreatDoor
namespace Go.Proofs.YtnoohlibgaeklaaGreatDoor
open Go.ChangeShapes Go.WideShapes Go.ChangeAt Go.RowKit
set_option maxRecDepth 100000
set_option maxHeartbeats 16000000
def fill (f : Nat → Value) (z : Value) (n k : Nat) : List Value := (List.range n).map fun j => if j < k then f j else z
theorem fill_zero (f : Nat → Value) (z : Value) (n : Nat) : fill f z n 0 = List.replicate n z := by
 apply List.ext_getElem
 ·simp [fill]
 ·intro j h1 h2; simp [fill]
theorem fill_set (f : Nat → Value) (z : Value) (n k : Nat) : (fill f z n k).set k (f k) = fill f z n (k + 1) := by
 apply List.ext_getElem
 ·simp [fill]
 ·intro j h1 h2
  simp only [fill, List.getElem_set, List.getElem_map, List.getElem_range]
  by_cases h : k = j
  ·subst h; simp
  ·rw [if_neg h]
   by_cases h' : j < k
   ·rw [if_pos h', if_pos (by omega)]
   ·rw [if_neg h', if_neg (by omega)]
theorem fill_get (f : Nat → Value) (z : Value) (n k j : Nat) (hj : j < n) : (fill f z n k)[j]? = some (if j < k then f j else z) := by
 simp [fill, hj]
theorem sIndexByte_any (s : ByteArray) (c : Int) (w : World) :
    Calls Tryz.prog 54 #[.string s, .int .u8 c] w (Sk w (.int .i64 (Lib.indexByte s.data.toList c.toNat.toUInt8))) := by
 go_enter Tryz.func54, Tryz.ntmps54
 go_wp2
 rw [run_callFunc_extern Tryz.func76 (by kernel_rfl) (by kernel_rfl) (by kernel_rfl) (e := Extern.BytealgIndexByte.indexByte) (by kernel_rfl), Lib.run_indexByteString]
 simp only [Result.andThen]
 rw [Oper.upon_value]
 go_wp2
 go_ret
 exact ⟨rfl, rfl⟩
theorem indexByte_any (s : ByteArray) (c : Int) (w : World) :
    Calls Tryz.prog 34 #[.string s, .int .u8 c] w (Sk w (.int .i64 (Lib.indexByte s.data.toList c.toNat.toUInt8))) := by
 go_enter Tryz.func34, Tryz.ntmps34
 go_wp2_with (go_at_call 54; refine (sIndexByte_any _ _ _).mono ?_; rintro e w' ⟨rfl, rfl⟩)
 go_ret
 exact ⟨rfl, rfl⟩
theorem index_sign : ∀ b : UInt8, Lib.indexByte letterL b = signOf b := by
 intro b
 have h : ∀ n : Fin 256, Lib.indexByte letterL ⟨⟨n⟩⟩ = signOf ⟨⟨n⟩⟩ := by decide +kernel
 exact h b.toBitVec.toFin
theorem indexLetter_any (b : UInt8) (w : World) :
    Calls Tryz.prog 34 #[.string { data := #[65, 66, 67, 48, 49, 43, 42, 45, 126] }, .int .u8 (b.toNat : Int)] w (Sk w (.int .i64 (signOf b))) := by
 have := indexByte_any { data := #[65, 66, 67, 48, 49, 43, 42, 45, 126] } (b.toNat : Int) w
 have e : Lib.indexByte (ByteArray.mk #[65, 66, 67, 48, 49, 43, 42, 45, 126]).data.toList (b.toNat : Int).toNat.toUInt8 = signOf b := by
  rw [← index_sign b, Int.toNat_natCast]
  congr 1
  simp
 rwa [e] at this
def runeB (r : Nat) : Bool := decide (r < 128) && (signOf (UInt8.ofNat r) != -1)
theorem runeB_low (b : UInt8) (h : b.toNat < 128) : runeB b.toNat = (signOf b != -1) := by
 simp [runeB, h]
theorem runeB_high {r : Nat} (h : 128 ≤ r) : runeB r = false := by
 simp [runeB]; omega
theorem no_high : ∀ (k : Nat), k ≤ 9 → ∀ b : UInt8, 128 ≤ b.toNat → Lib.indexByte (letterL.drop k) b = -1 := by
 intro k hk b hb
 have h : ∀ k : Fin 10, ∀ n : Fin 256, 128 ≤ n.val → Lib.indexByte (letterL.drop k.val) ⟨⟨n⟩⟩ = -1 := by decide +kernel
 exact h ⟨k, by omega⟩ b.toBitVec.toFin hb
theorem indexRune_low (r : Nat) (hr : r < 128) (w : World) :
    Calls Tryz.prog 143 #[.string { data := #[65, 66, 67, 48, 49, 43, 42, 45, 126] }, .int .i32 r] w (Bk w (.int .i64 (signOf (UInt8.ofNat r)))) := by
 have hb : (UInt8.ofNat r).toNat = r := by simp; omega
 have c : Calls Tryz.prog 34 #[.string { data := #[65, 66, 67, 48, 49, 43, 42, 45, 126] }, .int .u8 (r : Int)] w (Sk w (.int .i64 (signOf (UInt8.ofNat r)))) := by
  have := indexLetter_any (UInt8.ofNat r) w
  rwa [hb] at this
 have HC := hide c
 clear c hb
 go_enter Tryz.func143, Tryz.ntmps143
 go_wp2_with (go_at_call 34; refine HC.out.mono ?_; rintro e w' ⟨rfl, rfl⟩)
 go_ret
 exact ⟨rfl, Below.refl _ _⟩
theorem validRune_no (r : Int) (h0 : 55296 ≤ r) (h1 : r ≤ 57343) (w : World) :
    Calls Tryz.prog 175 #[.int .i32 r] w (Sk w (.bool false)) := by
 go_enter Tryz.func175, Tryz.ntmps175
 go_wp2
 go_ret
 exact ⟨rfl, rfl⟩
theorem validRune_ok (r : Int) (h0 : 0 ≤ r) (h : r < 55296 ∨ 57343 < r ∧ r ≤ 1114111) (w : World) :
    Calls Tryz.prog 175 #[.int .i32 r] w (Sk w (.bool true)) := by
 rcases h with h | ⟨h, h'⟩
 all_goals
  go_enter Tryz.func175, Tryz.ntmps175
  go_wp2
  go_ret
  exact ⟨rfl, rfl⟩
theorem indexRune_no (r : Int) (h0 : 55296 ≤ r) (h1 : r ≤ 57343) (w : World) :
    Calls Tryz.prog 143 #[.string { data := #[65, 66, 67, 48, 49, 43, 42, 45, 126] }, .int .i32 r] w (Bk w (.int .i64 (-1))) := by
 go_enter Tryz.func143, Tryz.ntmps143
 go_wp2_with (go_at_call 175; refine (validRune_no _ h0 h1 _).mono ?_; rintro e w' ⟨rfl, rfl⟩)
 go_ret
 exact ⟨rfl, Below.refl _ _⟩
theorem decode_letter : ∀ pos : Nat, pos < 9 → (Utf8.decode { data := #[65, 66, 67, 48, 49, 43, 42, 45, 126] } pos).1 < 128 ∧ (Utf8.decode { data := #[65, 66, 67, 48, 49, 43, 42, 45, 126] } pos).2 = 1 := by
 decide +kernel
theorem indexRune_err (w : World) :
    Calls Tryz.prog 143 #[.string { data := #[65, 66, 67, 48, 49, 43, 42, 45, 126] }, .int .i32 65533] w (Bk w (.int .i64 (-1))) := by
 obtain ⟨s, hs⟩ : ∃ s : ByteArray, s = { data := #[65, 66, 67, 48, 49, 43, 42, 45, 126] } := ⟨_, rfl⟩
 have HD : Hid (∀ pos : Nat, pos < 9 → (Utf8.decode s pos).1 < 128 ∧ (Utf8.decode s pos).2 = 1) := by unfold Hid; rw [hs]; exact decode_letter
 have HZ : Hid (s.size = 9) := by unfold Hid; rw [hs]; rfl
 rw [← hs]
 clear hs
 go_enter Tryz.func143, Tryz.ntmps143
 go_wp2
 go_loopg [] 9 (fun gf wx => ∃ pos : Nat, pos + gf = 9 ∧ wx.heap[w.heap.size]? = some (.stringIter s pos) ∧ Bw w wx)
 case atStart => exact ⟨0, rfl, World.iter_heap w s 0, (Below.refl _ w).alloc (Nat.le_refl _) _⟩
 case round =>
  obtain ⟨pos, hpos, hit, hbw⟩ := hrel
  by_cases hps : pos < 9
  ·obtain ⟨g', rfl⟩ : ∃ g', gk = g' + 1 := ⟨gk - 1, by omega⟩
   have hnx : ∀ ty, (Instr.next (.pointer (some ⟨w.heap.size, 0, none⟩)) true ty).run Tryz.prog wr = _ := fun ty => Lib.run_next_any_at wr w.heap.size s pos ty hit (by rw [HZ.out]; exact hps)
   have hd := HD.out pos hps
   have hit2 := Lib.iterAt_heap wr w.heap.size s pos (pos + 1) hit
   have hbw2 := Lib.below_iterAt hbw (k := w.heap.size) (Nat.le_refl _) s (pos + 1)
   obtain ⟨R, hR⟩ : ∃ R, (Utf8.decode s pos).1 = R := ⟨_, rfl⟩
   rw [hR, hd.2] at hnx
   rw [hR] at hd
   have hR' : ((R : Int) == 65533) = false := by simp; omega
   obtain ⟨W, hWd⟩ : ∃ W, wr.iterAt w.heap.size s (pos + 1) = W := ⟨_, rfl⟩
   rw [hWd] at hnx hit2 hbw2
   have HI : Hid (W.heap[w.heap.size]? = some (.stringIter s (pos + 1)) ∧ Bw w W) := ⟨hit2, hbw2⟩
   clear hit hbw hit2 hbw2 hWd hd hR
   go_wp2
   go_roundg g'
   case measure => omega
   case rel => exact ⟨pos + 1, by omega, HI.out.1, HI.out.2⟩
  ·have hnx : ∀ ty, (Instr.next (.pointer (some ⟨w.heap.size, 0, none⟩)) true ty).run Tryz.prog wr = _ := fun ty => Lib.run_next_end_at wr w.heap.size s pos ty hit (by rw [HZ.out]; exact hps)
   have HB := hide hbw
   clear hit hbw
   go_wp2
   go_ret
   exact ⟨rfl, HB.out⟩
theorem noHigh_any (s : ByteArray) (k : Nat) (hk : k ≤ 9) (hs : s.data.toList = letterL.drop k) (b : UInt8) (hb : 128 ≤ b.toNat) (W : World) :
    Calls Tryz.prog 34 #[.string s, .int .u8 (b.toNat : Int)] W fun e w' => e = .returned (.int .i64 (-1)) ∧ w' = W := by
 have := indexByte_any s (b.toNat : Int) W
 have e : Lib.indexByte s.data.toList (b.toNat : Int).toNat.toUInt8 = -1 := by
  rw [hs, ← no_high k hk b hb, Int.toNat_natCast]
  congr 1
  simp
 rw [e] at this
 exact this.mono fun _ _ h => (And.intro h.1 h.2.symm)
theorem indexRune_two (r : Int) (h0 : 128 ≤ r) (h1 : r < 2048) (x0 x1 : UInt8) (hE : Utf8.encode r = { data := #[x0, x1] }) (hy : 128 ≤ (x1.toNat : Int)) (w : World) :
    Calls Tryz.prog 143 #[.string { data := #[65, 66, 67, 48, 49, 43, 42, 45, 126] }, .int .i32 r] w (Bk w (.int .i64 (-1))) := by
 have hcv : ∀ W, (convert 21 9 (.int .i32 r)).run Tryz.prog W = .ok (.string { data := #[x0, x1] }) W := fun W => by
  rw [run_convert_int_string W 21 9 .i32 r (by kernel_rfl) (by kernel_rfl), hE]
 have HV : Hid (∀ W, Calls Tryz.prog 175 #[.int .i32 r] W (Sk W (.bool true))) := fun W => validRune_ok r (by omega) (by omega) W
 have hneq : (((((ByteArray.mk #[65, 66, 67, 48, 49, 43, 42, 45, 126])[1]'(by decide)).toNat : Nat) : Int) != ((((ByteArray.mk #[x0, x1])[1]'(by simp [ByteArray.size])).toNat : Nat) : Int)) = true := by
  show ((66 : Int) != (x1.toNat : Int)) = true
  simp; omega
 have HY : Hid (128 ≤ x1.toNat) := by unfold Hid; omega
 clear hE hy
 go_enter Tryz.func143, Tryz.ntmps143
 go_wp2_with (go_at_call 175; refine (HV.out _).mono ?_; rintro e w' ⟨rfl, rfl⟩)
 go_step3
 go_wp2
 refine wp_loop_rounds 1 ?_
 rw [rounds_succ]
 go_wp2_with fail
 go_step3
 go_wp2_with fail
 go_quiet (fail)
 go_wp2_with fail
 go_quiet (first | (go_at_call 34; exact (noHigh_any _ 2 (by omega) rfl x1 HY.out _).mono fun _ _ h => ⟨h.1, _, h.2⟩))
 go_wp2
 simp only [Exit.noGoto_ret, Exit.inBlock, Exit.then]
 go_ret
 exact ⟨rfl, below_drewNs _ _⟩
theorem indexRune_three (r : Int) (h0 : 2048 ≤ r) (h1 : r < 65536) (hne : ¬ r = 65533) (hsur : r < 55296 ∨ 57343 < r) (x0 x1 x2 : UInt8) (hE : Utf8.encode r = { data := #[x0, x1, x2] }) (hy : 128 ≤ (x2.toNat : Int)) (w : World) :
    Calls Tryz.prog 143 #[.string { data := #[65, 66, 67, 48, 49, 43, 42, 45, 126] }, .int .i32 r] w (Bk w (.int .i64 (-1))) := by
 have hcv : ∀ W, (convert 21 9 (.int .i32 r)).run Tryz.prog W = .ok (.string { data := #[x0, x1, x2] }) W := fun W => by
  rw [run_convert_int_string W 21 9 .i32 r (by kernel_rfl) (by kernel_rfl), hE]
 have HV : Hid (∀ W, Calls Tryz.prog 175 #[.int .i32 r] W (Sk W (.bool true))) := fun W => validRune_ok r (by omega) (by omega) W
 have hne1 : (r == 65533) = false := by simpa using hne
 clear hne
 have hneq : (((((ByteArray.mk #[65, 66, 67, 48, 49, 43, 42, 45, 126])[2]'(by decide)).toNat : Nat) : Int) != ((((ByteArray.mk #[x0, x1, x2])[2]'(by simp [ByteArray.size])).toNat : Nat) : Int)) = true := by
  show ((67 : Int) != (x2.toNat : Int)) = true
  simp; omega
 have HY : Hid (128 ≤ x2.toNat) := by unfold Hid; omega
 clear hE hy
 go_enter Tryz.func143, Tryz.ntmps143
 go_wp2_with (go_at_call 175; refine (HV.out _).mono ?_; rintro e w' ⟨rfl, rfl⟩)
 go_step3
 go_wp2
 refine wp_loop_rounds 1 ?_
 rw [rounds_succ]
 go_wp2_with fail
 go_step3
 go_wp2_with fail
 go_quiet (fail)
 go_wp2_with fail
 go_quiet (first | (go_at_call 34; exact (noHigh_any _ 3 (by omega) rfl x2 HY.out _).mono fun _ _ h => ⟨h.1, _, h.2⟩))
 go_wp2
 simp only [Exit.noGoto_ret, Exit.inBlock, Exit.then]
 go_ret
 exact ⟨rfl, below_drewNs _ _⟩
theorem indexRune_four (r : Int) (h0 : 65536 ≤ r) (h1 : r ≤ 1114111) (x0 x1 x2 x3 : UInt8) (hE : Utf8.encode r = { data := #[x0, x1, x2, x3] }) (hy : 128 ≤ (x3.toNat : Int)) (w : World) :
    Calls Tryz.prog 143 #[.string { data := #[65, 66, 67, 48, 49, 43, 42, 45, 126] }, .int .i32 r] w (Bk w (.int .i64 (-1))) := by
 have hcv : ∀ W, (convert 21 9 (.int .i32 r)).run Tryz.prog W = .ok (.string { data := #[x0, x1, x2, x3] }) W := fun W => by
  rw [run_convert_int_string W 21 9 .i32 r (by kernel_rfl) (by kernel_rfl), hE]
 have HV : Hid (∀ W, Calls Tryz.prog 175 #[.int .i32 r] W (Sk W (.bool true))) := fun W => validRune_ok r (by omega) (by omega) W
 have hneq : (((((ByteArray.mk #[65, 66, 67, 48, 49, 43, 42, 45, 126])[3]'(by decide)).toNat : Nat) : Int) != ((((ByteArray.mk #[x0, x1, x2, x3])[3]'(by simp [ByteArray.size])).toNat : Nat) : Int)) = true := by
  show ((48 : Int) != (x3.toNat : Int)) = true
  simp; omega
 have HY : Hid (128 ≤ x3.toNat) := by unfold Hid; omega
 clear hE hy
 go_enter Tryz.func143, Tryz.ntmps143
 go_wp2_with (go_at_call 175; refine (HV.out _).mono ?_; rintro e w' ⟨rfl, rfl⟩)
 go_step3
 go_wp2
 refine wp_loop_rounds 1 ?_
 rw [rounds_succ]
 go_wp2_with fail
 go_step3
 go_wp2_with fail
 go_quiet (fail)
 go_wp2_with fail
 go_quiet (first | (go_at_call 34; exact (noHigh_any _ 4 (by omega) rfl x3 HY.out _).mono fun _ _ h => ⟨h.1, _, h.2⟩))
 go_wp2
 simp only [Exit.noGoto_ret, Exit.inBlock, Exit.then]
 go_ret
 exact ⟨rfl, below_drewNs _ _⟩
def runeI (r : Nat) : Int := if r < 128 then signOf (UInt8.ofNat r) else -1
theorem runeI_iff (r : Nat) : (decide (0 ≤ runeI r)) = runeB r := by
 unfold runeI runeB
 by_cases h : r < 128
 ·rw [if_pos h]
  rcases byte_all (UInt8.ofNat r) with h1 | h1
  ·rw [h1]; simp
  ·have := signB_iff.1 h1.1
   have e : (signOf (UInt8.ofNat r) != -1) = true := by simp; omega
   rw [e]; simp [h]; omega
 ·rw [if_neg h]; simp [h]
theorem tail_high (n : Nat) : 128 ≤ ((UInt8.ofNat (128 + n % 64)).toNat : Int) := by
 have : (UInt8.ofNat (128 + n % 64)).toNat = 128 + n % 64 := by simp; omega
 rw [this]; omega
theorem indexRune_any (r : Nat) (hr : r ≤ 1114111) (w : World) :
    Calls Tryz.prog 143 #[.string { data := #[65, 66, 67, 48, 49, 43, 42, 45, 126] }, .int .i32 r] w (Bk w (.int .i64 (runeI r))) := by
 unfold runeI
 by_cases h : r < 128
 ·rw [if_pos h]; exact indexRune_low r h w
 rw [if_neg h]
 by_cases he : r = 65533
 ·subst he; exact indexRune_err w
 by_cases hs : 55296 ≤ r ∧ r ≤ 57343
 ·exact indexRune_no (r : Int) (by omega) (by omega) w
 have hv : Utf8.valid (r : Int) = true := by
  unfold Utf8.valid
  rw [Bool.or_eq_true, Bool.and_eq_true, Bool.and_eq_true]
  simp only [decide_eq_true_eq]
  omega
 have hE : Utf8.encode (r : Int) = if r < 128 then ⟨#[UInt8.ofNat r]⟩ else if r < 2048 then ⟨#[UInt8.ofNat (192 + r / 64), UInt8.ofNat (128 + r % 64)]⟩ else if r < 65536 then ⟨#[UInt8.ofNat (224 + r / 4096), UInt8.ofNat (128 + r / 64 % 64), UInt8.ofNat (128 + r % 64)]⟩ else ⟨#[UInt8.ofNat (240 + r / 262144), UInt8.ofNat (128 + r / 4096 % 64), UInt8.ofNat (128 + r / 64 % 64), UInt8.ofNat (128 + r % 64)]⟩ := by
  unfold Utf8.encode
  rw [if_pos hv]
  rfl
 rw [if_neg h] at hE
 by_cases h2 : r < 2048
 ·rw [if_pos h2] at hE
  exact indexRune_two (r : Int) (by omega) (by omega) _ _ hE (tail_high r) w
 rw [if_neg h2] at hE
 by_cases h3 : r < 65536
 ·rw [if_pos h3] at hE
  exact indexRune_three (r : Int) (by omega) (by omega) (by omega) (by omega) _ _ _ hE (tail_high r) w
 rw [if_neg h3] at hE
 exact indexRune_four (r : Int) (by omega) (by omega) _ _ _ _ hE (tail_high r) w
theorem containsRune_any (r : Nat) (hr : r ≤ 1114111) (w : World) :
    Calls Tryz.prog 100 #[.string { data := #[65, 66, 67, 48, 49, 43, 42, 45, 126] }, .int .i32 r] w (Bk w (.bool (runeB r))) := by
 have HC : Hid (∀ W, Calls Tryz.prog 143 #[.string { data := #[65, 66, 67, 48, 49, 43, 42, 45, 126] }, .int .i32 r] W (Bk W (.int .i64 (runeI r)))) := fun W => indexRune_any r hr W
 have HI : Hid (decide (0 ≤ runeI r) = runeB r) := runeI_iff r
 clear hr
 go_enter Tryz.func100, Tryz.ntmps100
 go_wp2_with (go_at_call 143; refine (HC.out _).mono ?_; rintro e w' ⟨rfl, hb⟩)
 go_ret
 exact ⟨back_b HI.out, hb⟩
theorem noLetter_any (r : Nat) (hr : r ≤ 1114111) (w : World) :
    Calls Tryz.prog 99 #[.int .i32 r] w (Bk w (.bool (!runeB r))) := by
 have HC : Hid (∀ W, Calls Tryz.prog 100 #[.string { data := #[65, 66, 67, 48, 49, 43, 42, 45, 126] }, .int .i32 r] W (Bk W (.bool (runeB r)))) := fun W => containsRune_any r hr W
 clear hr
 go_enter Tryz.func99, Tryz.ntmps99
 go_wp2_with (go_at_call 100; refine (HC.out _).mono ?_; rintro e w' ⟨rfl, hb⟩)
 go_ret
 exact ⟨rfl, hb⟩
theorem decode_low (s : ByteArray) (pos : Nat) (h : pos < s.size) (ha : (s[pos]'h).toNat < 128) : Utf8.decode s pos = ((s[pos]'h).toNat, 1) := by
 simp only [Utf8.decode, get_at s pos h, ha, if_true]
def badFrom : List UInt8 → Nat → Int
 | [], _ => -1
 | b :: l, k => if (signOf b != -1) = true then badFrom l (k + 1) else k
theorem badFrom_iff (l : List UInt8) (k : Nat) : decide (0 ≤ badFrom l k) = !lettersB l := by
 induction l generalizing k with
 | nil => rfl
 | cons b l ih =>
  unfold badFrom lettersB
  rw [List.all_cons]
  by_cases h : (signOf b != -1) = true
  ·rw [if_pos h, h]; exact ih (k + 1)
  ·have h' : (signOf b != -1) = false := by simpa using h
   rw [if_neg h, h']; simp
theorem badFrom_drop (s : ByteArray) {k : Nat} (hk : k < s.size) : badFrom (s.data.toList.drop k) k = if (signOf (s[k]'hk) != -1) = true then badFrom (s.data.toList.drop (k + 1)) (k + 1) else k := by
 have hk' : k < s.data.toList.length := by rw [Array.length_toList]; exact hk
 rw [List.drop_eq_getElem_cons hk']
 rfl
theorem letter_low (b : UInt8) (h : (signOf b != -1) = true) : b.toNat < 128 := by
 have h' : signOf b ≠ -1 := by simpa using h
 have := byte_sign h'
 rw [← this.2]
 rcases nine this.1 with e | e | e | e | e | e | e | e | e <;> rw [e] <;> decide
theorem rune_le (s : ByteArray) (pos : Nat) : (Utf8.decode s pos).1 ≤ 1114111 := by
 have hb : ∀ k, (s.get! (pos + k)).toNat < 256 := fun k => (s.get! (pos + k)).toNat_lt
 have h0 := hb 0; have h1 := hb 1; have h2 := hb 2; have h3 := hb 3
 simp only [Utf8.decode]
 repeat' split
 all_goals simp_all [Utf8.runeError, Utf8.valid]
 all_goals omega
theorem indexFunc_text (s : ByteArray) (w : World) :
    Calls Tryz.prog 176 #[.string s, .func (.func 99) #[] #[], .bool true] w (Bk w (.int .i64 (badFrom s.data.toList 0))) := by
 obtain ⟨A, hA⟩ := nm (badFrom s.data.toList 0)
 rw [← hA]
 have HA := hide hA
 clear hA
 go_enter Tryz.func176, Tryz.ntmps176
 go_wp2
 go_loopg [] s.size (fun gf wx => ∃ pos : Nat, pos + gf = s.size ∧ wx.heap[w.heap.size]? = some (.stringIter s pos) ∧ Bw w wx ∧ badFrom (s.data.toList.drop pos) pos = A)
 case atStart => exact ⟨0, by omega, World.iter_heap w s 0, (Below.refl _ w).alloc (Nat.le_refl _) _, HA.out.symm⟩
 case round =>
  obtain ⟨pos, hpos, hit, hbw, hbad⟩ := hrel
  by_cases hps : pos < s.size
  ·obtain ⟨g', rfl⟩ : ∃ g', gk = g' + 1 := ⟨gk - 1, by omega⟩
   have hnx : ∀ ty, (Instr.next (.pointer (some ⟨w.heap.size, 0, none⟩)) true ty).run Tryz.prog wr = _ := fun ty => Lib.run_next_any_at wr w.heap.size s pos ty hit hps
   have hbd := badFrom_drop s hps
   have hle := rune_le s pos
   by_cases hL : (signOf (s[pos]'hps) != -1) = true
   ·rw [if_pos hL, hbad] at hbd
    have hlow := letter_low _ hL
    have hd := decode_low s pos hps hlow
    have hrb := runeB_low _ hlow
    rw [hL] at hrb
    obtain ⟨R, hR⟩ : ∃ R, (s[pos]'hps).toNat = R := ⟨_, rfl⟩
    rw [hR] at hrb hd
    rw [hd] at hnx hle
    have hit2 := Lib.iterAt_heap wr w.heap.size s pos (pos + 1) hit
    have hbw2 := Lib.below_iterAt hbw (k := w.heap.size) (Nat.le_refl _) s (pos + 1)
    simp only at hnx
    obtain ⟨W, hWd⟩ : ∃ W, wr.iterAt w.heap.size s (pos + 1) = W := ⟨_, rfl⟩
    rw [hWd] at hnx hit2 hbw2
    have HI : Hid (W.heap[w.heap.size]? = some (.stringIter s (pos + 1)) ∧ Bw w W) := ⟨hit2, hbw2⟩
    have HL : Hid (w.heap.size < W.heap.size) := (Array.getElem?_eq_some_iff.1 hit2).1
    have HB := hide hbd
    have HN : Hid (Calls Tryz.prog 99 #[.int .i32 R] W (Bk W (.bool false))) := by
     have := noLetter_any R hle W
     rw [hrb] at this; exact this
    clear hit hbw hit2 hbw2 hWd hd hR hbad hbd hlow hL hrb hle
    go_wp2_with (go_at_call 99; refine HN.out.mono ?_; rintro e W' ⟨rfl, hbc⟩)
    go_roundg g'
    case measure => omega
    case rel => exact ⟨pos + 1, by omega, (hbc.block _ HL.out).trans HI.out.1, HI.out.2.trans (hbc.mono HI.out.2.size), HB.out.symm⟩
   ·rw [if_neg hL, hbad] at hbd
    have hL' : (signOf (s[pos]'hps) != -1) = false := by simpa using hL
    have hrb : runeB (Utf8.decode s pos).1 = false := by
     by_cases hlow : (s[pos]'hps).toNat < 128
     ·rw [decode_low s pos hps hlow, runeB_low _ hlow]; exact hL'
     ·exact runeB_high (decode_high s pos hps (by omega)).1
    obtain ⟨R, hR⟩ : ∃ R, (Utf8.decode s pos).1 = R := ⟨_, rfl⟩
    obtain ⟨K, hK⟩ : ∃ K, (Utf8.decode s pos).2 = K := ⟨_, rfl⟩
    rw [hR] at hrb hnx hle
    rw [hK] at hnx
    have hbw2 := Lib.below_iterAt hbw (k := w.heap.size) (Nat.le_refl _) s (pos + K)
    obtain ⟨W, hWd⟩ : ∃ W, wr.iterAt w.heap.size s (pos + K) = W := ⟨_, rfl⟩
    rw [hWd] at hnx hbw2
    have HI := hide hbw2
    have HB := hide hbd
    have HN : Hid (Calls Tryz.prog 99 #[.int .i32 R] W (Bk W (.bool true))) := by
     have := noLetter_any R hle W
     rw [hrb] at this; exact this
    clear hit hbw hbw2 hWd hR hK hbad hbd hL hL' hrb hle
    go_wp2_with (go_at_call 99; refine HN.out.mono ?_; rintro e W' ⟨rfl, hbc⟩)
    go_ret
    exact ⟨back_i HB.out.symm, HI.out.trans (hbc.mono HI.out.size)⟩
  ·have hnx : ∀ ty, (Instr.next (.pointer (some ⟨w.heap.size, 0, none⟩)) true ty).run Tryz.prog wr = _ := fun ty => Lib.run_next_end_at wr w.heap.size s pos ty hit hps
   have HB := hide hbw
   have HE : Hid (-1 = A) := by
    rw [List.drop_eq_nil_of_le (by have : s.data.toList.length = s.size := Array.length_toList
                                   omega)] at hbad
    exact hbad
   clear hit hbw hbad
   go_wp2
   go_ret
   exact ⟨back_i HE.out, HB.out⟩
theorem IndexFunc_text (s : ByteArray) (w : World) :
    Calls Tryz.prog 144 #[.string s, .func (.func 99) #[] #[]] w (Bk w (.int .i64 (badFrom s.data.toList 0))) := by
 have HC := indexFunc_text s w
 have HC' := hide HC
 clear HC
 go_enter Tryz.func144, Tryz.ntmps144
 go_wp2_with (go_at_call 176; refine HC'.out.mono ?_; rintro e w' ⟨rfl, hb⟩)
 go_ret
 exact ⟨rfl, hb⟩
theorem containsFunc_text (s : ByteArray) (w : World) :
    Calls Tryz.prog 101 #[.string s, .func (.func 99) #[] #[]] w (Bk w (.bool (!lettersB s.data.toList))) := by
 have HC : Hid (Calls Tryz.prog 144 #[.string s, .func (.func 99) #[] #[]] w (Bk w (.int .i64 (badFrom s.data.toList 0)))) := IndexFunc_text s w
 have HI : Hid (decide (0 ≤ badFrom s.data.toList 0) = !lettersB s.data.toList) := badFrom_iff _ 0
 obtain ⟨I, hI⟩ := nm (badFrom s.data.toList 0)
 rw [← hI] at HC HI
 clear hI
 go_enter Tryz.func101, Tryz.ntmps101
 go_wp2_with (go_at_call 144; refine HC.out.mono ?_; rintro e w' ⟨rfl, hb⟩)
 go_ret
 exact ⟨back_b HI.out, hb⟩
end Go.Proofs.YtnoohlibgaeklaaGreatDoor
